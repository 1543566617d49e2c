/-
  No cell of these rows narrows 'for every input' (looked for: loops, veiled, ifaces, maps, wideKeys, modest, calm, conditions, laid).
  DERIVED. THE GIVEN ROWS OF THIS SEAT. 6 by the template 'for every input the law returns true; each argument reads behind the call as it read before'; 0 by the template 'total and deterministic' (their statements: YtammadcigfbgeaaTotals.lean).
  GIVEN WITH THE SEED: the statements are not yours to turn. If you find one false, say at which input.
  Laid BY PROGRAM, IN A SANDBOX (cutbox-rows.mjs): the forced cells as the released guide's own fill.sh prints them over the translation f2f5d6926c6ccb32… (all of the seat's roots in one cut). By AI agents, Wed Nov 11 2026. No macro, syntax, notation, axiom, sorry.
-/
import Derived.Test.YtammadcigfbgeaaChecked
import GoSem.Claim
import GoSem.ClaimJoined
import GoSem.ClaimMapViews
import Derived.JoinedTies
import Derived.KernelRfl
namespace Go.Proofs.Ytammadcigfbgeaa
/- THE CELL 'sum', in the pinned program and in every row, IS THE sha256 OF THE DUMP (.gsa) THAT YtammadcigfbgeaaProg.lean LOADS. Nothing in Lean hashes anything: it is a label: what it is worth is what the hold of that sum in a sandbox is worth. -/
noncomputable def Try.pinned : Pinned := { name := "ytammadcigfbgeaa", sum := "f2f5d6926c6ccb3206fb422649b00500391cdba5e09d1328784e5773da88f217", checked := Try.checked }
namespace Rows
def none {H : Type} : Left H := { results := [], args := [] }

/-- 'mullionlaw04.LayoutNews': WHATEVER THE INPUT: true; the input reads as it did. -/
def layoutNewsSpec : ChangeSpec := { name := "layoutNews", fn := fun _ => fun
  | [d1, d2, d3] => { results := [.lit (.bool true)], args := [d1, d2, d3] }
  | _ => none }
def layoutNewsRow : OpenClaim := { program := "ytammadcigfbgeaa", sum := "f2f5d6926c6ccb3206fb422649b00500391cdba5e09d1328784e5773da88f217", func := "mullion/mullionlaw04.LayoutNews", spec := "layoutNews", inPlace := ["slices.overlaps[mullion/layout.part]"], unfollowed := true, recurses := true, apart := false }
def LayoutNewsSaid : Prop := layoutNewsRow.holds Try.pinned (OpenSpec.ofChange layoutNewsSpec)

/-- ITS FALSE NEIGHBOUR: 'it returns false'. Refute it at one input. -/
def layoutNewsWrong : ChangeSpec := { name := "layoutNews", fn := fun _ => fun
  | [d1, d2, d3] => { results := [.lit (.bool false)], args := [d1, d2, d3] }
  | _ => none }
def LayoutNewsWrongFalsely : Prop := layoutNewsRow.holds Try.pinned (OpenSpec.ofChange layoutNewsWrong)

/-- 'mullionlaw04.LayoutNexts': WHATEVER THE INPUT: true; the input reads as it did. -/
def layoutNextsSpec : ChangeSpec := { name := "layoutNexts", fn := fun _ => fun
  | [d1, d2, d3] => { results := [.lit (.bool true)], args := [d1, d2, d3] }
  | _ => none }
def layoutNextsRow : OpenClaim := { program := "ytammadcigfbgeaa", sum := "f2f5d6926c6ccb3206fb422649b00500391cdba5e09d1328784e5773da88f217", func := "mullion/mullionlaw04.LayoutNexts", spec := "layoutNexts", inPlace := ["slices.overlaps[mullion/layout.part]"], unfollowed := true, recurses := true, apart := false }
def LayoutNextsSaid : Prop := layoutNextsRow.holds Try.pinned (OpenSpec.ofChange layoutNextsSpec)

/-- ITS FALSE NEIGHBOUR: 'it returns false'. Refute it at one input. -/
def layoutNextsWrong : ChangeSpec := { name := "layoutNexts", fn := fun _ => fun
  | [d1, d2, d3] => { results := [.lit (.bool false)], args := [d1, d2, d3] }
  | _ => none }
def LayoutNextsWrongFalsely : Prop := layoutNextsRow.holds Try.pinned (OpenSpec.ofChange layoutNextsWrong)

/-- 'mullionlaw04.LayoutLooks': WHATEVER THE INPUT: true; the input reads as it did. -/
def layoutLooksSpec : ChangeSpec := { name := "layoutLooks", fn := fun _ => fun
  | [d1, d2, d3] => { results := [.lit (.bool true)], args := [d1, d2, d3] }
  | _ => none }
def layoutLooksRow : OpenClaim := { program := "ytammadcigfbgeaa", sum := "f2f5d6926c6ccb3206fb422649b00500391cdba5e09d1328784e5773da88f217", func := "mullion/mullionlaw04.LayoutLooks", spec := "layoutLooks", inPlace := ["slices.overlaps[mullion/layout.part]"], unfollowed := true, recurses := true, apart := false }
def LayoutLooksSaid : Prop := layoutLooksRow.holds Try.pinned (OpenSpec.ofChange layoutLooksSpec)

/-- ITS FALSE NEIGHBOUR: 'it returns false'. Refute it at one input. -/
def layoutLooksWrong : ChangeSpec := { name := "layoutLooks", fn := fun _ => fun
  | [d1, d2, d3] => { results := [.lit (.bool false)], args := [d1, d2, d3] }
  | _ => none }
def LayoutLooksWrongFalsely : Prop := layoutLooksRow.holds Try.pinned (OpenSpec.ofChange layoutLooksWrong)

/-- 'mullionlaw04.LayoutBesides': WHATEVER THE INPUT: true; the input reads as it did. -/
def layoutBesidesSpec : ChangeSpec := { name := "layoutBesides", fn := fun _ => fun
  | [d1, d2, d3] => { results := [.lit (.bool true)], args := [d1, d2, d3] }
  | _ => none }
def layoutBesidesRow : OpenClaim := { program := "ytammadcigfbgeaa", sum := "f2f5d6926c6ccb3206fb422649b00500391cdba5e09d1328784e5773da88f217", func := "mullion/mullionlaw04.LayoutBesides", spec := "layoutBesides", inPlace := ["slices.overlaps[mullion/layout.part]"], unfollowed := true, recurses := true, apart := false }
def LayoutBesidesSaid : Prop := layoutBesidesRow.holds Try.pinned (OpenSpec.ofChange layoutBesidesSpec)

/-- ITS FALSE NEIGHBOUR: 'it returns false'. Refute it at one input. -/
def layoutBesidesWrong : ChangeSpec := { name := "layoutBesides", fn := fun _ => fun
  | [d1, d2, d3] => { results := [.lit (.bool false)], args := [d1, d2, d3] }
  | _ => none }
def LayoutBesidesWrongFalsely : Prop := layoutBesidesRow.holds Try.pinned (OpenSpec.ofChange layoutBesidesWrong)

/-- 'mullionlaw04.LayoutSplits': WHATEVER THE INPUT: true; the input reads as it did. -/
def layoutSplitsSpec : ChangeSpec := { name := "layoutSplits", fn := fun _ => fun
  | [d1, d2] => { results := [.lit (.bool true)], args := [d1, d2] }
  | _ => none }
def layoutSplitsRow : OpenClaim := { program := "ytammadcigfbgeaa", sum := "f2f5d6926c6ccb3206fb422649b00500391cdba5e09d1328784e5773da88f217", func := "mullion/mullionlaw04.LayoutSplits", spec := "layoutSplits", inPlace := ["slices.overlaps[mullion/layout.part]"], unfollowed := true, recurses := true, apart := false }
def LayoutSplitsSaid : Prop := layoutSplitsRow.holds Try.pinned (OpenSpec.ofChange layoutSplitsSpec)

/-- ITS FALSE NEIGHBOUR: 'it returns false'. Refute it at one input. -/
def layoutSplitsWrong : ChangeSpec := { name := "layoutSplits", fn := fun _ => fun
  | [d1, d2] => { results := [.lit (.bool false)], args := [d1, d2] }
  | _ => none }
def LayoutSplitsWrongFalsely : Prop := layoutSplitsRow.holds Try.pinned (OpenSpec.ofChange layoutSplitsWrong)

/-- 'mullionlaw04.LayoutChecks': WHATEVER THE INPUT: true; the input reads as it did. -/
def layoutChecksSpec : ChangeSpec := { name := "layoutChecks", fn := fun _ => fun
  | [d] => { results := [.lit (.bool true)], args := [d] }
  | _ => none }
def layoutChecksRow : OpenClaim := { program := "ytammadcigfbgeaa", sum := "f2f5d6926c6ccb3206fb422649b00500391cdba5e09d1328784e5773da88f217", func := "mullion/mullionlaw04.LayoutChecks", spec := "layoutChecks", inPlace := ["slices.overlaps[mullion/layout.part]"], unfollowed := true, recurses := true, apart := false }
def LayoutChecksSaid : Prop := layoutChecksRow.holds Try.pinned (OpenSpec.ofChange layoutChecksSpec)

/-- ITS FALSE NEIGHBOUR: 'it returns false'. Refute it at one input. -/
def layoutChecksWrong : ChangeSpec := { name := "layoutChecks", fn := fun _ => fun
  | [d] => { results := [.lit (.bool false)], args := [d] }
  | _ => none }
def LayoutChecksWrongFalsely : Prop := layoutChecksRow.holds Try.pinned (OpenSpec.ofChange layoutChecksWrong)

/- THE SECOND FORM. 'bulk': how many values and letters a reading holds, each counted each time it is reached (what is shared counts as often as it is met; a slice's spare places count too). A statement '..UptoSaid' is the law's where the arguments, and the package variables that the reading takes, are together of bulk at most 1048576: NARROWER than '..Said'. Prove '..Said' where nothing that the law and all that it calls make is longer than what came in: it says more and counts as full. Else prove '..UptoSaid'. A law counts once. -/
mutual
def uptoBulk {H : Type} : DataW H → Nat
  | .lit (.string bytes) => bytes.length + 1
  | .lit _ => 1
  | .nil => 1
  | .ptr d => uptoBulk d + 1
  | .slice elems spare => uptoBulkAll elems + uptoBulkAll spare + 1
  | .agg parts => uptoBulkAll parts + 1
  | .iface _ d => uptoBulk d + 1
  | .map entries => uptoBulkEntries entries + 1
  | .held _ => 1
def uptoBulkAll {H : Type} : List (DataW H) → Nat
  | [] => 0
  | d :: r => uptoBulk d + uptoBulkAll r
def uptoBulkEntries {H : Type} : List (Lit × DataW H) → Nat
  | [] => 0
  | x :: r => uptoBulkEntry x + uptoBulkEntries r
def uptoBulkEntry {H : Type} : Lit × DataW H → Nat
  | (.string bytes, d) => bytes.length + uptoBulk d + 1
  | (_, d) => uptoBulk d + 1
 end
def uptoSmall : (H : Type) → List (DataW H) → Bool := fun _ ds => decide (uptoBulkAll ds ≤ 1048576)
def OpenSpec.upto (s : _root_.Go.ChangeSpec) : _root_.Go.OpenSpec := { _root_.Go.OpenSpec.ofChange s with cond := some uptoSmall }

/-- 'mullionlaw04.LayoutNews', WHERE WHAT IT READS IS OF BULK AT MOST 1048576: true; the input reads as it did. -/
def layoutNewsUptoRow : OpenClaim := { program := "ytammadcigfbgeaa", sum := "f2f5d6926c6ccb3206fb422649b00500391cdba5e09d1328784e5773da88f217", func := "mullion/mullionlaw04.LayoutNews", spec := "layoutNews", inPlace := ["slices.overlaps[mullion/layout.part]"], unfollowed := true, recurses := true, apart := false, narrowed := true }
def LayoutNewsUptoSaid : Prop := layoutNewsUptoRow.holds Try.pinned (OpenSpec.upto layoutNewsSpec)

/-- 'mullionlaw04.LayoutNexts', WHERE WHAT IT READS IS OF BULK AT MOST 1048576: true; the input reads as it did. -/
def layoutNextsUptoRow : OpenClaim := { program := "ytammadcigfbgeaa", sum := "f2f5d6926c6ccb3206fb422649b00500391cdba5e09d1328784e5773da88f217", func := "mullion/mullionlaw04.LayoutNexts", spec := "layoutNexts", inPlace := ["slices.overlaps[mullion/layout.part]"], unfollowed := true, recurses := true, apart := false, narrowed := true }
def LayoutNextsUptoSaid : Prop := layoutNextsUptoRow.holds Try.pinned (OpenSpec.upto layoutNextsSpec)

/-- 'mullionlaw04.LayoutLooks', WHERE WHAT IT READS IS OF BULK AT MOST 1048576: true; the input reads as it did. -/
def layoutLooksUptoRow : OpenClaim := { program := "ytammadcigfbgeaa", sum := "f2f5d6926c6ccb3206fb422649b00500391cdba5e09d1328784e5773da88f217", func := "mullion/mullionlaw04.LayoutLooks", spec := "layoutLooks", inPlace := ["slices.overlaps[mullion/layout.part]"], unfollowed := true, recurses := true, apart := false, narrowed := true }
def LayoutLooksUptoSaid : Prop := layoutLooksUptoRow.holds Try.pinned (OpenSpec.upto layoutLooksSpec)

/-- 'mullionlaw04.LayoutBesides', WHERE WHAT IT READS IS OF BULK AT MOST 1048576: true; the input reads as it did. -/
def layoutBesidesUptoRow : OpenClaim := { program := "ytammadcigfbgeaa", sum := "f2f5d6926c6ccb3206fb422649b00500391cdba5e09d1328784e5773da88f217", func := "mullion/mullionlaw04.LayoutBesides", spec := "layoutBesides", inPlace := ["slices.overlaps[mullion/layout.part]"], unfollowed := true, recurses := true, apart := false, narrowed := true }
def LayoutBesidesUptoSaid : Prop := layoutBesidesUptoRow.holds Try.pinned (OpenSpec.upto layoutBesidesSpec)

/-- 'mullionlaw04.LayoutSplits', WHERE WHAT IT READS IS OF BULK AT MOST 1048576: true; the input reads as it did. -/
def layoutSplitsUptoRow : OpenClaim := { program := "ytammadcigfbgeaa", sum := "f2f5d6926c6ccb3206fb422649b00500391cdba5e09d1328784e5773da88f217", func := "mullion/mullionlaw04.LayoutSplits", spec := "layoutSplits", inPlace := ["slices.overlaps[mullion/layout.part]"], unfollowed := true, recurses := true, apart := false, narrowed := true }
def LayoutSplitsUptoSaid : Prop := layoutSplitsUptoRow.holds Try.pinned (OpenSpec.upto layoutSplitsSpec)

/-- 'mullionlaw04.LayoutChecks', WHERE WHAT IT READS IS OF BULK AT MOST 1048576: true; the input reads as it did. -/
def layoutChecksUptoRow : OpenClaim := { program := "ytammadcigfbgeaa", sum := "f2f5d6926c6ccb3206fb422649b00500391cdba5e09d1328784e5773da88f217", func := "mullion/mullionlaw04.LayoutChecks", spec := "layoutChecks", inPlace := ["slices.overlaps[mullion/layout.part]"], unfollowed := true, recurses := true, apart := false, narrowed := true }
def LayoutChecksUptoSaid : Prop := layoutChecksUptoRow.holds Try.pinned (OpenSpec.upto layoutChecksSpec)

end Rows
end Go.Proofs.Ytammadcigfbgeaa
