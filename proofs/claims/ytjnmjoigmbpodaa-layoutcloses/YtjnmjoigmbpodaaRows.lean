/-
  No cell of these rows narrows 'for every input' (looked for: loops, veiled, ifaces, maps, wideKeys, modest, calm, conditions, laid).
  DERIVED. THE GIVEN ROWS OF THIS SEAT. 3 by the template 'for every input the law returns true; each argument reads behind the call as it read before'; 0 by the template 'total and deterministic' (their statements: YtjnmjoigmbpodaaTotals.lean).
  GIVEN WITH THE SEED: the statements are not yours to turn. If you find one false, say at which input.
  Laid BY PROGRAM, IN A SANDBOX (cutbox-rows.mjs): the forced cells as the released guide's own fill.sh prints them over the translation af544020b74c54ba… (all of the seat's roots in one cut). By AI agents, Wed Nov 11 2026. No macro, syntax, notation, axiom, sorry.
-/
import Derived.Test.YtjnmjoigmbpodaaChecked
import GoSem.Claim
import GoSem.ClaimJoined
import GoSem.ClaimMapViews
import Derived.JoinedTies
import Derived.KernelRfl
namespace Go.Proofs.Ytjnmjoigmbpodaa
/- THE CELL 'sum', in the pinned program and in every row, IS THE sha256 OF THE DUMP (.gsa) THAT YtjnmjoigmbpodaaProg.lean LOADS. Nothing in Lean hashes anything: it is a label: what it is worth is what the hold of that sum in a sandbox is worth. -/
noncomputable def Try.pinned : Pinned := { name := "ytjnmjoigmbpodaa", sum := "af544020b74c54ba3c5c6a4941e8da4f104fa727fba8772d991836676a457207", checked := Try.checked }
namespace Rows
def none {H : Type} : Left H := { results := [], args := [] }

/-- 'mullionlaw04.LayoutSplits': WHATEVER THE INPUT: true; the input reads as it did. -/
def layoutSplitsSpec : ChangeSpec := { name := "layoutSplits", fn := fun _ => fun
  | [d1, d2] => { results := [.lit (.bool true)], args := [d1, d2] }
  | _ => none }
def layoutSplitsRow : OpenClaim := { program := "ytjnmjoigmbpodaa", sum := "af544020b74c54ba3c5c6a4941e8da4f104fa727fba8772d991836676a457207", func := "mullion/mullionlaw04.LayoutSplits", spec := "layoutSplits", inPlace := ["slices.overlaps[mullion/layout.part]"], unfollowed := true, recurses := true, apart := false }
def LayoutSplitsSaid : Prop := layoutSplitsRow.holds Try.pinned (OpenSpec.ofChange layoutSplitsSpec)

/-- ITS FALSE NEIGHBOUR: 'it returns false'. Refute it at one input. -/
def layoutSplitsWrong : ChangeSpec := { name := "layoutSplits", fn := fun _ => fun
  | [d1, d2] => { results := [.lit (.bool false)], args := [d1, d2] }
  | _ => none }
def LayoutSplitsWrongFalsely : Prop := layoutSplitsRow.holds Try.pinned (OpenSpec.ofChange layoutSplitsWrong)

/-- 'mullionlaw04.LayoutCloses': WHATEVER THE INPUT: true; the input reads as it did. -/
def layoutClosesSpec : ChangeSpec := { name := "layoutCloses", fn := fun _ => fun
  | [d1, d2] => { results := [.lit (.bool true)], args := [d1, d2] }
  | _ => none }
def layoutClosesRow : OpenClaim := { program := "ytjnmjoigmbpodaa", sum := "af544020b74c54ba3c5c6a4941e8da4f104fa727fba8772d991836676a457207", func := "mullion/mullionlaw04.LayoutCloses", spec := "layoutCloses", inPlace := ["slices.overlaps[mullion/layout.part]"], unfollowed := true, recurses := true, apart := false }
def LayoutClosesSaid : Prop := layoutClosesRow.holds Try.pinned (OpenSpec.ofChange layoutClosesSpec)

/-- ITS FALSE NEIGHBOUR: 'it returns false'. Refute it at one input. -/
def layoutClosesWrong : ChangeSpec := { name := "layoutCloses", fn := fun _ => fun
  | [d1, d2] => { results := [.lit (.bool false)], args := [d1, d2] }
  | _ => none }
def LayoutClosesWrongFalsely : Prop := layoutClosesRow.holds Try.pinned (OpenSpec.ofChange layoutClosesWrong)

/-- 'mullionlaw04.LayoutArranges': WHATEVER THE INPUT: true; the input reads as it did. -/
def layoutArrangesSpec : ChangeSpec := { name := "layoutArranges", fn := fun _ => fun
  | [d1, d2, d3] => { results := [.lit (.bool true)], args := [d1, d2, d3] }
  | _ => none }
def layoutArrangesRow : OpenClaim := { program := "ytjnmjoigmbpodaa", sum := "af544020b74c54ba3c5c6a4941e8da4f104fa727fba8772d991836676a457207", func := "mullion/mullionlaw04.LayoutArranges", spec := "layoutArranges", inPlace := ["slices.overlaps[mullion/layout.part]"], unfollowed := true, recurses := true, apart := false }
def LayoutArrangesSaid : Prop := layoutArrangesRow.holds Try.pinned (OpenSpec.ofChange layoutArrangesSpec)

/-- ITS FALSE NEIGHBOUR: 'it returns false'. Refute it at one input. -/
def layoutArrangesWrong : ChangeSpec := { name := "layoutArranges", fn := fun _ => fun
  | [d1, d2, d3] => { results := [.lit (.bool false)], args := [d1, d2, d3] }
  | _ => none }
def LayoutArrangesWrongFalsely : Prop := layoutArrangesRow.holds Try.pinned (OpenSpec.ofChange layoutArrangesWrong)

/- THE SECOND FORM. 'bulk': how many values and letters a reading holds, each counted each time it is reached (what is shared counts as often as it is met; a slice's spare places count too). A statement '..UptoSaid' is the law's where the arguments, and the package variables that the reading takes, are together of bulk at most 1048576: NARROWER than '..Said'. Prove '..Said' where nothing that the law and all that it calls make is longer than what came in: it says more and counts as full. Else prove '..UptoSaid'. A law counts once. -/
mutual
def uptoBulk {H : Type} : DataW H → Nat
  | .lit (.string bytes) => bytes.length + 1
  | .lit _ => 1
  | .nil => 1
  | .ptr d => uptoBulk d + 1
  | .slice elems spare => uptoBulkAll elems + uptoBulkAll spare + 1
  | .agg parts => uptoBulkAll parts + 1
  | .iface _ d => uptoBulk d + 1
  | .map entries => uptoBulkEntries entries + 1
  | .held _ => 1
def uptoBulkAll {H : Type} : List (DataW H) → Nat
  | [] => 0
  | d :: r => uptoBulk d + uptoBulkAll r
def uptoBulkEntries {H : Type} : List (Lit × DataW H) → Nat
  | [] => 0
  | x :: r => uptoBulkEntry x + uptoBulkEntries r
def uptoBulkEntry {H : Type} : Lit × DataW H → Nat
  | (.string bytes, d) => bytes.length + uptoBulk d + 1
  | (_, d) => uptoBulk d + 1
 end
def uptoSmall : (H : Type) → List (DataW H) → Bool := fun _ ds => decide (uptoBulkAll ds ≤ 1048576)
def OpenSpec.upto (s : _root_.Go.ChangeSpec) : _root_.Go.OpenSpec := { _root_.Go.OpenSpec.ofChange s with cond := some uptoSmall }

/-- 'mullionlaw04.LayoutSplits', WHERE WHAT IT READS IS OF BULK AT MOST 1048576: true; the input reads as it did. -/
def layoutSplitsUptoRow : OpenClaim := { program := "ytjnmjoigmbpodaa", sum := "af544020b74c54ba3c5c6a4941e8da4f104fa727fba8772d991836676a457207", func := "mullion/mullionlaw04.LayoutSplits", spec := "layoutSplits", inPlace := ["slices.overlaps[mullion/layout.part]"], unfollowed := true, recurses := true, apart := false, narrowed := true }
def LayoutSplitsUptoSaid : Prop := layoutSplitsUptoRow.holds Try.pinned (OpenSpec.upto layoutSplitsSpec)

/-- 'mullionlaw04.LayoutCloses', WHERE WHAT IT READS IS OF BULK AT MOST 1048576: true; the input reads as it did. -/
def layoutClosesUptoRow : OpenClaim := { program := "ytjnmjoigmbpodaa", sum := "af544020b74c54ba3c5c6a4941e8da4f104fa727fba8772d991836676a457207", func := "mullion/mullionlaw04.LayoutCloses", spec := "layoutCloses", inPlace := ["slices.overlaps[mullion/layout.part]"], unfollowed := true, recurses := true, apart := false, narrowed := true }
def LayoutClosesUptoSaid : Prop := layoutClosesUptoRow.holds Try.pinned (OpenSpec.upto layoutClosesSpec)

/-- 'mullionlaw04.LayoutArranges', WHERE WHAT IT READS IS OF BULK AT MOST 1048576: true; the input reads as it did. -/
def layoutArrangesUptoRow : OpenClaim := { program := "ytjnmjoigmbpodaa", sum := "af544020b74c54ba3c5c6a4941e8da4f104fa727fba8772d991836676a457207", func := "mullion/mullionlaw04.LayoutArranges", spec := "layoutArranges", inPlace := ["slices.overlaps[mullion/layout.part]"], unfollowed := true, recurses := true, apart := false, narrowed := true }
def LayoutArrangesUptoSaid : Prop := layoutArrangesUptoRow.holds Try.pinned (OpenSpec.upto layoutArrangesSpec)

end Rows
end Go.Proofs.Ytjnmjoigmbpodaa
