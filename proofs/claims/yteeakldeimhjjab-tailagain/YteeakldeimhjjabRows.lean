/-
  No cell of these rows narrows 'for every input' (looked for: loops, veiled, ifaces, maps, wideKeys, modest, calm, conditions, laid).
  DERIVED. THE GIVEN ROWS OF THIS SEAT. 2 by the template 'for every input the law returns true; each argument reads behind the call as it read before'; 0 by the template 'total and deterministic' (their statements: YteeakldeimhjjabTotals.lean).
  GIVEN WITH THE SEED: the statements are not yours to turn. If you find one false, say at which input.
  Laid BY PROGRAM, IN A SANDBOX (cutbox-rows.mjs): the forced cells as the released guide's own fill.sh prints them over the translation e13252a07916dd5e… (all of the seat's roots in one cut). By AI agents, Wed Nov 11 2026. No macro, syntax, notation, axiom, sorry.
-/
import Derived.Test.YteeakldeimhjjabChecked
import GoSem.Claim
import GoSem.ClaimJoined
import GoSem.ClaimMapViews
import Derived.JoinedTies
import Derived.KernelRfl
namespace Go.Proofs.Yteeakldeimhjjab
/- THE CELL 'sum', in the pinned program and in every row, IS THE sha256 OF THE DUMP (.gsa) THAT YteeakldeimhjjabProg.lean LOADS. Nothing in Lean hashes anything: it is a label: what it is worth is what the hold of that sum in a sandbox is worth. -/
noncomputable def Try.pinned : Pinned := { name := "yteeakldeimhjjab", sum := "e13252a07916dd5eece413e76f8fc92763ad089b2e7578adc44223cec30b5489", checked := Try.checked }
namespace Rows
def none {H : Type} : Left H := { results := [], args := [] }

/-- 'mullionlaw06.TailAgain': WHATEVER THE INPUT: true; the input reads as it did. -/
def tailAgainSpec : ChangeSpec := { name := "tailAgain", fn := fun _ => fun
  | [d1, d2, d3] => { results := [.lit (.bool true)], args := [d1, d2, d3] }
  | _ => none }
def tailAgainRow : OpenClaim := { program := "yteeakldeimhjjab", sum := "e13252a07916dd5eece413e76f8fc92763ad089b2e7578adc44223cec30b5489", func := "mullion/mullionlaw06.TailAgain", spec := "tailAgain", apart := false }
def TailAgainSaid : Prop := tailAgainRow.holds Try.pinned (OpenSpec.ofChange tailAgainSpec)

/-- ITS FALSE NEIGHBOUR: 'it returns false'. Refute it at one input. -/
def tailAgainWrong : ChangeSpec := { name := "tailAgain", fn := fun _ => fun
  | [d1, d2, d3] => { results := [.lit (.bool false)], args := [d1, d2, d3] }
  | _ => none }
def TailAgainWrongFalsely : Prop := tailAgainRow.holds Try.pinned (OpenSpec.ofChange tailAgainWrong)

/-- 'mullionlaw06.TailApart': WHATEVER THE INPUT: true; the input reads as it did. -/
def tailApartSpec : ChangeSpec := { name := "tailApart", fn := fun _ => fun
  | [d1, d2, d3] => { results := [.lit (.bool true)], args := [d1, d2, d3] }
  | _ => none }
def tailApartRow : OpenClaim := { program := "yteeakldeimhjjab", sum := "e13252a07916dd5eece413e76f8fc92763ad089b2e7578adc44223cec30b5489", func := "mullion/mullionlaw06.TailApart", spec := "tailApart", apart := false }
def TailApartSaid : Prop := tailApartRow.holds Try.pinned (OpenSpec.ofChange tailApartSpec)

/-- ITS FALSE NEIGHBOUR: 'it returns false'. Refute it at one input. -/
def tailApartWrong : ChangeSpec := { name := "tailApart", fn := fun _ => fun
  | [d1, d2, d3] => { results := [.lit (.bool false)], args := [d1, d2, d3] }
  | _ => none }
def TailApartWrongFalsely : Prop := tailApartRow.holds Try.pinned (OpenSpec.ofChange tailApartWrong)

/- THE SECOND FORM. 'bulk': how many values and letters a reading holds, each counted each time it is reached (what is shared counts as often as it is met; a slice's spare places count too). A statement '..UptoSaid' is the law's where the arguments, and the package variables that the reading takes, are together of bulk at most 1048576: NARROWER than '..Said'. Prove '..Said' where nothing that the law and all that it calls make is longer than what came in: it says more and counts as full. Else prove '..UptoSaid'. A law counts once. -/
mutual
def uptoBulk {H : Type} : DataW H → Nat
  | .lit (.string bytes) => bytes.length + 1
  | .lit _ => 1
  | .nil => 1
  | .ptr d => uptoBulk d + 1
  | .slice elems spare => uptoBulkAll elems + uptoBulkAll spare + 1
  | .agg parts => uptoBulkAll parts + 1
  | .iface _ d => uptoBulk d + 1
  | .map entries => uptoBulkEntries entries + 1
  | .held _ => 1
def uptoBulkAll {H : Type} : List (DataW H) → Nat
  | [] => 0
  | d :: r => uptoBulk d + uptoBulkAll r
def uptoBulkEntries {H : Type} : List (Lit × DataW H) → Nat
  | [] => 0
  | x :: r => uptoBulkEntry x + uptoBulkEntries r
def uptoBulkEntry {H : Type} : Lit × DataW H → Nat
  | (.string bytes, d) => bytes.length + uptoBulk d + 1
  | (_, d) => uptoBulk d + 1
 end
def uptoSmall : (H : Type) → List (DataW H) → Bool := fun _ ds => decide (uptoBulkAll ds ≤ 1048576)
def OpenSpec.upto (s : _root_.Go.ChangeSpec) : _root_.Go.OpenSpec := { _root_.Go.OpenSpec.ofChange s with cond := some uptoSmall }

/-- 'mullionlaw06.TailAgain', WHERE WHAT IT READS IS OF BULK AT MOST 1048576: true; the input reads as it did. -/
def tailAgainUptoRow : OpenClaim := { program := "yteeakldeimhjjab", sum := "e13252a07916dd5eece413e76f8fc92763ad089b2e7578adc44223cec30b5489", func := "mullion/mullionlaw06.TailAgain", spec := "tailAgain", apart := false, narrowed := true }
def TailAgainUptoSaid : Prop := tailAgainUptoRow.holds Try.pinned (OpenSpec.upto tailAgainSpec)

/-- 'mullionlaw06.TailApart', WHERE WHAT IT READS IS OF BULK AT MOST 1048576: true; the input reads as it did. -/
def tailApartUptoRow : OpenClaim := { program := "yteeakldeimhjjab", sum := "e13252a07916dd5eece413e76f8fc92763ad089b2e7578adc44223cec30b5489", func := "mullion/mullionlaw06.TailApart", spec := "tailApart", apart := false, narrowed := true }
def TailApartUptoSaid : Prop := tailApartUptoRow.holds Try.pinned (OpenSpec.upto tailApartSpec)

end Rows
end Go.Proofs.Yteeakldeimhjjab
