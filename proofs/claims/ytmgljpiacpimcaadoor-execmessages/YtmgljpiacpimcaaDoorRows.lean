/-
  NARROWER THAN 'FOR EVERY INPUT', by the rows' own cells (each row's printed sentence says how): ExecMessages: laid.
  DERIVED. THE GIVEN ROWS OF THIS SEAT. 1 by the template 'for every input the law returns true; each argument reads behind the call as it read before'; 0 by the template 'total and deterministic' (their statements: YtmgljpiacpimcaaDoorTotals.lean).
  GIVEN WITH THE SEED: the statements are not yours to turn. If you find one false, say at which input.
  Laid BY PROGRAM, IN A SANDBOX (cutbox-rows.mjs): the forced cells as the released guide's own fill.sh prints them over the translation 46ed9d97d2ca04f2… (all of the seat's roots in one cut). By AI agents, Wed Nov 11 2026. No macro, syntax, notation, axiom, sorry.
-/
import Derived.Test.YtmgljpiacpimcaaDoorChecked
import GoSem.Claim
import GoSem.ClaimJoined
import GoSem.ClaimMapViews
import Derived.JoinedTies
import Derived.KernelRfl
namespace Go.Proofs.YtmgljpiacpimcaaDoor
/- THE CELL 'sum', in the pinned program and in every row, IS THE sha256 OF THE DUMP (.gsa) THAT YtmgljpiacpimcaaDoorProg.lean LOADS. Nothing in Lean hashes anything: it is a label: what it is worth is what the hold of that sum in a sandbox is worth. -/
noncomputable def Tryd.pinned : Pinned := { name := "ytmgljpiacpimcaadoor", sum := "46ed9d97d2ca04f271022ac710f5b0fb0ebc55df0c374d9a0486bbc14f657ed2", checked := Tryd.checked }
namespace Rows
def none {H : Type} : Left H := { results := [], args := [] }

/- WHAT THE LISTED PACKAGE-LEVEL VARIABLES READ AS WHEN THE CALL BEGINS. Each datum BY PROGRAM (the guide's laid-datum.mjs) off the statement by which the dump's own 'gosem.cut.vars' lays the variable. In a bare row this is a premise. The card (YtmgljpiacpimcaaDoorCards.lean) ties it to the program's text. -/
def laid_math_bits_deBruijn32tab {H : Type} : DataW H := .agg [.lit (.int .u8 0), .lit (.int .u8 1), .lit (.int .u8 28), .lit (.int .u8 2), .lit (.int .u8 29), .lit (.int .u8 14), .lit (.int .u8 24), .lit (.int .u8 3), .lit (.int .u8 30), .lit (.int .u8 22), .lit (.int .u8 20), .lit (.int .u8 15), .lit (.int .u8 25), .lit (.int .u8 17), .lit (.int .u8 4), .lit (.int .u8 8), .lit (.int .u8 31), .lit (.int .u8 27), .lit (.int .u8 13), .lit (.int .u8 23), .lit (.int .u8 21), .lit (.int .u8 19), .lit (.int .u8 16), .lit (.int .u8 7), .lit (.int .u8 26), .lit (.int .u8 12), .lit (.int .u8 18), .lit (.int .u8 6), .lit (.int .u8 11), .lit (.int .u8 5), .lit (.int .u8 10), .lit (.int .u8 9)]
def laid_math_bits_deBruijn64tab {H : Type} : DataW H := .agg [.lit (.int .u8 0), .lit (.int .u8 1), .lit (.int .u8 56), .lit (.int .u8 2), .lit (.int .u8 57), .lit (.int .u8 49), .lit (.int .u8 28), .lit (.int .u8 3), .lit (.int .u8 61), .lit (.int .u8 58), .lit (.int .u8 42), .lit (.int .u8 50), .lit (.int .u8 38), .lit (.int .u8 29), .lit (.int .u8 17), .lit (.int .u8 4), .lit (.int .u8 62), .lit (.int .u8 47), .lit (.int .u8 59), .lit (.int .u8 36), .lit (.int .u8 45), .lit (.int .u8 43), .lit (.int .u8 51), .lit (.int .u8 22), .lit (.int .u8 53), .lit (.int .u8 39), .lit (.int .u8 33), .lit (.int .u8 30), .lit (.int .u8 24), .lit (.int .u8 18), .lit (.int .u8 12), .lit (.int .u8 5), .lit (.int .u8 63), .lit (.int .u8 55), .lit (.int .u8 48), .lit (.int .u8 27), .lit (.int .u8 60), .lit (.int .u8 41), .lit (.int .u8 37), .lit (.int .u8 16), .lit (.int .u8 46), .lit (.int .u8 35), .lit (.int .u8 44), .lit (.int .u8 21), .lit (.int .u8 52), .lit (.int .u8 32), .lit (.int .u8 23), .lit (.int .u8 11), .lit (.int .u8 54), .lit (.int .u8 26), .lit (.int .u8 40), .lit (.int .u8 15), .lit (.int .u8 34), .lit (.int .u8 20), .lit (.int .u8 31), .lit (.int .u8 10), .lit (.int .u8 25), .lit (.int .u8 14), .lit (.int .u8 19), .lit (.int .u8 9), .lit (.int .u8 13), .lit (.int .u8 8), .lit (.int .u8 7), .lit (.int .u8 6)]
def laid_internal_strconv_uint64pow10 {H : Type} : DataW H := .agg [.lit (.int .u64 1), .lit (.int .u64 10), .lit (.int .u64 100), .lit (.int .u64 1000), .lit (.int .u64 10000), .lit (.int .u64 100000), .lit (.int .u64 1000000), .lit (.int .u64 10000000), .lit (.int .u64 100000000), .lit (.int .u64 1000000000), .lit (.int .u64 10000000000), .lit (.int .u64 100000000000), .lit (.int .u64 1000000000000), .lit (.int .u64 10000000000000), .lit (.int .u64 100000000000000), .lit (.int .u64 1000000000000000), .lit (.int .u64 10000000000000000), .lit (.int .u64 100000000000000000), .lit (.int .u64 1000000000000000000), .lit (.int .u64 10000000000000000000)]
def laid_mullion_exec_sayings {H : Type} : DataW H := .agg [.agg [.lit (.int .i64 1), .lit (.string [98, 97, 100, 32, 97, 114, 103, 117, 109, 101, 110, 116])], .agg [.lit (.int .i64 2), .lit (.string [116, 111, 111, 32, 108, 111, 110, 103])], .agg [.lit (.int .i64 3), .lit (.string [110, 111, 32, 114, 111, 111, 109])], .agg [.lit (.int .i64 40), .lit (.string [110, 111, 116, 32, 97, 32, 108, 97, 121, 111, 117, 116])], .agg [.lit (.int .i64 41), .lit (.string [98, 97, 100, 32, 115, 105, 122, 101])], .agg [.lit (.int .i64 42), .lit (.string [110, 111, 32, 115, 117, 99, 104, 32, 112, 97, 110, 101])], .agg [.lit (.int .i64 44), .lit (.string [110, 111, 32, 115, 112, 97, 99, 101])], .agg [.lit (.int .i64 45), .lit (.string [116, 111, 111, 32, 109, 97, 110, 121, 32, 112, 97, 110, 101, 115])], .agg [.lit (.int .i64 46), .lit (.string [111, 110, 108, 121, 32, 112, 97, 110, 101])], .agg [.lit (.int .i64 47), .lit (.string [110, 111, 32, 98, 111, 114, 100, 101, 114])], .agg [.lit (.int .i64 50), .lit (.string [98, 97, 100, 32, 108, 97, 121, 111, 117, 116])], .agg [.lit (.int .i64 51), .lit (.string [98, 97, 100, 32, 115, 117, 109])], .agg [.lit (.int .i64 70), .lit (.string [110, 111, 32, 115, 117, 99, 104, 32, 115, 101, 115, 115, 105, 111, 110])], .agg [.lit (.int .i64 71), .lit (.string [110, 111, 32, 115, 117, 99, 104, 32, 119, 105, 110, 100, 111, 119])], .agg [.lit (.int .i64 72), .lit (.string [110, 111, 32, 115, 117, 99, 104, 32, 105, 110, 100, 101, 120])], .agg [.lit (.int .i64 73), .lit (.string [98, 97, 100, 32, 110, 97, 109, 101])], .agg [.lit (.int .i64 74), .lit (.string [105, 110, 32, 117, 115, 101])], .agg [.lit (.int .i64 75), .lit (.string [111, 110, 108, 121, 32, 111, 110, 101])], .agg [.lit (.int .i64 90), .lit (.string [111, 112, 101, 110, 32, 113, 117, 111, 116, 101])], .agg [.lit (.int .i64 91), .lit (.string [116, 111, 111, 32, 109, 97, 110, 121, 32, 119, 111, 114, 100, 115])], .agg [.lit (.int .i64 100), .lit (.string [98, 97, 100, 32, 102, 111, 114, 109, 97, 116])], .agg [.lit (.int .i64 101), .lit (.string [116, 111, 111, 32, 100, 101, 101, 112])], .agg [.lit (.int .i64 110), .lit (.string [110, 111, 116, 32, 102, 111, 117, 110, 100])], .agg [.lit (.int .i64 111), .lit (.string [97, 109, 98, 105, 103, 117, 111, 117, 115])], .agg [.lit (.int .i64 112), .lit (.string [110, 111, 32, 99, 117, 114, 114, 101, 110, 116, 32, 115, 101, 115, 115, 105, 111, 110])], .agg [.lit (.int .i64 120), .lit (.string [117, 110, 107, 110, 111, 119, 110, 32, 99, 111, 109, 109, 97, 110, 100])], .agg [.lit (.int .i64 121), .lit (.string [97, 109, 98, 105, 103, 117, 111, 117, 115, 32, 99, 111, 109, 109, 97, 110, 100])], .agg [.lit (.int .i64 122), .lit (.string [117, 110, 107, 110, 111, 119, 110, 32, 102, 108, 97, 103])], .agg [.lit (.int .i64 123), .lit (.string [118, 97, 108, 117, 101, 32, 110, 101, 101, 100, 101, 100])], .agg [.lit (.int .i64 124), .lit (.string [119, 114, 111, 110, 103, 32, 110, 117, 109, 98, 101, 114, 32, 111, 102, 32, 119, 111, 114, 100, 115])], .agg [.lit (.int .i64 125), .lit (.string [98, 97, 100, 32, 118, 97, 108, 117, 101])]]

/-- 'mullionlaw13.ExecMessages': WHATEVER THE INPUT: true; the input reads as it did. -/
def execMessagesSpec : ChangeSpec := { name := "execMessages", fn := fun _ => fun
  | [d1, d2] => { results := [.lit (.bool true)], args := [d1, d2] }
  | _ => none }
def execMessagesRow : OpenClaim := { program := "ytmgljpiacpimcaadoor", sum := "46ed9d97d2ca04f271022ac710f5b0fb0ebc55df0c374d9a0486bbc14f657ed2", func := "mullion/mullionlaw13.ExecMessages", spec := "execMessages", recurses := true, named := ["mullion/exec.sayings", "internal/strconv.uint64pow10", "math/bits.deBruijn32tab", "math/bits.deBruijn64tab"], apart := false, laid := [("math/bits.deBruijn32tab", laid_math_bits_deBruijn32tab), ("math/bits.deBruijn64tab", laid_math_bits_deBruijn64tab), ("internal/strconv.uint64pow10", laid_internal_strconv_uint64pow10), ("mullion/exec.sayings", laid_mullion_exec_sayings)] }
def ExecMessagesSaid : Prop := execMessagesRow.holds Tryd.pinned (OpenSpec.ofChange execMessagesSpec)

/-- ITS FALSE NEIGHBOUR: 'it returns false'. Refute it at one input. -/
def execMessagesWrong : ChangeSpec := { name := "execMessages", fn := fun _ => fun
  | [d1, d2] => { results := [.lit (.bool false)], args := [d1, d2] }
  | _ => none }
def ExecMessagesWrongFalsely : Prop := execMessagesRow.holds Tryd.pinned (OpenSpec.ofChange execMessagesWrong)

/- THE SECOND FORM. 'bulk': how many values and letters a reading holds, each counted each time it is reached (what is shared counts as often as it is met; a slice's spare places count too). A statement '..UptoSaid' is the law's where the arguments, and the package variables that the reading takes, are together of bulk at most 1048576: NARROWER than '..Said'. Prove '..Said' where nothing that the law and all that it calls make is longer than what came in: it says more and counts as full. Else prove '..UptoSaid'. A law counts once. -/
mutual
def uptoBulk {H : Type} : DataW H → Nat
  | .lit (.string bytes) => bytes.length + 1
  | .lit _ => 1
  | .nil => 1
  | .ptr d => uptoBulk d + 1
  | .slice elems spare => uptoBulkAll elems + uptoBulkAll spare + 1
  | .agg parts => uptoBulkAll parts + 1
  | .iface _ d => uptoBulk d + 1
  | .map entries => uptoBulkEntries entries + 1
  | .held _ => 1
def uptoBulkAll {H : Type} : List (DataW H) → Nat
  | [] => 0
  | d :: r => uptoBulk d + uptoBulkAll r
def uptoBulkEntries {H : Type} : List (Lit × DataW H) → Nat
  | [] => 0
  | x :: r => uptoBulkEntry x + uptoBulkEntries r
def uptoBulkEntry {H : Type} : Lit × DataW H → Nat
  | (.string bytes, d) => bytes.length + uptoBulk d + 1
  | (_, d) => uptoBulk d + 1
 end
def uptoSmall : (H : Type) → List (DataW H) → Bool := fun _ ds => decide (uptoBulkAll ds ≤ 1048576)
def OpenSpec.upto (s : _root_.Go.ChangeSpec) : _root_.Go.OpenSpec := { _root_.Go.OpenSpec.ofChange s with cond := some uptoSmall }

/-- 'mullionlaw13.ExecMessages', WHERE WHAT IT READS IS OF BULK AT MOST 1048576: true; the input reads as it did. -/
def execMessagesUptoRow : OpenClaim := { program := "ytmgljpiacpimcaadoor", sum := "46ed9d97d2ca04f271022ac710f5b0fb0ebc55df0c374d9a0486bbc14f657ed2", func := "mullion/mullionlaw13.ExecMessages", spec := "execMessages", recurses := true, named := ["mullion/exec.sayings", "internal/strconv.uint64pow10", "math/bits.deBruijn32tab", "math/bits.deBruijn64tab"], apart := false, laid := [("math/bits.deBruijn32tab", laid_math_bits_deBruijn32tab), ("math/bits.deBruijn64tab", laid_math_bits_deBruijn64tab), ("internal/strconv.uint64pow10", laid_internal_strconv_uint64pow10), ("mullion/exec.sayings", laid_mullion_exec_sayings)], narrowed := true }
def ExecMessagesUptoSaid : Prop := execMessagesUptoRow.holds Tryd.pinned (OpenSpec.upto execMessagesSpec)

end Rows
end Go.Proofs.YtmgljpiacpimcaaDoor
