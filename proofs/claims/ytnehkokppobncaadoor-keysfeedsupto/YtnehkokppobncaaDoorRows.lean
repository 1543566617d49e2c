/-
  NARROWER THAN 'FOR EVERY INPUT', by the rows' own cells (each row's printed sentence says how): KeysFeeds: laid.
  DERIVED. THE GIVEN ROWS OF THIS SEAT. 1 by the template 'for every input the law returns true; each argument reads behind the call as it read before'; 0 by the template 'total and deterministic' (their statements: YtnehkokppobncaaDoorTotals.lean).
  GIVEN WITH THE SEED: the statements are not yours to turn. If you find one false, say at which input.
  Laid BY PROGRAM, IN A SANDBOX (cutbox-rows.mjs): the forced cells as the released guide's own fill.sh prints them over the translation ed2c6d4be2e031ad… (all of the seat's roots in one cut). By AI agents, Wed Nov 11 2026. No macro, syntax, notation, axiom, sorry.
-/
import Derived.Test.YtnehkokppobncaaDoorChecked
import GoSem.PinnedTables
import GoSem.Claim
import GoSem.ClaimJoined
import GoSem.ClaimMapViews
import Derived.JoinedTies
import Derived.KernelRfl
namespace Go.Proofs.YtnehkokppobncaaDoor
/- THE CELL 'sum', in the pinned program and in every row, IS THE sha256 OF THE DUMP (.gsa) THAT YtnehkokppobncaaDoorProg.lean LOADS. Nothing in Lean hashes anything: it is a label: what it is worth is what the hold of that sum in a sandbox is worth. -/
noncomputable def Tryd.pinned : Pinned := { name := "ytnehkokppobncaadoor", sum := "ed2c6d4be2e031ad8f341af01a425ea4bbc7df7cedae86a9c0353538fd56396e", checked := Tryd.checked }
namespace Rows
def none {H : Type} : Left H := { results := [], args := [] }

/- WHAT THE LISTED PACKAGE-LEVEL VARIABLES READ AS WHEN THE CALL BEGINS. Each datum BY PROGRAM (the guide's laid-datum.mjs) off the statement by which the dump's own 'gosem.cut.vars' lays the variable. In a bare row this is a premise. The card (YtnehkokppobncaaDoorCards.lean) ties it to the program's text. -/
def laid_unicode_utf8_acceptRanges {H : Type} : DataW H := .agg [.agg [.lit (.int .u8 128), .lit (.int .u8 191)], .agg [.lit (.int .u8 160), .lit (.int .u8 191)], .agg [.lit (.int .u8 128), .lit (.int .u8 159)], .agg [.lit (.int .u8 144), .lit (.int .u8 191)], .agg [.lit (.int .u8 128), .lit (.int .u8 143)], .agg [.lit (.int .u8 0), .lit (.int .u8 0)], .agg [.lit (.int .u8 0), .lit (.int .u8 0)], .agg [.lit (.int .u8 0), .lit (.int .u8 0)], .agg [.lit (.int .u8 0), .lit (.int .u8 0)], .agg [.lit (.int .u8 0), .lit (.int .u8 0)], .agg [.lit (.int .u8 0), .lit (.int .u8 0)], .agg [.lit (.int .u8 0), .lit (.int .u8 0)], .agg [.lit (.int .u8 0), .lit (.int .u8 0)], .agg [.lit (.int .u8 0), .lit (.int .u8 0)], .agg [.lit (.int .u8 0), .lit (.int .u8 0)], .agg [.lit (.int .u8 0), .lit (.int .u8 0)]]
def laid_mullion_keys_specials {H : Type} : DataW H := .agg [.agg [.lit (.string [85, 112]), .lit (.string [27, 91]), .lit (.string [65]), .lit (.string [])], .agg [.lit (.string [68, 111, 119, 110]), .lit (.string [27, 91]), .lit (.string [66]), .lit (.string [])], .agg [.lit (.string [82, 105, 103, 104, 116]), .lit (.string [27, 91]), .lit (.string [67]), .lit (.string [])], .agg [.lit (.string [76, 101, 102, 116]), .lit (.string [27, 91]), .lit (.string [68]), .lit (.string [])], .agg [.lit (.string [72, 111, 109, 101]), .lit (.string [27, 91]), .lit (.string [72]), .lit (.string [49])], .agg [.lit (.string [69, 110, 100]), .lit (.string [27, 91]), .lit (.string [70]), .lit (.string [52])], .agg [.lit (.string [73, 110, 115, 101, 114, 116]), .lit (.string [27, 91]), .lit (.string []), .lit (.string [50])], .agg [.lit (.string [68, 101, 108, 101, 116, 101]), .lit (.string [27, 91]), .lit (.string []), .lit (.string [51])], .agg [.lit (.string [80, 97, 103, 101, 85, 112]), .lit (.string [27, 91]), .lit (.string []), .lit (.string [53])], .agg [.lit (.string [80, 97, 103, 101, 68, 111, 119, 110]), .lit (.string [27, 91]), .lit (.string []), .lit (.string [54])], .agg [.lit (.string [70, 49]), .lit (.string [27, 79]), .lit (.string [80]), .lit (.string [49, 49])], .agg [.lit (.string [70, 50]), .lit (.string [27, 79]), .lit (.string [81]), .lit (.string [49, 50])], .agg [.lit (.string [70, 51]), .lit (.string [27, 79]), .lit (.string [82]), .lit (.string [49, 51])], .agg [.lit (.string [70, 52]), .lit (.string [27, 79]), .lit (.string [83]), .lit (.string [49, 52])], .agg [.lit (.string [70, 53]), .lit (.string [27, 91]), .lit (.string []), .lit (.string [49, 53])], .agg [.lit (.string [70, 54]), .lit (.string [27, 91]), .lit (.string []), .lit (.string [49, 55])], .agg [.lit (.string [70, 55]), .lit (.string [27, 91]), .lit (.string []), .lit (.string [49, 56])], .agg [.lit (.string [70, 56]), .lit (.string [27, 91]), .lit (.string []), .lit (.string [49, 57])], .agg [.lit (.string [70, 57]), .lit (.string [27, 91]), .lit (.string []), .lit (.string [50, 48])], .agg [.lit (.string [70, 49, 48]), .lit (.string [27, 91]), .lit (.string []), .lit (.string [50, 49])], .agg [.lit (.string [70, 49, 49]), .lit (.string [27, 91]), .lit (.string []), .lit (.string [50, 51])], .agg [.lit (.string [70, 49, 50]), .lit (.string [27, 91]), .lit (.string []), .lit (.string [50, 52])]]
def laid_mullion_keys_modifiers {H : Type} : DataW H := .agg [.agg [.lit (.int .i64 4), .lit (.string [67, 45])], .agg [.lit (.int .i64 2), .lit (.string [77, 45])], .agg [.lit (.int .i64 1), .lit (.string [83, 45])]]
def laid_mullion_keys_named {H : Type} : DataW H := .agg [.agg [.lit (.int .i64 32), .lit (.string [83, 112, 97, 99, 101])], .agg [.lit (.int .i64 13), .lit (.string [69, 110, 116, 101, 114])], .agg [.lit (.int .i64 9), .lit (.string [84, 97, 98])], .agg [.lit (.int .i64 27), .lit (.string [69, 115, 99, 97, 112, 101])], .agg [.lit (.int .i64 127), .lit (.string [66, 83, 112, 97, 99, 101])], .agg [.lit (.int .i64 16777239), .lit (.string [66, 84, 97, 98])]]
/-- One of Go's own tables, pinned by name: the form's constant. -/
def laid_unicode_utf8_first : DataW Unit := Go.Pinned.utf8First

/-- 'mullionlaw21.KeysFeeds': WHATEVER THE INPUT: true; the input reads as it did. -/
def keysFeedsSpec : ChangeSpec := { name := "keysFeeds", fn := fun _ => fun
  | [d] => { results := [.lit (.bool true)], args := [d] }
  | _ => none }
def keysFeedsRow : OpenClaim := { program := "ytnehkokppobncaadoor", sum := "ed2c6d4be2e031ad8f341af01a425ea4bbc7df7cedae86a9c0353538fd56396e", func := "mullion/mullionlaw21.KeysFeeds", spec := "keysFeeds", inPlace := ["internal/bytealg.IndexByteString", "internal/bytealg.IndexString", "internal/abi.NoEscape"], recurses := true, named := ["mullion/keys.specials", "internal/bytealg.MaxLen", "unicode/utf8.first", "unicode/utf8.acceptRanges", "mullion/keys.modifiers", "mullion/keys.named"], apart := false, laid := [("unicode/utf8.acceptRanges", laid_unicode_utf8_acceptRanges), ("mullion/keys.specials", laid_mullion_keys_specials), ("mullion/keys.modifiers", laid_mullion_keys_modifiers), ("mullion/keys.named", laid_mullion_keys_named), ("unicode/utf8.first", laid_unicode_utf8_first)] }
def KeysFeedsSaid : Prop := keysFeedsRow.holds Tryd.pinned (OpenSpec.ofChange keysFeedsSpec)

/-- ITS FALSE NEIGHBOUR: 'it returns false'. Refute it at one input. -/
def keysFeedsWrong : ChangeSpec := { name := "keysFeeds", fn := fun _ => fun
  | [d] => { results := [.lit (.bool false)], args := [d] }
  | _ => none }
def KeysFeedsWrongFalsely : Prop := keysFeedsRow.holds Tryd.pinned (OpenSpec.ofChange keysFeedsWrong)

/- THE SECOND FORM. 'bulk': how many values and letters a reading holds, each counted each time it is reached (what is shared counts as often as it is met; a slice's spare places count too). A statement '..UptoSaid' is the law's where the arguments, and the package variables that the reading takes, are together of bulk at most 1048576: NARROWER than '..Said'. Prove '..Said' where nothing that the law and all that it calls make is longer than what came in: it says more and counts as full. Else prove '..UptoSaid'. A law counts once. -/
mutual
def uptoBulk {H : Type} : DataW H → Nat
  | .lit (.string bytes) => bytes.length + 1
  | .lit _ => 1
  | .nil => 1
  | .ptr d => uptoBulk d + 1
  | .slice elems spare => uptoBulkAll elems + uptoBulkAll spare + 1
  | .agg parts => uptoBulkAll parts + 1
  | .iface _ d => uptoBulk d + 1
  | .map entries => uptoBulkEntries entries + 1
  | .held _ => 1
def uptoBulkAll {H : Type} : List (DataW H) → Nat
  | [] => 0
  | d :: r => uptoBulk d + uptoBulkAll r
def uptoBulkEntries {H : Type} : List (Lit × DataW H) → Nat
  | [] => 0
  | x :: r => uptoBulkEntry x + uptoBulkEntries r
def uptoBulkEntry {H : Type} : Lit × DataW H → Nat
  | (.string bytes, d) => bytes.length + uptoBulk d + 1
  | (_, d) => uptoBulk d + 1
 end
def uptoSmall : (H : Type) → List (DataW H) → Bool := fun _ ds => decide (uptoBulkAll ds ≤ 1048576)
def OpenSpec.upto (s : _root_.Go.ChangeSpec) : _root_.Go.OpenSpec := { _root_.Go.OpenSpec.ofChange s with cond := some uptoSmall }

/-- 'mullionlaw21.KeysFeeds', WHERE WHAT IT READS IS OF BULK AT MOST 1048576: true; the input reads as it did. -/
def keysFeedsUptoRow : OpenClaim := { program := "ytnehkokppobncaadoor", sum := "ed2c6d4be2e031ad8f341af01a425ea4bbc7df7cedae86a9c0353538fd56396e", func := "mullion/mullionlaw21.KeysFeeds", spec := "keysFeeds", inPlace := ["internal/bytealg.IndexByteString", "internal/bytealg.IndexString", "internal/abi.NoEscape"], recurses := true, named := ["mullion/keys.specials", "internal/bytealg.MaxLen", "unicode/utf8.first", "unicode/utf8.acceptRanges", "mullion/keys.modifiers", "mullion/keys.named"], apart := false, laid := [("unicode/utf8.acceptRanges", laid_unicode_utf8_acceptRanges), ("mullion/keys.specials", laid_mullion_keys_specials), ("mullion/keys.modifiers", laid_mullion_keys_modifiers), ("mullion/keys.named", laid_mullion_keys_named), ("unicode/utf8.first", laid_unicode_utf8_first)], narrowed := true }
def KeysFeedsUptoSaid : Prop := keysFeedsUptoRow.holds Tryd.pinned (OpenSpec.upto keysFeedsSpec)

end Rows
end Go.Proofs.YtnehkokppobncaaDoor
