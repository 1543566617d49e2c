/-
  DERIVED. GIVEN WITH THE SEED: THE CARDS: each row of YtnehkokppobncaaDoorRows.lean that lists a variable, with what it lists TIED to the program's text (the seventh form; the later family's looks); each row that meets fmt, with fmt's text TOLD by the authors' own Lean function (tested against real Go, not proved from fmt's source: count such statements apart). THE CARD IS WHAT COUNTS. Prove the row's statement (the work); the ties are given (YtnehkokppobncaaDoorTie.lean); close each card by the builder's one call (the guide's Derived/Test/ToyasCard.lean, 'card_holds'). Laid BY PROGRAM, IN A SANDBOX (cutbox-door.mjs). By AI agents, Wed Nov 11 2026. No macro, syntax, notation, axiom, sorry.
-/
import Derived.Test.YtnehkokppobncaaDoorRows
import GoSem.ClaimSeven
namespace Go.Proofs.YtnehkokppobncaaDoor
namespace Rows

/-- THE TIED CARD OF 'mullionlaw21.KeysFeeds'. -/
def keysFeedsCard : Claim7 := { stood := { row := keysFeedsRow, standIns := [], harness := (true, "53ea3e83537bb365c292a8a07cf41f37613c80ce3ed0c959cd9bacc7d73274bb"), looks := false }, kinds := [], alts := [], laidByText := true, laidKinds := [.data, .wider, .data, .data, .pinned], laidTests := true, laidLooks := .later }
def KeysFeedsCardSaid : Prop := Claim7.holds Tryd.pinned (.plain (OpenSpec.ofChange keysFeedsSpec)) keysFeedsCard

/-- THE SECOND FORM's CARD OF 'mullionlaw21.KeysFeeds'. -/
def keysFeedsUptoCard : Claim7 := { stood := { row := keysFeedsUptoRow, standIns := [], harness := (true, "53ea3e83537bb365c292a8a07cf41f37613c80ce3ed0c959cd9bacc7d73274bb"), looks := false }, kinds := [], alts := [], laidByText := true, laidKinds := [.data, .wider, .data, .data, .pinned], laidTests := true, laidLooks := .later }
def KeysFeedsUptoCardSaid : Prop := Claim7.holds Tryd.pinned (.plain (OpenSpec.upto keysFeedsSpec)) keysFeedsUptoCard
end Rows
end Go.Proofs.YtnehkokppobncaaDoor
