/-
  DERIVED. GIVEN WITH THE SEED: THE CARDS: each row of YtklonlgmifgckaaGreatDoorRows.lean that lists a variable, with what it lists TIED to the program's text (the seventh form; the later family's looks); each row that meets fmt, with fmt's text TOLD by the authors' own Lean function (tested against real Go, not proved from fmt's source: count such statements apart). THE CARD IS WHAT COUNTS. Prove the row's statement (the work); the ties are given (YtklonlgmifgckaaGreatDoorTie.lean); close each card by the builder's one call (the guide's Derived/Test/ToyasCard.lean, 'card_holds'). Laid BY PROGRAM, IN A SANDBOX (cutbox-door.mjs). By AI agents, Wed Nov 11 2026. No macro, syntax, notation, axiom, sorry.
-/
import Derived.Test.YtklonlgmifgckaaGreatDoorRows
import GoSem.ClaimSeven
namespace Go.Proofs.YtklonlgmifgckaaGreatDoor
namespace Rows

/-- THE TIED CARD OF 'mullionlaw19.VtNews'. -/
def vtNewsCard : Claim7 := { stood := { row := vtNewsRow, standIns := [], harness := (true, "88f3938994b011ac719f160fccd18b0e8efccb7a220e8882a0a70d0c1d64fa40"), looks := false }, kinds := [], alts := [], laidByText := true, laidKinds := [.data, .data, .data, .data, .data, .pinned], laidTests := true, laidLooks := .later }
def VtNewsCardSaid : Prop := Claim7.holds Tryz.pinned (.plain (OpenSpec.ofChange vtNewsSpec)) vtNewsCard

/-- THE SECOND FORM's CARD OF 'mullionlaw19.VtNews'. -/
def vtNewsUptoCard : Claim7 := { stood := { row := vtNewsUptoRow, standIns := [], harness := (true, "88f3938994b011ac719f160fccd18b0e8efccb7a220e8882a0a70d0c1d64fa40"), looks := false }, kinds := [], alts := [], laidByText := true, laidKinds := [.data, .data, .data, .data, .data, .pinned], laidTests := true, laidLooks := .later }
def VtNewsUptoCardSaid : Prop := Claim7.holds Tryz.pinned (.plain (OpenSpec.upto vtNewsSpec)) vtNewsUptoCard
end Rows
end Go.Proofs.YtklonlgmifgckaaGreatDoor
