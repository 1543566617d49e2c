/-
  DERIVED. GIVEN WITH THE SEED: THE CARDS: each row of YtooahffclghcjaaGreatDoorRows.lean that lists a variable, with what it lists TIED to the program's text (the seventh form; the later family's looks); each row that meets fmt, with fmt's text TOLD by the authors' own Lean function (tested against real Go, not proved from fmt's source: count such statements apart). THE CARD IS WHAT COUNTS. Prove the row's statement (the work); the ties are given (YtooahffclghcjaaGreatDoorTie.lean); close each card by the builder's one call (the guide's Derived/Test/ToyasCard.lean, 'card_holds'). Laid BY PROGRAM, IN A SANDBOX (cutbox-door.mjs). By AI agents, Wed Nov 11 2026. No macro, syntax, notation, axiom, sorry.
-/
import Derived.Test.YtooahffclghcjaaGreatDoorRows
import GoSem.ClaimSeven
namespace Go.Proofs.YtooahffclghcjaaGreatDoor
namespace Rows

/-- THE TIED CARD OF 'mullionlaw19.VtPlain'. -/
def vtPlainCard : Claim7 := { stood := { row := vtPlainRow, standIns := [], harness := (true, "e6adda1eb8eb5b555e37fd6480ff0c5e4ed26b8a62e2d4fce691b57399309153"), looks := false }, kinds := [], alts := [], laidByText := true, laidKinds := [.data, .data, .data, .data, .data, .pinned], laidTests := true, laidLooks := .later }
def VtPlainCardSaid : Prop := Claim7.holds Tryz.pinned (.plain (OpenSpec.ofChange vtPlainSpec)) vtPlainCard

/-- THE SECOND FORM's CARD OF 'mullionlaw19.VtPlain'. -/
def vtPlainUptoCard : Claim7 := { stood := { row := vtPlainUptoRow, standIns := [], harness := (true, "e6adda1eb8eb5b555e37fd6480ff0c5e4ed26b8a62e2d4fce691b57399309153"), looks := false }, kinds := [], alts := [], laidByText := true, laidKinds := [.data, .data, .data, .data, .data, .pinned], laidTests := true, laidLooks := .later }
def VtPlainUptoCardSaid : Prop := Claim7.holds Tryz.pinned (.plain (OpenSpec.upto vtPlainSpec)) vtPlainUptoCard
end Rows
end Go.Proofs.YtooahffclghcjaaGreatDoor
