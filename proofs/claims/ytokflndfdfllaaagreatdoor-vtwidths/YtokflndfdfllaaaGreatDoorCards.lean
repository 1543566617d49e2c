/-
  DERIVED. GIVEN WITH THE SEED: THE CARDS: each row of YtokflndfdfllaaaGreatDoorRows.lean that lists a variable, with what it lists TIED to the program's text (the seventh form; the later family's looks); each row that meets fmt, with fmt's text TOLD by the authors' own Lean function (tested against real Go, not proved from fmt's source: count such statements apart). THE CARD IS WHAT COUNTS. Prove the row's statement (the work); the ties are given (YtokflndfdfllaaaGreatDoorTie.lean); close each card by the builder's one call (the guide's Derived/Test/ToyasCard.lean, 'card_holds'). Laid BY PROGRAM, IN A SANDBOX (cutbox-door.mjs). By AI agents, Wed Nov 11 2026. No macro, syntax, notation, axiom, sorry.
-/
import Derived.Test.YtokflndfdfllaaaGreatDoorRows
import GoSem.ClaimSeven
namespace Go.Proofs.YtokflndfdfllaaaGreatDoor
namespace Rows

/-- THE TIED CARD OF 'mullionlaw19.VtWidths'. -/
def vtWidthsCard : Claim7 := { stood := { row := vtWidthsRow, standIns := [], harness := (true, "cb01f8fac5c21976fdbd616d4fcebe09c35886650786bb3e6af50098041c579e"), looks := false }, kinds := [], alts := [], laidByText := true, laidKinds := [.data, .data, .data, .data, .data, .pinned], laidTests := true, laidLooks := .later }
def VtWidthsCardSaid : Prop := Claim7.holds Tryz.pinned (.plain (OpenSpec.ofChange vtWidthsSpec)) vtWidthsCard

/-- THE TIED CARD OF 'mullionlaw19.VtNews'. -/
def vtNewsCard : Claim7 := { stood := { row := vtNewsRow, standIns := [], harness := (true, "cb01f8fac5c21976fdbd616d4fcebe09c35886650786bb3e6af50098041c579e"), looks := false }, kinds := [], alts := [], laidByText := true, laidKinds := [.data, .data, .data, .data, .data, .pinned], laidTests := true, laidLooks := .later }
def VtNewsCardSaid : Prop := Claim7.holds Tryz.pinned (.plain (OpenSpec.ofChange vtNewsSpec)) vtNewsCard

/-- THE SECOND FORM's CARD OF 'mullionlaw19.VtWidths'. -/
def vtWidthsUptoCard : Claim7 := { stood := { row := vtWidthsUptoRow, standIns := [], harness := (true, "cb01f8fac5c21976fdbd616d4fcebe09c35886650786bb3e6af50098041c579e"), looks := false }, kinds := [], alts := [], laidByText := true, laidKinds := [.data, .data, .data, .data, .data, .pinned], laidTests := true, laidLooks := .later }
def VtWidthsUptoCardSaid : Prop := Claim7.holds Tryz.pinned (.plain (OpenSpec.upto vtWidthsSpec)) vtWidthsUptoCard

/-- THE SECOND FORM's CARD OF 'mullionlaw19.VtNews'. -/
def vtNewsUptoCard : Claim7 := { stood := { row := vtNewsUptoRow, standIns := [], harness := (true, "cb01f8fac5c21976fdbd616d4fcebe09c35886650786bb3e6af50098041c579e"), looks := false }, kinds := [], alts := [], laidByText := true, laidKinds := [.data, .data, .data, .data, .data, .pinned], laidTests := true, laidLooks := .later }
def VtNewsUptoCardSaid : Prop := Claim7.holds Tryz.pinned (.plain (OpenSpec.upto vtNewsSpec)) vtNewsUptoCard
end Rows
end Go.Proofs.YtokflndfdfllaaaGreatDoor
