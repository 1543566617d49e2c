/-
  DERIVED. GIVEN WITH THE SEED: THE CARDS: each row of YtbonnjilbocldaaGreatDoorRows.lean that lists a variable, with what it lists TIED to the program's text (the seventh form; the later family's looks); each row that meets fmt, with fmt's text TOLD by the authors' own Lean function (tested against real Go, not proved from fmt's source: count such statements apart). THE CARD IS WHAT COUNTS. Prove the row's statement (the work); the ties are given (YtbonnjilbocldaaGreatDoorTie.lean); close each card by the builder's one call (the guide's Derived/Test/ToyasCard.lean, 'card_holds'). Laid BY PROGRAM, IN A SANDBOX (cutbox-door.mjs). By AI agents, Wed Nov 11 2026. No macro, syntax, notation, axiom, sorry.
-/
import Derived.Test.YtbonnjilbocldaaGreatDoorRows
import GoSem.ClaimSeven
namespace Go.Proofs.YtbonnjilbocldaaGreatDoor
namespace Rows

/-- THE TIED CARD OF 'mullionlaw22.BindsSets'. -/
def bindsSetsCard : Claim7 := { stood := { row := bindsSetsRow, standIns := [], harness := (true, "ceea929d9e165db36f931bb6c0baa48555a3bb1f6095db3b1d76e1fd9dfe0378"), looks := false }, kinds := [], alts := [], laidByText := true, laidKinds := [.data, .data, .data, .data, .wider, .data, .data, .pinned], laidTests := true, laidLooks := .later }
def BindsSetsCardSaid : Prop := Claim7.holds Tryz.pinned (.plain (OpenSpec.ofChange bindsSetsSpec)) bindsSetsCard

/-- THE TIED CARD OF 'mullionlaw22.BindsPresses'. -/
def bindsPressesCard : Claim7 := { stood := { row := bindsPressesRow, standIns := [], harness := (true, "ceea929d9e165db36f931bb6c0baa48555a3bb1f6095db3b1d76e1fd9dfe0378"), looks := false }, kinds := [], alts := [], laidByText := true, laidKinds := [.data, .data, .data, .data, .wider, .data, .data, .pinned], laidTests := true, laidLooks := .later }
def BindsPressesCardSaid : Prop := Claim7.holds Tryz.pinned (.plain (OpenSpec.ofChange bindsPressesSpec)) bindsPressesCard

/-- THE TIED CARD OF 'mullionlaw22.BindsAll'. -/
def bindsAllCard : Claim7 := { stood := { row := bindsAllRow, standIns := [], harness := (true, "ceea929d9e165db36f931bb6c0baa48555a3bb1f6095db3b1d76e1fd9dfe0378"), looks := false }, kinds := [], alts := [], laidByText := true, laidKinds := [.data, .data, .data, .data, .wider, .data, .data, .pinned], laidTests := true, laidLooks := .later }
def BindsAllCardSaid : Prop := Claim7.holds Tryz.pinned (.plain (OpenSpec.ofChange bindsAllSpec)) bindsAllCard

/-- THE SECOND FORM's CARD OF 'mullionlaw22.BindsSets'. -/
def bindsSetsUptoCard : Claim7 := { stood := { row := bindsSetsUptoRow, standIns := [], harness := (true, "ceea929d9e165db36f931bb6c0baa48555a3bb1f6095db3b1d76e1fd9dfe0378"), looks := false }, kinds := [], alts := [], laidByText := true, laidKinds := [.data, .data, .data, .data, .wider, .data, .data, .pinned], laidTests := true, laidLooks := .later }
def BindsSetsUptoCardSaid : Prop := Claim7.holds Tryz.pinned (.plain (OpenSpec.upto bindsSetsSpec)) bindsSetsUptoCard

/-- THE SECOND FORM's CARD OF 'mullionlaw22.BindsPresses'. -/
def bindsPressesUptoCard : Claim7 := { stood := { row := bindsPressesUptoRow, standIns := [], harness := (true, "ceea929d9e165db36f931bb6c0baa48555a3bb1f6095db3b1d76e1fd9dfe0378"), looks := false }, kinds := [], alts := [], laidByText := true, laidKinds := [.data, .data, .data, .data, .wider, .data, .data, .pinned], laidTests := true, laidLooks := .later }
def BindsPressesUptoCardSaid : Prop := Claim7.holds Tryz.pinned (.plain (OpenSpec.upto bindsPressesSpec)) bindsPressesUptoCard

/-- THE SECOND FORM's CARD OF 'mullionlaw22.BindsAll'. -/
def bindsAllUptoCard : Claim7 := { stood := { row := bindsAllUptoRow, standIns := [], harness := (true, "ceea929d9e165db36f931bb6c0baa48555a3bb1f6095db3b1d76e1fd9dfe0378"), looks := false }, kinds := [], alts := [], laidByText := true, laidKinds := [.data, .data, .data, .data, .wider, .data, .data, .pinned], laidTests := true, laidLooks := .later }
def BindsAllUptoCardSaid : Prop := Claim7.holds Tryz.pinned (.plain (OpenSpec.upto bindsAllSpec)) bindsAllUptoCard
end Rows
end Go.Proofs.YtbonnjilbocldaaGreatDoor
