/-
  DERIVED. GIVEN WITH THE SEED: THE CARDS: each row of YtgdkpmfdpfjdjaaGreatDoorRows.lean that lists a variable, with what it lists TIED to the program's text (the seventh form; the later family's looks); each row that meets fmt, with fmt's text TOLD by the authors' own Lean function (tested against real Go, not proved from fmt's source: count such statements apart). THE CARD IS WHAT COUNTS. Prove the row's statement (the work); the ties are given (YtgdkpmfdpfjdjaaGreatDoorTie.lean); close each card by the builder's one call (the guide's Derived/Test/ToyasCard.lean, 'card_holds'). Laid BY PROGRAM, IN A SANDBOX (cutbox-door.mjs). By AI agents, Wed Nov 11 2026. No macro, syntax, notation, axiom, sorry.
-/
import Derived.Test.YtgdkpmfdpfjdjaaGreatDoorRows
import GoSem.ClaimSeven
namespace Go.Proofs.YtgdkpmfdpfjdjaaGreatDoor
namespace Rows

/-- THE TIED CARD OF 'mullionlaw23.OptionsNames'. -/
def optionsNamesCard : Claim7 := { stood := { row := optionsNamesRow, standIns := [], harness := (true, "41d68c5fd14b2b2350631eaddbb40312bce26180c4cd0cbe2db905db264a4bac"), looks := true }, kinds := [], alts := [], laidByText := true, laidKinds := [.data, .data, .data, .data, .sentinel, .sentinel, .wider, .data, .data, .pinned], laidTests := true, laidLooks := .later }
def OptionsNamesCardSaid : Prop := Claim7.holds Tryz.pinned (.plain (OpenSpec.ofChange optionsNamesSpec)) optionsNamesCard

/-- THE TIED CARD OF 'mullionlaw23.OptionsSets'. -/
def optionsSetsCard : Claim7 := { stood := { row := optionsSetsRow, standIns := [], harness := (true, "41d68c5fd14b2b2350631eaddbb40312bce26180c4cd0cbe2db905db264a4bac"), looks := true }, kinds := [], alts := [], laidByText := true, laidKinds := [.data, .data, .data, .data, .sentinel, .sentinel, .wider, .data, .data, .pinned], laidTests := true, laidLooks := .later }
def OptionsSetsCardSaid : Prop := Claim7.holds Tryz.pinned (.plain (OpenSpec.ofChange optionsSetsSpec)) optionsSetsCard

/-- THE TIED CARD OF 'mullionlaw23.OptionsAsks'. -/
def optionsAsksCard : Claim7 := { stood := { row := optionsAsksRow, standIns := [], harness := (true, "41d68c5fd14b2b2350631eaddbb40312bce26180c4cd0cbe2db905db264a4bac"), looks := true }, kinds := [], alts := [], laidByText := true, laidKinds := [.data, .data, .data, .data, .sentinel, .sentinel, .wider, .data, .data, .pinned], laidTests := true, laidLooks := .later }
def OptionsAsksCardSaid : Prop := Claim7.holds Tryz.pinned (.plain (OpenSpec.ofChange optionsAsksSpec)) optionsAsksCard

/-- THE TIED CARD OF 'mullionlaw23.OptionsAll'. -/
def optionsAllCard : Claim7 := { stood := { row := optionsAllRow, standIns := [], harness := (true, "41d68c5fd14b2b2350631eaddbb40312bce26180c4cd0cbe2db905db264a4bac"), looks := true }, kinds := [], alts := [], laidByText := true, laidKinds := [.data, .data, .data, .data, .sentinel, .sentinel, .wider, .data, .data, .pinned], laidTests := true, laidLooks := .later }
def OptionsAllCardSaid : Prop := Claim7.holds Tryz.pinned (.plain (OpenSpec.ofChange optionsAllSpec)) optionsAllCard

/-- THE SECOND FORM's CARD OF 'mullionlaw23.OptionsNames'. -/
def optionsNamesUptoCard : Claim7 := { stood := { row := optionsNamesUptoRow, standIns := [], harness := (true, "41d68c5fd14b2b2350631eaddbb40312bce26180c4cd0cbe2db905db264a4bac"), looks := true }, kinds := [], alts := [], laidByText := true, laidKinds := [.data, .data, .data, .data, .sentinel, .sentinel, .wider, .data, .data, .pinned], laidTests := true, laidLooks := .later }
def OptionsNamesUptoCardSaid : Prop := Claim7.holds Tryz.pinned (.plain (OpenSpec.upto optionsNamesSpec)) optionsNamesUptoCard

/-- THE SECOND FORM's CARD OF 'mullionlaw23.OptionsSets'. -/
def optionsSetsUptoCard : Claim7 := { stood := { row := optionsSetsUptoRow, standIns := [], harness := (true, "41d68c5fd14b2b2350631eaddbb40312bce26180c4cd0cbe2db905db264a4bac"), looks := true }, kinds := [], alts := [], laidByText := true, laidKinds := [.data, .data, .data, .data, .sentinel, .sentinel, .wider, .data, .data, .pinned], laidTests := true, laidLooks := .later }
def OptionsSetsUptoCardSaid : Prop := Claim7.holds Tryz.pinned (.plain (OpenSpec.upto optionsSetsSpec)) optionsSetsUptoCard

/-- THE SECOND FORM's CARD OF 'mullionlaw23.OptionsAsks'. -/
def optionsAsksUptoCard : Claim7 := { stood := { row := optionsAsksUptoRow, standIns := [], harness := (true, "41d68c5fd14b2b2350631eaddbb40312bce26180c4cd0cbe2db905db264a4bac"), looks := true }, kinds := [], alts := [], laidByText := true, laidKinds := [.data, .data, .data, .data, .sentinel, .sentinel, .wider, .data, .data, .pinned], laidTests := true, laidLooks := .later }
def OptionsAsksUptoCardSaid : Prop := Claim7.holds Tryz.pinned (.plain (OpenSpec.upto optionsAsksSpec)) optionsAsksUptoCard

/-- THE SECOND FORM's CARD OF 'mullionlaw23.OptionsAll'. -/
def optionsAllUptoCard : Claim7 := { stood := { row := optionsAllUptoRow, standIns := [], harness := (true, "41d68c5fd14b2b2350631eaddbb40312bce26180c4cd0cbe2db905db264a4bac"), looks := true }, kinds := [], alts := [], laidByText := true, laidKinds := [.data, .data, .data, .data, .sentinel, .sentinel, .wider, .data, .data, .pinned], laidTests := true, laidLooks := .later }
def OptionsAllUptoCardSaid : Prop := Claim7.holds Tryz.pinned (.plain (OpenSpec.upto optionsAllSpec)) optionsAllUptoCard
end Rows
end Go.Proofs.YtgdkpmfdpfjdjaaGreatDoor
