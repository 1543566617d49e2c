/-
  DERIVED. GIVEN WITH THE SEED: THE CARDS: each row of YtkdfpoficieknabDoorRows.lean that lists a variable, with what it lists TIED to the program's text (the seventh form; the later family's looks); each row that meets fmt, with fmt's text TOLD by the authors' own Lean function (tested against real Go, not proved from fmt's source: count such statements apart). THE CARD IS WHAT COUNTS. Prove the row's statement (the work); the ties are given (YtkdfpoficieknabDoorTie.lean); close each card by the builder's one call (the guide's Derived/Test/ToyasCard.lean, 'card_holds'). Laid BY PROGRAM, IN A SANDBOX (cutbox-door.mjs). By AI agents, Wed Nov 11 2026. No macro, syntax, notation, axiom, sorry.
-/
import Derived.Test.YtkdfpoficieknabDoorRows
import GoSem.ClaimSeven
namespace Go.Proofs.YtkdfpoficieknabDoor
namespace Rows

/-- THE TIED CARD OF 'mullionlaw01.OctalForth'. -/
def octalForthCard : Claim7 := { stood := { row := octalForthRow, standIns := [], harness := (true, "002b013184c4c4991c5953aa6c9dc7ff0764d88baeaa876287367446f3818219"), looks := true }, kinds := [], alts := [], laidByText := true, laidKinds := [.data], laidTests := true, laidLooks := .later }
def OctalForthCardSaid : Prop := Claim7.holds Tryd.pinned (.plain (OpenSpec.ofChange octalForthSpec)) octalForthCard

/-- THE TIED CARD OF 'mullionlaw01.OctalReads'. -/
def octalReadsCard : Claim7 := { stood := { row := octalReadsRow, standIns := [], harness := (true, "002b013184c4c4991c5953aa6c9dc7ff0764d88baeaa876287367446f3818219"), looks := true }, kinds := [], alts := [], laidByText := true, laidKinds := [.data], laidTests := true, laidLooks := .later }
def OctalReadsCardSaid : Prop := Claim7.holds Tryd.pinned (.plain (OpenSpec.ofChange octalReadsSpec)) octalReadsCard

/-- THE TIED CARD OF 'mullionlaw01.OctalNumbers'. -/
def octalNumbersCard : Claim7 := { stood := { row := octalNumbersRow, standIns := [], harness := (true, "002b013184c4c4991c5953aa6c9dc7ff0764d88baeaa876287367446f3818219"), looks := true }, kinds := [], alts := [], laidByText := true, laidKinds := [.data, .data, .data, .sentinel, .sentinel], laidTests := true, laidLooks := .later }
def OctalNumbersCardSaid : Prop := Claim7.holds Tryd.pinned (.plain (OpenSpec.ofChange octalNumbersSpec)) octalNumbersCard

/-- THE TIED CARD OF 'mullionlaw01.OctalCounts'. -/
def octalCountsCard : Claim7 := { stood := { row := octalCountsRow, standIns := [], harness := (true, "002b013184c4c4991c5953aa6c9dc7ff0764d88baeaa876287367446f3818219"), looks := true }, kinds := [], alts := [], laidByText := true, laidKinds := [.data, .data, .data, .sentinel, .sentinel], laidTests := true, laidLooks := .later }
def OctalCountsCardSaid : Prop := Claim7.holds Tryd.pinned (.plain (OpenSpec.ofChange octalCountsSpec)) octalCountsCard

/-- THE TIED CARD OF 'mullionlaw01.OctalIds'. -/
def octalIdsCard : Claim7 := { stood := { row := octalIdsRow, standIns := [], harness := (true, "002b013184c4c4991c5953aa6c9dc7ff0764d88baeaa876287367446f3818219"), looks := true }, kinds := [], alts := [], laidByText := true, laidKinds := [.data, .data, .data, .sentinel, .sentinel], laidTests := true, laidLooks := .later }
def OctalIdsCardSaid : Prop := Claim7.holds Tryd.pinned (.plain (OpenSpec.ofChange octalIdsSpec)) octalIdsCard

/-- THE SECOND FORM's CARD OF 'mullionlaw01.OctalForth'. -/
def octalForthUptoCard : Claim7 := { stood := { row := octalForthUptoRow, standIns := [], harness := (true, "002b013184c4c4991c5953aa6c9dc7ff0764d88baeaa876287367446f3818219"), looks := true }, kinds := [], alts := [], laidByText := true, laidKinds := [.data], laidTests := true, laidLooks := .later }
def OctalForthUptoCardSaid : Prop := Claim7.holds Tryd.pinned (.plain (OpenSpec.upto octalForthSpec)) octalForthUptoCard

/-- THE SECOND FORM's CARD OF 'mullionlaw01.OctalReads'. -/
def octalReadsUptoCard : Claim7 := { stood := { row := octalReadsUptoRow, standIns := [], harness := (true, "002b013184c4c4991c5953aa6c9dc7ff0764d88baeaa876287367446f3818219"), looks := true }, kinds := [], alts := [], laidByText := true, laidKinds := [.data], laidTests := true, laidLooks := .later }
def OctalReadsUptoCardSaid : Prop := Claim7.holds Tryd.pinned (.plain (OpenSpec.upto octalReadsSpec)) octalReadsUptoCard

/-- THE SECOND FORM's CARD OF 'mullionlaw01.OctalNumbers'. -/
def octalNumbersUptoCard : Claim7 := { stood := { row := octalNumbersUptoRow, standIns := [], harness := (true, "002b013184c4c4991c5953aa6c9dc7ff0764d88baeaa876287367446f3818219"), looks := true }, kinds := [], alts := [], laidByText := true, laidKinds := [.data, .data, .data, .sentinel, .sentinel], laidTests := true, laidLooks := .later }
def OctalNumbersUptoCardSaid : Prop := Claim7.holds Tryd.pinned (.plain (OpenSpec.upto octalNumbersSpec)) octalNumbersUptoCard

/-- THE SECOND FORM's CARD OF 'mullionlaw01.OctalCounts'. -/
def octalCountsUptoCard : Claim7 := { stood := { row := octalCountsUptoRow, standIns := [], harness := (true, "002b013184c4c4991c5953aa6c9dc7ff0764d88baeaa876287367446f3818219"), looks := true }, kinds := [], alts := [], laidByText := true, laidKinds := [.data, .data, .data, .sentinel, .sentinel], laidTests := true, laidLooks := .later }
def OctalCountsUptoCardSaid : Prop := Claim7.holds Tryd.pinned (.plain (OpenSpec.upto octalCountsSpec)) octalCountsUptoCard

/-- THE SECOND FORM's CARD OF 'mullionlaw01.OctalIds'. -/
def octalIdsUptoCard : Claim7 := { stood := { row := octalIdsUptoRow, standIns := [], harness := (true, "002b013184c4c4991c5953aa6c9dc7ff0764d88baeaa876287367446f3818219"), looks := true }, kinds := [], alts := [], laidByText := true, laidKinds := [.data, .data, .data, .sentinel, .sentinel], laidTests := true, laidLooks := .later }
def OctalIdsUptoCardSaid : Prop := Claim7.holds Tryd.pinned (.plain (OpenSpec.upto octalIdsSpec)) octalIdsUptoCard
end Rows
end Go.Proofs.YtkdfpoficieknabDoor
