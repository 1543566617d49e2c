/-
  DERIVED. GIVEN WITH THE SEED: THE CARDS: each row of YtgoofifbifdgoaaGreatDoorRows.lean that lists a variable, with what it lists TIED to the program's text (the seventh form; the later family's looks); each row that meets fmt, with fmt's text TOLD by the authors' own Lean function (tested against real Go, not proved from fmt's source: count such statements apart). THE CARD IS WHAT COUNTS. Prove the row's statement (the work); the ties are given (YtgoofifbifdgoaaGreatDoorTie.lean); close each card by the builder's one call (the guide's Derived/Test/ToyasCard.lean, 'card_holds'). Laid BY PROGRAM, IN A SANDBOX (cutbox-door.mjs). By AI agents, Wed Nov 11 2026. No macro, syntax, notation, axiom, sorry.
-/
import Derived.Test.YtgoofifbifdgoaaGreatDoorRows
import GoSem.ClaimSeven
namespace Go.Proofs.YtgoofifbifdgoaaGreatDoor
namespace Rows

/-- THE TIED CARD OF 'mullionlaw10.FormatExact'. -/
def formatExactCard : Claim7 := { stood := { row := formatExactRow, standIns := [], harness := (true, "ca5ccb49adef65df604f8cfc0b9ed9230d06273ff8dfdfb3698d6d94c8ffe3ff"), looks := true }, kinds := [], alts := [], laidByText := true, laidKinds := [.data, .data, .data, .data, .handle, .sentinel, .sentinel, .pinned], laidTests := true, laidLooks := .later }
def FormatExactCardSaid : Prop := Claim7.holds Tryz.pinned (.plain (OpenSpec.ofChange formatExactSpec)) formatExactCard

/-- THE TIED CARD OF 'mullionlaw10.FormatSums'. -/
def formatSumsCard : Claim7 := { stood := { row := formatSumsRow, standIns := [], harness := (true, "ca5ccb49adef65df604f8cfc0b9ed9230d06273ff8dfdfb3698d6d94c8ffe3ff"), looks := true }, kinds := [], alts := [], laidByText := true, laidKinds := [.data, .data, .data, .data, .handle, .sentinel, .sentinel, .pinned], laidTests := true, laidLooks := .later }
def FormatSumsCardSaid : Prop := Claim7.holds Tryz.pinned (.plain (OpenSpec.ofChange formatSumsSpec)) formatSumsCard

/-- THE TIED CARD OF 'mullionlaw10.FormatTruths'. -/
def formatTruthsCard : Claim7 := { stood := { row := formatTruthsRow, standIns := [], harness := (true, "ca5ccb49adef65df604f8cfc0b9ed9230d06273ff8dfdfb3698d6d94c8ffe3ff"), looks := true }, kinds := [], alts := [], laidByText := true, laidKinds := [.data, .data, .data, .data, .handle, .sentinel, .sentinel, .pinned], laidTests := true, laidLooks := .later }
def FormatTruthsCardSaid : Prop := Claim7.holds Tryz.pinned (.plain (OpenSpec.ofChange formatTruthsSpec)) formatTruthsCard

/-- THE TIED CARD OF 'mullionlaw10.FormatItself'. -/
def formatItselfCard : Claim7 := { stood := { row := formatItselfRow, standIns := [], harness := (true, "ca5ccb49adef65df604f8cfc0b9ed9230d06273ff8dfdfb3698d6d94c8ffe3ff"), looks := true }, kinds := [], alts := [], laidByText := true, laidKinds := [.data, .data, .data, .data, .handle, .sentinel, .sentinel, .pinned], laidTests := true, laidLooks := .later }
def FormatItselfCardSaid : Prop := Claim7.holds Tryz.pinned (.plain (OpenSpec.ofChange formatItselfSpec)) formatItselfCard

/-- THE TIED CARD OF 'mullionlaw10.FormatChosen'. -/
def formatChosenCard : Claim7 := { stood := { row := formatChosenRow, standIns := [], harness := (true, "ca5ccb49adef65df604f8cfc0b9ed9230d06273ff8dfdfb3698d6d94c8ffe3ff"), looks := true }, kinds := [], alts := [], laidByText := true, laidKinds := [.data, .data, .data, .data, .handle, .sentinel, .sentinel, .pinned], laidTests := true, laidLooks := .later }
def FormatChosenCardSaid : Prop := Claim7.holds Tryz.pinned (.plain (OpenSpec.ofChange formatChosenSpec)) formatChosenCard

/-- THE TIED CARD OF 'mullionlaw10.FormatBeside'. -/
def formatBesideCard : Claim7 := { stood := { row := formatBesideRow, standIns := [], harness := (true, "ca5ccb49adef65df604f8cfc0b9ed9230d06273ff8dfdfb3698d6d94c8ffe3ff"), looks := true }, kinds := [], alts := [], laidByText := true, laidKinds := [.data, .data, .data, .data, .handle, .sentinel, .sentinel, .pinned], laidTests := true, laidLooks := .later }
def FormatBesideCardSaid : Prop := Claim7.holds Tryz.pinned (.plain (OpenSpec.ofChange formatBesideSpec)) formatBesideCard

/-- THE SECOND FORM's CARD OF 'mullionlaw10.FormatExact'. -/
def formatExactUptoCard : Claim7 := { stood := { row := formatExactUptoRow, standIns := [], harness := (true, "ca5ccb49adef65df604f8cfc0b9ed9230d06273ff8dfdfb3698d6d94c8ffe3ff"), looks := true }, kinds := [], alts := [], laidByText := true, laidKinds := [.data, .data, .data, .data, .handle, .sentinel, .sentinel, .pinned], laidTests := true, laidLooks := .later }
def FormatExactUptoCardSaid : Prop := Claim7.holds Tryz.pinned (.plain (OpenSpec.upto formatExactSpec)) formatExactUptoCard

/-- THE SECOND FORM's CARD OF 'mullionlaw10.FormatSums'. -/
def formatSumsUptoCard : Claim7 := { stood := { row := formatSumsUptoRow, standIns := [], harness := (true, "ca5ccb49adef65df604f8cfc0b9ed9230d06273ff8dfdfb3698d6d94c8ffe3ff"), looks := true }, kinds := [], alts := [], laidByText := true, laidKinds := [.data, .data, .data, .data, .handle, .sentinel, .sentinel, .pinned], laidTests := true, laidLooks := .later }
def FormatSumsUptoCardSaid : Prop := Claim7.holds Tryz.pinned (.plain (OpenSpec.upto formatSumsSpec)) formatSumsUptoCard

/-- THE SECOND FORM's CARD OF 'mullionlaw10.FormatTruths'. -/
def formatTruthsUptoCard : Claim7 := { stood := { row := formatTruthsUptoRow, standIns := [], harness := (true, "ca5ccb49adef65df604f8cfc0b9ed9230d06273ff8dfdfb3698d6d94c8ffe3ff"), looks := true }, kinds := [], alts := [], laidByText := true, laidKinds := [.data, .data, .data, .data, .handle, .sentinel, .sentinel, .pinned], laidTests := true, laidLooks := .later }
def FormatTruthsUptoCardSaid : Prop := Claim7.holds Tryz.pinned (.plain (OpenSpec.upto formatTruthsSpec)) formatTruthsUptoCard

/-- THE SECOND FORM's CARD OF 'mullionlaw10.FormatItself'. -/
def formatItselfUptoCard : Claim7 := { stood := { row := formatItselfUptoRow, standIns := [], harness := (true, "ca5ccb49adef65df604f8cfc0b9ed9230d06273ff8dfdfb3698d6d94c8ffe3ff"), looks := true }, kinds := [], alts := [], laidByText := true, laidKinds := [.data, .data, .data, .data, .handle, .sentinel, .sentinel, .pinned], laidTests := true, laidLooks := .later }
def FormatItselfUptoCardSaid : Prop := Claim7.holds Tryz.pinned (.plain (OpenSpec.upto formatItselfSpec)) formatItselfUptoCard

/-- THE SECOND FORM's CARD OF 'mullionlaw10.FormatChosen'. -/
def formatChosenUptoCard : Claim7 := { stood := { row := formatChosenUptoRow, standIns := [], harness := (true, "ca5ccb49adef65df604f8cfc0b9ed9230d06273ff8dfdfb3698d6d94c8ffe3ff"), looks := true }, kinds := [], alts := [], laidByText := true, laidKinds := [.data, .data, .data, .data, .handle, .sentinel, .sentinel, .pinned], laidTests := true, laidLooks := .later }
def FormatChosenUptoCardSaid : Prop := Claim7.holds Tryz.pinned (.plain (OpenSpec.upto formatChosenSpec)) formatChosenUptoCard

/-- THE SECOND FORM's CARD OF 'mullionlaw10.FormatBeside'. -/
def formatBesideUptoCard : Claim7 := { stood := { row := formatBesideUptoRow, standIns := [], harness := (true, "ca5ccb49adef65df604f8cfc0b9ed9230d06273ff8dfdfb3698d6d94c8ffe3ff"), looks := true }, kinds := [], alts := [], laidByText := true, laidKinds := [.data, .data, .data, .data, .handle, .sentinel, .sentinel, .pinned], laidTests := true, laidLooks := .later }
def FormatBesideUptoCardSaid : Prop := Claim7.holds Tryz.pinned (.plain (OpenSpec.upto formatBesideSpec)) formatBesideUptoCard
end Rows
end Go.Proofs.YtgoofifbifdgoaaGreatDoor
