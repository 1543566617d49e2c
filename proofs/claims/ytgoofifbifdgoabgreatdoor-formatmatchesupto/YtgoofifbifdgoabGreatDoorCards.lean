/-
  DERIVED. GIVEN WITH THE SEED: THE CARDS: each row of YtgoofifbifdgoabGreatDoorRows.lean that lists a variable, with what it lists TIED to the program's text (the seventh form; the later family's looks); each row that meets fmt, with fmt's text TOLD by the authors' own Lean function (tested against real Go, not proved from fmt's source: count such statements apart). THE CARD IS WHAT COUNTS. Prove the row's statement (the work); the ties are given (YtgoofifbifdgoabGreatDoorTie.lean); close each card by the builder's one call (the guide's Derived/Test/ToyasCard.lean, 'card_holds'). Laid BY PROGRAM, IN A SANDBOX (cutbox-door.mjs). By AI agents, Wed Nov 11 2026. No macro, syntax, notation, axiom, sorry.
-/
import Derived.Test.YtgoofifbifdgoabGreatDoorRows
import GoSem.ClaimSeven
namespace Go.Proofs.YtgoofifbifdgoabGreatDoor
namespace Rows

/-- THE TIED CARD OF 'mullionlaw10.FormatDeep'. -/
def formatDeepCard : Claim7 := { stood := { row := formatDeepRow, standIns := [], harness := (true, "5115f0ceb2e16a128cfaf412ab4a5956367b3ca9ba18ed12536040aa1b7f13b3"), looks := true }, kinds := [], alts := [], laidByText := true, laidKinds := [.data, .data, .data, .data, .handle, .sentinel, .sentinel, .pinned], laidTests := true, laidLooks := .later }
def FormatDeepCardSaid : Prop := Claim7.holds Tryz.pinned (.plain (OpenSpec.ofChange formatDeepSpec)) formatDeepCard

/-- THE TIED CARD OF 'mullionlaw10.FormatAsked'. -/
def formatAskedCard : Claim7 := { stood := { row := formatAskedRow, standIns := [], harness := (true, "5115f0ceb2e16a128cfaf412ab4a5956367b3ca9ba18ed12536040aa1b7f13b3"), looks := true }, kinds := [], alts := [], laidByText := true, laidKinds := [.data, .data, .data, .data, .handle, .sentinel, .sentinel, .pinned], laidTests := true, laidLooks := .later }
def FormatAskedCardSaid : Prop := Claim7.holds Tryz.pinned (.plain (OpenSpec.ofChange formatAskedSpec)) formatAskedCard

/-- THE TIED CARD OF 'mullionlaw10.FormatMatches'. -/
def formatMatchesCard : Claim7 := { stood := { row := formatMatchesRow, standIns := [], harness := (true, "5115f0ceb2e16a128cfaf412ab4a5956367b3ca9ba18ed12536040aa1b7f13b3"), looks := true }, kinds := [], alts := [], laidByText := true, laidKinds := [.data, .data, .data, .data, .handle, .sentinel, .sentinel, .pinned], laidTests := true, laidLooks := .later }
def FormatMatchesCardSaid : Prop := Claim7.holds Tryz.pinned (.plain (OpenSpec.ofChange formatMatchesSpec)) formatMatchesCard

/-- THE TIED CARD OF 'mullionlaw10.FormatExpands'. -/
def formatExpandsCard : Claim7 := { stood := { row := formatExpandsRow, standIns := [], harness := (true, "5115f0ceb2e16a128cfaf412ab4a5956367b3ca9ba18ed12536040aa1b7f13b3"), looks := true }, kinds := [], alts := [], laidByText := true, laidKinds := [.data, .data, .data, .data, .handle, .sentinel, .sentinel, .pinned], laidTests := true, laidLooks := .later }
def FormatExpandsCardSaid : Prop := Claim7.holds Tryz.pinned (.plain (OpenSpec.ofChange formatExpandsSpec)) formatExpandsCard

/-- THE SECOND FORM's CARD OF 'mullionlaw10.FormatDeep'. -/
def formatDeepUptoCard : Claim7 := { stood := { row := formatDeepUptoRow, standIns := [], harness := (true, "5115f0ceb2e16a128cfaf412ab4a5956367b3ca9ba18ed12536040aa1b7f13b3"), looks := true }, kinds := [], alts := [], laidByText := true, laidKinds := [.data, .data, .data, .data, .handle, .sentinel, .sentinel, .pinned], laidTests := true, laidLooks := .later }
def FormatDeepUptoCardSaid : Prop := Claim7.holds Tryz.pinned (.plain (OpenSpec.upto formatDeepSpec)) formatDeepUptoCard

/-- THE SECOND FORM's CARD OF 'mullionlaw10.FormatAsked'. -/
def formatAskedUptoCard : Claim7 := { stood := { row := formatAskedUptoRow, standIns := [], harness := (true, "5115f0ceb2e16a128cfaf412ab4a5956367b3ca9ba18ed12536040aa1b7f13b3"), looks := true }, kinds := [], alts := [], laidByText := true, laidKinds := [.data, .data, .data, .data, .handle, .sentinel, .sentinel, .pinned], laidTests := true, laidLooks := .later }
def FormatAskedUptoCardSaid : Prop := Claim7.holds Tryz.pinned (.plain (OpenSpec.upto formatAskedSpec)) formatAskedUptoCard

/-- THE SECOND FORM's CARD OF 'mullionlaw10.FormatMatches'. -/
def formatMatchesUptoCard : Claim7 := { stood := { row := formatMatchesUptoRow, standIns := [], harness := (true, "5115f0ceb2e16a128cfaf412ab4a5956367b3ca9ba18ed12536040aa1b7f13b3"), looks := true }, kinds := [], alts := [], laidByText := true, laidKinds := [.data, .data, .data, .data, .handle, .sentinel, .sentinel, .pinned], laidTests := true, laidLooks := .later }
def FormatMatchesUptoCardSaid : Prop := Claim7.holds Tryz.pinned (.plain (OpenSpec.upto formatMatchesSpec)) formatMatchesUptoCard

/-- THE SECOND FORM's CARD OF 'mullionlaw10.FormatExpands'. -/
def formatExpandsUptoCard : Claim7 := { stood := { row := formatExpandsUptoRow, standIns := [], harness := (true, "5115f0ceb2e16a128cfaf412ab4a5956367b3ca9ba18ed12536040aa1b7f13b3"), looks := true }, kinds := [], alts := [], laidByText := true, laidKinds := [.data, .data, .data, .data, .handle, .sentinel, .sentinel, .pinned], laidTests := true, laidLooks := .later }
def FormatExpandsUptoCardSaid : Prop := Claim7.holds Tryz.pinned (.plain (OpenSpec.upto formatExpandsSpec)) formatExpandsUptoCard
end Rows
end Go.Proofs.YtgoofifbifdgoabGreatDoor
