/-
  DERIVED. GIVEN WITH THE SEED: THE CARDS: each row of YtpfhhpmoagmhhaaGreatDoorRows.lean that lists a variable, with what it lists TIED to the program's text (the seventh form; the later family's looks); each row that meets fmt, with fmt's text TOLD by the authors' own Lean function (tested against real Go, not proved from fmt's source: count such statements apart). THE CARD IS WHAT COUNTS. Prove the row's statement (the work); the ties are given (YtpfhhpmoagmhhaaGreatDoorTie.lean); close each card by the builder's one call (the guide's Derived/Test/ToyasCard.lean, 'card_holds'). Laid BY PROGRAM, IN A SANDBOX (cutbox-door.mjs). By AI agents, Wed Nov 11 2026. No macro, syntax, notation, axiom, sorry.
-/
import Derived.Test.YtpfhhpmoagmhhaaGreatDoorRows
import GoSem.ClaimSeven
namespace Go.Proofs.YtpfhhpmoagmhhaaGreatDoor
namespace Rows

/-- THE TIED CARD OF 'mullionlaw10.FormatSums'. -/
def formatSumsCard : Claim7 := { stood := { row := formatSumsRow, standIns := [], harness := (true, "e4bcbb7061d0f77d4d079b26e15be7a29b69fbbfaad583af19e0ace511398734"), looks := true }, kinds := [], alts := [], laidByText := true, laidKinds := [.data, .data, .data, .data, .handle, .sentinel, .sentinel, .pinned], laidTests := true, laidLooks := .later }
def FormatSumsCardSaid : Prop := Claim7.holds Tryz.pinned (.plain (OpenSpec.ofChange formatSumsSpec)) formatSumsCard

/-- THE TIED CARD OF 'mullionlaw10.FormatBeside'. -/
def formatBesideCard : Claim7 := { stood := { row := formatBesideRow, standIns := [], harness := (true, "e4bcbb7061d0f77d4d079b26e15be7a29b69fbbfaad583af19e0ace511398734"), looks := true }, kinds := [], alts := [], laidByText := true, laidKinds := [.data, .data, .data, .data, .handle, .sentinel, .sentinel, .pinned], laidTests := true, laidLooks := .later }
def FormatBesideCardSaid : Prop := Claim7.holds Tryz.pinned (.plain (OpenSpec.ofChange formatBesideSpec)) formatBesideCard

/-- THE TIED CARD OF 'mullionlaw10.FormatAsked'. -/
def formatAskedCard : Claim7 := { stood := { row := formatAskedRow, standIns := [], harness := (true, "e4bcbb7061d0f77d4d079b26e15be7a29b69fbbfaad583af19e0ace511398734"), looks := true }, kinds := [], alts := [], laidByText := true, laidKinds := [.data, .data, .data, .data, .handle, .sentinel, .sentinel, .pinned], laidTests := true, laidLooks := .later }
def FormatAskedCardSaid : Prop := Claim7.holds Tryz.pinned (.plain (OpenSpec.ofChange formatAskedSpec)) formatAskedCard

/-- THE TIED CARD OF 'mullionlaw10.FormatExpands'. -/
def formatExpandsCard : Claim7 := { stood := { row := formatExpandsRow, standIns := [], harness := (true, "e4bcbb7061d0f77d4d079b26e15be7a29b69fbbfaad583af19e0ace511398734"), looks := true }, kinds := [], alts := [], laidByText := true, laidKinds := [.data, .data, .data, .data, .handle, .sentinel, .sentinel, .pinned], laidTests := true, laidLooks := .later }
def FormatExpandsCardSaid : Prop := Claim7.holds Tryz.pinned (.plain (OpenSpec.ofChange formatExpandsSpec)) formatExpandsCard

/-- THE SECOND FORM's CARD OF 'mullionlaw10.FormatSums'. -/
def formatSumsUptoCard : Claim7 := { stood := { row := formatSumsUptoRow, standIns := [], harness := (true, "e4bcbb7061d0f77d4d079b26e15be7a29b69fbbfaad583af19e0ace511398734"), looks := true }, kinds := [], alts := [], laidByText := true, laidKinds := [.data, .data, .data, .data, .handle, .sentinel, .sentinel, .pinned], laidTests := true, laidLooks := .later }
def FormatSumsUptoCardSaid : Prop := Claim7.holds Tryz.pinned (.plain (OpenSpec.upto formatSumsSpec)) formatSumsUptoCard

/-- THE SECOND FORM's CARD OF 'mullionlaw10.FormatBeside'. -/
def formatBesideUptoCard : Claim7 := { stood := { row := formatBesideUptoRow, standIns := [], harness := (true, "e4bcbb7061d0f77d4d079b26e15be7a29b69fbbfaad583af19e0ace511398734"), looks := true }, kinds := [], alts := [], laidByText := true, laidKinds := [.data, .data, .data, .data, .handle, .sentinel, .sentinel, .pinned], laidTests := true, laidLooks := .later }
def FormatBesideUptoCardSaid : Prop := Claim7.holds Tryz.pinned (.plain (OpenSpec.upto formatBesideSpec)) formatBesideUptoCard

/-- THE SECOND FORM's CARD OF 'mullionlaw10.FormatAsked'. -/
def formatAskedUptoCard : Claim7 := { stood := { row := formatAskedUptoRow, standIns := [], harness := (true, "e4bcbb7061d0f77d4d079b26e15be7a29b69fbbfaad583af19e0ace511398734"), looks := true }, kinds := [], alts := [], laidByText := true, laidKinds := [.data, .data, .data, .data, .handle, .sentinel, .sentinel, .pinned], laidTests := true, laidLooks := .later }
def FormatAskedUptoCardSaid : Prop := Claim7.holds Tryz.pinned (.plain (OpenSpec.upto formatAskedSpec)) formatAskedUptoCard

/-- THE SECOND FORM's CARD OF 'mullionlaw10.FormatExpands'. -/
def formatExpandsUptoCard : Claim7 := { stood := { row := formatExpandsUptoRow, standIns := [], harness := (true, "e4bcbb7061d0f77d4d079b26e15be7a29b69fbbfaad583af19e0ace511398734"), looks := true }, kinds := [], alts := [], laidByText := true, laidKinds := [.data, .data, .data, .data, .handle, .sentinel, .sentinel, .pinned], laidTests := true, laidLooks := .later }
def FormatExpandsUptoCardSaid : Prop := Claim7.holds Tryz.pinned (.plain (OpenSpec.upto formatExpandsSpec)) formatExpandsUptoCard
end Rows
end Go.Proofs.YtpfhhpmoagmhhaaGreatDoor
