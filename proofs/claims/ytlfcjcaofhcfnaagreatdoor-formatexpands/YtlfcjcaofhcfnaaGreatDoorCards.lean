/-
  DERIVED. GIVEN WITH THE SEED: THE CARDS: each row of YtlfcjcaofhcfnaaGreatDoorRows.lean that lists a variable, with what it lists TIED to the program's text (the seventh form; the later family's looks); each row that meets fmt, with fmt's text TOLD by the authors' own Lean function (tested against real Go, not proved from fmt's source: count such statements apart). THE CARD IS WHAT COUNTS. Prove the row's statement (the work); the ties are given (YtlfcjcaofhcfnaaGreatDoorTie.lean); close each card by the builder's one call (the guide's Derived/Test/ToyasCard.lean, 'card_holds'). Laid BY PROGRAM, IN A SANDBOX (cutbox-door.mjs). By AI agents, Wed Nov 11 2026. No macro, syntax, notation, axiom, sorry.
-/
import Derived.Test.YtlfcjcaofhcfnaaGreatDoorRows
import GoSem.ClaimSeven
namespace Go.Proofs.YtlfcjcaofhcfnaaGreatDoor
namespace Rows

/-- THE TIED CARD OF 'mullionlaw10.FormatExpands'. -/
def formatExpandsCard : Claim7 := { stood := { row := formatExpandsRow, standIns := [], harness := (true, "5c22a909864e262ffe3bc7719aff71bcd4d1a4baf7222b3ce4ce2222fcfe1f72"), looks := true }, kinds := [], alts := [], laidByText := true, laidKinds := [.data, .data, .data, .data, .handle, .sentinel, .sentinel, .pinned], laidTests := true, laidLooks := .later }
def FormatExpandsCardSaid : Prop := Claim7.holds Tryz.pinned (.plain (OpenSpec.ofChange formatExpandsSpec)) formatExpandsCard

/-- THE SECOND FORM's CARD OF 'mullionlaw10.FormatExpands'. -/
def formatExpandsUptoCard : Claim7 := { stood := { row := formatExpandsUptoRow, standIns := [], harness := (true, "5c22a909864e262ffe3bc7719aff71bcd4d1a4baf7222b3ce4ce2222fcfe1f72"), looks := true }, kinds := [], alts := [], laidByText := true, laidKinds := [.data, .data, .data, .data, .handle, .sentinel, .sentinel, .pinned], laidTests := true, laidLooks := .later }
def FormatExpandsUptoCardSaid : Prop := Claim7.holds Tryz.pinned (.plain (OpenSpec.upto formatExpandsSpec)) formatExpandsUptoCard
end Rows
end Go.Proofs.YtlfcjcaofhcfnaaGreatDoor
