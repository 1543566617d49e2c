/-
  DERIVED. GIVEN WITH THE SEED: THE CARDS: each row of YtplolaondmeccaaGreatDoorRows.lean that lists a variable, with what it lists TIED to the program's text (the seventh form; the later family's looks); each row that meets fmt, with fmt's text TOLD by the authors' own Lean function (tested against real Go, not proved from fmt's source: count such statements apart). THE CARD IS WHAT COUNTS. Prove the row's statement (the work); the ties are given (YtplolaondmeccaaGreatDoorTie.lean); close each card by the builder's one call (the guide's Derived/Test/ToyasCard.lean, 'card_holds'). Laid BY PROGRAM, IN A SANDBOX (cutbox-door.mjs). By AI agents, Wed Nov 11 2026. No macro, syntax, notation, axiom, sorry.
-/
import Derived.Test.YtplolaondmeccaaGreatDoorRows
import GoSem.ClaimSeven
namespace Go.Proofs.YtplolaondmeccaaGreatDoor
namespace Rows

/-- THE TIED CARD OF 'mullionlaw03.WirePrefix'. -/
def wirePrefixCard : Claim7 := { stood := { row := wirePrefixRow, standIns := [], harness := (true, "a7d6479071672bc3a4e5300098cd0cad313f2ddf34ac42d42f603a2e9c924665"), looks := true }, kinds := [], alts := [], laidByText := true, laidKinds := [.data, .data, .data, .data, .sentinel, .sentinel, .listed, .data, .data, .data, .pinned], laidTests := true, laidLooks := .later }
def WirePrefixCardSaid : Prop := Claim7.holds Tryz.pinned (.plain (OpenSpec.ofChange wirePrefixSpec)) wirePrefixCard

/-- THE TIED CARD OF 'mullionlaw03.WireMade'. -/
def wireMadeCard : Claim7 := { stood := { row := wireMadeRow, standIns := [], harness := (true, "a7d6479071672bc3a4e5300098cd0cad313f2ddf34ac42d42f603a2e9c924665"), looks := true }, kinds := [], alts := [], laidByText := true, laidKinds := [.data, .data, .data, .data, .sentinel, .sentinel, .listed, .data, .data, .data, .pinned], laidTests := true, laidLooks := .later }
def WireMadeCardSaid : Prop := Claim7.holds Tryz.pinned (.plain (OpenSpec.ofChange wireMadeSpec)) wireMadeCard

/-- THE TIED CARD OF 'mullionlaw03.WireWords'. -/
def wireWordsCard : Claim7 := { stood := { row := wireWordsRow, standIns := [], harness := (true, "a7d6479071672bc3a4e5300098cd0cad313f2ddf34ac42d42f603a2e9c924665"), looks := true }, kinds := [], alts := [], laidByText := true, laidKinds := [.data, .data, .data, .data, .sentinel, .sentinel, .listed, .data, .data, .data, .pinned], laidTests := true, laidLooks := .later }
def WireWordsCardSaid : Prop := Claim7.holds Tryz.pinned (.plain (OpenSpec.ofChange wireWordsSpec)) wireWordsCard

/-- THE SECOND FORM's CARD OF 'mullionlaw03.WirePrefix'. -/
def wirePrefixUptoCard : Claim7 := { stood := { row := wirePrefixUptoRow, standIns := [], harness := (true, "a7d6479071672bc3a4e5300098cd0cad313f2ddf34ac42d42f603a2e9c924665"), looks := true }, kinds := [], alts := [], laidByText := true, laidKinds := [.data, .data, .data, .data, .sentinel, .sentinel, .listed, .data, .data, .data, .pinned], laidTests := true, laidLooks := .later }
def WirePrefixUptoCardSaid : Prop := Claim7.holds Tryz.pinned (.plain (OpenSpec.upto wirePrefixSpec)) wirePrefixUptoCard

/-- THE SECOND FORM's CARD OF 'mullionlaw03.WireMade'. -/
def wireMadeUptoCard : Claim7 := { stood := { row := wireMadeUptoRow, standIns := [], harness := (true, "a7d6479071672bc3a4e5300098cd0cad313f2ddf34ac42d42f603a2e9c924665"), looks := true }, kinds := [], alts := [], laidByText := true, laidKinds := [.data, .data, .data, .data, .sentinel, .sentinel, .listed, .data, .data, .data, .pinned], laidTests := true, laidLooks := .later }
def WireMadeUptoCardSaid : Prop := Claim7.holds Tryz.pinned (.plain (OpenSpec.upto wireMadeSpec)) wireMadeUptoCard

/-- THE SECOND FORM's CARD OF 'mullionlaw03.WireWords'. -/
def wireWordsUptoCard : Claim7 := { stood := { row := wireWordsUptoRow, standIns := [], harness := (true, "a7d6479071672bc3a4e5300098cd0cad313f2ddf34ac42d42f603a2e9c924665"), looks := true }, kinds := [], alts := [], laidByText := true, laidKinds := [.data, .data, .data, .data, .sentinel, .sentinel, .listed, .data, .data, .data, .pinned], laidTests := true, laidLooks := .later }
def WireWordsUptoCardSaid : Prop := Claim7.holds Tryz.pinned (.plain (OpenSpec.upto wireWordsSpec)) wireWordsUptoCard
end Rows
end Go.Proofs.YtplolaondmeccaaGreatDoor
