/-
  DERIVED. GIVEN WITH THE SEED: THE CARDS: each row of YtcgpgnifaeikeaaGreatDoorRows.lean that lists a variable, with what it lists TIED to the program's text (the seventh form; the later family's looks); each row that meets fmt, with fmt's text TOLD by the authors' own Lean function (tested against real Go, not proved from fmt's source: count such statements apart). THE CARD IS WHAT COUNTS. Prove the row's statement (the work); the ties are given (YtcgpgnifaeikeaaGreatDoorTie.lean); close each card by the builder's one call (the guide's Derived/Test/ToyasCard.lean, 'card_holds'). Laid BY PROGRAM, IN A SANDBOX (cutbox-door.mjs). By AI agents, Wed Nov 11 2026. No macro, syntax, notation, axiom, sorry.
-/
import Derived.Test.YtcgpgnifaeikeaaGreatDoorRows
import GoSem.ClaimSeven
namespace Go.Proofs.YtcgpgnifaeikeaaGreatDoor
namespace Rows

/-- THE TIED CARD OF 'mullionlaw03.WireOne'. -/
def wireOneCard : Claim7 := { stood := { row := wireOneRow, standIns := [], harness := (true, "73c9569dea5d9722a5c3c38fee3ab48ab7402809dd783e5094a84ef3991d450d"), looks := true }, kinds := [], alts := [], laidByText := true, laidKinds := [.data, .data, .data, .data, .sentinel, .sentinel, .data, .data, .pinned], laidTests := true, laidLooks := .later }
def WireOneCardSaid : Prop := Claim7.holds Tryz.pinned (.plain (OpenSpec.ofChange wireOneSpec)) wireOneCard

/-- THE TIED CARD OF 'mullionlaw03.WireBack'. -/
def wireBackCard : Claim7 := { stood := { row := wireBackRow, standIns := [], harness := (true, "73c9569dea5d9722a5c3c38fee3ab48ab7402809dd783e5094a84ef3991d450d"), looks := true }, kinds := [], alts := [], laidByText := true, laidKinds := [.data, .data, .data, .data, .sentinel, .sentinel, .data, .data, .pinned], laidTests := true, laidLooks := .later }
def WireBackCardSaid : Prop := Claim7.holds Tryz.pinned (.plain (OpenSpec.ofChange wireBackSpec)) wireBackCard

/-- THE TIED CARD OF 'mullionlaw03.WireForged'. -/
def wireForgedCard : Claim7 := { stood := { row := wireForgedRow, standIns := [], harness := (true, "73c9569dea5d9722a5c3c38fee3ab48ab7402809dd783e5094a84ef3991d450d"), looks := true }, kinds := [], alts := [], laidByText := true, laidKinds := [.data, .data, .data, .data, .sentinel, .sentinel, .data, .data, .pinned], laidTests := true, laidLooks := .later }
def WireForgedCardSaid : Prop := Claim7.holds Tryz.pinned (.plain (OpenSpec.ofChange wireForgedSpec)) wireForgedCard

/-- THE TIED CARD OF 'mullionlaw03.WireTotal'. -/
def wireTotalCard : Claim7 := { stood := { row := wireTotalRow, standIns := [], harness := (true, "73c9569dea5d9722a5c3c38fee3ab48ab7402809dd783e5094a84ef3991d450d"), looks := true }, kinds := [], alts := [], laidByText := true, laidKinds := [.data, .data, .data, .data, .sentinel, .sentinel, .data, .data, .pinned], laidTests := true, laidLooks := .later }
def WireTotalCardSaid : Prop := Claim7.holds Tryz.pinned (.plain (OpenSpec.ofChange wireTotalSpec)) wireTotalCard

/-- THE TIED CARD OF 'mullionlaw03.WirePieces'. -/
def wirePiecesCard : Claim7 := { stood := { row := wirePiecesRow, standIns := [], harness := (true, "73c9569dea5d9722a5c3c38fee3ab48ab7402809dd783e5094a84ef3991d450d"), looks := true }, kinds := [], alts := [], laidByText := true, laidKinds := [.data, .data, .data, .data, .sentinel, .sentinel, .data, .data, .pinned], laidTests := true, laidLooks := .later }
def WirePiecesCardSaid : Prop := Claim7.holds Tryz.pinned (.plain (OpenSpec.ofChange wirePiecesSpec)) wirePiecesCard

/-- THE TIED CARD OF 'mullionlaw03.WireLists'. -/
def wireListsCard : Claim7 := { stood := { row := wireListsRow, standIns := [], harness := (true, "73c9569dea5d9722a5c3c38fee3ab48ab7402809dd783e5094a84ef3991d450d"), looks := true }, kinds := [], alts := [], laidByText := true, laidKinds := [.data, .data, .data, .data, .sentinel, .sentinel, .data, .data, .pinned], laidTests := true, laidLooks := .later }
def WireListsCardSaid : Prop := Claim7.holds Tryz.pinned (.plain (OpenSpec.ofChange wireListsSpec)) wireListsCard

/-- THE SECOND FORM's CARD OF 'mullionlaw03.WireOne'. -/
def wireOneUptoCard : Claim7 := { stood := { row := wireOneUptoRow, standIns := [], harness := (true, "73c9569dea5d9722a5c3c38fee3ab48ab7402809dd783e5094a84ef3991d450d"), looks := true }, kinds := [], alts := [], laidByText := true, laidKinds := [.data, .data, .data, .data, .sentinel, .sentinel, .data, .data, .pinned], laidTests := true, laidLooks := .later }
def WireOneUptoCardSaid : Prop := Claim7.holds Tryz.pinned (.plain (OpenSpec.upto wireOneSpec)) wireOneUptoCard

/-- THE SECOND FORM's CARD OF 'mullionlaw03.WireBack'. -/
def wireBackUptoCard : Claim7 := { stood := { row := wireBackUptoRow, standIns := [], harness := (true, "73c9569dea5d9722a5c3c38fee3ab48ab7402809dd783e5094a84ef3991d450d"), looks := true }, kinds := [], alts := [], laidByText := true, laidKinds := [.data, .data, .data, .data, .sentinel, .sentinel, .data, .data, .pinned], laidTests := true, laidLooks := .later }
def WireBackUptoCardSaid : Prop := Claim7.holds Tryz.pinned (.plain (OpenSpec.upto wireBackSpec)) wireBackUptoCard

/-- THE SECOND FORM's CARD OF 'mullionlaw03.WireForged'. -/
def wireForgedUptoCard : Claim7 := { stood := { row := wireForgedUptoRow, standIns := [], harness := (true, "73c9569dea5d9722a5c3c38fee3ab48ab7402809dd783e5094a84ef3991d450d"), looks := true }, kinds := [], alts := [], laidByText := true, laidKinds := [.data, .data, .data, .data, .sentinel, .sentinel, .data, .data, .pinned], laidTests := true, laidLooks := .later }
def WireForgedUptoCardSaid : Prop := Claim7.holds Tryz.pinned (.plain (OpenSpec.upto wireForgedSpec)) wireForgedUptoCard

/-- THE SECOND FORM's CARD OF 'mullionlaw03.WireTotal'. -/
def wireTotalUptoCard : Claim7 := { stood := { row := wireTotalUptoRow, standIns := [], harness := (true, "73c9569dea5d9722a5c3c38fee3ab48ab7402809dd783e5094a84ef3991d450d"), looks := true }, kinds := [], alts := [], laidByText := true, laidKinds := [.data, .data, .data, .data, .sentinel, .sentinel, .data, .data, .pinned], laidTests := true, laidLooks := .later }
def WireTotalUptoCardSaid : Prop := Claim7.holds Tryz.pinned (.plain (OpenSpec.upto wireTotalSpec)) wireTotalUptoCard

/-- THE SECOND FORM's CARD OF 'mullionlaw03.WirePieces'. -/
def wirePiecesUptoCard : Claim7 := { stood := { row := wirePiecesUptoRow, standIns := [], harness := (true, "73c9569dea5d9722a5c3c38fee3ab48ab7402809dd783e5094a84ef3991d450d"), looks := true }, kinds := [], alts := [], laidByText := true, laidKinds := [.data, .data, .data, .data, .sentinel, .sentinel, .data, .data, .pinned], laidTests := true, laidLooks := .later }
def WirePiecesUptoCardSaid : Prop := Claim7.holds Tryz.pinned (.plain (OpenSpec.upto wirePiecesSpec)) wirePiecesUptoCard

/-- THE SECOND FORM's CARD OF 'mullionlaw03.WireLists'. -/
def wireListsUptoCard : Claim7 := { stood := { row := wireListsUptoRow, standIns := [], harness := (true, "73c9569dea5d9722a5c3c38fee3ab48ab7402809dd783e5094a84ef3991d450d"), looks := true }, kinds := [], alts := [], laidByText := true, laidKinds := [.data, .data, .data, .data, .sentinel, .sentinel, .data, .data, .pinned], laidTests := true, laidLooks := .later }
def WireListsUptoCardSaid : Prop := Claim7.holds Tryz.pinned (.plain (OpenSpec.upto wireListsSpec)) wireListsUptoCard
end Rows
end Go.Proofs.YtcgpgnifaeikeaaGreatDoor
