/-
  DERIVED. GIVEN WITH THE SEED: THE CARDS: each row of YtglncninkocgaaaGreatDoorRows.lean that lists a variable, with what it lists TIED to the program's text (the seventh form; the later family's looks); each row that meets fmt, with fmt's text TOLD by the authors' own Lean function (tested against real Go, not proved from fmt's source: count such statements apart). THE CARD IS WHAT COUNTS. Prove the row's statement (the work); the ties are given (YtglncninkocgaaaGreatDoorTie.lean); close each card by the builder's one call (the guide's Derived/Test/ToyasCard.lean, 'card_holds'). Laid BY PROGRAM, IN A SANDBOX (cutbox-door.mjs). By AI agents, Wed Nov 11 2026. No macro, syntax, notation, axiom, sorry.
-/
import Derived.Test.YtglncninkocgaaaGreatDoorRows
import GoSem.ClaimSeven
namespace Go.Proofs.YtglncninkocgaaaGreatDoor
namespace Rows

/-- THE TIED CARD OF 'mullionlaw05.PlanForth'. -/
def planForthCard : Claim7 := { stood := { row := planForthRow, standIns := [], harness := (true, "82054b7813a5629e53bfc3e1d04a194a6760bf54302ddb3d80808159fbcc4f98"), looks := true }, kinds := [], alts := [], laidByText := true, laidKinds := [.data, .data, .data, .sentinel, .sentinel], laidTests := true, laidLooks := .later }
def PlanForthCardSaid : Prop := Claim7.holds Tryz.pinned (.plain (OpenSpec.ofChange planForthSpec)) planForthCard

/-- THE TIED CARD OF 'mullionlaw05.PlanByte'. -/
def planByteCard : Claim7 := { stood := { row := planByteRow, standIns := [], harness := (true, "82054b7813a5629e53bfc3e1d04a194a6760bf54302ddb3d80808159fbcc4f98"), looks := true }, kinds := [], alts := [], laidByText := true, laidKinds := [.data, .data, .data, .sentinel, .sentinel], laidTests := true, laidLooks := .later }
def PlanByteCardSaid : Prop := Claim7.holds Tryz.pinned (.plain (OpenSpec.ofChange planByteSpec)) planByteCard

/-- THE TIED CARD OF 'mullionlaw05.PlanOrder'. -/
def planOrderCard : Claim7 := { stood := { row := planOrderRow, standIns := [], harness := (true, "82054b7813a5629e53bfc3e1d04a194a6760bf54302ddb3d80808159fbcc4f98"), looks := true }, kinds := [], alts := [], laidByText := true, laidKinds := [.data, .data, .data, .sentinel, .sentinel], laidTests := true, laidLooks := .later }
def PlanOrderCardSaid : Prop := Claim7.holds Tryz.pinned (.plain (OpenSpec.ofChange planOrderSpec)) planOrderCard

/-- THE TIED CARD OF 'mullionlaw05.PlanTexts'. -/
def planTextsCard : Claim7 := { stood := { row := planTextsRow, standIns := [], harness := (true, "82054b7813a5629e53bfc3e1d04a194a6760bf54302ddb3d80808159fbcc4f98"), looks := true }, kinds := [], alts := [], laidByText := true, laidKinds := [.data, .data, .data, .sentinel, .sentinel], laidTests := true, laidLooks := .later }
def PlanTextsCardSaid : Prop := Claim7.holds Tryz.pinned (.plain (OpenSpec.ofChange planTextsSpec)) planTextsCard

/-- THE TIED CARD OF 'mullionlaw05.PlanRepanes'. -/
def planRepanesCard : Claim7 := { stood := { row := planRepanesRow, standIns := [], harness := (true, "82054b7813a5629e53bfc3e1d04a194a6760bf54302ddb3d80808159fbcc4f98"), looks := true }, kinds := [], alts := [], laidByText := true, laidKinds := [.data, .data, .data, .sentinel, .sentinel], laidTests := true, laidLooks := .later }
def PlanRepanesCardSaid : Prop := Claim7.holds Tryz.pinned (.plain (OpenSpec.ofChange planRepanesSpec)) planRepanesCard

/-- THE TIED CARD OF 'mullionlaw05.PlanParses'. -/
def planParsesCard : Claim7 := { stood := { row := planParsesRow, standIns := [], harness := (true, "82054b7813a5629e53bfc3e1d04a194a6760bf54302ddb3d80808159fbcc4f98"), looks := true }, kinds := [], alts := [], laidByText := true, laidKinds := [.data, .data, .data, .sentinel, .sentinel], laidTests := true, laidLooks := .later }
def PlanParsesCardSaid : Prop := Claim7.holds Tryz.pinned (.plain (OpenSpec.ofChange planParsesSpec)) planParsesCard

/-- THE SECOND FORM's CARD OF 'mullionlaw05.PlanForth'. -/
def planForthUptoCard : Claim7 := { stood := { row := planForthUptoRow, standIns := [], harness := (true, "82054b7813a5629e53bfc3e1d04a194a6760bf54302ddb3d80808159fbcc4f98"), looks := true }, kinds := [], alts := [], laidByText := true, laidKinds := [.data, .data, .data, .sentinel, .sentinel], laidTests := true, laidLooks := .later }
def PlanForthUptoCardSaid : Prop := Claim7.holds Tryz.pinned (.plain (OpenSpec.upto planForthSpec)) planForthUptoCard

/-- THE SECOND FORM's CARD OF 'mullionlaw05.PlanByte'. -/
def planByteUptoCard : Claim7 := { stood := { row := planByteUptoRow, standIns := [], harness := (true, "82054b7813a5629e53bfc3e1d04a194a6760bf54302ddb3d80808159fbcc4f98"), looks := true }, kinds := [], alts := [], laidByText := true, laidKinds := [.data, .data, .data, .sentinel, .sentinel], laidTests := true, laidLooks := .later }
def PlanByteUptoCardSaid : Prop := Claim7.holds Tryz.pinned (.plain (OpenSpec.upto planByteSpec)) planByteUptoCard

/-- THE SECOND FORM's CARD OF 'mullionlaw05.PlanOrder'. -/
def planOrderUptoCard : Claim7 := { stood := { row := planOrderUptoRow, standIns := [], harness := (true, "82054b7813a5629e53bfc3e1d04a194a6760bf54302ddb3d80808159fbcc4f98"), looks := true }, kinds := [], alts := [], laidByText := true, laidKinds := [.data, .data, .data, .sentinel, .sentinel], laidTests := true, laidLooks := .later }
def PlanOrderUptoCardSaid : Prop := Claim7.holds Tryz.pinned (.plain (OpenSpec.upto planOrderSpec)) planOrderUptoCard

/-- THE SECOND FORM's CARD OF 'mullionlaw05.PlanTexts'. -/
def planTextsUptoCard : Claim7 := { stood := { row := planTextsUptoRow, standIns := [], harness := (true, "82054b7813a5629e53bfc3e1d04a194a6760bf54302ddb3d80808159fbcc4f98"), looks := true }, kinds := [], alts := [], laidByText := true, laidKinds := [.data, .data, .data, .sentinel, .sentinel], laidTests := true, laidLooks := .later }
def PlanTextsUptoCardSaid : Prop := Claim7.holds Tryz.pinned (.plain (OpenSpec.upto planTextsSpec)) planTextsUptoCard

/-- THE SECOND FORM's CARD OF 'mullionlaw05.PlanRepanes'. -/
def planRepanesUptoCard : Claim7 := { stood := { row := planRepanesUptoRow, standIns := [], harness := (true, "82054b7813a5629e53bfc3e1d04a194a6760bf54302ddb3d80808159fbcc4f98"), looks := true }, kinds := [], alts := [], laidByText := true, laidKinds := [.data, .data, .data, .sentinel, .sentinel], laidTests := true, laidLooks := .later }
def PlanRepanesUptoCardSaid : Prop := Claim7.holds Tryz.pinned (.plain (OpenSpec.upto planRepanesSpec)) planRepanesUptoCard

/-- THE SECOND FORM's CARD OF 'mullionlaw05.PlanParses'. -/
def planParsesUptoCard : Claim7 := { stood := { row := planParsesUptoRow, standIns := [], harness := (true, "82054b7813a5629e53bfc3e1d04a194a6760bf54302ddb3d80808159fbcc4f98"), looks := true }, kinds := [], alts := [], laidByText := true, laidKinds := [.data, .data, .data, .sentinel, .sentinel], laidTests := true, laidLooks := .later }
def PlanParsesUptoCardSaid : Prop := Claim7.holds Tryz.pinned (.plain (OpenSpec.upto planParsesSpec)) planParsesUptoCard
end Rows
end Go.Proofs.YtglncninkocgaaaGreatDoor
