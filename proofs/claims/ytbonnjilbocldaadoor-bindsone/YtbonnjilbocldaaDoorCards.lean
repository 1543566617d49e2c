/-
  DERIVED. GIVEN WITH THE SEED: THE CARDS: each row of YtbonnjilbocldaaDoorRows.lean that lists a variable, with what it lists TIED to the program's text (the seventh form; the later family's looks); each row that meets fmt, with fmt's text TOLD by the authors' own Lean function (tested against real Go, not proved from fmt's source: count such statements apart). THE CARD IS WHAT COUNTS. Prove the row's statement (the work); the ties are given (YtbonnjilbocldaaDoorTie.lean); close each card by the builder's one call (the guide's Derived/Test/ToyasCard.lean, 'card_holds'). Laid BY PROGRAM, IN A SANDBOX (cutbox-door.mjs). By AI agents, Wed Nov 11 2026. No macro, syntax, notation, axiom, sorry.
-/
import Derived.Test.YtbonnjilbocldaaDoorRows
import GoSem.ClaimSeven
namespace Go.Proofs.YtbonnjilbocldaaDoor
namespace Rows

/-- THE TIED CARD OF 'mullionlaw22.BindsOne'. -/
def bindsOneCard : Claim7 := { stood := { row := bindsOneRow, standIns := [], harness := (true, "ef30f237c2e85f99def63f393b185446dbe2d7abbfc94f31ebe985efdcfb6ad4"), looks := false }, kinds := [], alts := [], laidByText := true, laidKinds := [.data, .data, .data, .data, .wider, .data, .data, .pinned], laidTests := true, laidLooks := .later }
def BindsOneCardSaid : Prop := Claim7.holds Tryd.pinned (.plain (OpenSpec.ofChange bindsOneSpec)) bindsOneCard

/-- THE TIED CARD OF 'mullionlaw22.BindsPane'. -/
def bindsPaneCard : Claim7 := { stood := { row := bindsPaneRow, standIns := [], harness := (true, "ef30f237c2e85f99def63f393b185446dbe2d7abbfc94f31ebe985efdcfb6ad4"), looks := false }, kinds := [], alts := [], laidByText := true, laidKinds := [.data, .data, .data, .data, .wider, .data, .data, .pinned], laidTests := true, laidLooks := .later }
def BindsPaneCardSaid : Prop := Claim7.holds Tryd.pinned (.plain (OpenSpec.ofChange bindsPaneSpec)) bindsPaneCard

/-- THE SECOND FORM's CARD OF 'mullionlaw22.BindsOne'. -/
def bindsOneUptoCard : Claim7 := { stood := { row := bindsOneUptoRow, standIns := [], harness := (true, "ef30f237c2e85f99def63f393b185446dbe2d7abbfc94f31ebe985efdcfb6ad4"), looks := false }, kinds := [], alts := [], laidByText := true, laidKinds := [.data, .data, .data, .data, .wider, .data, .data, .pinned], laidTests := true, laidLooks := .later }
def BindsOneUptoCardSaid : Prop := Claim7.holds Tryd.pinned (.plain (OpenSpec.upto bindsOneSpec)) bindsOneUptoCard

/-- THE SECOND FORM's CARD OF 'mullionlaw22.BindsPane'. -/
def bindsPaneUptoCard : Claim7 := { stood := { row := bindsPaneUptoRow, standIns := [], harness := (true, "ef30f237c2e85f99def63f393b185446dbe2d7abbfc94f31ebe985efdcfb6ad4"), looks := false }, kinds := [], alts := [], laidByText := true, laidKinds := [.data, .data, .data, .data, .wider, .data, .data, .pinned], laidTests := true, laidLooks := .later }
def BindsPaneUptoCardSaid : Prop := Claim7.holds Tryd.pinned (.plain (OpenSpec.upto bindsPaneSpec)) bindsPaneUptoCard
end Rows
end Go.Proofs.YtbonnjilbocldaaDoor
