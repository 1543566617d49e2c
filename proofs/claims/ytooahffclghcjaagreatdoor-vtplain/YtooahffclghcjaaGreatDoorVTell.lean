/-
  What a screen tells of itself.
-/
import Derived.Test.YtooahffclghcjaaGreatDoorVMade
import Derived.Test.YtooahffclghcjaaGreatDoorMD
import Derived.Test.YtooahffclghcjaaGreatDoorVReadB
import Derived.Laws.BytesString
namespace Go.Proofs.YtooahffclghcjaaGreatDoor
open Go.RowKit
set_option linter.unusedVariables false
set_option maxRecDepth 100000

theorem alternate_no {w : World} {b : Nat} {s : Sc} (h : ScAt w b s) (hm : s.main = .pointer none) : Calls Tryz.prog 91 #[.pointer (some ⟨b, 0, none⟩)] w fun r w' => r = .returned (.bool false) ∧ w = w' := by
  have c := h.c37
  rw [hm] at c
  clear h hm
  go_enter Tryz.func91, Tryz.ntmps91
  go_wp2_with fail
  go_ret
  exact ⟨rfl, rfl⟩
end Go.Proofs.YtooahffclghcjaaGreatDoor
