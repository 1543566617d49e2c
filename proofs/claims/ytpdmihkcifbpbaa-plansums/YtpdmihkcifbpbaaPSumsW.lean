/-
  The walk of PlanSums.
-/
import Derived.Test.YtpdmihkcifbpbaaPSum
import Derived.WalkKit
import Derived.ProofKit
namespace Go.Proofs.Ytpdmihkcifbpbaa
open Go.RowKit
set_option linter.unusedVariables false

theorem planSums_walk (a0 : ByteArray) (w0 : a0.size ≤ maxLen) (w : World) :
    Calls Try.prog 3 #[.string a0] w fun e w' => e = .returned (.bool true) ∧ Grown w w' := by
  have z0 : a0.size ≤ 9223372036854775807 := Nat.le_trans w0 (by decide)
  have e1 : sumS (⟨#[97, 98]⟩ : ByteArray).data.toList = 32914 := by decide
  go_enter Try.func3, Try.ntmps3
  go_wp2_with fail
  refine (sum_any _ _ z0).mono ?_
  rintro e w1 ⟨rfl, rfl⟩
  go_wp2_with fail
  refine (refSum_any _ _ z0).mono ?_
  rintro e w1 ⟨rfl, rfl⟩
  go_wp2_with fail
  refine (sum_any _ _ (by decide)).mono ?_
  rintro e w1 ⟨rfl, rfl⟩
  rw [e1]
  go_wp2
  go_ret
  exact ⟨rfl, by repeat (first | exact Grown.refl _ | apply Grown.drew | apply Grown.alloc)⟩

end Go.Proofs.Ytpdmihkcifbpbaa
