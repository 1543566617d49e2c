/-
  The walk of OctalJoins.
-/
import Derived.Test.YtkdfpoficieknaaDoorEscA
import Derived.WalkKit
namespace Go.Proofs.YtkdfpoficieknaaDoor
open Go.RowKit
set_option linter.unusedVariables false

set_option maxHeartbeats 2000000 in
theorem octalJoins_walk (a0 a1 : ByteArray) (w0 : a0.size ≤ maxLen) (w1 : a1.size ≤ maxLen) (w : World) (hD : Digs w) (hsh : a0.size ≤ 1048576 ∧ a1.size ≤ 1048576) :
    Calls Tryd.prog 3 #[.string a0, .string a1] w fun e w' => e = .returned (.bool true) ∧ Below w.heap.size w w' := by
  obtain ⟨s0, s1⟩ := hsh
  obtain ⟨b1, b2, b3⟩ := bd (a0 ++ a1) (by simp; omega)
  obtain ⟨c1, c2, c3⟩ := bd a0 (by omega)
  obtain ⟨e1, e2, e3⟩ := bd a1 (by omega)
  obtain ⟨f1, f2, f3⟩ := bd (⟨#[37]⟩ ++ a0) (by have : (ByteArray.mk #[37]).size = 1 := rfl; simp; omega)
  obtain ⟨g1, g2, g3⟩ := bd ⟨#[120, 9]⟩ (by decide)
  have z0 : (str (esc a0.data.toList)).size ≤ 140737488355328 := c2
  have z1 : (str (esc a1.data.toList)).size ≤ 140737488355328 := e2
  have q1 : ((str (esc (a0.data.toList ++ a1.data.toList))).toList == (str (esc a0.data.toList) ++ str (esc a1.data.toList)).toList) = true := by
    rw [cat_toList, str_toList, str_toList, str_toList, esc_append]; simp
  have q2 : ((str (escB (37 :: a0.data.toList))).toList == (ByteArray.mk #[92, 48, 52, 53] ++ str (esc a0.data.toList)).toList) = true := by
    rw [cat_toList, str_toList, str_toList, Lib.toList_data]; simp [escB]; rfl
  clear w0 w1
  have hb0 := Below.refl w.heap.size w
  by_cases h0 : 0 < a0.size
  · by_cases h37 : (a0[0].toNat : Int) = 37
    · go_enter Tryd.func3, Tryd.ntmps3
      go_wp2_with (first | (go_at_call 8; refine (escape_in hD (by assumption) _ (by assumption) (by assumption)).mono ?_; rintro e w' ⟨rfl, hb⟩) | (go_at_call 9; refine (escapeBody_in hD (by assumption) _ (by assumption) (by assumption)).mono ?_; rintro e w' ⟨rfl, hb⟩))
      all_goals go_ret
      all_goals exact ⟨ret_bool (by decide +kernel), by assumption⟩
    · have q3 : ((str (escB a0.data.toList)).toList == (str (esc a0.data.toList)).toList) = true := by
        rw [str_toList, str_toList, escB_not (by rw [head_cons a0 h0]; intro r e; exact h37 (by injection e with e1 _; rw [e1]; rfl))]; simp
      go_enter Tryd.func3, Tryd.ntmps3
      go_wp2_with (first | (go_at_call 8; refine (escape_in hD (by assumption) _ (by assumption) (by assumption)).mono ?_; rintro e w' ⟨rfl, hb⟩) | (go_at_call 9; refine (escapeBody_in hD (by assumption) _ (by assumption) (by assumption)).mono ?_; rintro e w' ⟨rfl, hb⟩))
      all_goals go_ret
      all_goals exact ⟨ret_bool (by decide +kernel), by assumption⟩
  · go_enter Tryd.func3, Tryd.ntmps3
    go_wp2_with (first | (go_at_call 8; refine (escape_in hD (by assumption) _ (by assumption) (by assumption)).mono ?_; rintro e w' ⟨rfl, hb⟩) | (go_at_call 9; refine (escapeBody_in hD (by assumption) _ (by assumption) (by assumption)).mono ?_; rintro e w' ⟨rfl, hb⟩))
    all_goals go_ret
    all_goals exact ⟨ret_bool (by decide +kernel), by assumption⟩
end Go.Proofs.YtkdfpoficieknaaDoor
