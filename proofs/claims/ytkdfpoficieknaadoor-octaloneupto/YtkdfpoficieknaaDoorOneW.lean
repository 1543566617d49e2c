/-
  The walk of OctalOne.
-/
import Derived.Test.YtkdfpoficieknaaDoorEscA
import Derived.WalkKit
namespace Go.Proofs.YtkdfpoficieknaaDoor
open Go.RowKit
set_option linter.unusedVariables false

theorem bytes_ne {a b : ByteArray} (h : ¬ a.toList = b.toList) : a.data.toList ≠ b.data.toList := by rwa [Lib.toList_data, Lib.toList_data] at h

set_option maxHeartbeats 2000000 in
theorem octalOne_walk (a0 a1 : ByteArray) (w0 : a0.size ≤ maxLen) (w1 : a1.size ≤ maxLen) (w : World) (hD : Digs w) (hsh : a0.size ≤ 1048576 ∧ a1.size ≤ 1048576) :
    Calls Tryd.prog 4 #[.string a0, .string a1] w fun e w' => e = .returned (.bool true) ∧ Below w.heap.size w w' := by
  obtain ⟨s0, s1⟩ := hsh
  obtain ⟨c1, c2, c3⟩ := bd a0 (by omega)
  obtain ⟨e1, e2, e3⟩ := bd a1 (by omega)
  obtain ⟨f1, f2, f3⟩ := bd (a0 ++ ⟨#[120]⟩) (by have : (ByteArray.mk #[120]).size = 1 := rfl; simp; omega)
  have q1 : ((str (esc a0.data.toList)).toList == (str (esc (a0.data.toList ++ [120]))).toList) = false := by
    rw [str_toList, str_toList, beq_eq_false_iff_ne]
    intro h
    have := congrArg List.length (esc_inj h)
    simp at this
  have q2 : ((str (escB a0.data.toList)).toList == (str (escB (a0.data.toList ++ [120]))).toList) = false := by
    rw [str_toList, str_toList, beq_eq_false_iff_ne]
    intro h
    have := congrArg List.length (escB_inj h)
    simp at this
  clear w0 w1
  have hb0 := Below.refl w.heap.size w
  by_cases he : (a0.toList == a1.toList) = true
  · go_enter Tryd.func4, Tryd.ntmps4
    go_wp2_with (first | (go_at_call 8; refine (escape_in hD (by assumption) _ (by assumption) (by assumption)).mono ?_; rintro e w' ⟨rfl, hb⟩) | (go_at_call 9; refine (escapeBody_in hD (by assumption) _ (by assumption) (by assumption)).mono ?_; rintro e w' ⟨rfl, hb⟩))
    all_goals go_ret
    all_goals exact ⟨rfl, by assumption⟩
  · have he' : (a0.toList == a1.toList) = false := by simpa using he
    have hne : a0.data.toList ≠ a1.data.toList := bytes_ne (by simpa using he)
    have q3 : ((str (esc a0.data.toList)).toList == (str (esc a1.data.toList)).toList) = false := by
      rw [str_toList, str_toList, beq_eq_false_iff_ne]
      exact fun h => hne (esc_inj h)
    have q4 : ((str (escB a0.data.toList)).toList == (str (escB a1.data.toList)).toList) = false := by
      rw [str_toList, str_toList, beq_eq_false_iff_ne]
      exact fun h => hne (escB_inj h)
    clear he hne
    go_enter Tryd.func4, Tryd.ntmps4
    go_wp2_with (first | (go_at_call 8; refine (escape_in hD (by assumption) _ (by assumption) (by assumption)).mono ?_; rintro e w' ⟨rfl, hb⟩) | (go_at_call 9; refine (escapeBody_in hD (by assumption) _ (by assumption) (by assumption)).mono ?_; rintro e w' ⟨rfl, hb⟩))
    all_goals go_ret
    all_goals exact ⟨rfl, by assumption⟩
end Go.Proofs.YtkdfpoficieknaaDoor
