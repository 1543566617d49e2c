/-
  Keys: which there are, by the document.
-/
import Derived.Test.YtnehkokppobncaaDoorGB
namespace Go.Proofs.YtnehkokppobncaaDoor
open Go.RowKit
set_option linter.unusedVariables false
set_option maxRecDepth 100000

set_option maxHeartbeats 1000000 in
theorem rspecial_any (c : Int) (w : World) : Calls Tryd.prog 53 #[.int .i64 c] w fun r w' => r = .returned (.bool (spcB c)) ∧ w = w' := by
  go_enter Tryd.func53, Tryd.ntmps53
  go_wp2
  all_goals go_ret
  all_goals refine ⟨retB ?_, rfl⟩
  all_goals unfold spcB
  all_goals first | (rw [decide_eq_decide]; omega) | (symm; rw [decide_eq_false_iff_not]; omega) | (symm; rw [decide_eq_true_iff]; omega)
set_option maxHeartbeats 1000000 in
theorem rcharacter_any (c : Int) (w : World) : Calls Tryd.prog 54 #[.int .i64 c] w fun r w' => r = .returned (.bool (chrB c)) ∧ w = w' := by
  obtain ⟨z, hz⟩ : ∃ z, chrB c = z := ⟨_, rfl⟩
  rw [hz]
  unfold chrB at hz
  rcases (by omega : (33 ≤ c ∧ c ≤ 126) ∨ (c < 33) ∨ (126 < c ∧ c < 160) ∨ (160 ≤ c ∧ c < 55296) ∨ (55296 ≤ c ∧ c ≤ 57343) ∨ (57343 < c ∧ c ≤ 1114111) ∨ (1114111 < c)) with q | q | q | q | q | q | q
  · obtain rfl : true = z := by rw [← hz]; simp; omega
    have i0 : (33 : Int) ≤ c := by omega
    have i1 : c ≤ (126 : Int) := by omega
    clear hz q
    go_enter Tryd.func54, Tryd.ntmps54
    go_wp2_with fail
    go_ret
    exact ⟨rfl, rfl⟩
  · obtain rfl : false = z := by rw [← hz]; simp; omega
    have i0 : ¬ (33 : Int) ≤ c := by omega
    have i1 : ¬ (160 : Int) ≤ c := by omega
    clear hz q
    go_enter Tryd.func54, Tryd.ntmps54
    go_wp2_with fail
    go_ret
    exact ⟨rfl, rfl⟩
  · obtain rfl : false = z := by rw [← hz]; simp; omega
    have i0 : (33 : Int) ≤ c := by omega
    have i1 : ¬ c ≤ (126 : Int) := by omega
    have i2 : ¬ (160 : Int) ≤ c := by omega
    clear hz q
    go_enter Tryd.func54, Tryd.ntmps54
    go_wp2_with fail
    go_ret
    exact ⟨rfl, rfl⟩
  · obtain rfl : true = z := by rw [← hz]; simp; omega
    have i0 : (33 : Int) ≤ c := by omega
    have i1 : ¬ c ≤ (126 : Int) := by omega
    have i2 : (160 : Int) ≤ c := by omega
    have i3 : c ≤ (1114111 : Int) := by omega
    have i4 : c < (55296 : Int) := by omega
    clear hz q
    go_enter Tryd.func54, Tryd.ntmps54
    go_wp2_with fail
    go_ret
    exact ⟨rfl, rfl⟩
  · obtain rfl : false = z := by rw [← hz]; simp; omega
    have i0 : (33 : Int) ≤ c := by omega
    have i1 : ¬ c ≤ (126 : Int) := by omega
    have i2 : (160 : Int) ≤ c := by omega
    have i3 : c ≤ (1114111 : Int) := by omega
    have i4 : ¬ c < (55296 : Int) := by omega
    have i5 : ¬ (57343 : Int) < c := by omega
    clear hz q
    go_enter Tryd.func54, Tryd.ntmps54
    go_wp2_with fail
    go_ret
    exact ⟨rfl, rfl⟩
  · obtain rfl : true = z := by rw [← hz]; simp; omega
    have i0 : (33 : Int) ≤ c := by omega
    have i1 : ¬ c ≤ (126 : Int) := by omega
    have i2 : (160 : Int) ≤ c := by omega
    have i3 : c ≤ (1114111 : Int) := by omega
    have i4 : ¬ c < (55296 : Int) := by omega
    have i5 : (57343 : Int) < c := by omega
    clear hz q
    go_enter Tryd.func54, Tryd.ntmps54
    go_wp2_with fail
    go_ret
    exact ⟨rfl, rfl⟩
  · obtain rfl : false = z := by rw [← hz]; simp; omega
    have i0 : (33 : Int) ≤ c := by omega
    have i1 : ¬ c ≤ (126 : Int) := by omega
    have i2 : (160 : Int) ≤ c := by omega
    have i3 : ¬ c ≤ (1114111 : Int) := by omega
    clear hz q
    go_enter Tryd.func54, Tryd.ntmps54
    go_wp2_with fail
    go_ret
    exact ⟨rfl, rfl⟩
set_option maxHeartbeats 2000000 in
theorem rcontrolled_any (c : Int) (w : World) : Calls Tryd.prog 55 #[.int .i64 c] w fun r w' => r = .returned (.bool (ctlB c)) ∧ w = w' := by
  obtain ⟨z, hz⟩ : ∃ z, ctlB c = z := ⟨_, rfl⟩
  rw [hz]
  unfold ctlB at hz
  rcases (by omega : (c < 92) ∨ (c = 92) ∨ (c = 93) ∨ (c = 94) ∨ (c = 95) ∨ (c = 96) ∨ (97 ≤ c ∧ c ≤ 122 ∧ c ≠ 105 ∧ c ≠ 109) ∨ (c = 105) ∨ (c = 109) ∨ (122 < c)) with q | q | q | q | q | q | q | q | q | q
  · obtain rfl : false = z := by rw [← hz]; simp; omega
    have i0 : ¬ (97 : Int) ≤ c := by omega
    have i1 : (c == 92) = false := by simp; omega
    have j1 : ¬ c = 92 := by omega
    have i2 : (c == 93) = false := by simp; omega
    have j2 : ¬ c = 93 := by omega
    have i3 : (c == 94) = false := by simp; omega
    have j3 : ¬ c = 94 := by omega
    have i4 : (c == 95) = false := by simp; omega
    have j4 : ¬ c = 95 := by omega
    clear hz q
    go_enter Tryd.func55, Tryd.ntmps55
    go_wp2_with fail
    go_ret
    exact ⟨rfl, rfl⟩
  · subst q
    obtain rfl : true = z := by rw [← hz]; decide
    clear hz
    go_enter Tryd.func55, Tryd.ntmps55
    go_wp2_with fail
    go_ret
    exact ⟨rfl, rfl⟩
  · subst q
    obtain rfl : true = z := by rw [← hz]; decide
    clear hz
    go_enter Tryd.func55, Tryd.ntmps55
    go_wp2_with fail
    go_ret
    exact ⟨rfl, rfl⟩
  · subst q
    obtain rfl : true = z := by rw [← hz]; decide
    clear hz
    go_enter Tryd.func55, Tryd.ntmps55
    go_wp2_with fail
    go_ret
    exact ⟨rfl, rfl⟩
  · subst q
    obtain rfl : true = z := by rw [← hz]; decide
    clear hz
    go_enter Tryd.func55, Tryd.ntmps55
    go_wp2_with fail
    go_ret
    exact ⟨rfl, rfl⟩
  · subst q
    obtain rfl : false = z := by rw [← hz]; decide
    clear hz
    go_enter Tryd.func55, Tryd.ntmps55
    go_wp2_with fail
    go_ret
    exact ⟨rfl, rfl⟩
  · obtain rfl : true = z := by rw [← hz]; simp; omega
    have i0 : (97 : Int) ≤ c := by omega
    have i1 : c ≤ (122 : Int) := by omega
    have i2 : (c == 105) = false := by simp; omega
    have j2 : ¬ c = 105 := by omega
    have i3 : (c == 109) = false := by simp; omega
    have j3 : ¬ c = 109 := by omega
    clear hz q
    go_enter Tryd.func55, Tryd.ntmps55
    go_wp2_with fail
    go_ret
    exact ⟨rfl, rfl⟩
  · subst q
    obtain rfl : false = z := by rw [← hz]; decide
    clear hz
    go_enter Tryd.func55, Tryd.ntmps55
    go_wp2_with fail
    go_ret
    exact ⟨rfl, rfl⟩
  · subst q
    obtain rfl : false = z := by rw [← hz]; decide
    clear hz
    go_enter Tryd.func55, Tryd.ntmps55
    go_wp2_with fail
    go_ret
    exact ⟨rfl, rfl⟩
  · obtain rfl : false = z := by rw [← hz]; simp; omega
    have i0 : (97 : Int) ≤ c := by omega
    have i1 : ¬ c ≤ (122 : Int) := by omega
    have i2 : (c == 92) = false := by simp; omega
    have j2 : ¬ c = 92 := by omega
    have i3 : (c == 93) = false := by simp; omega
    have j3 : ¬ c = 93 := by omega
    have i4 : (c == 94) = false := by simp; omega
    have j4 : ¬ c = 94 := by omega
    have i5 : (c == 95) = false := by simp; omega
    have j5 : ¬ c = 95 := by omega
    clear hz q
    go_enter Tryd.func55, Tryd.ntmps55
    go_wp2_with fail
    go_ret
    exact ⟨rfl, rfl⟩
end Go.Proofs.YtnehkokppobncaaDoor
