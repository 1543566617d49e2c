/-
  Keys: Valid, whole.
-/
import Derived.Test.YtghepjjfdaecgaaDoorKVal
namespace Go.Proofs.YtghepjjfdaecgaaDoor
open Go.RowKit
set_option linter.unusedVariables false
set_option maxRecDepth 100000

set_option maxHeartbeats 4000000 in
theorem valid_blank (c m : Int) (z : Bool) (hc : c = 32) (hz : (plainM m || ctrlM m) = z) (w : World) : Calls Tryd.prog 13 #[.agg #[.int .i64 c, .int .i64 m]] w fun r w' => r = .returned (.bool z) ∧ Below w.heap.size w w' := by
  have HFin : Hid (Below w.heap.size w (w.alloc (.cells #[.int .i64 c, .int .i64 m] 30))) := (Below.refl _ _).alloc (Nat.le_refl _) _
  subst hc
  rcases (by omega : m = 0 ∨ m = 2 ∨ m = 4 ∨ m = 6 ∨ (m ≠ 0 ∧ m ≠ 2 ∧ m ≠ 4 ∧ m ≠ 6)) with h | h | h | h | ⟨h0, h2, h4, h6⟩
  · subst h
    obtain rfl : true = z := hz
    go_enter Tryd.func13, Tryd.ntmps13
    go_wp2_with fail
    all_goals go_ret
    all_goals exact ⟨rfl, HFin.out⟩
  · subst h
    obtain rfl : true = z := hz
    go_enter Tryd.func13, Tryd.ntmps13
    go_wp2_with fail
    all_goals go_ret
    all_goals exact ⟨rfl, HFin.out⟩
  · subst h
    obtain rfl : true = z := hz
    go_enter Tryd.func13, Tryd.ntmps13
    go_wp2_with fail
    all_goals go_ret
    all_goals exact ⟨rfl, HFin.out⟩
  · subst h
    obtain rfl : true = z := hz
    go_enter Tryd.func13, Tryd.ntmps13
    go_wp2_with fail
    all_goals go_ret
    all_goals exact ⟨rfl, HFin.out⟩
  · obtain rfl : false = z := by rw [← hz]; simp [plainM, ctrlM, h0, h2, h4, h6]
    have k0 : (m == 0) = false := by simpa using h0
    have k2 : (m == 2) = false := by simpa using h2
    have k4 : (m == 4) = false := by simpa using h4
    have k6 : (m == 6) = false := by simpa using h6
    clear hz h0 h2 h4 h6
    go_enter Tryd.func13, Tryd.ntmps13
    go_wp2_with fail
    all_goals go_ret
    all_goals exact ⟨rfl, HFin.out⟩

set_option maxHeartbeats 4000000 in
theorem valid_at (c m : Int) (z : Bool) (hc : c = 13 ∨ c = 9 ∨ c = 27 ∨ c = 127) (hz : plainM m = z) (w : World) : Calls Tryd.prog 13 #[.agg #[.int .i64 c, .int .i64 m]] w fun r w' => r = .returned (.bool z) ∧ Below w.heap.size w w' := by
  have HFin : Hid (Below w.heap.size w (w.alloc (.cells #[.int .i64 c, .int .i64 m] 30))) := (Below.refl _ _).alloc (Nat.le_refl _) _
  rcases (by omega : m = 0 ∨ m = 2 ∨ (m ≠ 0 ∧ m ≠ 2)) with h | h | ⟨h0, h2⟩
  · subst h
    obtain rfl : true = z := hz
    rcases hc with h | h | h | h
    · subst h
      go_enter Tryd.func13, Tryd.ntmps13
      go_wp2_with fail
      all_goals go_ret
      all_goals exact ⟨rfl, HFin.out⟩
    · subst h
      go_enter Tryd.func13, Tryd.ntmps13
      go_wp2_with fail
      all_goals go_ret
      all_goals exact ⟨rfl, HFin.out⟩
    · subst h
      go_enter Tryd.func13, Tryd.ntmps13
      go_wp2_with fail
      all_goals go_ret
      all_goals exact ⟨rfl, HFin.out⟩
    · subst h
      go_enter Tryd.func13, Tryd.ntmps13
      go_wp2_with fail
      all_goals go_ret
      all_goals exact ⟨rfl, HFin.out⟩
  · subst h
    obtain rfl : true = z := hz
    rcases hc with h | h | h | h
    · subst h
      go_enter Tryd.func13, Tryd.ntmps13
      go_wp2_with fail
      all_goals go_ret
      all_goals exact ⟨rfl, HFin.out⟩
    · subst h
      go_enter Tryd.func13, Tryd.ntmps13
      go_wp2_with fail
      all_goals go_ret
      all_goals exact ⟨rfl, HFin.out⟩
    · subst h
      go_enter Tryd.func13, Tryd.ntmps13
      go_wp2_with fail
      all_goals go_ret
      all_goals exact ⟨rfl, HFin.out⟩
    · subst h
      go_enter Tryd.func13, Tryd.ntmps13
      go_wp2_with fail
      all_goals go_ret
      all_goals exact ⟨rfl, HFin.out⟩
  · obtain rfl : false = z := by rw [← hz]; simp [plainM, h0, h2]
    rcases (by omega : m = 4 ∨ m = 6 ∨ (m ≠ 4 ∧ m ≠ 6)) with g | g | ⟨h4, h6⟩
    · subst g
      rcases hc with h | h | h | h
      · subst h
        go_enter Tryd.func13, Tryd.ntmps13
        go_wp2_with fail
        go_ret
        exact ⟨rfl, HFin.out⟩
      · subst h
        go_enter Tryd.func13, Tryd.ntmps13
        go_wp2_with fail
        go_ret
        exact ⟨rfl, HFin.out⟩
      · subst h
        go_enter Tryd.func13, Tryd.ntmps13
        go_wp2_with fail
        go_ret
        exact ⟨rfl, HFin.out⟩
      · subst h
        go_enter Tryd.func13, Tryd.ntmps13
        go_wp2_with fail
        go_ret
        exact ⟨rfl, HFin.out⟩
    · subst g
      rcases hc with h | h | h | h
      · subst h
        go_enter Tryd.func13, Tryd.ntmps13
        go_wp2_with fail
        go_ret
        exact ⟨rfl, HFin.out⟩
      · subst h
        go_enter Tryd.func13, Tryd.ntmps13
        go_wp2_with fail
        go_ret
        exact ⟨rfl, HFin.out⟩
      · subst h
        go_enter Tryd.func13, Tryd.ntmps13
        go_wp2_with fail
        go_ret
        exact ⟨rfl, HFin.out⟩
      · subst h
        go_enter Tryd.func13, Tryd.ntmps13
        go_wp2_with fail
        go_ret
        exact ⟨rfl, HFin.out⟩
    · have k0 : (m == 0) = false := by simpa using h0
      have k2 : (m == 2) = false := by simpa using h2
      have k4 : (m == 4) = false := by simpa using h4
      have k6 : (m == 6) = false := by simpa using h6
      clear hz h0 h2 h4 h6
      rcases hc with h | h | h | h
      · subst h
        go_enter Tryd.func13, Tryd.ntmps13
        go_wp2_with fail
        go_ret
        exact ⟨rfl, HFin.out⟩
      · subst h
        go_enter Tryd.func13, Tryd.ntmps13
        go_wp2_with fail
        go_ret
        exact ⟨rfl, HFin.out⟩
      · subst h
        go_enter Tryd.func13, Tryd.ntmps13
        go_wp2_with fail
        go_ret
        exact ⟨rfl, HFin.out⟩
      · subst h
        go_enter Tryd.func13, Tryd.ntmps13
        go_wp2_with fail
        go_ret
        exact ⟨rfl, HFin.out⟩

set_option maxHeartbeats 4000000 in
theorem valid_btab (c m : Int) (z : Bool) (hc : c = 16777239) (hz : decide (m = 0) = z) (w : World) : Calls Tryd.prog 13 #[.agg #[.int .i64 c, .int .i64 m]] w fun r w' => r = .returned (.bool z) ∧ Below w.heap.size w w' := by
  have HFin : Hid (Below w.heap.size w (w.alloc (.cells #[.int .i64 c, .int .i64 m] 30))) := (Below.refl _ _).alloc (Nat.le_refl _) _
  subst hc
  rcases (by omega : m = 0 ∨ m = 2 ∨ m = 4 ∨ m = 6 ∨ (m ≠ 0 ∧ m ≠ 2 ∧ m ≠ 4 ∧ m ≠ 6)) with h | h | h | h | ⟨h0, h2, h4, h6⟩
  · subst h
    obtain rfl : true = z := hz
    go_enter Tryd.func13, Tryd.ntmps13
    go_wp2_with fail
    go_ret
    exact ⟨rfl, HFin.out⟩
  · subst h
    obtain rfl : false = z := hz
    go_enter Tryd.func13, Tryd.ntmps13
    go_wp2_with fail
    go_ret
    exact ⟨rfl, HFin.out⟩
  · subst h
    obtain rfl : false = z := hz
    go_enter Tryd.func13, Tryd.ntmps13
    go_wp2_with fail
    go_ret
    exact ⟨rfl, HFin.out⟩
  · subst h
    obtain rfl : false = z := hz
    go_enter Tryd.func13, Tryd.ntmps13
    go_wp2_with fail
    go_ret
    exact ⟨rfl, HFin.out⟩
  · obtain rfl : false = z := by rw [← hz]; simp [h0]
    have k0 : (m == 0) = false := by simp; omega
    have k2 : (m == 2) = false := by simp; omega
    have k4 : (m == 4) = false := by simp; omega
    have k6 : (m == 6) = false := by simp; omega
    clear hz h0 h2 h4 h6
    go_enter Tryd.func13, Tryd.ntmps13
    go_wp2_with fail
    go_ret
    exact ⟨rfl, HFin.out⟩

set_option maxHeartbeats 4000000 in
theorem valid_special (c m : Int) (z : Bool) (hc : spcB c = true) (hz : decide (0 ≤ m ∧ m ≤ 7) = z) (w : World) : Calls Tryd.prog 13 #[.agg #[.int .i64 c, .int .i64 m]] w fun r w' => r = .returned (.bool z) ∧ Below w.heap.size w w' := by
  have HFin : Hid (Below w.heap.size w (w.alloc (.cells #[.int .i64 c, .int .i64 m] 30))) := (Below.refl _ _).alloc (Nat.le_refl _) _
  have HS : Hid (∀ W, Calls Tryd.prog 26 #[.int .i64 c] W fun r w' => r = .returned (.bool true) ∧ W = w') := fun W => by rw [← hc]; exact isSpecial_any c W
  have hb : 16777217 ≤ c ∧ c ≤ 16777238 := by simpa [spcB] using hc
  have e1 : (c == 32) = false := by simp; omega
  have e2 : (c == 13) = false := by simp; omega
  have e3 : (c == 9) = false := by simp; omega
  have e4 : (c == 27) = false := by simp; omega
  have e5 : (c == 127) = false := by simp; omega
  have e6 : (c == 16777239) = false := by simp; omega
  clear hb hc
  rcases (by omega : m = 0 ∨ m = 1 ∨ m = 2 ∨ m = 3 ∨ m = 4 ∨ m = 5 ∨ m = 6 ∨ m = 7 ∨ ¬ 0 ≤ m ∨ (0 ≤ m ∧ ¬ m ≤ 7)) with h | h | h | h | h | h | h | h | h0 | ⟨h0, h7⟩
  · subst h
    obtain rfl : true = z := hz
    go_enter Tryd.func13, Tryd.ntmps13
    go_wp2_with (go_at_call 26; refine (HS.out _).mono ?_; rintro e w1 ⟨rfl, rfl⟩)
    go_ret
    exact ⟨rfl, HFin.out⟩
  · subst h
    obtain rfl : true = z := hz
    go_enter Tryd.func13, Tryd.ntmps13
    go_wp2_with (go_at_call 26; refine (HS.out _).mono ?_; rintro e w1 ⟨rfl, rfl⟩)
    go_ret
    exact ⟨rfl, HFin.out⟩
  · subst h
    obtain rfl : true = z := hz
    go_enter Tryd.func13, Tryd.ntmps13
    go_wp2_with (go_at_call 26; refine (HS.out _).mono ?_; rintro e w1 ⟨rfl, rfl⟩)
    go_ret
    exact ⟨rfl, HFin.out⟩
  · subst h
    obtain rfl : true = z := hz
    go_enter Tryd.func13, Tryd.ntmps13
    go_wp2_with (go_at_call 26; refine (HS.out _).mono ?_; rintro e w1 ⟨rfl, rfl⟩)
    go_ret
    exact ⟨rfl, HFin.out⟩
  · subst h
    obtain rfl : true = z := hz
    go_enter Tryd.func13, Tryd.ntmps13
    go_wp2_with (go_at_call 26; refine (HS.out _).mono ?_; rintro e w1 ⟨rfl, rfl⟩)
    go_ret
    exact ⟨rfl, HFin.out⟩
  · subst h
    obtain rfl : true = z := hz
    go_enter Tryd.func13, Tryd.ntmps13
    go_wp2_with (go_at_call 26; refine (HS.out _).mono ?_; rintro e w1 ⟨rfl, rfl⟩)
    go_ret
    exact ⟨rfl, HFin.out⟩
  · subst h
    obtain rfl : true = z := hz
    go_enter Tryd.func13, Tryd.ntmps13
    go_wp2_with (go_at_call 26; refine (HS.out _).mono ?_; rintro e w1 ⟨rfl, rfl⟩)
    go_ret
    exact ⟨rfl, HFin.out⟩
  · subst h
    obtain rfl : true = z := hz
    go_enter Tryd.func13, Tryd.ntmps13
    go_wp2_with (go_at_call 26; refine (HS.out _).mono ?_; rintro e w1 ⟨rfl, rfl⟩)
    go_ret
    exact ⟨rfl, HFin.out⟩
  · obtain rfl : false = z := by rw [← hz]; simp [h0]
    have k0 : (m == 0) = false := by simp; omega
    have k2 : (m == 2) = false := by simp; omega
    have k4 : (m == 4) = false := by simp; omega
    have k6 : (m == 6) = false := by simp; omega
    clear hz
    go_enter Tryd.func13, Tryd.ntmps13
    go_wp2_with (go_at_call 26; refine (HS.out _).mono ?_; rintro e w1 ⟨rfl, rfl⟩)
    go_ret
    exact ⟨rfl, HFin.out⟩
  · obtain rfl : false = z := by rw [← hz]; simp [h7]
    have k0 : (m == 0) = false := by simp; omega
    have k2 : (m == 2) = false := by simp; omega
    have k4 : (m == 4) = false := by simp; omega
    have k6 : (m == 6) = false := by simp; omega
    clear hz
    go_enter Tryd.func13, Tryd.ntmps13
    go_wp2_with (go_at_call 26; refine (HS.out _).mono ?_; rintro e w1 ⟨rfl, rfl⟩)
    go_ret
    exact ⟨by first | rfl | (refine retB ?_; simp; omega), HFin.out⟩

theorem valid_any (c m : Int) (w : World) : Calls Tryd.prog 13 #[.agg #[.int .i64 c, .int .i64 m]] w fun r w' => r = .returned (.bool (validB c m)) ∧ Below w.heap.size w w' := by
  unfold validB
  by_cases h1 : c = 32
  · rw [if_pos h1]
    exact valid_blank c m _ h1 rfl w
  · rw [if_neg h1]
    by_cases h2 : oneB c = true
    · rw [if_pos h2]
      exact valid_at c m _ (by simpa [oneB] using h2) rfl w
    · rw [if_neg h2]
      by_cases h3 : c = 16777239
      · rw [if_pos h3]
        exact valid_btab c m _ h3 rfl w
      · rw [if_neg h3]
        by_cases h4 : spcB c = true
        · rw [if_pos h4]
          exact valid_special c m _ h4 rfl w
        · rw [if_neg h4]
          exact valid_rest c m w h1 (by simpa using h2) h3 (by simpa using h4)
end Go.Proofs.YtghepjjfdaecgaaDoor
