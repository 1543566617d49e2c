/-
  Keys: Valid by the document.
-/
import Derived.Test.YtgdkpmfdpfjdjaaGreatDoorJG
namespace Go.Proofs.YtgdkpmfdpfjdjaaGreatDoor
open Go.RowKit
set_option linter.unusedVariables false
set_option maxRecDepth 100000

theorem valid_mods {c m : Int} (h : validB c m = true) : 0 ≤ m ∧ m ≤ 7 := by
  unfold validB at h
  by_cases h1 : c = 32
  · rw [if_pos h1] at h
    simp [plainM, ctrlM] at h
    omega
  · rw [if_neg h1] at h
    by_cases h2 : oneB c = true
    · rw [if_pos h2] at h
      simp [plainM] at h
      omega
    · rw [if_neg h2] at h
      by_cases h3 : c = 16777239
      · rw [if_pos h3] at h
        simp at h
        omega
      · rw [if_neg h3] at h
        by_cases h4 : spcB c = true
        · rw [if_pos h4] at h
          simpa using h
        · rw [if_neg h4] at h
          simp [plainM, ctrlM] at h
          omega
set_option maxHeartbeats 1000000 in
theorem rvalid_out (c m : Int) (hm : ¬ (0 ≤ m ∧ m ≤ 7)) (z : Bool) (hz : z = false) (w : World) : Calls Tryz.prog 93 #[.agg #[.int .i64 c, .int .i64 m]] w fun r w' => r = .returned (.bool z) ∧ Below w.heap.size w w' := by
  have HFin : Hid (Below w.heap.size w (w.alloc (.cells #[.int .i64 c, .int .i64 m] 115))) := (Below.refl _ _).alloc (Nat.le_refl _) _
  subst hz
  rcases (by omega : m < 0 ∨ (¬ m < 0 ∧ 7 < m)) with i1 | ⟨i1, i2⟩
  · clear hm
    go_enter Tryz.func93, Tryz.ntmps93
    go_wp2_with fail
    go_ret
    exact ⟨rfl, HFin.out⟩
  · clear hm
    go_enter Tryz.func93, Tryz.ntmps93
    go_wp2_with fail
    go_ret
    exact ⟨rfl, HFin.out⟩
set_option maxHeartbeats 8000000 in
theorem rvalid_blank (c m : Int) (hm : m = 0 ∨ m = 1 ∨ m = 2 ∨ m = 3 ∨ m = 4 ∨ m = 5 ∨ m = 6 ∨ m = 7) (z : Bool) (hc : c = 32) (hz : (plainM m || ctrlM m) = z) (w : World) : Calls Tryz.prog 93 #[.agg #[.int .i64 c, .int .i64 m]] w fun r w' => r = .returned (.bool z) ∧ Below w.heap.size w w' := by
  have HFin : Hid (Below w.heap.size w (w.alloc (.cells #[.int .i64 c, .int .i64 m] 115))) := (Below.refl _ _).alloc (Nat.le_refl _) _
  subst hc
  rcases hm with h | h | h | h | h | h | h | h
  · subst h
    obtain rfl : true = z := hz
    go_enter Tryz.func93, Tryz.ntmps93
    go_wp2_with fail
    go_ret
    exact ⟨rfl, HFin.out⟩
  · subst h
    obtain rfl : false = z := hz
    go_enter Tryz.func93, Tryz.ntmps93
    go_wp2_with fail
    go_ret
    exact ⟨rfl, HFin.out⟩
  · subst h
    obtain rfl : true = z := hz
    go_enter Tryz.func93, Tryz.ntmps93
    go_wp2_with fail
    go_ret
    exact ⟨rfl, HFin.out⟩
  · subst h
    obtain rfl : false = z := hz
    go_enter Tryz.func93, Tryz.ntmps93
    go_wp2_with fail
    go_ret
    exact ⟨rfl, HFin.out⟩
  · subst h
    obtain rfl : true = z := hz
    go_enter Tryz.func93, Tryz.ntmps93
    go_wp2_with fail
    go_ret
    exact ⟨rfl, HFin.out⟩
  · subst h
    obtain rfl : false = z := hz
    go_enter Tryz.func93, Tryz.ntmps93
    go_wp2_with fail
    go_ret
    exact ⟨rfl, HFin.out⟩
  · subst h
    obtain rfl : true = z := hz
    go_enter Tryz.func93, Tryz.ntmps93
    go_wp2_with fail
    go_ret
    exact ⟨rfl, HFin.out⟩
  · subst h
    obtain rfl : false = z := hz
    go_enter Tryz.func93, Tryz.ntmps93
    go_wp2_with fail
    go_ret
    exact ⟨rfl, HFin.out⟩
set_option maxHeartbeats 8000000 in
theorem rvalid_at (c m : Int) (hm : m = 0 ∨ m = 1 ∨ m = 2 ∨ m = 3 ∨ m = 4 ∨ m = 5 ∨ m = 6 ∨ m = 7) (z : Bool) (hc : c = 13 ∨ c = 9 ∨ c = 27 ∨ c = 127) (hz : plainM m = z) (w : World) : Calls Tryz.prog 93 #[.agg #[.int .i64 c, .int .i64 m]] w fun r w' => r = .returned (.bool z) ∧ Below w.heap.size w w' := by
  have HFin : Hid (Below w.heap.size w (w.alloc (.cells #[.int .i64 c, .int .i64 m] 115))) := (Below.refl _ _).alloc (Nat.le_refl _) _
  rcases hm with h | h | h | h | h | h | h | h
  · subst h
    obtain rfl : true = z := hz
    rcases hc with h | h | h | h <;> subst h <;>
    · go_enter Tryz.func93, Tryz.ntmps93
      go_wp2_with fail
      go_ret
      exact ⟨rfl, HFin.out⟩
  · subst h
    obtain rfl : false = z := hz
    rcases hc with h | h | h | h <;> subst h <;>
    · go_enter Tryz.func93, Tryz.ntmps93
      go_wp2_with fail
      go_ret
      exact ⟨rfl, HFin.out⟩
  · subst h
    obtain rfl : true = z := hz
    rcases hc with h | h | h | h <;> subst h <;>
    · go_enter Tryz.func93, Tryz.ntmps93
      go_wp2_with fail
      go_ret
      exact ⟨rfl, HFin.out⟩
  · subst h
    obtain rfl : false = z := hz
    rcases hc with h | h | h | h <;> subst h <;>
    · go_enter Tryz.func93, Tryz.ntmps93
      go_wp2_with fail
      go_ret
      exact ⟨rfl, HFin.out⟩
  · subst h
    obtain rfl : false = z := hz
    rcases hc with h | h | h | h <;> subst h <;>
    · go_enter Tryz.func93, Tryz.ntmps93
      go_wp2_with fail
      go_ret
      exact ⟨rfl, HFin.out⟩
  · subst h
    obtain rfl : false = z := hz
    rcases hc with h | h | h | h <;> subst h <;>
    · go_enter Tryz.func93, Tryz.ntmps93
      go_wp2_with fail
      go_ret
      exact ⟨rfl, HFin.out⟩
  · subst h
    obtain rfl : false = z := hz
    rcases hc with h | h | h | h <;> subst h <;>
    · go_enter Tryz.func93, Tryz.ntmps93
      go_wp2_with fail
      go_ret
      exact ⟨rfl, HFin.out⟩
  · subst h
    obtain rfl : false = z := hz
    rcases hc with h | h | h | h <;> subst h <;>
    · go_enter Tryz.func93, Tryz.ntmps93
      go_wp2_with fail
      go_ret
      exact ⟨rfl, HFin.out⟩
set_option maxHeartbeats 8000000 in
theorem rvalid_special (c m : Int) (hm : m = 0 ∨ m = 1 ∨ m = 2 ∨ m = 3 ∨ m = 4 ∨ m = 5 ∨ m = 6 ∨ m = 7) (z : Bool) (hc : spcB c = true) (hz : true = z) (w : World) : Calls Tryz.prog 93 #[.agg #[.int .i64 c, .int .i64 m]] w fun r w' => r = .returned (.bool z) ∧ Below w.heap.size w w' := by
  have HFin : Hid (Below w.heap.size w (w.alloc (.cells #[.int .i64 c, .int .i64 m] 115))) := (Below.refl _ _).alloc (Nat.le_refl _) _
  have HS : Hid (∀ W, Calls Tryz.prog 118 #[.int .i64 c] W fun r w' => r = .returned (.bool true) ∧ W = w') := fun W => by rw [← hc]; exact rspecial_any c W
  have hb : 16777217 ≤ c ∧ c ≤ 16777238 := by simpa [spcB] using hc
  subst hz
  have e1 : (c == 32) = false := by simp; omega
  have e2 : (c == 13) = false := by simp; omega
  have e3 : (c == 9) = false := by simp; omega
  have e4 : (c == 27) = false := by simp; omega
  have e5 : (c == 127) = false := by simp; omega
  clear hb hc
  rcases hm with h | h | h | h | h | h | h | h
  · subst h
    go_enter Tryz.func93, Tryz.ntmps93
    go_wp2_with (go_at_call 118; refine (HS.out _).mono ?_; rintro e w1 ⟨rfl, rfl⟩)
    go_ret
    exact ⟨rfl, HFin.out⟩
  · subst h
    go_enter Tryz.func93, Tryz.ntmps93
    go_wp2_with (go_at_call 118; refine (HS.out _).mono ?_; rintro e w1 ⟨rfl, rfl⟩)
    go_ret
    exact ⟨rfl, HFin.out⟩
  · subst h
    go_enter Tryz.func93, Tryz.ntmps93
    go_wp2_with (go_at_call 118; refine (HS.out _).mono ?_; rintro e w1 ⟨rfl, rfl⟩)
    go_ret
    exact ⟨rfl, HFin.out⟩
  · subst h
    go_enter Tryz.func93, Tryz.ntmps93
    go_wp2_with (go_at_call 118; refine (HS.out _).mono ?_; rintro e w1 ⟨rfl, rfl⟩)
    go_ret
    exact ⟨rfl, HFin.out⟩
  · subst h
    go_enter Tryz.func93, Tryz.ntmps93
    go_wp2_with (go_at_call 118; refine (HS.out _).mono ?_; rintro e w1 ⟨rfl, rfl⟩)
    go_ret
    exact ⟨rfl, HFin.out⟩
  · subst h
    go_enter Tryz.func93, Tryz.ntmps93
    go_wp2_with (go_at_call 118; refine (HS.out _).mono ?_; rintro e w1 ⟨rfl, rfl⟩)
    go_ret
    exact ⟨rfl, HFin.out⟩
  · subst h
    go_enter Tryz.func93, Tryz.ntmps93
    go_wp2_with (go_at_call 118; refine (HS.out _).mono ?_; rintro e w1 ⟨rfl, rfl⟩)
    go_ret
    exact ⟨rfl, HFin.out⟩
  · subst h
    go_enter Tryz.func93, Tryz.ntmps93
    go_wp2_with (go_at_call 118; refine (HS.out _).mono ?_; rintro e w1 ⟨rfl, rfl⟩)
    go_ret
    exact ⟨rfl, HFin.out⟩
set_option maxHeartbeats 8000000 in
theorem rvalid_btab (c m : Int) (hm : m = 0 ∨ m = 1 ∨ m = 2 ∨ m = 3 ∨ m = 4 ∨ m = 5 ∨ m = 6 ∨ m = 7) (z : Bool) (hc : c = 16777239) (hz : decide (m = 0) = z) (w : World) : Calls Tryz.prog 93 #[.agg #[.int .i64 c, .int .i64 m]] w fun r w' => r = .returned (.bool z) ∧ Below w.heap.size w w' := by
  have HFin : Hid (Below w.heap.size w (w.alloc (.cells #[.int .i64 c, .int .i64 m] 115))) := (Below.refl _ _).alloc (Nat.le_refl _) _
  have HS : Hid (∀ W, Calls Tryz.prog 118 #[.int .i64 16777239] W fun r w' => r = .returned (.bool false) ∧ W = w') := rspecial_any 16777239
  subst hc
  rcases hm with h | h | h | h | h | h | h | h
  · subst h
    obtain rfl : true = z := hz
    go_enter Tryz.func93, Tryz.ntmps93
    go_wp2_with (go_at_call 118; refine (HS.out _).mono ?_; rintro e w1 ⟨rfl, rfl⟩)
    go_ret
    exact ⟨rfl, HFin.out⟩
  · subst h
    obtain rfl : false = z := hz
    go_enter Tryz.func93, Tryz.ntmps93
    go_wp2_with (go_at_call 118; refine (HS.out _).mono ?_; rintro e w1 ⟨rfl, rfl⟩)
    go_ret
    exact ⟨rfl, HFin.out⟩
  · subst h
    obtain rfl : false = z := hz
    go_enter Tryz.func93, Tryz.ntmps93
    go_wp2_with (go_at_call 118; refine (HS.out _).mono ?_; rintro e w1 ⟨rfl, rfl⟩)
    go_ret
    exact ⟨rfl, HFin.out⟩
  · subst h
    obtain rfl : false = z := hz
    go_enter Tryz.func93, Tryz.ntmps93
    go_wp2_with (go_at_call 118; refine (HS.out _).mono ?_; rintro e w1 ⟨rfl, rfl⟩)
    go_ret
    exact ⟨rfl, HFin.out⟩
  · subst h
    obtain rfl : false = z := hz
    go_enter Tryz.func93, Tryz.ntmps93
    go_wp2_with (go_at_call 118; refine (HS.out _).mono ?_; rintro e w1 ⟨rfl, rfl⟩)
    go_ret
    exact ⟨rfl, HFin.out⟩
  · subst h
    obtain rfl : false = z := hz
    go_enter Tryz.func93, Tryz.ntmps93
    go_wp2_with (go_at_call 118; refine (HS.out _).mono ?_; rintro e w1 ⟨rfl, rfl⟩)
    go_ret
    exact ⟨rfl, HFin.out⟩
  · subst h
    obtain rfl : false = z := hz
    go_enter Tryz.func93, Tryz.ntmps93
    go_wp2_with (go_at_call 118; refine (HS.out _).mono ?_; rintro e w1 ⟨rfl, rfl⟩)
    go_ret
    exact ⟨rfl, HFin.out⟩
  · subst h
    obtain rfl : false = z := hz
    go_enter Tryz.func93, Tryz.ntmps93
    go_wp2_with (go_at_call 118; refine (HS.out _).mono ?_; rintro e w1 ⟨rfl, rfl⟩)
    go_ret
    exact ⟨rfl, HFin.out⟩
set_option maxHeartbeats 8000000 in
theorem rvalid_rest (c m : Int) (hm : m = 0 ∨ m = 1 ∨ m = 2 ∨ m = 3 ∨ m = 4 ∨ m = 5 ∨ m = 6 ∨ m = 7) (z : Bool) (h1 : c ≠ 32) (h2 : oneB c = false) (h3 : c ≠ 16777239) (h4 : spcB c = false) (hz : (plainM m && chrB c || ctrlM m && ctlB c) = z) (w : World) : Calls Tryz.prog 93 #[.agg #[.int .i64 c, .int .i64 m]] w fun r w' => r = .returned (.bool z) ∧ Below w.heap.size w w' := by
  have HFin : Hid (Below w.heap.size w (w.alloc (.cells #[.int .i64 c, .int .i64 m] 115))) := (Below.refl _ _).alloc (Nat.le_refl _) _
  have HS : Hid (∀ W, Calls Tryz.prog 118 #[.int .i64 c] W fun r w' => r = .returned (.bool false) ∧ W = w') := fun W => by rw [← h4]; exact rspecial_any c W
  have HC : Hid (∀ W, Calls Tryz.prog 119 #[.int .i64 c] W fun r w' => r = .returned (.bool (chrB c)) ∧ W = w') := rcharacter_any c
  have HT : Hid (∀ W, Calls Tryz.prog 120 #[.int .i64 c] W fun r w' => r = .returned (.bool (ctlB c)) ∧ W = w') := rcontrolled_any c
  have ho : ¬ (c = 13 ∨ c = 9 ∨ c = 27 ∨ c = 127) := by simpa [oneB] using h2
  have e1 : (c == 32) = false := by simp; omega
  have e2 : (c == 13) = false := by simp; omega
  have e3 : (c == 9) = false := by simp; omega
  have e4 : (c == 27) = false := by simp; omega
  have e5 : (c == 127) = false := by simp; omega
  have e6 : (c == 16777239) = false := by simpa using h3
  generalize chrB c = x at HC hz
  generalize ctlB c = y at HT hz
  clear h1 h2 h3 h4 ho
  cases x <;> cases y
  · rcases hm with h | h | h | h | h | h | h | h
    · subst h
      obtain rfl : false = z := hz
      go_enter Tryz.func93, Tryz.ntmps93
      go_wp2_with first | (go_at_call 118; refine (HS.out _).mono ?_; rintro e w1 ⟨rfl, rfl⟩) | (go_at_call 119; refine (HC.out _).mono ?_; rintro e w1 ⟨rfl, rfl⟩) | (go_at_call 120; refine (HT.out _).mono ?_; rintro e w1 ⟨rfl, rfl⟩)
      go_ret
      exact ⟨rfl, HFin.out⟩
    · subst h
      obtain rfl : false = z := hz
      go_enter Tryz.func93, Tryz.ntmps93
      go_wp2_with first | (go_at_call 118; refine (HS.out _).mono ?_; rintro e w1 ⟨rfl, rfl⟩) | (go_at_call 119; refine (HC.out _).mono ?_; rintro e w1 ⟨rfl, rfl⟩) | (go_at_call 120; refine (HT.out _).mono ?_; rintro e w1 ⟨rfl, rfl⟩)
      go_ret
      exact ⟨rfl, HFin.out⟩
    · subst h
      obtain rfl : false = z := hz
      go_enter Tryz.func93, Tryz.ntmps93
      go_wp2_with first | (go_at_call 118; refine (HS.out _).mono ?_; rintro e w1 ⟨rfl, rfl⟩) | (go_at_call 119; refine (HC.out _).mono ?_; rintro e w1 ⟨rfl, rfl⟩) | (go_at_call 120; refine (HT.out _).mono ?_; rintro e w1 ⟨rfl, rfl⟩)
      go_ret
      exact ⟨rfl, HFin.out⟩
    · subst h
      obtain rfl : false = z := hz
      go_enter Tryz.func93, Tryz.ntmps93
      go_wp2_with first | (go_at_call 118; refine (HS.out _).mono ?_; rintro e w1 ⟨rfl, rfl⟩) | (go_at_call 119; refine (HC.out _).mono ?_; rintro e w1 ⟨rfl, rfl⟩) | (go_at_call 120; refine (HT.out _).mono ?_; rintro e w1 ⟨rfl, rfl⟩)
      go_ret
      exact ⟨rfl, HFin.out⟩
    · subst h
      obtain rfl : false = z := hz
      go_enter Tryz.func93, Tryz.ntmps93
      go_wp2_with first | (go_at_call 118; refine (HS.out _).mono ?_; rintro e w1 ⟨rfl, rfl⟩) | (go_at_call 119; refine (HC.out _).mono ?_; rintro e w1 ⟨rfl, rfl⟩) | (go_at_call 120; refine (HT.out _).mono ?_; rintro e w1 ⟨rfl, rfl⟩)
      go_ret
      exact ⟨rfl, HFin.out⟩
    · subst h
      obtain rfl : false = z := hz
      go_enter Tryz.func93, Tryz.ntmps93
      go_wp2_with first | (go_at_call 118; refine (HS.out _).mono ?_; rintro e w1 ⟨rfl, rfl⟩) | (go_at_call 119; refine (HC.out _).mono ?_; rintro e w1 ⟨rfl, rfl⟩) | (go_at_call 120; refine (HT.out _).mono ?_; rintro e w1 ⟨rfl, rfl⟩)
      go_ret
      exact ⟨rfl, HFin.out⟩
    · subst h
      obtain rfl : false = z := hz
      go_enter Tryz.func93, Tryz.ntmps93
      go_wp2_with first | (go_at_call 118; refine (HS.out _).mono ?_; rintro e w1 ⟨rfl, rfl⟩) | (go_at_call 119; refine (HC.out _).mono ?_; rintro e w1 ⟨rfl, rfl⟩) | (go_at_call 120; refine (HT.out _).mono ?_; rintro e w1 ⟨rfl, rfl⟩)
      go_ret
      exact ⟨rfl, HFin.out⟩
    · subst h
      obtain rfl : false = z := hz
      go_enter Tryz.func93, Tryz.ntmps93
      go_wp2_with first | (go_at_call 118; refine (HS.out _).mono ?_; rintro e w1 ⟨rfl, rfl⟩) | (go_at_call 119; refine (HC.out _).mono ?_; rintro e w1 ⟨rfl, rfl⟩) | (go_at_call 120; refine (HT.out _).mono ?_; rintro e w1 ⟨rfl, rfl⟩)
      go_ret
      exact ⟨rfl, HFin.out⟩
  · rcases hm with h | h | h | h | h | h | h | h
    · subst h
      obtain rfl : false = z := hz
      go_enter Tryz.func93, Tryz.ntmps93
      go_wp2_with first | (go_at_call 118; refine (HS.out _).mono ?_; rintro e w1 ⟨rfl, rfl⟩) | (go_at_call 119; refine (HC.out _).mono ?_; rintro e w1 ⟨rfl, rfl⟩) | (go_at_call 120; refine (HT.out _).mono ?_; rintro e w1 ⟨rfl, rfl⟩)
      go_ret
      exact ⟨rfl, HFin.out⟩
    · subst h
      obtain rfl : false = z := hz
      go_enter Tryz.func93, Tryz.ntmps93
      go_wp2_with first | (go_at_call 118; refine (HS.out _).mono ?_; rintro e w1 ⟨rfl, rfl⟩) | (go_at_call 119; refine (HC.out _).mono ?_; rintro e w1 ⟨rfl, rfl⟩) | (go_at_call 120; refine (HT.out _).mono ?_; rintro e w1 ⟨rfl, rfl⟩)
      go_ret
      exact ⟨rfl, HFin.out⟩
    · subst h
      obtain rfl : false = z := hz
      go_enter Tryz.func93, Tryz.ntmps93
      go_wp2_with first | (go_at_call 118; refine (HS.out _).mono ?_; rintro e w1 ⟨rfl, rfl⟩) | (go_at_call 119; refine (HC.out _).mono ?_; rintro e w1 ⟨rfl, rfl⟩) | (go_at_call 120; refine (HT.out _).mono ?_; rintro e w1 ⟨rfl, rfl⟩)
      go_ret
      exact ⟨rfl, HFin.out⟩
    · subst h
      obtain rfl : false = z := hz
      go_enter Tryz.func93, Tryz.ntmps93
      go_wp2_with first | (go_at_call 118; refine (HS.out _).mono ?_; rintro e w1 ⟨rfl, rfl⟩) | (go_at_call 119; refine (HC.out _).mono ?_; rintro e w1 ⟨rfl, rfl⟩) | (go_at_call 120; refine (HT.out _).mono ?_; rintro e w1 ⟨rfl, rfl⟩)
      go_ret
      exact ⟨rfl, HFin.out⟩
    · subst h
      obtain rfl : true = z := hz
      go_enter Tryz.func93, Tryz.ntmps93
      go_wp2_with first | (go_at_call 118; refine (HS.out _).mono ?_; rintro e w1 ⟨rfl, rfl⟩) | (go_at_call 119; refine (HC.out _).mono ?_; rintro e w1 ⟨rfl, rfl⟩) | (go_at_call 120; refine (HT.out _).mono ?_; rintro e w1 ⟨rfl, rfl⟩)
      go_ret
      exact ⟨rfl, HFin.out⟩
    · subst h
      obtain rfl : false = z := hz
      go_enter Tryz.func93, Tryz.ntmps93
      go_wp2_with first | (go_at_call 118; refine (HS.out _).mono ?_; rintro e w1 ⟨rfl, rfl⟩) | (go_at_call 119; refine (HC.out _).mono ?_; rintro e w1 ⟨rfl, rfl⟩) | (go_at_call 120; refine (HT.out _).mono ?_; rintro e w1 ⟨rfl, rfl⟩)
      go_ret
      exact ⟨rfl, HFin.out⟩
    · subst h
      obtain rfl : true = z := hz
      go_enter Tryz.func93, Tryz.ntmps93
      go_wp2_with first | (go_at_call 118; refine (HS.out _).mono ?_; rintro e w1 ⟨rfl, rfl⟩) | (go_at_call 119; refine (HC.out _).mono ?_; rintro e w1 ⟨rfl, rfl⟩) | (go_at_call 120; refine (HT.out _).mono ?_; rintro e w1 ⟨rfl, rfl⟩)
      go_ret
      exact ⟨rfl, HFin.out⟩
    · subst h
      obtain rfl : false = z := hz
      go_enter Tryz.func93, Tryz.ntmps93
      go_wp2_with first | (go_at_call 118; refine (HS.out _).mono ?_; rintro e w1 ⟨rfl, rfl⟩) | (go_at_call 119; refine (HC.out _).mono ?_; rintro e w1 ⟨rfl, rfl⟩) | (go_at_call 120; refine (HT.out _).mono ?_; rintro e w1 ⟨rfl, rfl⟩)
      go_ret
      exact ⟨rfl, HFin.out⟩
  · rcases hm with h | h | h | h | h | h | h | h
    · subst h
      obtain rfl : true = z := hz
      go_enter Tryz.func93, Tryz.ntmps93
      go_wp2_with first | (go_at_call 118; refine (HS.out _).mono ?_; rintro e w1 ⟨rfl, rfl⟩) | (go_at_call 119; refine (HC.out _).mono ?_; rintro e w1 ⟨rfl, rfl⟩) | (go_at_call 120; refine (HT.out _).mono ?_; rintro e w1 ⟨rfl, rfl⟩)
      go_ret
      exact ⟨rfl, HFin.out⟩
    · subst h
      obtain rfl : false = z := hz
      go_enter Tryz.func93, Tryz.ntmps93
      go_wp2_with first | (go_at_call 118; refine (HS.out _).mono ?_; rintro e w1 ⟨rfl, rfl⟩) | (go_at_call 119; refine (HC.out _).mono ?_; rintro e w1 ⟨rfl, rfl⟩) | (go_at_call 120; refine (HT.out _).mono ?_; rintro e w1 ⟨rfl, rfl⟩)
      go_ret
      exact ⟨rfl, HFin.out⟩
    · subst h
      obtain rfl : true = z := hz
      go_enter Tryz.func93, Tryz.ntmps93
      go_wp2_with first | (go_at_call 118; refine (HS.out _).mono ?_; rintro e w1 ⟨rfl, rfl⟩) | (go_at_call 119; refine (HC.out _).mono ?_; rintro e w1 ⟨rfl, rfl⟩) | (go_at_call 120; refine (HT.out _).mono ?_; rintro e w1 ⟨rfl, rfl⟩)
      go_ret
      exact ⟨rfl, HFin.out⟩
    · subst h
      obtain rfl : false = z := hz
      go_enter Tryz.func93, Tryz.ntmps93
      go_wp2_with first | (go_at_call 118; refine (HS.out _).mono ?_; rintro e w1 ⟨rfl, rfl⟩) | (go_at_call 119; refine (HC.out _).mono ?_; rintro e w1 ⟨rfl, rfl⟩) | (go_at_call 120; refine (HT.out _).mono ?_; rintro e w1 ⟨rfl, rfl⟩)
      go_ret
      exact ⟨rfl, HFin.out⟩
    · subst h
      obtain rfl : false = z := hz
      go_enter Tryz.func93, Tryz.ntmps93
      go_wp2_with first | (go_at_call 118; refine (HS.out _).mono ?_; rintro e w1 ⟨rfl, rfl⟩) | (go_at_call 119; refine (HC.out _).mono ?_; rintro e w1 ⟨rfl, rfl⟩) | (go_at_call 120; refine (HT.out _).mono ?_; rintro e w1 ⟨rfl, rfl⟩)
      go_ret
      exact ⟨rfl, HFin.out⟩
    · subst h
      obtain rfl : false = z := hz
      go_enter Tryz.func93, Tryz.ntmps93
      go_wp2_with first | (go_at_call 118; refine (HS.out _).mono ?_; rintro e w1 ⟨rfl, rfl⟩) | (go_at_call 119; refine (HC.out _).mono ?_; rintro e w1 ⟨rfl, rfl⟩) | (go_at_call 120; refine (HT.out _).mono ?_; rintro e w1 ⟨rfl, rfl⟩)
      go_ret
      exact ⟨rfl, HFin.out⟩
    · subst h
      obtain rfl : false = z := hz
      go_enter Tryz.func93, Tryz.ntmps93
      go_wp2_with first | (go_at_call 118; refine (HS.out _).mono ?_; rintro e w1 ⟨rfl, rfl⟩) | (go_at_call 119; refine (HC.out _).mono ?_; rintro e w1 ⟨rfl, rfl⟩) | (go_at_call 120; refine (HT.out _).mono ?_; rintro e w1 ⟨rfl, rfl⟩)
      go_ret
      exact ⟨rfl, HFin.out⟩
    · subst h
      obtain rfl : false = z := hz
      go_enter Tryz.func93, Tryz.ntmps93
      go_wp2_with first | (go_at_call 118; refine (HS.out _).mono ?_; rintro e w1 ⟨rfl, rfl⟩) | (go_at_call 119; refine (HC.out _).mono ?_; rintro e w1 ⟨rfl, rfl⟩) | (go_at_call 120; refine (HT.out _).mono ?_; rintro e w1 ⟨rfl, rfl⟩)
      go_ret
      exact ⟨rfl, HFin.out⟩
  · rcases hm with h | h | h | h | h | h | h | h
    · subst h
      obtain rfl : true = z := hz
      go_enter Tryz.func93, Tryz.ntmps93
      go_wp2_with first | (go_at_call 118; refine (HS.out _).mono ?_; rintro e w1 ⟨rfl, rfl⟩) | (go_at_call 119; refine (HC.out _).mono ?_; rintro e w1 ⟨rfl, rfl⟩) | (go_at_call 120; refine (HT.out _).mono ?_; rintro e w1 ⟨rfl, rfl⟩)
      go_ret
      exact ⟨rfl, HFin.out⟩
    · subst h
      obtain rfl : false = z := hz
      go_enter Tryz.func93, Tryz.ntmps93
      go_wp2_with first | (go_at_call 118; refine (HS.out _).mono ?_; rintro e w1 ⟨rfl, rfl⟩) | (go_at_call 119; refine (HC.out _).mono ?_; rintro e w1 ⟨rfl, rfl⟩) | (go_at_call 120; refine (HT.out _).mono ?_; rintro e w1 ⟨rfl, rfl⟩)
      go_ret
      exact ⟨rfl, HFin.out⟩
    · subst h
      obtain rfl : true = z := hz
      go_enter Tryz.func93, Tryz.ntmps93
      go_wp2_with first | (go_at_call 118; refine (HS.out _).mono ?_; rintro e w1 ⟨rfl, rfl⟩) | (go_at_call 119; refine (HC.out _).mono ?_; rintro e w1 ⟨rfl, rfl⟩) | (go_at_call 120; refine (HT.out _).mono ?_; rintro e w1 ⟨rfl, rfl⟩)
      go_ret
      exact ⟨rfl, HFin.out⟩
    · subst h
      obtain rfl : false = z := hz
      go_enter Tryz.func93, Tryz.ntmps93
      go_wp2_with first | (go_at_call 118; refine (HS.out _).mono ?_; rintro e w1 ⟨rfl, rfl⟩) | (go_at_call 119; refine (HC.out _).mono ?_; rintro e w1 ⟨rfl, rfl⟩) | (go_at_call 120; refine (HT.out _).mono ?_; rintro e w1 ⟨rfl, rfl⟩)
      go_ret
      exact ⟨rfl, HFin.out⟩
    · subst h
      obtain rfl : true = z := hz
      go_enter Tryz.func93, Tryz.ntmps93
      go_wp2_with first | (go_at_call 118; refine (HS.out _).mono ?_; rintro e w1 ⟨rfl, rfl⟩) | (go_at_call 119; refine (HC.out _).mono ?_; rintro e w1 ⟨rfl, rfl⟩) | (go_at_call 120; refine (HT.out _).mono ?_; rintro e w1 ⟨rfl, rfl⟩)
      go_ret
      exact ⟨rfl, HFin.out⟩
    · subst h
      obtain rfl : false = z := hz
      go_enter Tryz.func93, Tryz.ntmps93
      go_wp2_with first | (go_at_call 118; refine (HS.out _).mono ?_; rintro e w1 ⟨rfl, rfl⟩) | (go_at_call 119; refine (HC.out _).mono ?_; rintro e w1 ⟨rfl, rfl⟩) | (go_at_call 120; refine (HT.out _).mono ?_; rintro e w1 ⟨rfl, rfl⟩)
      go_ret
      exact ⟨rfl, HFin.out⟩
    · subst h
      obtain rfl : true = z := hz
      go_enter Tryz.func93, Tryz.ntmps93
      go_wp2_with first | (go_at_call 118; refine (HS.out _).mono ?_; rintro e w1 ⟨rfl, rfl⟩) | (go_at_call 119; refine (HC.out _).mono ?_; rintro e w1 ⟨rfl, rfl⟩) | (go_at_call 120; refine (HT.out _).mono ?_; rintro e w1 ⟨rfl, rfl⟩)
      go_ret
      exact ⟨rfl, HFin.out⟩
    · subst h
      obtain rfl : false = z := hz
      go_enter Tryz.func93, Tryz.ntmps93
      go_wp2_with first | (go_at_call 118; refine (HS.out _).mono ?_; rintro e w1 ⟨rfl, rfl⟩) | (go_at_call 119; refine (HC.out _).mono ?_; rintro e w1 ⟨rfl, rfl⟩) | (go_at_call 120; refine (HT.out _).mono ?_; rintro e w1 ⟨rfl, rfl⟩)
      go_ret
      exact ⟨rfl, HFin.out⟩
theorem rvalid_any (c m : Int) (w : World) : Calls Tryz.prog 93 #[.agg #[.int .i64 c, .int .i64 m]] w fun r w' => r = .returned (.bool (validB c m)) ∧ Below w.heap.size w w' := by
  by_cases hm : 0 ≤ m ∧ m ≤ 7
  · have hm8 : m = 0 ∨ m = 1 ∨ m = 2 ∨ m = 3 ∨ m = 4 ∨ m = 5 ∨ m = 6 ∨ m = 7 := by omega
    unfold validB
    by_cases h1 : c = 32
    · rw [if_pos h1]
      exact rvalid_blank c m hm8 _ h1 rfl w
    · rw [if_neg h1]
      by_cases h2 : oneB c = true
      · rw [if_pos h2]
        exact rvalid_at c m hm8 _ (by simpa [oneB] using h2) rfl w
      · rw [if_neg h2]
        by_cases h3 : c = 16777239
        · rw [if_pos h3]
          exact rvalid_btab c m hm8 _ h3 rfl w
        · rw [if_neg h3]
          by_cases h4 : spcB c = true
          · rw [if_pos h4]
            exact rvalid_special c m hm8 _ h4 (by simp [hm]) w
          · rw [if_neg h4]
            exact rvalid_rest c m hm8 _ h1 (by simpa using h2) h3 (by simpa using h4) rfl w
  · have hv : validB c m = false := by
      cases h : validB c m with
      | false => rfl
      | true => exact absurd (valid_mods h) hm
    rw [hv]
    exact rvalid_out c m hm _ rfl w
end Go.Proofs.YtgdkpmfdpfjdjaaGreatDoor
