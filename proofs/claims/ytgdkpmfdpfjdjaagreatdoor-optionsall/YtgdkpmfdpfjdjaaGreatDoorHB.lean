/-
  Keys: which there are, on both sides.
  Keys: Valid, whole.
-/
import Derived.Test.YtgdkpmfdpfjdjaaGreatDoorKPure
import Derived.Test.YtgdkpmfdpfjdjaaGreatDoorProg
import Derived.WalkKit
import Derived.RegionTactic
namespace Go.Proofs.YtgdkpmfdpfjdjaaGreatDoor
open Go.RowKit
set_option linter.unusedVariables false
set_option maxRecDepth 100000

theorem hidK {p : Prop} (h : p) : Hid p := h
theorem retB {a b : Bool} (h : a = b) : Ending.returned (.bool a) = .returned (.bool b) := by rw [h]
set_option maxHeartbeats 1000000 in
theorem isSpecial_any (c : Int) (w : World) : Calls Tryz.prog 116 #[.int .i64 c] w fun r w' => r = .returned (.bool (spcB c)) ∧ w = w' := by
  go_enter Tryz.func116, Tryz.ntmps116
  go_wp2
  all_goals go_ret
  all_goals refine ⟨retB ?_, rfl⟩
  all_goals unfold spcB
  all_goals first | (rw [decide_eq_decide]; omega) | (symm; rw [decide_eq_false_iff_not]; omega) | (symm; rw [decide_eq_true_iff]; omega)
def vrB (c : Int) : Bool := decide (0 ≤ c ∧ c ≤ 1114111 ∧ (c < 55296 ∨ 57343 < c))
set_option maxHeartbeats 1000000 in
theorem validRune_any (c : Int) (w : World) : Calls Tryz.prog 136 #[.int .i32 c] w fun r w' => r = .returned (.bool (vrB c)) ∧ w = w' := by
  go_enter Tryz.func136, Tryz.ntmps136
  go_wp2
  all_goals go_ret
  all_goals refine ⟨retB ?_, rfl⟩
  all_goals unfold vrB
  all_goals first | (rw [decide_eq_decide]; omega) | (symm; rw [decide_eq_false_iff_not]; omega) | (symm; rw [decide_eq_true_iff]; omega)
set_option maxHeartbeats 1000000 in
theorem isControl_any (c : Int) (w : World) : Calls Tryz.prog 117 #[.int .i64 c] w fun r w' => r = .returned (.bool (ctlB c)) ∧ w = w' := by
  obtain ⟨z, hz⟩ : ∃ z, ctlB c = z := ⟨_, rfl⟩
  rw [hz]
  by_cases h1 : c = 105
  · subst h1
    obtain rfl : z = false := by rw [← hz]; decide
    go_enter Tryz.func117, Tryz.ntmps117
    go_wp2
    go_ret
    exact ⟨rfl, rfl⟩
  · by_cases h2 : c = 109
    · subst h2
      obtain rfl : z = false := by rw [← hz]; decide
      go_enter Tryz.func117, Tryz.ntmps117
      go_wp2
      go_ret
      exact ⟨rfl, rfl⟩
    · have e1 : (c == 105) = false := by simpa using h1
      have e2 : (c == 109) = false := by simpa using h2
      have hz2 : z = decide (97 ≤ c ∧ c ≤ 122 ∨ 92 ≤ c ∧ c ≤ 95) := by rw [← hz]; unfold ctlB; rw [decide_eq_decide]; omega
      have HZ := hidK hz2
      clear hz hz2 h1 h2
      go_enter Tryz.func117, Tryz.ntmps117
      go_wp2
      all_goals go_ret
      all_goals refine ⟨retB ?_, rfl⟩
      all_goals rw [HZ.out]
      all_goals first | (rw [decide_eq_decide]; omega) | (symm; rw [decide_eq_false_iff_not]; omega) | (symm; rw [decide_eq_true_iff]; omega)
set_option maxHeartbeats 1000000 in
theorem isCharacter_any (c : Int) (w : World) : Calls Tryz.prog 115 #[.int .i64 c] w fun r w' => r = .returned (.bool (chrB c)) ∧ w = w' := by
  by_cases h1 : 160 ≤ c ∧ c ≤ 1114111
  · have h2 : 160 ≤ c := h1.1
    have h3 : c ≤ 1114111 := h1.2
    have hw : IntKind.i32.wrap c = c := by
      have := IntKind.wrap_i32 c
      omega
    have HV : Hid (∀ W, Calls Tryz.prog 136 #[.int .i32 c] W fun r w' => r = .returned (.bool (chrB c)) ∧ W = w') := fun W => by
      have e : chrB c = vrB c := by unfold chrB vrB; rw [decide_eq_decide]; omega
      rw [e]; exact validRune_any c W
    have h4 : ¬ c < 127 := by omega
    clear h1
    obtain ⟨z, hz⟩ : ∃ z, chrB c = z := ⟨_, rfl⟩
    rw [hz] at HV
    rw [hz]
    clear hz
    go_enter Tryz.func115, Tryz.ntmps115
    go_wp2_with (go_at_call 136; refine (HV.out _).mono ?_; rintro e w1 ⟨rfl, rfl⟩)
    go_ret
    exact ⟨rfl, rfl⟩
  · have hc : chrB c = decide (32 < c ∧ c < 127) := by unfold chrB; rw [decide_eq_decide]; omega
    have h2 : ¬ 160 ≤ c ∨ ¬ c ≤ 1114111 := by omega
    obtain ⟨z, hz⟩ : ∃ z, chrB c = z := ⟨_, rfl⟩
    rw [hz]
    rw [hz] at hc
    have HZ := hidK hc
    clear h1 hc hz
    rcases h2 with h2 | h2
    · go_enter Tryz.func115, Tryz.ntmps115
      go_wp2_with fail
      all_goals go_ret
      all_goals refine ⟨retB ?_, rfl⟩
      all_goals rw [HZ.out]
      all_goals first | rfl | (symm; rw [decide_eq_false_iff_not]; omega) | (symm; rw [decide_eq_true_iff]; omega)
    · have h3 : 160 ≤ c := by omega
      have h4 : ¬ c < 127 := by omega
      go_enter Tryz.func115, Tryz.ntmps115
      go_wp2_with fail
      all_goals go_ret
      all_goals refine ⟨retB ?_, rfl⟩
      all_goals rw [HZ.out]
      all_goals first | rfl | (symm; rw [decide_eq_false_iff_not]; omega) | (symm; rw [decide_eq_true_iff]; omega)
/-- Valid's answer where the switch says nothing. -/
theorem valid_rest (c m : Int) (w : World) (h1 : c ≠ 32) (h2 : oneB c = false) (h3 : c ≠ 16777239) (h4 : spcB c = false) :
    Calls Tryz.prog 90 #[.agg #[.int .i64 c, .int .i64 m]] w fun r w' => r = .returned (.bool (plainM m && chrB c || ctrlM m && ctlB c)) ∧ Below w.heap.size w w' := by
  have HS : Hid (∀ W, Calls Tryz.prog 116 #[.int .i64 c] W fun r w' => r = .returned (.bool false) ∧ W = w') := fun W => by rw [← h4]; exact isSpecial_any c W
  have HC : Hid (∀ W, Calls Tryz.prog 115 #[.int .i64 c] W fun r w' => r = .returned (.bool (chrB c)) ∧ W = w') := isCharacter_any c
  have HT : Hid (∀ W, Calls Tryz.prog 117 #[.int .i64 c] W fun r w' => r = .returned (.bool (ctlB c)) ∧ W = w') := isControl_any c
  have HFin : Hid (Below w.heap.size w (w.alloc (.cells #[.int .i64 c, .int .i64 m] 115))) := (Below.refl _ _).alloc (Nat.le_refl _) _
  have ho : ¬ (c = 13 ∨ c = 9 ∨ c = 27 ∨ c = 127) := by simpa [oneB] using h2
  have e1 : (c == 32) = false := by simpa using h1
  have e2 : (c == 13) = false := by simp; omega
  have e3 : (c == 9) = false := by simp; omega
  have e4 : (c == 27) = false := by simp; omega
  have e5 : (c == 127) = false := by simp; omega
  have e6 : (c == 16777239) = false := by simpa using h3
  generalize chrB c = x at HC ⊢
  generalize ctlB c = y at HT ⊢
  clear h1 h2 h3 h4 ho
  rcases (by omega : m = 0 ∨ m = 2 ∨ m = 4 ∨ m = 6 ∨ (m ≠ 0 ∧ m ≠ 2 ∧ m ≠ 4 ∧ m ≠ 6)) with h | h | h | h | ⟨h0, h2, h4, h6⟩
  · subst h
    cases x <;>
    · go_enter Tryz.func90, Tryz.ntmps90
      go_wp2_with first | (go_at_call 116; refine (HS.out _).mono ?_; rintro e w1 ⟨rfl, rfl⟩) | (go_at_call 115; refine (HC.out _).mono ?_; rintro e w1 ⟨rfl, rfl⟩)
      go_ret
      exact ⟨by simp [plainM, ctrlM], HFin.out⟩
  · subst h
    cases x <;>
    · go_enter Tryz.func90, Tryz.ntmps90
      go_wp2_with first | (go_at_call 116; refine (HS.out _).mono ?_; rintro e w1 ⟨rfl, rfl⟩) | (go_at_call 115; refine (HC.out _).mono ?_; rintro e w1 ⟨rfl, rfl⟩)
      go_ret
      exact ⟨by simp [plainM, ctrlM], HFin.out⟩
  · subst h
    go_enter Tryz.func90, Tryz.ntmps90
    go_wp2_with first | (go_at_call 116; refine (HS.out _).mono ?_; rintro e w1 ⟨rfl, rfl⟩) | (go_at_call 117; refine (HT.out _).mono ?_; rintro e w1 ⟨rfl, rfl⟩)
    go_ret
    exact ⟨by simp [plainM, ctrlM], HFin.out⟩
  · subst h
    go_enter Tryz.func90, Tryz.ntmps90
    go_wp2_with first | (go_at_call 116; refine (HS.out _).mono ?_; rintro e w1 ⟨rfl, rfl⟩) | (go_at_call 117; refine (HT.out _).mono ?_; rintro e w1 ⟨rfl, rfl⟩)
    go_ret
    exact ⟨by simp [plainM, ctrlM], HFin.out⟩
  · have k0 : (m == 0) = false := by simpa using h0
    have k2 : (m == 2) = false := by simpa using h2
    have k4 : (m == 4) = false := by simpa using h4
    have k6 : (m == 6) = false := by simpa using h6
    have HP : Hid ((plainM m && x || ctrlM m && y) = false) := by show _ = _; simp [plainM, ctrlM, h0, h2, h4, h6]
    clear h0 h2 h4 h6
    go_enter Tryz.func90, Tryz.ntmps90
    go_wp2_with first | (go_at_call 116; refine (HS.out _).mono ?_; rintro e w1 ⟨rfl, rfl⟩)
    go_ret
    exact ⟨by rw [HP.out]; rfl, HFin.out⟩
end Go.Proofs.YtgdkpmfdpfjdjaaGreatDoor

namespace Go.Proofs.YtgdkpmfdpfjdjaaGreatDoor
open Go.RowKit
set_option linter.unusedVariables false
set_option maxRecDepth 100000

set_option maxHeartbeats 4000000 in
theorem valid_blank (c m : Int) (z : Bool) (hc : c = 32) (hz : (plainM m || ctrlM m) = z) (w : World) : Calls Tryz.prog 90 #[.agg #[.int .i64 c, .int .i64 m]] w fun r w' => r = .returned (.bool z) ∧ Below w.heap.size w w' := by
  have HFin : Hid (Below w.heap.size w (w.alloc (.cells #[.int .i64 c, .int .i64 m] 115))) := (Below.refl _ _).alloc (Nat.le_refl _) _
  subst hc
  rcases (by omega : m = 0 ∨ m = 2 ∨ m = 4 ∨ m = 6 ∨ (m ≠ 0 ∧ m ≠ 2 ∧ m ≠ 4 ∧ m ≠ 6)) with h | h | h | h | ⟨h0, h2, h4, h6⟩
  · subst h
    obtain rfl : true = z := hz
    go_enter Tryz.func90, Tryz.ntmps90
    go_wp2_with fail
    all_goals go_ret
    all_goals exact ⟨rfl, HFin.out⟩
  · subst h
    obtain rfl : true = z := hz
    go_enter Tryz.func90, Tryz.ntmps90
    go_wp2_with fail
    all_goals go_ret
    all_goals exact ⟨rfl, HFin.out⟩
  · subst h
    obtain rfl : true = z := hz
    go_enter Tryz.func90, Tryz.ntmps90
    go_wp2_with fail
    all_goals go_ret
    all_goals exact ⟨rfl, HFin.out⟩
  · subst h
    obtain rfl : true = z := hz
    go_enter Tryz.func90, Tryz.ntmps90
    go_wp2_with fail
    all_goals go_ret
    all_goals exact ⟨rfl, HFin.out⟩
  · obtain rfl : false = z := by rw [← hz]; simp [plainM, ctrlM, h0, h2, h4, h6]
    have k0 : (m == 0) = false := by simpa using h0
    have k2 : (m == 2) = false := by simpa using h2
    have k4 : (m == 4) = false := by simpa using h4
    have k6 : (m == 6) = false := by simpa using h6
    clear hz h0 h2 h4 h6
    go_enter Tryz.func90, Tryz.ntmps90
    go_wp2_with fail
    all_goals go_ret
    all_goals exact ⟨rfl, HFin.out⟩

set_option maxHeartbeats 4000000 in
theorem valid_at (c m : Int) (z : Bool) (hc : c = 13 ∨ c = 9 ∨ c = 27 ∨ c = 127) (hz : plainM m = z) (w : World) : Calls Tryz.prog 90 #[.agg #[.int .i64 c, .int .i64 m]] w fun r w' => r = .returned (.bool z) ∧ Below w.heap.size w w' := by
  have HFin : Hid (Below w.heap.size w (w.alloc (.cells #[.int .i64 c, .int .i64 m] 115))) := (Below.refl _ _).alloc (Nat.le_refl _) _
  rcases (by omega : m = 0 ∨ m = 2 ∨ (m ≠ 0 ∧ m ≠ 2)) with h | h | ⟨h0, h2⟩
  · subst h
    obtain rfl : true = z := hz
    rcases hc with h | h | h | h
    · subst h
      go_enter Tryz.func90, Tryz.ntmps90
      go_wp2_with fail
      all_goals go_ret
      all_goals exact ⟨rfl, HFin.out⟩
    · subst h
      go_enter Tryz.func90, Tryz.ntmps90
      go_wp2_with fail
      all_goals go_ret
      all_goals exact ⟨rfl, HFin.out⟩
    · subst h
      go_enter Tryz.func90, Tryz.ntmps90
      go_wp2_with fail
      all_goals go_ret
      all_goals exact ⟨rfl, HFin.out⟩
    · subst h
      go_enter Tryz.func90, Tryz.ntmps90
      go_wp2_with fail
      all_goals go_ret
      all_goals exact ⟨rfl, HFin.out⟩
  · subst h
    obtain rfl : true = z := hz
    rcases hc with h | h | h | h
    · subst h
      go_enter Tryz.func90, Tryz.ntmps90
      go_wp2_with fail
      all_goals go_ret
      all_goals exact ⟨rfl, HFin.out⟩
    · subst h
      go_enter Tryz.func90, Tryz.ntmps90
      go_wp2_with fail
      all_goals go_ret
      all_goals exact ⟨rfl, HFin.out⟩
    · subst h
      go_enter Tryz.func90, Tryz.ntmps90
      go_wp2_with fail
      all_goals go_ret
      all_goals exact ⟨rfl, HFin.out⟩
    · subst h
      go_enter Tryz.func90, Tryz.ntmps90
      go_wp2_with fail
      all_goals go_ret
      all_goals exact ⟨rfl, HFin.out⟩
  · obtain rfl : false = z := by rw [← hz]; simp [plainM, h0, h2]
    rcases (by omega : m = 4 ∨ m = 6 ∨ (m ≠ 4 ∧ m ≠ 6)) with g | g | ⟨h4, h6⟩
    · subst g
      rcases hc with h | h | h | h
      · subst h
        go_enter Tryz.func90, Tryz.ntmps90
        go_wp2_with fail
        go_ret
        exact ⟨rfl, HFin.out⟩
      · subst h
        go_enter Tryz.func90, Tryz.ntmps90
        go_wp2_with fail
        go_ret
        exact ⟨rfl, HFin.out⟩
      · subst h
        go_enter Tryz.func90, Tryz.ntmps90
        go_wp2_with fail
        go_ret
        exact ⟨rfl, HFin.out⟩
      · subst h
        go_enter Tryz.func90, Tryz.ntmps90
        go_wp2_with fail
        go_ret
        exact ⟨rfl, HFin.out⟩
    · subst g
      rcases hc with h | h | h | h
      · subst h
        go_enter Tryz.func90, Tryz.ntmps90
        go_wp2_with fail
        go_ret
        exact ⟨rfl, HFin.out⟩
      · subst h
        go_enter Tryz.func90, Tryz.ntmps90
        go_wp2_with fail
        go_ret
        exact ⟨rfl, HFin.out⟩
      · subst h
        go_enter Tryz.func90, Tryz.ntmps90
        go_wp2_with fail
        go_ret
        exact ⟨rfl, HFin.out⟩
      · subst h
        go_enter Tryz.func90, Tryz.ntmps90
        go_wp2_with fail
        go_ret
        exact ⟨rfl, HFin.out⟩
    · have k0 : (m == 0) = false := by simpa using h0
      have k2 : (m == 2) = false := by simpa using h2
      have k4 : (m == 4) = false := by simpa using h4
      have k6 : (m == 6) = false := by simpa using h6
      clear hz h0 h2 h4 h6
      rcases hc with h | h | h | h
      · subst h
        go_enter Tryz.func90, Tryz.ntmps90
        go_wp2_with fail
        go_ret
        exact ⟨rfl, HFin.out⟩
      · subst h
        go_enter Tryz.func90, Tryz.ntmps90
        go_wp2_with fail
        go_ret
        exact ⟨rfl, HFin.out⟩
      · subst h
        go_enter Tryz.func90, Tryz.ntmps90
        go_wp2_with fail
        go_ret
        exact ⟨rfl, HFin.out⟩
      · subst h
        go_enter Tryz.func90, Tryz.ntmps90
        go_wp2_with fail
        go_ret
        exact ⟨rfl, HFin.out⟩

set_option maxHeartbeats 4000000 in
theorem valid_btab (c m : Int) (z : Bool) (hc : c = 16777239) (hz : decide (m = 0) = z) (w : World) : Calls Tryz.prog 90 #[.agg #[.int .i64 c, .int .i64 m]] w fun r w' => r = .returned (.bool z) ∧ Below w.heap.size w w' := by
  have HFin : Hid (Below w.heap.size w (w.alloc (.cells #[.int .i64 c, .int .i64 m] 115))) := (Below.refl _ _).alloc (Nat.le_refl _) _
  subst hc
  rcases (by omega : m = 0 ∨ m = 2 ∨ m = 4 ∨ m = 6 ∨ (m ≠ 0 ∧ m ≠ 2 ∧ m ≠ 4 ∧ m ≠ 6)) with h | h | h | h | ⟨h0, h2, h4, h6⟩
  · subst h
    obtain rfl : true = z := hz
    go_enter Tryz.func90, Tryz.ntmps90
    go_wp2_with fail
    go_ret
    exact ⟨rfl, HFin.out⟩
  · subst h
    obtain rfl : false = z := hz
    go_enter Tryz.func90, Tryz.ntmps90
    go_wp2_with fail
    go_ret
    exact ⟨rfl, HFin.out⟩
  · subst h
    obtain rfl : false = z := hz
    go_enter Tryz.func90, Tryz.ntmps90
    go_wp2_with fail
    go_ret
    exact ⟨rfl, HFin.out⟩
  · subst h
    obtain rfl : false = z := hz
    go_enter Tryz.func90, Tryz.ntmps90
    go_wp2_with fail
    go_ret
    exact ⟨rfl, HFin.out⟩
  · obtain rfl : false = z := by rw [← hz]; simp [h0]
    have k0 : (m == 0) = false := by simp; omega
    have k2 : (m == 2) = false := by simp; omega
    have k4 : (m == 4) = false := by simp; omega
    have k6 : (m == 6) = false := by simp; omega
    clear hz h0 h2 h4 h6
    go_enter Tryz.func90, Tryz.ntmps90
    go_wp2_with fail
    go_ret
    exact ⟨rfl, HFin.out⟩

set_option maxHeartbeats 4000000 in
theorem valid_special (c m : Int) (z : Bool) (hc : spcB c = true) (hz : decide (0 ≤ m ∧ m ≤ 7) = z) (w : World) : Calls Tryz.prog 90 #[.agg #[.int .i64 c, .int .i64 m]] w fun r w' => r = .returned (.bool z) ∧ Below w.heap.size w w' := by
  have HFin : Hid (Below w.heap.size w (w.alloc (.cells #[.int .i64 c, .int .i64 m] 115))) := (Below.refl _ _).alloc (Nat.le_refl _) _
  have HS : Hid (∀ W, Calls Tryz.prog 116 #[.int .i64 c] W fun r w' => r = .returned (.bool true) ∧ W = w') := fun W => by rw [← hc]; exact isSpecial_any c W
  have hb : 16777217 ≤ c ∧ c ≤ 16777238 := by simpa [spcB] using hc
  have e1 : (c == 32) = false := by simp; omega
  have e2 : (c == 13) = false := by simp; omega
  have e3 : (c == 9) = false := by simp; omega
  have e4 : (c == 27) = false := by simp; omega
  have e5 : (c == 127) = false := by simp; omega
  have e6 : (c == 16777239) = false := by simp; omega
  clear hb hc
  rcases (by omega : m = 0 ∨ m = 1 ∨ m = 2 ∨ m = 3 ∨ m = 4 ∨ m = 5 ∨ m = 6 ∨ m = 7 ∨ ¬ 0 ≤ m ∨ (0 ≤ m ∧ ¬ m ≤ 7)) with h | h | h | h | h | h | h | h | h0 | ⟨h0, h7⟩
  · subst h
    obtain rfl : true = z := hz
    go_enter Tryz.func90, Tryz.ntmps90
    go_wp2_with (go_at_call 116; refine (HS.out _).mono ?_; rintro e w1 ⟨rfl, rfl⟩)
    go_ret
    exact ⟨rfl, HFin.out⟩
  · subst h
    obtain rfl : true = z := hz
    go_enter Tryz.func90, Tryz.ntmps90
    go_wp2_with (go_at_call 116; refine (HS.out _).mono ?_; rintro e w1 ⟨rfl, rfl⟩)
    go_ret
    exact ⟨rfl, HFin.out⟩
  · subst h
    obtain rfl : true = z := hz
    go_enter Tryz.func90, Tryz.ntmps90
    go_wp2_with (go_at_call 116; refine (HS.out _).mono ?_; rintro e w1 ⟨rfl, rfl⟩)
    go_ret
    exact ⟨rfl, HFin.out⟩
  · subst h
    obtain rfl : true = z := hz
    go_enter Tryz.func90, Tryz.ntmps90
    go_wp2_with (go_at_call 116; refine (HS.out _).mono ?_; rintro e w1 ⟨rfl, rfl⟩)
    go_ret
    exact ⟨rfl, HFin.out⟩
  · subst h
    obtain rfl : true = z := hz
    go_enter Tryz.func90, Tryz.ntmps90
    go_wp2_with (go_at_call 116; refine (HS.out _).mono ?_; rintro e w1 ⟨rfl, rfl⟩)
    go_ret
    exact ⟨rfl, HFin.out⟩
  · subst h
    obtain rfl : true = z := hz
    go_enter Tryz.func90, Tryz.ntmps90
    go_wp2_with (go_at_call 116; refine (HS.out _).mono ?_; rintro e w1 ⟨rfl, rfl⟩)
    go_ret
    exact ⟨rfl, HFin.out⟩
  · subst h
    obtain rfl : true = z := hz
    go_enter Tryz.func90, Tryz.ntmps90
    go_wp2_with (go_at_call 116; refine (HS.out _).mono ?_; rintro e w1 ⟨rfl, rfl⟩)
    go_ret
    exact ⟨rfl, HFin.out⟩
  · subst h
    obtain rfl : true = z := hz
    go_enter Tryz.func90, Tryz.ntmps90
    go_wp2_with (go_at_call 116; refine (HS.out _).mono ?_; rintro e w1 ⟨rfl, rfl⟩)
    go_ret
    exact ⟨rfl, HFin.out⟩
  · obtain rfl : false = z := by rw [← hz]; simp [h0]
    have k0 : (m == 0) = false := by simp; omega
    have k2 : (m == 2) = false := by simp; omega
    have k4 : (m == 4) = false := by simp; omega
    have k6 : (m == 6) = false := by simp; omega
    clear hz
    go_enter Tryz.func90, Tryz.ntmps90
    go_wp2_with (go_at_call 116; refine (HS.out _).mono ?_; rintro e w1 ⟨rfl, rfl⟩)
    go_ret
    exact ⟨rfl, HFin.out⟩
  · obtain rfl : false = z := by rw [← hz]; simp [h7]
    have k0 : (m == 0) = false := by simp; omega
    have k2 : (m == 2) = false := by simp; omega
    have k4 : (m == 4) = false := by simp; omega
    have k6 : (m == 6) = false := by simp; omega
    clear hz
    go_enter Tryz.func90, Tryz.ntmps90
    go_wp2_with (go_at_call 116; refine (HS.out _).mono ?_; rintro e w1 ⟨rfl, rfl⟩)
    go_ret
    exact ⟨by first | rfl | (refine retB ?_; simp; omega), HFin.out⟩

theorem valid_any (c m : Int) (w : World) : Calls Tryz.prog 90 #[.agg #[.int .i64 c, .int .i64 m]] w fun r w' => r = .returned (.bool (validB c m)) ∧ Below w.heap.size w w' := by
  unfold validB
  by_cases h1 : c = 32
  · rw [if_pos h1]
    exact valid_blank c m _ h1 rfl w
  · rw [if_neg h1]
    by_cases h2 : oneB c = true
    · rw [if_pos h2]
      exact valid_at c m _ (by simpa [oneB] using h2) rfl w
    · rw [if_neg h2]
      by_cases h3 : c = 16777239
      · rw [if_pos h3]
        exact valid_btab c m _ h3 rfl w
      · rw [if_neg h3]
        by_cases h4 : spcB c = true
        · rw [if_pos h4]
          exact valid_special c m _ h4 rfl w
        · rw [if_neg h4]
          exact valid_rest c m w h1 (by simpa using h2) h3 (by simpa using h4)
end Go.Proofs.YtgdkpmfdpfjdjaaGreatDoor
