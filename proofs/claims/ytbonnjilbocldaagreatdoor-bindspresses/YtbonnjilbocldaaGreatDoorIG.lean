/-
  The document's names and words (mullionref01).
  Keys: which there are, by the document.
-/
import Derived.Test.YtbonnjilbocldaaGreatDoorIP
import Derived.Test.YtbonnjilbocldaaGreatDoorHB
import Derived.WalkKit
namespace Go.Proofs.YtbonnjilbocldaaGreatDoor
open Go.RowKit
set_option linter.unusedVariables false

theorem holds_any (s : ByteArray) (c : UInt8) (w : World) (hs : s.size ≤ maxLen) :
    Calls Tryz.prog 50 #[.string s, .int .u8 c.toNat] w fun e w' => e = .returned (.bool (has s c)) ∧ w = w' := by
  unfold maxLen at hs
  go_enter Tryz.func50, Tryz.ntmps50
  go_wp2
  go_loop [5] (fun i => ∃ k : Nat, k ≤ s.size ∧ i = .int .i64 k ∧ ∀ j (hj : j < s.size), j < k → s[j] ≠ c) (fun i => s.size - (intOf i).toNat)
  case atStart => exact ⟨0, Nat.zero_le _, rfl, fun j _ h => by omega⟩
  case round =>
    obtain ⟨k, hk, rfl, hno⟩ := hrel
    by_cases hlt : k < s.size
    · have HN : Hid (∀ j (hj : j < s.size), j < k → s[j] ≠ c) := hno
      clear hno
      by_cases he : ((s[k].toNat : Int) == (c.toNat : Int)) = true
      · go_wp2
        go_ret
        exact ⟨ret_bool (has_of_lt k hlt (UInt8.toNat_inj.1 (by have := eq_of_beq he; omega))).symm, rfl⟩
      · have he' : ((s[k].toNat : Int) == (c.toNat : Int)) = false := by simpa using he
        clear he
        have HE : Hid (s[k] ≠ c) := fun h => by rw [h] at he'; simp at he'
        go_wp2
        go_round
        case rel =>
          refine ⟨k + 1, by omega, by go_num, fun j hj h => ?_⟩
          by_cases hjk : j = k
          · subst hjk; exact HE.out
          · exact HN.out j hj (by omega)
        case measure => simp [intOf]; omega
    · go_wp2
      go_ret
      exact ⟨ret_bool (has_false fun j hj => hno j hj (by omega)).symm, rfl⟩


theorem nb_parts {c : UInt8} (h : nb c = true) : ¬ (c.toNat : Int) < 32 ∧ ¬ 126 < (c.toNat : Int) ∧ ((c.toNat : Int) == 46) = false ∧ ((c.toNat : Int) == 58) = false := by
  have := of_nb_true h
  refine ⟨by omega, by omega, ?_, ?_⟩ <;> (rw [beq_eq_false_iff_ne]; omega)


set_option maxHeartbeats 400000 in
theorem refIsName_any (s : ByteArray) (w : World) (hs : s.size ≤ maxLen) :
    Calls Tryz.prog 49 #[.string s] w fun e w' => e = .returned (.bool (nameB s)) ∧ w = w' := by
  unfold maxLen at hs
  by_cases h0 : s.size = 0
  · obtain rfl : s = ByteArray.empty := ByteArray.size_eq_zero_iff.1 h0
    go_enter Tryz.func49, Tryz.ntmps49
    go_wp2
    all_goals go_ret
    all_goals exact ⟨rfl, rfl⟩
  · have hp : 0 < s.size := by omega
    by_cases h32 : 32 < s.size
    · go_enter Tryz.func49, Tryz.ntmps49
      go_wp2
      all_goals go_ret
      all_goals exact ⟨ret_bool (nameB_out (by omega)).symm, rfl⟩
    · go_enter Tryz.func49, Tryz.ntmps49
      go_wp2
      go_loop [3] (fun i => ∃ k : Nat, k ≤ s.size ∧ i = .int .i64 k ∧ ∀ j (hj : j < s.size), j < k → nb s[j] = true) (fun i => s.size - (intOf i).toNat)
      case atStart => exact ⟨0, Nat.zero_le _, rfl, fun j _ h => by omega⟩
      case round =>
        obtain ⟨k, hk, rfl, hno⟩ := hrel
        have HN : Hid (∀ j (hj : j < s.size), j < k → nb s[j] = true) := hno
        clear hno
        by_cases hlt : k < s.size
        · by_cases hb : nb s[k] = true
          · have HB : Hid (nb s[k] = true) := hb
            obtain ⟨b1, b2, b3, b4⟩ := nb_parts hb
            clear hb
            go_wp2
            go_round
            case rel =>
              refine ⟨k + 1, by omega, by go_num, fun j hj h => ?_⟩
              by_cases hjk : j = k
              · subst hjk; exact HB.out
              · exact HN.out j hj (by omega)
            case measure => simp [intOf]; omega
          · have hb' : nb s[k] = false := by simpa using hb
            have HB : Hid (nb s[k] = false) := hb'
            have HQ : Hid (¬ (32 ≤ s[k].toNat ∧ s[k].toNat ≤ 126 ∧ s[k].toNat ≠ 46 ∧ s[k].toNat ≠ 58)) := of_nb_false hb'
            clear hb hb'
            go_wp2
            all_goals first
              | (go_ret; exact ⟨ret_bool (nameB_bad k hlt HB.out).symm, rfl⟩)
              | (exfalso; have hq := HQ.out; simp only [beq_eq_false_iff_ne] at *; omega)
        · have HB : Hid (nameB s = (!has bars s[0] && decide (s[s.size - 1].toNat ≠ 32))) :=
            nameB_in hp (by omega) (fun j hj => HN.out j hj (by omega))
          cases hh : has bars s[0]
          all_goals
            go_wp2_with (go_at_call 50; refine (holds_any bars _ _ (by decide)).mono ?_; rintro e w' ⟨rfl, rfl⟩)
            all_goals go_ret
            all_goals first
              | exact ⟨ret_bool (end_yes HB.out hh), rfl⟩
              | exact ⟨ret_bool (end_no HB.out hh), rfl⟩


theorem refIsWord_any (s : ByteArray) (w : World) (hs : s.size ≤ maxLen) :
    Calls Tryz.prog 31 #[.string s] w fun e w' => e = .returned (.bool (nameB s && !has s 32)) ∧ w = w' := by
  cases hn : nameB s
  all_goals
    go_enter Tryz.func31, Tryz.ntmps31
    go_wp2_with (first | (go_at_call 49; refine (refIsName_any _ _ hs).mono ?_; rintro e w' ⟨rfl, rfl⟩) | (go_at_call 50; refine (holds_any _ 32 _ hs).mono ?_; rintro e w' ⟨rfl, rfl⟩))
    all_goals go_ret
  · exact ⟨rfl, rfl⟩
  · exact ⟨ret_bool (by simp), rfl⟩


end Go.Proofs.YtbonnjilbocldaaGreatDoor

namespace Go.Proofs.YtbonnjilbocldaaGreatDoor
open Go.RowKit
set_option linter.unusedVariables false
set_option maxRecDepth 100000

set_option maxHeartbeats 1000000 in
theorem rspecial_any (c : Int) (w : World) : Calls Tryz.prog 51 #[.int .i64 c] w fun r w' => r = .returned (.bool (spcB c)) ∧ w = w' := by
  go_enter Tryz.func51, Tryz.ntmps51
  go_wp2
  all_goals go_ret
  all_goals refine ⟨retB ?_, rfl⟩
  all_goals unfold spcB
  all_goals first | (rw [decide_eq_decide]; omega) | (symm; rw [decide_eq_false_iff_not]; omega) | (symm; rw [decide_eq_true_iff]; omega)
set_option maxHeartbeats 1000000 in
theorem rcharacter_any (c : Int) (w : World) : Calls Tryz.prog 52 #[.int .i64 c] w fun r w' => r = .returned (.bool (chrB c)) ∧ w = w' := by
  obtain ⟨z, hz⟩ : ∃ z, chrB c = z := ⟨_, rfl⟩
  rw [hz]
  unfold chrB at hz
  rcases (by omega : (33 ≤ c ∧ c ≤ 126) ∨ (c < 33) ∨ (126 < c ∧ c < 160) ∨ (160 ≤ c ∧ c < 55296) ∨ (55296 ≤ c ∧ c ≤ 57343) ∨ (57343 < c ∧ c ≤ 1114111) ∨ (1114111 < c)) with q | q | q | q | q | q | q
  · obtain rfl : true = z := by rw [← hz]; simp; omega
    have i0 : (33 : Int) ≤ c := by omega
    have i1 : c ≤ (126 : Int) := by omega
    clear hz q
    go_enter Tryz.func52, Tryz.ntmps52
    go_wp2_with fail
    go_ret
    exact ⟨rfl, rfl⟩
  · obtain rfl : false = z := by rw [← hz]; simp; omega
    have i0 : ¬ (33 : Int) ≤ c := by omega
    have i1 : ¬ (160 : Int) ≤ c := by omega
    clear hz q
    go_enter Tryz.func52, Tryz.ntmps52
    go_wp2_with fail
    go_ret
    exact ⟨rfl, rfl⟩
  · obtain rfl : false = z := by rw [← hz]; simp; omega
    have i0 : (33 : Int) ≤ c := by omega
    have i1 : ¬ c ≤ (126 : Int) := by omega
    have i2 : ¬ (160 : Int) ≤ c := by omega
    clear hz q
    go_enter Tryz.func52, Tryz.ntmps52
    go_wp2_with fail
    go_ret
    exact ⟨rfl, rfl⟩
  · obtain rfl : true = z := by rw [← hz]; simp; omega
    have i0 : (33 : Int) ≤ c := by omega
    have i1 : ¬ c ≤ (126 : Int) := by omega
    have i2 : (160 : Int) ≤ c := by omega
    have i3 : c ≤ (1114111 : Int) := by omega
    have i4 : c < (55296 : Int) := by omega
    clear hz q
    go_enter Tryz.func52, Tryz.ntmps52
    go_wp2_with fail
    go_ret
    exact ⟨rfl, rfl⟩
  · obtain rfl : false = z := by rw [← hz]; simp; omega
    have i0 : (33 : Int) ≤ c := by omega
    have i1 : ¬ c ≤ (126 : Int) := by omega
    have i2 : (160 : Int) ≤ c := by omega
    have i3 : c ≤ (1114111 : Int) := by omega
    have i4 : ¬ c < (55296 : Int) := by omega
    have i5 : ¬ (57343 : Int) < c := by omega
    clear hz q
    go_enter Tryz.func52, Tryz.ntmps52
    go_wp2_with fail
    go_ret
    exact ⟨rfl, rfl⟩
  · obtain rfl : true = z := by rw [← hz]; simp; omega
    have i0 : (33 : Int) ≤ c := by omega
    have i1 : ¬ c ≤ (126 : Int) := by omega
    have i2 : (160 : Int) ≤ c := by omega
    have i3 : c ≤ (1114111 : Int) := by omega
    have i4 : ¬ c < (55296 : Int) := by omega
    have i5 : (57343 : Int) < c := by omega
    clear hz q
    go_enter Tryz.func52, Tryz.ntmps52
    go_wp2_with fail
    go_ret
    exact ⟨rfl, rfl⟩
  · obtain rfl : false = z := by rw [← hz]; simp; omega
    have i0 : (33 : Int) ≤ c := by omega
    have i1 : ¬ c ≤ (126 : Int) := by omega
    have i2 : (160 : Int) ≤ c := by omega
    have i3 : ¬ c ≤ (1114111 : Int) := by omega
    clear hz q
    go_enter Tryz.func52, Tryz.ntmps52
    go_wp2_with fail
    go_ret
    exact ⟨rfl, rfl⟩
set_option maxHeartbeats 2000000 in
theorem rcontrolled_any (c : Int) (w : World) : Calls Tryz.prog 53 #[.int .i64 c] w fun r w' => r = .returned (.bool (ctlB c)) ∧ w = w' := by
  obtain ⟨z, hz⟩ : ∃ z, ctlB c = z := ⟨_, rfl⟩
  rw [hz]
  unfold ctlB at hz
  rcases (by omega : (c < 92) ∨ (c = 92) ∨ (c = 93) ∨ (c = 94) ∨ (c = 95) ∨ (c = 96) ∨ (97 ≤ c ∧ c ≤ 122 ∧ c ≠ 105 ∧ c ≠ 109) ∨ (c = 105) ∨ (c = 109) ∨ (122 < c)) with q | q | q | q | q | q | q | q | q | q
  · obtain rfl : false = z := by rw [← hz]; simp; omega
    have i0 : ¬ (97 : Int) ≤ c := by omega
    have i1 : (c == 92) = false := by simp; omega
    have j1 : ¬ c = 92 := by omega
    have i2 : (c == 93) = false := by simp; omega
    have j2 : ¬ c = 93 := by omega
    have i3 : (c == 94) = false := by simp; omega
    have j3 : ¬ c = 94 := by omega
    have i4 : (c == 95) = false := by simp; omega
    have j4 : ¬ c = 95 := by omega
    clear hz q
    go_enter Tryz.func53, Tryz.ntmps53
    go_wp2_with fail
    go_ret
    exact ⟨rfl, rfl⟩
  · subst q
    obtain rfl : true = z := by rw [← hz]; decide
    clear hz
    go_enter Tryz.func53, Tryz.ntmps53
    go_wp2_with fail
    go_ret
    exact ⟨rfl, rfl⟩
  · subst q
    obtain rfl : true = z := by rw [← hz]; decide
    clear hz
    go_enter Tryz.func53, Tryz.ntmps53
    go_wp2_with fail
    go_ret
    exact ⟨rfl, rfl⟩
  · subst q
    obtain rfl : true = z := by rw [← hz]; decide
    clear hz
    go_enter Tryz.func53, Tryz.ntmps53
    go_wp2_with fail
    go_ret
    exact ⟨rfl, rfl⟩
  · subst q
    obtain rfl : true = z := by rw [← hz]; decide
    clear hz
    go_enter Tryz.func53, Tryz.ntmps53
    go_wp2_with fail
    go_ret
    exact ⟨rfl, rfl⟩
  · subst q
    obtain rfl : false = z := by rw [← hz]; decide
    clear hz
    go_enter Tryz.func53, Tryz.ntmps53
    go_wp2_with fail
    go_ret
    exact ⟨rfl, rfl⟩
  · obtain rfl : true = z := by rw [← hz]; simp; omega
    have i0 : (97 : Int) ≤ c := by omega
    have i1 : c ≤ (122 : Int) := by omega
    have i2 : (c == 105) = false := by simp; omega
    have j2 : ¬ c = 105 := by omega
    have i3 : (c == 109) = false := by simp; omega
    have j3 : ¬ c = 109 := by omega
    clear hz q
    go_enter Tryz.func53, Tryz.ntmps53
    go_wp2_with fail
    go_ret
    exact ⟨rfl, rfl⟩
  · subst q
    obtain rfl : false = z := by rw [← hz]; decide
    clear hz
    go_enter Tryz.func53, Tryz.ntmps53
    go_wp2_with fail
    go_ret
    exact ⟨rfl, rfl⟩
  · subst q
    obtain rfl : false = z := by rw [← hz]; decide
    clear hz
    go_enter Tryz.func53, Tryz.ntmps53
    go_wp2_with fail
    go_ret
    exact ⟨rfl, rfl⟩
  · obtain rfl : false = z := by rw [← hz]; simp; omega
    have i0 : (97 : Int) ≤ c := by omega
    have i1 : ¬ c ≤ (122 : Int) := by omega
    have i2 : (c == 92) = false := by simp; omega
    have j2 : ¬ c = 92 := by omega
    have i3 : (c == 93) = false := by simp; omega
    have j3 : ¬ c = 93 := by omega
    have i4 : (c == 94) = false := by simp; omega
    have j4 : ¬ c = 94 := by omega
    have i5 : (c == 95) = false := by simp; omega
    have j5 : ¬ c = 95 := by omega
    clear hz q
    go_enter Tryz.func53, Tryz.ntmps53
    go_wp2_with fail
    go_ret
    exact ⟨rfl, rfl⟩
end Go.Proofs.YtbonnjilbocldaaGreatDoor
