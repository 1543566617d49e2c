/-
  The document's names and words (mullionref01).
-/
import Derived.Test.YtgbaeajcgiaboaaDoorBNam
import Derived.WalkKit
namespace Go.Proofs.YtgbaeajcgiaboaaDoor
open Go.RowKit
set_option linter.unusedVariables false

theorem holds_any (s : ByteArray) (c : UInt8) (w : World) (hs : s.size ≤ maxLen) :
    Calls Tryd.prog 70 #[.string s, .int .u8 c.toNat] w fun e w' => e = .returned (.bool (has s c)) ∧ w = w' := by
  unfold maxLen at hs
  go_enter Tryd.func70, Tryd.ntmps70
  go_wp2
  go_loop [5] (fun i => ∃ k : Nat, k ≤ s.size ∧ i = .int .i64 k ∧ ∀ j (hj : j < s.size), j < k → s[j] ≠ c) (fun i => s.size - (intOf i).toNat)
  case atStart => exact ⟨0, Nat.zero_le _, rfl, fun j _ h => by omega⟩
  case round =>
    obtain ⟨k, hk, rfl, hno⟩ := hrel
    by_cases hlt : k < s.size
    · have HN : Hid (∀ j (hj : j < s.size), j < k → s[j] ≠ c) := hno
      clear hno
      by_cases he : ((s[k].toNat : Int) == (c.toNat : Int)) = true
      · go_wp2
        go_ret
        exact ⟨ret_bool (has_of_lt k hlt (UInt8.toNat_inj.1 (by have := eq_of_beq he; omega))).symm, rfl⟩
      · have he' : ((s[k].toNat : Int) == (c.toNat : Int)) = false := by simpa using he
        clear he
        have HE : Hid (s[k] ≠ c) := fun h => by rw [h] at he'; simp at he'
        go_wp2
        go_round
        case rel =>
          refine ⟨k + 1, by omega, by go_num, fun j hj h => ?_⟩
          by_cases hjk : j = k
          · subst hjk; exact HE.out
          · exact HN.out j hj (by omega)
        case measure => simp [intOf]; omega
    · go_wp2
      go_ret
      exact ⟨ret_bool (has_false fun j hj => hno j hj (by omega)).symm, rfl⟩


theorem nb_parts {c : UInt8} (h : nb c = true) : ¬ (c.toNat : Int) < 32 ∧ ¬ 126 < (c.toNat : Int) ∧ ((c.toNat : Int) == 46) = false ∧ ((c.toNat : Int) == 58) = false := by
  have := of_nb_true h
  refine ⟨by omega, by omega, ?_, ?_⟩ <;> (rw [beq_eq_false_iff_ne]; omega)


set_option maxHeartbeats 400000 in
theorem refIsName_any (s : ByteArray) (w : World) (hs : s.size ≤ maxLen) :
    Calls Tryd.prog 69 #[.string s] w fun e w' => e = .returned (.bool (nameB s)) ∧ w = w' := by
  unfold maxLen at hs
  by_cases h0 : s.size = 0
  · obtain rfl : s = ByteArray.empty := ByteArray.size_eq_zero_iff.1 h0
    go_enter Tryd.func69, Tryd.ntmps69
    go_wp2
    all_goals go_ret
    all_goals exact ⟨rfl, rfl⟩
  · have hp : 0 < s.size := by omega
    by_cases h32 : 32 < s.size
    · go_enter Tryd.func69, Tryd.ntmps69
      go_wp2
      all_goals go_ret
      all_goals exact ⟨ret_bool (nameB_out (by omega)).symm, rfl⟩
    · go_enter Tryd.func69, Tryd.ntmps69
      go_wp2
      go_loop [3] (fun i => ∃ k : Nat, k ≤ s.size ∧ i = .int .i64 k ∧ ∀ j (hj : j < s.size), j < k → nb s[j] = true) (fun i => s.size - (intOf i).toNat)
      case atStart => exact ⟨0, Nat.zero_le _, rfl, fun j _ h => by omega⟩
      case round =>
        obtain ⟨k, hk, rfl, hno⟩ := hrel
        have HN : Hid (∀ j (hj : j < s.size), j < k → nb s[j] = true) := hno
        clear hno
        by_cases hlt : k < s.size
        · by_cases hb : nb s[k] = true
          · have HB : Hid (nb s[k] = true) := hb
            obtain ⟨b1, b2, b3, b4⟩ := nb_parts hb
            clear hb
            go_wp2
            go_round
            case rel =>
              refine ⟨k + 1, by omega, by go_num, fun j hj h => ?_⟩
              by_cases hjk : j = k
              · subst hjk; exact HB.out
              · exact HN.out j hj (by omega)
            case measure => simp [intOf]; omega
          · have hb' : nb s[k] = false := by simpa using hb
            have HB : Hid (nb s[k] = false) := hb'
            have HQ : Hid (¬ (32 ≤ s[k].toNat ∧ s[k].toNat ≤ 126 ∧ s[k].toNat ≠ 46 ∧ s[k].toNat ≠ 58)) := of_nb_false hb'
            clear hb hb'
            go_wp2
            all_goals first
              | (go_ret; exact ⟨ret_bool (nameB_bad k hlt HB.out).symm, rfl⟩)
              | (exfalso; have hq := HQ.out; simp only [beq_eq_false_iff_ne] at *; omega)
        · have HB : Hid (nameB s = (!has bars s[0] && decide (s[s.size - 1].toNat ≠ 32))) :=
            nameB_in hp (by omega) (fun j hj => HN.out j hj (by omega))
          cases hh : has bars s[0]
          all_goals
            go_wp2_with (go_at_call 70; refine (holds_any bars _ _ (by decide)).mono ?_; rintro e w' ⟨rfl, rfl⟩)
            all_goals go_ret
            all_goals first
              | exact ⟨ret_bool (end_yes HB.out hh), rfl⟩
              | exact ⟨ret_bool (end_no HB.out hh), rfl⟩


theorem refIsWord_any (s : ByteArray) (w : World) (hs : s.size ≤ maxLen) :
    Calls Tryd.prog 53 #[.string s] w fun e w' => e = .returned (.bool (nameB s && !has s 32)) ∧ w = w' := by
  cases hn : nameB s
  all_goals
    go_enter Tryd.func53, Tryd.ntmps53
    go_wp2_with (first | (go_at_call 69; refine (refIsName_any _ _ hs).mono ?_; rintro e w' ⟨rfl, rfl⟩) | (go_at_call 70; refine (holds_any _ 32 _ hs).mono ?_; rintro e w' ⟨rfl, rfl⟩))
    all_goals go_ret
  · exact ⟨rfl, rfl⟩
  · exact ⟨ret_bool (by simp), rfl⟩


end Go.Proofs.YtgbaeajcgiaboaaDoor
