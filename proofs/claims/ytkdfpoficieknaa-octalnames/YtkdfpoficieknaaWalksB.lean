/-
  The walks of IsName and IsWord, the program's and the document's: both answer one function of the text.
-/
import Derived.Test.YtkdfpoficieknaaWalksA
import Derived.WalkKit
namespace Go.Proofs.Ytkdfpoficieknaa
open Go.RowKit

/-- The bytes that no name begins with. -/
def bars : ByteArray := ⟨#[32, 33, 36, 37, 43, 45, 61, 64, 94, 123]⟩

/-- Whether a text is a name. -/
def nameB (s : ByteArray) : Bool :=
  if h : 0 < s.size ∧ s.size ≤ 32 then
    s.data.toList.all nb && (!has bars s[0] && decide (s[s.size - 1].toNat ≠ 32))
  else false

theorem all_false {s : ByteArray} (k : Nat) (h : k < s.size) (e : nb s[k] = false) : s.data.toList.all nb = false := by
  rw [List.all_eq_false]
  refine ⟨s[k], ?_, by simp [e]⟩
  have : s[k] = s.data.toList[k]'(by simpa using h) := rfl
  rw [this]
  exact List.getElem_mem _

theorem all_true {s : ByteArray} (h : ∀ k (hk : k < s.size), nb s[k] = true) : s.data.toList.all nb = true := by
  rw [List.all_eq_true]
  intro x hx
  obtain ⟨k, hk, rfl⟩ := List.getElem_of_mem hx
  exact h k (by simpa using hk)

theorem nameB_out {s : ByteArray} (h : ¬ (0 < s.size ∧ s.size ≤ 32)) : nameB s = false := dif_neg h
theorem nameB_bad {s : ByteArray} (k : Nat) (hk : k < s.size) (e : nb s[k] = false) : nameB s = false := by
  unfold nameB
  split
  · rw [all_false k hk e]; rfl
  · rfl
theorem nameB_in {s : ByteArray} (h0 : 0 < s.size) (h1 : s.size ≤ 32) (h : ∀ k (hk : k < s.size), nb s[k] = true) :
    nameB s = (!has bars s[0] && decide (s[s.size - 1].toNat ≠ 32)) := by
  unfold nameB
  rw [dif_pos ⟨h0, h1⟩, all_true h]; rfl

theorem toList_ne {s : ByteArray} (h : ¬ s.size = 0) : ¬ s.toList = [] ∧ s.toList.isEmpty = false := by
  have hl : s.toList ≠ [] := by
    rw [Lib.toList_data]
    intro e
    apply h
    have := congrArg List.length e
    simpa using this
  exact ⟨hl, by simpa using hl⟩

theorem has_neg {s : ByteArray} {c : UInt8} (h : firstIdx s c < 0) : has s c = false := by
  have := has_lt s c
  rw [decide_eq_true h] at this
  simpa using this.symm
theorem has_pos {s : ByteArray} {c : UInt8} (h : 0 ≤ firstIdx s c) : has s c = true := by
  have := has_lt s c
  rw [decide_eq_false (by omega)] at this
  simpa using this.symm
theorem end_yes {s : ByteArray} {h : Bool} {c : UInt8} (e : nameB s = (!h && decide (c.toNat ≠ 32))) (hh : h = false) : ((c.toNat : Int) != 32) = nameB s := by
  rw [e, hh, Bool.eq_iff_iff]; simp; omega
theorem end_no {s : ByteArray} {h : Bool} {b : Bool} (e : nameB s = (!h && b)) (hh : h = true) : false = nameB s := by
  rw [e, hh]; rfl

set_option maxHeartbeats 400000 in
theorem isName4 (s : ByteArray) (w : World) (hs : s.size ≤ maxLen) :
    Calls Try.prog 4 #[.string s] w fun e w' => e = .returned (.bool (nameB s)) ∧ w' = w := by
  unfold maxLen at hs
  by_cases h0 : s.size = 0
  · obtain rfl : s = ByteArray.empty := ByteArray.size_eq_zero_iff.1 h0
    go_enter Try.func4, Try.ntmps4
    go_wp2
    all_goals go_ret
    all_goals exact ⟨rfl, rfl⟩
  · obtain ⟨hne, hne'⟩ := toList_ne h0
    have hp : 0 < s.size := by omega
    by_cases h32 : 32 < s.size
    · go_enter Try.func4, Try.ntmps4
      go_wp2
      all_goals go_ret
      all_goals exact ⟨ret_bool (nameB_out (by omega)).symm, rfl⟩
    · go_enter Try.func4, Try.ntmps4
      go_wp2
      go_loop [3] (fun i => ∃ k : Nat, k ≤ s.size ∧ i = .int .i64 k ∧ ∀ j (hj : j < s.size), j < k → nb s[j] = true) (fun i => s.size - (intOf i).toNat)
      case atStart => exact ⟨0, Nat.zero_le _, rfl, fun j _ h => by omega⟩
      case round =>
        obtain ⟨k, hk, rfl, hno⟩ := hrel
        have HN : Hid (∀ j (hj : j < s.size), j < k → nb s[j] = true) := hno
        clear hno
        by_cases hlt : k < s.size
        · by_cases hb : nb s[k] = true
          · go_wp2_with (go_at_call 8; refine (inName_any _ _).mono ?_; rintro e w' ⟨rfl, rfl⟩)
            go_round
            case rel =>
              refine ⟨k + 1, by omega, by go_num, fun j hj h => ?_⟩
              by_cases hjk : j = k
              · subst hjk; exact hb
              · exact HN.out j hj (by omega)
            case measure => simp [intOf]; omega
          · have hb' : nb s[k] = false := by simpa using hb
            clear hb
            go_wp2_with (go_at_call 8; refine (inName_any _ _).mono ?_; rintro e w' ⟨rfl, rfl⟩)
            go_ret
            exact ⟨ret_bool (nameB_bad k hlt hb').symm, rfl⟩
        · have HB : Hid (nameB s = (!has bars s[0] && decide (s[s.size - 1].toNat ≠ 32))) :=
            nameB_in hp (by omega) (fun j hj => HN.out j hj (by omega))
          go_wp2_with (go_at_call 9; refine (indexByte_any _ _ _).mono ?_; rintro e w' ⟨rfl, rfl⟩)
          all_goals go_ret
          · exact ⟨ret_bool (end_yes HB.out (has_neg ‹_›)), rfl⟩
          · exact ⟨ret_bool (end_no HB.out (has_pos ‹_›)), rfl⟩

theorem nb_parts {c : UInt8} (h : nb c = true) : ¬ (c.toNat : Int) < 32 ∧ ¬ 126 < (c.toNat : Int) ∧ ((c.toNat : Int) == 46) = false ∧ ((c.toNat : Int) == 58) = false := by
  have := of_nb_true h
  refine ⟨by omega, by omega, ?_, ?_⟩ <;> (rw [beq_eq_false_iff_ne]; omega)

set_option maxHeartbeats 400000 in
theorem isName5 (s : ByteArray) (w : World) (hs : s.size ≤ maxLen) :
    Calls Try.prog 5 #[.string s] w fun e w' => e = .returned (.bool (nameB s)) ∧ w' = w := by
  unfold maxLen at hs
  by_cases h0 : s.size = 0
  · obtain rfl : s = ByteArray.empty := ByteArray.size_eq_zero_iff.1 h0
    go_enter Try.func5, Try.ntmps5
    go_wp2
    all_goals go_ret
    all_goals exact ⟨rfl, rfl⟩
  · have hp : 0 < s.size := by omega
    by_cases h32 : 32 < s.size
    · go_enter Try.func5, Try.ntmps5
      go_wp2
      all_goals go_ret
      all_goals exact ⟨ret_bool (nameB_out (by omega)).symm, rfl⟩
    · go_enter Try.func5, Try.ntmps5
      go_wp2
      go_loop [3] (fun i => ∃ k : Nat, k ≤ s.size ∧ i = .int .i64 k ∧ ∀ j (hj : j < s.size), j < k → nb s[j] = true) (fun i => s.size - (intOf i).toNat)
      case atStart => exact ⟨0, Nat.zero_le _, rfl, fun j _ h => by omega⟩
      case round =>
        obtain ⟨k, hk, rfl, hno⟩ := hrel
        have HN : Hid (∀ j (hj : j < s.size), j < k → nb s[j] = true) := hno
        clear hno
        by_cases hlt : k < s.size
        · by_cases hb : nb s[k] = true
          · have HB : Hid (nb s[k] = true) := hb
            obtain ⟨b1, b2, b3, b4⟩ := nb_parts hb
            clear hb
            go_wp2
            go_round
            case rel =>
              refine ⟨k + 1, by omega, by go_num, fun j hj h => ?_⟩
              by_cases hjk : j = k
              · subst hjk; exact HB.out
              · exact HN.out j hj (by omega)
            case measure => simp [intOf]; omega
          · have hb' : nb s[k] = false := by simpa using hb
            have HB : Hid (nb s[k] = false) := hb'
            have HQ : Hid (¬ (32 ≤ s[k].toNat ∧ s[k].toNat ≤ 126 ∧ s[k].toNat ≠ 46 ∧ s[k].toNat ≠ 58)) := of_nb_false hb'
            clear hb hb'
            go_wp2
            all_goals first
              | (go_ret; exact ⟨ret_bool (nameB_bad k hlt HB.out).symm, rfl⟩)
              | (exfalso; have hq := HQ.out; simp only [beq_eq_false_iff_ne] at *; omega)
        · have HB : Hid (nameB s = (!has bars s[0] && decide (s[s.size - 1].toNat ≠ 32))) :=
            nameB_in hp (by omega) (fun j hj => HN.out j hj (by omega))
          cases hh : has bars s[0]
          all_goals
            go_wp2_with (go_at_call 10; refine (holds_any bars _ _ (by decide)).mono ?_; rintro e w' ⟨rfl, rfl⟩)
            all_goals go_ret
            all_goals first
              | exact ⟨ret_bool (end_yes HB.out hh), rfl⟩
              | exact ⟨ret_bool (end_no HB.out hh), rfl⟩

theorem isWord6 (s : ByteArray) (w : World) (hs : s.size ≤ maxLen) :
    Calls Try.prog 6 #[.string s] w fun e w' => e = .returned (.bool (nameB s && !has s 32)) ∧ w' = w := by
  cases hn : nameB s
  all_goals
    go_enter Try.func6, Try.ntmps6
    go_wp2_with (first | (go_at_call 4; refine (isName4 _ _ hs).mono ?_; rintro e w' ⟨rfl, rfl⟩) | (go_at_call 9; refine (indexByte_any _ 32 _).mono ?_; rintro e w' ⟨rfl, rfl⟩))
    all_goals go_ret
  · exact ⟨rfl, rfl⟩
  · exact ⟨ret_bool (by rw [has_lt]; simp), rfl⟩

theorem isWord7 (s : ByteArray) (w : World) (hs : s.size ≤ maxLen) :
    Calls Try.prog 7 #[.string s] w fun e w' => e = .returned (.bool (nameB s && !has s 32)) ∧ w' = w := by
  cases hn : nameB s
  all_goals
    go_enter Try.func7, Try.ntmps7
    go_wp2_with (first | (go_at_call 5; refine (isName5 _ _ hs).mono ?_; rintro e w' ⟨rfl, rfl⟩) | (go_at_call 10; refine (holds_any _ 32 _ hs).mono ?_; rintro e w' ⟨rfl, rfl⟩))
    all_goals go_ret
  · exact ⟨rfl, rfl⟩
  · exact ⟨ret_bool (by simp), rfl⟩

end Go.Proofs.Ytkdfpoficieknaa
