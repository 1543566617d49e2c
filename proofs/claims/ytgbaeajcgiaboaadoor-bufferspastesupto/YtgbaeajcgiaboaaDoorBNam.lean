/-
  Names and words: what octal.IsName and octal.IsWord answer, for every input.
-/
import Derived.Test.YtgbaeajcgiaboaaDoorProg
import Derived.Test.YtgbaeajcgiaboaaDoorPlainN
import Derived.Test.YtgbaeajcgiaboaaDoorShelf
import Derived.WalkKit
namespace Go.Proofs.YtgbaeajcgiaboaaDoor
open Go.RowKit
set_option linter.unusedVariables false

/-- A byte that a name may hold. -/
def nb (c : UInt8) : Bool := decide (32 ≤ c.toNat ∧ c.toNat ≤ 126 ∧ c.toNat ≠ 46 ∧ c.toNat ≠ 58)

/-- Whether a text holds a byte. -/
def has (s : ByteArray) (c : UInt8) : Bool := s.data.toList.any (· == c)

theorem nb_true {c : UInt8} (h : 32 ≤ c.toNat ∧ c.toNat ≤ 126 ∧ c.toNat ≠ 46 ∧ c.toNat ≠ 58) : nb c = true := decide_eq_true h
theorem nb_false {c : UInt8} (h : ¬ (32 ≤ c.toNat ∧ c.toNat ≤ 126 ∧ c.toNat ≠ 46 ∧ c.toNat ≠ 58)) : nb c = false := decide_eq_false h
theorem of_nb_true {c : UInt8} (h : nb c = true) : 32 ≤ c.toNat ∧ c.toNat ≤ 126 ∧ c.toNat ≠ 46 ∧ c.toNat ≠ 58 := of_decide_eq_true h
theorem of_nb_false {c : UInt8} (h : nb c = false) : ¬ (32 ≤ c.toNat ∧ c.toNat ≤ 126 ∧ c.toNat ≠ 46 ∧ c.toNat ≠ 58) := of_decide_eq_false h

theorem has_lt (s : ByteArray) (c : UInt8) : decide (firstIdx s c < 0) = !has s c := by
  have h := firstIdx_nonneg s c
  unfold has
  rw [← h]
  by_cases h0 : 0 ≤ firstIdx s c
  · rw [decide_eq_true h0, decide_eq_false (by omega)]; rfl
  · rw [decide_eq_false h0, decide_eq_true (by omega)]; rfl

theorem has_of_lt {s : ByteArray} {c : UInt8} (k : Nat) (h : k < s.size) (e : s[k] = c) : has s c = true := by
  unfold has
  rw [List.any_eq_true]
  refine ⟨s[k], ?_, by simp [e]⟩
  have : s[k] = s.data.toList[k]'(by simpa using h) := rfl
  rw [this]
  exact List.getElem_mem _

theorem has_false {s : ByteArray} {c : UInt8} (h : ∀ k (hk : k < s.size), s[k] ≠ c) : has s c = false := by
  unfold has
  rw [List.any_eq_false]
  intro x hx
  obtain ⟨k, hk, rfl⟩ := List.getElem_of_mem hx
  have := h k (by simpa using hk)
  simp only [beq_iff_eq]
  exact this


theorem inName_any (c : UInt8) (w : World) :
    Calls Tryd.prog 61 #[.int .u8 c.toNat] w fun e w' => e = .returned (.bool (nb c)) ∧ w' = w := by
  go_enter Tryd.func61, Tryd.ntmps61
  go_wp2
  all_goals go_ret
  all_goals refine ⟨ret_bool ?_, rfl⟩
  all_goals (unfold nb; rw [Bool.eq_iff_iff]; simp; omega)


theorem indexByte_any (s : ByteArray) (c : UInt8) (w : World) :
    Calls Tryd.prog 44 #[.string s, .int .u8 c.toNat] w fun e w' => e = .returned (.int .i64 (firstIdx s c)) ∧ w' = w := by
  have h := Tryd.strings_IndexByte s c.toNat w
  rw [show ((c.toNat : Int).toNat).toUInt8 = c by simp, ← Lib.firstIdx_eq] at h
  exact h

/-- The bytes that no name begins with. -/
def bars : ByteArray := ⟨#[32, 33, 36, 37, 43, 45, 61, 64, 94, 123]⟩

/-- Whether a text is a name. -/
def nameB (s : ByteArray) : Bool :=
  if h : 0 < s.size ∧ s.size ≤ 32 then
    s.data.toList.all nb && (!has bars s[0] && decide (s[s.size - 1].toNat ≠ 32))
  else false

theorem nall_false {s : ByteArray} (k : Nat) (h : k < s.size) (e : nb s[k] = false) : s.data.toList.all nb = false := by
  rw [List.all_eq_false]
  refine ⟨s[k], ?_, by simp [e]⟩
  have : s[k] = s.data.toList[k]'(by simpa using h) := rfl
  rw [this]
  exact List.getElem_mem _

theorem nall_true {s : ByteArray} (h : ∀ k (hk : k < s.size), nb s[k] = true) : s.data.toList.all nb = true := by
  rw [List.all_eq_true]
  intro x hx
  obtain ⟨k, hk, rfl⟩ := List.getElem_of_mem hx
  exact h k (by simpa using hk)

theorem nameB_out {s : ByteArray} (h : ¬ (0 < s.size ∧ s.size ≤ 32)) : nameB s = false := dif_neg h
theorem nameB_bad {s : ByteArray} (k : Nat) (hk : k < s.size) (e : nb s[k] = false) : nameB s = false := by
  unfold nameB
  split
  · rw [nall_false k hk e]; rfl
  · rfl
theorem nameB_in {s : ByteArray} (h0 : 0 < s.size) (h1 : s.size ≤ 32) (h : ∀ k (hk : k < s.size), nb s[k] = true) :
    nameB s = (!has bars s[0] && decide (s[s.size - 1].toNat ≠ 32)) := by
  unfold nameB
  rw [dif_pos ⟨h0, h1⟩, nall_true h]; rfl

theorem toList_neN {s : ByteArray} (h : ¬ s.size = 0) : ¬ s.toList = [] ∧ s.toList.isEmpty = false := by
  have hl : s.toList ≠ [] := by
    rw [Lib.toList_data]
    intro e
    apply h
    have := congrArg List.length e
    simpa using this
  exact ⟨hl, by simpa using hl⟩

theorem has_neg {s : ByteArray} {c : UInt8} (h : firstIdx s c < 0) : has s c = false := by
  have := has_lt s c
  rw [decide_eq_true h] at this
  simpa using this.symm
theorem has_pos {s : ByteArray} {c : UInt8} (h : 0 ≤ firstIdx s c) : has s c = true := by
  have := has_lt s c
  rw [decide_eq_false (by omega)] at this
  simpa using this.symm
theorem end_yes {s : ByteArray} {h : Bool} {c : UInt8} (e : nameB s = (!h && decide (c.toNat ≠ 32))) (hh : h = false) : ((c.toNat : Int) != 32) = nameB s := by
  rw [e, hh, Bool.eq_iff_iff]; simp; omega
theorem end_no {s : ByteArray} {h : Bool} {b : Bool} (e : nameB s = (!h && b)) (hh : h = true) : false = nameB s := by
  rw [e, hh]; rfl

set_option maxHeartbeats 400000 in
theorem isName_any (s : ByteArray) (w : World) (hs : s.size ≤ maxLen) :
    Calls Tryd.prog 43 #[.string s] w fun e w' => e = .returned (.bool (nameB s)) ∧ w' = w := by
  unfold maxLen at hs
  by_cases h0 : s.size = 0
  · obtain rfl : s = ByteArray.empty := ByteArray.size_eq_zero_iff.1 h0
    go_enter Tryd.func43, Tryd.ntmps43
    go_wp2
    all_goals go_ret
    all_goals exact ⟨rfl, rfl⟩
  · obtain ⟨hne, hne'⟩ := toList_neN h0
    have hp : 0 < s.size := by omega
    by_cases h32 : 32 < s.size
    · go_enter Tryd.func43, Tryd.ntmps43
      go_wp2
      all_goals go_ret
      all_goals exact ⟨ret_bool (nameB_out (by omega)).symm, rfl⟩
    · go_enter Tryd.func43, Tryd.ntmps43
      go_wp2
      go_loop [3] (fun i => ∃ k : Nat, k ≤ s.size ∧ i = .int .i64 k ∧ ∀ j (hj : j < s.size), j < k → nb s[j] = true) (fun i => s.size - (intOf i).toNat)
      case atStart => exact ⟨0, Nat.zero_le _, rfl, fun j _ h => by omega⟩
      case round =>
        obtain ⟨k, hk, rfl, hno⟩ := hrel
        have HN : Hid (∀ j (hj : j < s.size), j < k → nb s[j] = true) := hno
        clear hno
        by_cases hlt : k < s.size
        · by_cases hb : nb s[k] = true
          · go_wp2_with (go_at_call 61; refine (inName_any _ _).mono ?_; rintro e w' ⟨rfl, rfl⟩)
            go_round
            case rel =>
              refine ⟨k + 1, by omega, by go_num, fun j hj h => ?_⟩
              by_cases hjk : j = k
              · subst hjk; exact hb
              · exact HN.out j hj (by omega)
            case measure => simp [intOf]; omega
          · have hb' : nb s[k] = false := by simpa using hb
            clear hb
            go_wp2_with (go_at_call 61; refine (inName_any _ _).mono ?_; rintro e w' ⟨rfl, rfl⟩)
            go_ret
            exact ⟨ret_bool (nameB_bad k hlt hb').symm, rfl⟩
        · have HB : Hid (nameB s = (!has bars s[0] && decide (s[s.size - 1].toNat ≠ 32))) :=
            nameB_in hp (by omega) (fun j hj => HN.out j hj (by omega))
          go_wp2_with (go_at_call 44; refine (indexByte_any _ _ _).mono ?_; rintro e w' ⟨rfl, rfl⟩)
          all_goals go_ret
          · exact ⟨ret_bool (end_yes HB.out (has_neg ‹_›)), rfl⟩
          · exact ⟨ret_bool (end_no HB.out (has_pos ‹_›)), rfl⟩


theorem isWord_any (s : ByteArray) (w : World) (hs : s.size ≤ maxLen) :
    Calls Tryd.prog 22 #[.string s] w fun e w' => e = .returned (.bool (nameB s && !has s 32)) ∧ w' = w := by
  cases hn : nameB s
  all_goals
    go_enter Tryd.func22, Tryd.ntmps22
    go_wp2_with (first | (go_at_call 43; refine (isName_any _ _ hs).mono ?_; rintro e w' ⟨rfl, rfl⟩) | (go_at_call 44; refine (indexByte_any _ 32 _).mono ?_; rintro e w' ⟨rfl, rfl⟩))
    all_goals go_ret
  · exact ⟨rfl, rfl⟩
  · exact ⟨ret_bool (by rw [has_lt]; simp), rfl⟩

end Go.Proofs.YtgbaeajcgiaboaaDoor
