/-
  The walks of the document's Number; of PutId and Id, the program's and the document's.
-/
import Derived.Test.YtkdfpoficieknabDoorNumA
import Derived.WalkKit
import Derived.RegionTactic
import Derived.Deep.RegionWith
import Derived.Deep.DrawnRows
import Derived.Lib.AppendStr
namespace Go.Proofs.YtkdfpoficieknabDoor
open Go.RowKit
open Go.Lib (decDigits)
set_option linter.unusedVariables false
attribute [local go_sem ↓] Go.wp_at_zero Go.wp_at_succ

theorem empty_of0 (s : ByteArray) (h : s.size = 0) : s.toList = [] := by
  rw [Lib.toList_data]
  exact List.length_eq_zero_iff.1 (by simpa using h)
theorem toList_ne0 {s : ByteArray} (h : 0 < s.size) : ¬ s.toList = [] ∧ s.toList.isEmpty = false := by
  have hl : s.toList ≠ [] := by
    rw [Lib.toList_data]
    intro e
    have : s.size = 0 := by rw [← size_data, e]; rfl
    omega
  exact ⟨hl, by simpa using hl⟩

theorem num_digit {l : List UInt8} {n : Int} (h : Num l n) : ∀ c ∈ l, 48 ≤ c.toNat ∧ c.toNat ≤ 57 := by
  obtain ⟨h1, h2⟩ := h
  rw [putL_in h1] at h2
  rw [← h2]
  exact dec_digit _
theorem num_val {l : List UInt8} {n : Int} (h : Num l n) : (val 0 l : Int) = n := by
  obtain ⟨h1, h2⟩ := h
  rw [putL_in h1] at h2
  rw [← h2, dec_val]
  omega
theorem num_length {l : List UInt8} {n : Int} (h : Num l n) : l.length ≤ 19 := by rw [← h.2]; exact putL_length n
theorem byte_mem (s : ByteArray) (k : Nat) (h : k < s.size) : s[k] ∈ s.data.toList := by
  have : s[k] = s.data.toList[k]'(by simpa using h) := rfl
  rw [this]
  exact List.getElem_mem _
theorem val_take (s : ByteArray) (k : Nat) : val 0 (s.data.toList.take k) ≤ val 0 s.data.toList := by
  have h := val_append 0 (s.data.toList.take k) (s.data.toList.drop k)
  rw [List.take_append_drop] at h
  rw [h]
  exact val_ge _ _

set_option maxHeartbeats 2000000 in
theorem refNumber_any (s : ByteArray) (w : World) (hs : s.size ≤ 140737488355328) :
    Calls Tryd.prog 15 #[.string s] w fun e w' =>
      ((∃ n, e = .returned (.tuple #[.int .i64 n, .bool true]) ∧ Num s.data.toList n) ∨ (e = .returned (.tuple #[.int .i64 0, .bool false]) ∧ ∀ n, ¬ Num s.data.toList n)) ∧ Below w.heap.size w w' := by
  go_enter Tryd.func15, Tryd.ntmps15
  go_wp2
  go_loop [4, 5] (fun m i => ∃ (k : Nat) (a : Int), k ≤ s.size ∧ i = .int .i64 k ∧ m = .int .i64 a ∧ 0 ≤ a ∧ a ≤ 4611686018427387909 ∧ Hid ((val 0 (s.data.toList.take k) : Int) = a)) (fun _ i => s.size - (intOf i).toNat)
  case atStart => exact ⟨0, 0, Nat.zero_le _, rfl, rfl, by omega, by omega, rfl⟩
  case round =>
    obtain ⟨k, a, hk, rfl, rfl, ha0, ha1, HV⟩ := hrel
    by_cases hlt : k < s.size
    · by_cases hbad : s[k].toNat < 48 ∨ 57 < s[k].toNat ∨ 18 < k ∨ 461168601842738790 < a
      · have HN : Hid (∀ n, ¬ Num s.data.toList n) := fun n hn => by
          have d := num_digit hn s[k] (byte_mem s k hlt)
          have e1 := num_val hn
          have e2 := num_length hn
          rw [size_data] at e2
          have e3 := val_take s (k + 1)
          rw [take_snoc s k hlt, val_snoc] at e3
          have e4 := HV.out
          have e5 := hn.1
          omega
        have HB : Hid (s[k].toNat < 48 ∨ 57 < s[k].toNat ∨ 18 < k ∨ 461168601842738790 < a) := hbad
        clear hbad
        go_wp2
        all_goals first
          | (go_ret2; exact ⟨.inr ⟨rfl, HN.out⟩, Below.refl _ _⟩)
          | (exfalso; have := HB.out; omega)
      · have b1 : ¬ (s[k].toNat : Int) < 48 := by omega
        have b2 : ¬ 57 < (s[k].toNat : Int) := by omega
        have b3 : ¬ 18 < (k : Int) := by omega
        have b4 : ¬ 461168601842738790 < a := by omega
        have HS : Hid ((val 0 (s.data.toList.take (k + 1)) : Int) = 10 * a + ((s[k].toNat : Int) - 48)) := by
          show _ = _
          have e4 := HV.out
          rw [take_snoc s k hlt, val_snoc]
          omega
        clear hbad HV
        go_wp2
        go_round
        case rel => exact ⟨k + 1, 10 * a + ((s[k].toNat : Int) - 48), by omega, by go_num, by go_num, by omega, by omega, HS⟩
        case measure => simp [intOf]; omega
    · have HV' : Hid ((val 0 s.data.toList : Int) = a) := by
        have := HV.out
        rw [show k = s.size by omega, take_all] at this
        exact this
      clear HV
      by_cases h0 : s.size = 0
      · have he := empty_of0 s h0
        have HN : Hid (∀ n, ¬ Num s.data.toList n) := fun n hn => by
          have e1 := hn.2
          rw [putL_in hn.1, ← Lib.toList_data, he] at e1
          exact dec_ne _ e1
        go_wp2
        all_goals go_ret2
        exact ⟨.inr ⟨rfl, HN.out⟩, Below.refl _ _⟩
      · obtain ⟨hne, hne'⟩ := toList_ne0 (s := s) (by omega)
        have HU : Hid (∀ n, Num s.data.toList n → n = a) := fun n hn => by
          have := num_val hn
          have := HV'.out
          omega
        by_cases he : ((str (putL a)).toList == s.toList) = true
        · have HM : Hid (Num s.data.toList a) := num_of_eq (by omega) he
          go_wp2_with (go_at_call 17; refine (refPutNumber_any a _ (by omega) (by omega)).mono ?_; rintro e w2 ⟨rfl, hb2⟩)
          all_goals go_ret2
          exact ⟨.inl ⟨a, rfl, HM.out⟩, hb2⟩
        · have he' : ((str (putL a)).toList == s.toList) = false := by simpa using he
          have HM : Hid (∀ n, ¬ Num s.data.toList n) := no_num HU.out he'
          clear he
          go_wp2_with (go_at_call 17; refine (refPutNumber_any a _ (by omega) (by omega)).mono ?_; rintro e w2 ⟨rfl, hb2⟩)
          all_goals go_ret2
          exact ⟨.inr ⟨rfl, HM.out⟩, hb2⟩
end Go.Proofs.YtkdfpoficieknabDoor
