/-
  The walks of the document's Number; of PutId and Id, the program's and the document's.
-/
import Derived.Test.YtplolaondmeccaaGreatDoorOctA
import Derived.WalkKit
import Derived.RegionTactic
import Derived.Deep.RegionWith
import Derived.Deep.DrawnRows
import Derived.Lib.AppendStr
namespace Go.Proofs.YtplolaondmeccaaGreatDoor
open Go.RowKit
open Go.Lib (decDigits)
set_option linter.unusedVariables false
attribute [local go_sem ↓] Go.wp_at_zero Go.wp_at_succ

theorem empty_of0 (s : ByteArray) (h : s.size = 0) : s.toList = [] := by
  rw [Lib.toList_data]
  exact List.length_eq_zero_iff.1 (by simpa using h)
theorem toList_ne0 {s : ByteArray} (h : 0 < s.size) : ¬ s.toList = [] ∧ s.toList.isEmpty = false := by
  have hl : s.toList ≠ [] := by
    rw [Lib.toList_data]
    intro e
    have : s.size = 0 := by rw [← size_data, e]; rfl
    omega
  exact ⟨hl, by simpa using hl⟩

theorem num_digit {l : List UInt8} {n : Int} (h : Num l n) : ∀ c ∈ l, 48 ≤ c.toNat ∧ c.toNat ≤ 57 := by
  obtain ⟨h1, h2⟩ := h
  rw [putL_in h1] at h2
  rw [← h2]
  exact dec_digit _
theorem num_val {l : List UInt8} {n : Int} (h : Num l n) : (val 0 l : Int) = n := by
  obtain ⟨h1, h2⟩ := h
  rw [putL_in h1] at h2
  rw [← h2, dec_val]
  omega
theorem num_length {l : List UInt8} {n : Int} (h : Num l n) : l.length ≤ 19 := by rw [← h.2]; exact putL_length n
theorem byte_mem (s : ByteArray) (k : Nat) (h : k < s.size) : s[k] ∈ s.data.toList := by
  have : s[k] = s.data.toList[k]'(by simpa using h) := rfl
  rw [this]
  exact List.getElem_mem _
theorem val_take (s : ByteArray) (k : Nat) : val 0 (s.data.toList.take k) ≤ val 0 s.data.toList := by
  have h := val_append 0 (s.data.toList.take k) (s.data.toList.drop k)
  rw [List.take_append_drop] at h
  rw [h]
  exact val_ge _ _

end Go.Proofs.YtplolaondmeccaaGreatDoor
