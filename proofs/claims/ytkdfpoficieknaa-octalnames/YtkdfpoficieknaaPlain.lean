/-
  Plain facts on bytes and names: nothing of the dump.
-/
import Derived.WalkKit
import Derived.Lib.Bytealg
namespace Go.Proofs.Ytkdfpoficieknaa
open Go.RowKit

/-- A byte that a name may hold. -/
def nb (c : UInt8) : Bool := decide (32 ≤ c.toNat ∧ c.toNat ≤ 126 ∧ c.toNat ≠ 46 ∧ c.toNat ≠ 58)

/-- Whether a text holds a byte. -/
def has (s : ByteArray) (c : UInt8) : Bool := s.data.toList.any (· == c)

theorem nb_true {c : UInt8} (h : 32 ≤ c.toNat ∧ c.toNat ≤ 126 ∧ c.toNat ≠ 46 ∧ c.toNat ≠ 58) : nb c = true := decide_eq_true h
theorem nb_false {c : UInt8} (h : ¬ (32 ≤ c.toNat ∧ c.toNat ≤ 126 ∧ c.toNat ≠ 46 ∧ c.toNat ≠ 58)) : nb c = false := decide_eq_false h
theorem of_nb_true {c : UInt8} (h : nb c = true) : 32 ≤ c.toNat ∧ c.toNat ≤ 126 ∧ c.toNat ≠ 46 ∧ c.toNat ≠ 58 := of_decide_eq_true h
theorem of_nb_false {c : UInt8} (h : nb c = false) : ¬ (32 ≤ c.toNat ∧ c.toNat ≤ 126 ∧ c.toNat ≠ 46 ∧ c.toNat ≠ 58) := of_decide_eq_false h

theorem has_lt (s : ByteArray) (c : UInt8) : decide (firstIdx s c < 0) = !has s c := by
  have h := firstIdx_nonneg s c
  unfold has
  rw [← h]
  by_cases h0 : 0 ≤ firstIdx s c
  · rw [decide_eq_true h0, decide_eq_false (by omega)]; rfl
  · rw [decide_eq_false h0, decide_eq_true (by omega)]; rfl

theorem has_of_lt {s : ByteArray} {c : UInt8} (k : Nat) (h : k < s.size) (e : s[k] = c) : has s c = true := by
  unfold has
  rw [List.any_eq_true]
  refine ⟨s[k], ?_, by simp [e]⟩
  have : s[k] = s.data.toList[k]'(by simpa using h) := rfl
  rw [this]
  exact List.getElem_mem _

theorem has_false {s : ByteArray} {c : UInt8} (h : ∀ k (hk : k < s.size), s[k] ≠ c) : has s c = false := by
  unfold has
  rw [List.any_eq_false]
  intro x hx
  obtain ⟨k, hk, rfl⟩ := List.getElem_of_mem hx
  have := h k (by simpa using hk)
  simp only [beq_iff_eq]
  exact this

theorem ret_bool {a b : Bool} (h : a = b) : Ending.returned (.bool a) = .returned (.bool b) := by rw [h]

end Go.Proofs.Ytkdfpoficieknaa
