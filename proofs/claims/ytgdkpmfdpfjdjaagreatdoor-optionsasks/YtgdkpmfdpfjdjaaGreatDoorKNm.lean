/-
  Keys: a key's name.
-/
import Derived.Test.YtgdkpmfdpfjdjaaGreatDoorHC
import Derived.Test.YtgdkpmfdpfjdjaaGreatDoorKBld
import Derived.Laws.BitsLemmas
namespace Go.Proofs.YtgdkpmfdpfjdjaaGreatDoor
open Go.RowKit
set_option linter.unusedVariables false
set_option maxRecDepth 100000

theorem md_at : ∀ k : Fin 3, ∃ a b, mdT[k.val]? = some (a, b) ∧ ∀ W : World, (Instr.index 144 (.agg mdCs.toArray) (.int .i64 (k.val : Int))).run Tryz.prog W = .ok (.agg #[.int .i64 a, .string (str b)]) W := by
  intro k
  match k with
  | ⟨0, _⟩ => exact ⟨_, _, rfl, fun W => by kernel_rfl⟩
  | ⟨1, _⟩ => exact ⟨_, _, rfl, fun W => by kernel_rfl⟩
  | ⟨2, _⟩ => exact ⟨_, _, rfl, fun W => by kernel_rfl⟩
  | ⟨k + 3, h⟩ => exact absurd h (by omega)
theorem bit_has {m : Int} (h0 : 0 ≤ m) (h7 : m ≤ 7) {k : Nat} {a : Int} {b : List UInt8} (hk : mdT[k]? = some (a, b)) : bits .and .i64 m a = (if hasM m a then a else 0) ∧ (a == 0) = false ∧ b.length = 2 := by
  have hm : m = 0 ∨ m = 1 ∨ m = 2 ∨ m = 3 ∨ m = 4 ∨ m = 5 ∨ m = 6 ∨ m = 7 := by omega
  have hk3 : k < 3 := (List.getElem?_eq_some_iff.1 hk).1
  rcases (by omega : k = 0 ∨ k = 1 ∨ k = 2) with e | e | e <;> subst e <;> (cases hk; refine ⟨?_, rfl, rfl⟩) <;> rcases hm with e | e | e | e | e | e | e | e <;> subst e <;> decide
def preM (m : Int) (i : Nat) : List UInt8 := (mdT.take i).flatMap fun p => if hasM m p.1 then p.2 else []
theorem preM_zero (m : Int) : preM m 0 = [] := rfl
theorem preM_succ {m : Int} {k : Nat} {a : Int} {b : List UInt8} (hk : mdT[k]? = some (a, b)) : preM m (k + 1) = preM m k ++ if hasM m a then b else [] := by
  unfold preM
  obtain ⟨hi, he⟩ := List.getElem?_eq_some_iff.1 hk
  rw [List.take_succ_eq_append_getElem hi, he, List.flatMap_append]
  simp
theorem preM_all (m : Int) : preM m 3 = modF m := by
  unfold preM modF mdT
  simp only [List.take_succ_cons, List.take_zero, List.flatMap_cons, List.flatMap_nil, List.append_nil, List.append_assoc]
theorem preM_len (m : Int) (i : Nat) : (preM m i).length ≤ 6 := by
  unfold preM
  rcases (by omega : i = 0 ∨ i = 1 ∨ i = 2 ∨ 3 ≤ i) with e | e | e | e
  · subst e; simp
  · subst e; simp [mdT]; split <;> simp
  · subst e; simp [mdT]; split <;> split <;> simp
  · rw [List.take_of_length_le (by exact e)]; simp [mdT]; split <;> split <;> split <;> simp
theorem bare_len (c : Int) : (bareF c).length ≤ 9 := by
  unfold bareF
  split
  · have hall : ∀ s ∈ spT, s.name.length ≤ 9 := by decide
    rw [List.getD_eq_getElem?_getD]
    cases h : spT[(c - 16777217).toNat]? with
    | none => simp
    | some s => exact hall s (List.mem_of_getElem? h)
  · split
    · rename_i p hp
      have hall : ∀ p ∈ nmT, p.2.length ≤ 9 := by decide
      exact hall p (List.mem_of_find?_eq_some hp)
    · unfold Lib.encodeRune Lib.encodeRuneZ
      split
      · simp
      · split
        · simp
        · split
          · simp
          · split <;> simp
theorem valid_code {c m : Int} (h : validB c m = true) : 0 ≤ c ∧ c ≤ 16777239 ∧ 0 ≤ m ∧ m ≤ 7 := by
  unfold validB at h
  by_cases h1 : c = 32
  · rw [if_pos h1] at h
    simp [plainM, ctrlM] at h
    omega
  · rw [if_neg h1] at h
    by_cases h2 : oneB c = true
    · rw [if_pos h2] at h
      simp [plainM, oneB] at h h2
      omega
    · rw [if_neg h2] at h
      by_cases h3 : c = 16777239
      · rw [if_pos h3] at h
        simp at h
        omega
      · rw [if_neg h3] at h
        by_cases h4 : spcB c = true
        · rw [if_pos h4] at h
          simp [spcB] at h h4
          omega
        · rw [if_neg h4] at h
          simp [plainM, ctrlM, chrB, ctlB] at h
          omega
end Go.Proofs.YtgdkpmfdpfjdjaaGreatDoor
