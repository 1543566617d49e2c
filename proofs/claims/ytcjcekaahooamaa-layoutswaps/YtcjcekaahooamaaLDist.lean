/-
  Lists of numbers: sorted and cut to one of each they are as long as before where none stands twice.
-/
import Derived.Lib.SlicesCompact
import Derived.Lib.RowBridge
namespace Go.Proofs.Ytcjcekaahooamaa
set_option linter.unusedVariables false

def sortI (zs : List Int) : List Int := zs.mergeSort fun x y => decide (x ≤ y)
theorem sortI_length (zs : List Int) : (sortI zs).length = zs.length := List.length_mergeSort zs
theorem sortI_perm (zs : List Int) : (sortI zs).Perm zs := List.mergeSort_perm zs _
theorem sortI_sorted (zs : List Int) : (sortI zs).Pairwise (· ≤ ·) := by
  have h := List.pairwise_mergeSort (le := fun x y : Int => decide (x ≤ y)) (fun a b c h1 h2 => by simp at *; omega) (fun a b => by simp; omega) zs
  exact h.imp fun h => by simpa using h

theorem keeps_all_of {zs : List Int} (h : (Go.Lib.compact zs).length = zs.length) : ∀ j, j < zs.length → Go.Lib.keeps zs.toArray j = true := by
  unfold Go.Lib.compact Go.Lib.compactUpTo at h
  rw [List.length_map] at h
  have h2 : ((List.range zs.length).filter (Go.Lib.keeps zs.toArray)).length = (List.range zs.length).length := by rw [h]; simp
  intro j hj
  exact List.length_filter_eq_length_iff.1 h2 j (List.mem_range.2 hj)
theorem keeps_of_lt {zs : List Int} (h : zs.Pairwise (· < ·)) : ∀ j, j < zs.length → Go.Lib.keeps zs.toArray j = true := by
  intro j hj
  cases j with
  | zero => exact Go.Lib.keeps_lt_one _ 0 (by omega)
  | succ j =>
    refine Go.Lib.keeps_pos ?_
    have := (List.pairwise_iff_getElem.1 h) j (j + 1) (by omega) hj (by omega)
    rw [getElem!_pos zs.toArray (j + 1) (by simpa using hj), Nat.add_sub_cancel, getElem!_pos zs.toArray j (by simp; omega)]
    simp only [List.getElem_toArray]
    omega
theorem lt_of_keeps {zs : List Int} (hs : zs.Pairwise (· ≤ ·)) (h : ∀ j, j < zs.length → Go.Lib.keeps zs.toArray j = true) : zs.Pairwise (· < ·) := by
  rw [List.pairwise_iff_getElem] at hs ⊢
  intro i j hi hj hij
  obtain ⟨k, rfl⟩ : ∃ k, j = k + 1 := ⟨j - 1, by omega⟩
  have hk := h (k + 1) hj
  unfold Go.Lib.keeps at hk
  rw [decide_eq_true_eq] at hk
  rcases hk with hk | hk
  · omega
  · rw [getElem!_pos zs.toArray (k + 1) (by simpa using hj), Nat.add_sub_cancel, getElem!_pos zs.toArray k (by simp; omega)] at hk
    simp only [List.getElem_toArray] at hk
    have h1 := hs k (k + 1) (by omega) hj (by omega)
    by_cases e : i = k
    · subst e; omega
    · have := hs i k hi (by omega) (by omega)
      omega
theorem compact_nodup (zs : List Int) : decide ((Go.Lib.compact (sortI zs)).length = (sortI zs).length) = decide zs.Nodup := by
  rw [decide_eq_decide]
  constructor
  · intro h
    have := lt_of_keeps (sortI_sorted zs) (keeps_all_of h)
    have hn : (sortI zs).Nodup := this.imp fun h => by omega
    exact (sortI_perm zs).nodup_iff.1 hn
  · intro h
    have hn : (sortI zs).Nodup := (sortI_perm zs).nodup_iff.2 h
    have hl : (sortI zs).Pairwise (· < ·) := by
      have h1 := sortI_sorted zs
      have h2 : (sortI zs).Pairwise (· ≠ ·) := hn
      exact (List.Pairwise.and h1 h2).imp fun h => by omega
    rw [Go.Lib.compact_all _ (keeps_of_lt hl)]

end Go.Proofs.Ytcjcekaahooamaa
