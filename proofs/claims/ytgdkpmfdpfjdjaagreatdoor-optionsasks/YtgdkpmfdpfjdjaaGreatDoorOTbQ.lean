/-
  Options: the table, looked into.
-/
import Derived.Test.YtgdkpmfdpfjdjaaGreatDoorOTab
namespace Go.Proofs.YtgdkpmfdpfjdjaaGreatDoor
open Go.RowKit Go.Maps
set_option linter.unusedVariables false
set_option maxRecDepth 100000

theorem tabD_snoc (l : List (ByteArray × Value)) (x : ByteArray × Value) : tabD (l ++ [x]) = (tabD l).put (.string x.1.data.toList) (.held x.2) := by
  unfold tabD
  rw [List.foldl_append]
  rfl
theorem lit_inj {a b : ByteArray} (h : (Lit.string a.data.toList) = .string b.data.toList) : a = b := by
  obtain ⟨⟨a⟩⟩ := a
  obtain ⟨⟨b⟩⟩ := b
  simpa using h
/-- Rows, from behind. -/
theorem rows_rec {P : List (ByteArray × Value) → Prop} (h0 : P []) (h1 : ∀ l x, P l → P (l ++ [x])) (l : List (ByteArray × Value)) : P l := by
  have h : ∀ m : List (ByteArray × Value), P m.reverse := fun m => by
    induction m with
    | nil => exact h0
    | cons x m ih => rw [List.reverse_cons]; exact h1 _ _ ih
  have := h l.reverse
  rwa [List.reverse_reverse] at this
theorem tabD_is (l : List (ByteArray × Value)) : IsMap (tabD l) := by
  refine rows_rec (P := fun l => IsMap (tabD l)) ⟨[], rfl⟩ (fun l x h => ?_) l
  rw [tabD_snoc]
  exact h.put _ _
/-- A key that no row has. -/
theorem tabD_none (z : DataW Value) (k : ByteArray) (l : List (ByteArray × Value)) : k ∉ l.map Prod.fst → (tabD l).atKey (.string k.data.toList) z = z := by
  refine rows_rec (P := fun l => k ∉ l.map Prod.fst → (tabD l).atKey (.string k.data.toList) z = z) (fun _ => rfl) (fun l x ih h => ?_) l
  rw [List.map_append, List.mem_append, not_or] at h
  rw [tabD_snoc, Maps.atKey_put_other (fun e => h.2 (by rw [lit_inj e]; simp))]
  exact ih h.1
/-- A key that a row has. -/
theorem tabD_some (z : DataW Value) (l : List (ByteArray × Value)) : (l.map Prod.fst).Nodup → ∀ x ∈ l, (tabD l).atKey (.string x.1.data.toList) z = .held x.2 := by
  refine rows_rec (P := fun l => (l.map Prod.fst).Nodup → ∀ x ∈ l, (tabD l).atKey (.string x.1.data.toList) z = .held x.2) (fun _ x hx => by cases hx) (fun l y ih h x hx => ?_) l
  rw [List.map_append, List.nodup_append] at h
  rw [tabD_snoc]
  by_cases e : x.1 = y.1
  · rcases List.mem_append.1 hx with hx | hx
    · exact absurd e (h.2.2 _ (List.mem_map_of_mem hx) _ (by simp))
    · obtain rfl : x = y := by simpa using hx
      exact Maps.atKey_put_same (tabD_is l) (by trivial) _ _
  · rw [Maps.atKey_put_other (fun q => e (lit_inj q))]
    rcases List.mem_append.1 hx with hx | hx
    · exact ih h.1 x hx
    · exact absurd (by have : x = y := by simpa using hx
                       rw [this]) e
end Go.Proofs.YtgdkpmfdpfjdjaaGreatDoor
