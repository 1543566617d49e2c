/-
  Layouts: Panes, Next, on both sides.
-/
import Derived.Test.YtcjcekaahooamaaLTreeW
import Derived.Test.YtcjcekaahooamaaLTwin
namespace Go.Proofs.Ytcjcekaahooamaa
open Go.RowKit
set_option linter.unusedVariables false
set_option maxRecDepth 100000

theorem lay_ids {l : List CellV} {t : Tree} (hr : readF l = some t) : (nodeOf t).ids = idsOf l ∧ 1 ≤ (idsOf l).length ∧ (idsOf l).length ≤ 32 ∧ (idsOf l).Nodup ∧ (nodeOf t).cnt ≤ 1000 := by
  have h := readF_lay hr
  have hi := ids_told t 0 h.kinds
  rw [h.tell] at hi
  have hs := size_ids t h.kinds h.sound
  rw [hi] at hs
  have hf := few_len h.few
  have hp := t.size_pos
  refine ⟨hi, by omega, hf.1, hf.2, ?_⟩
  have h1 := layN_length (nodeOf t) 0 0 0
  rw [lay_told t 0 0 0, h.moved, h.tell] at h1
  have := h.size
  omega

/-- The panes of a list, if it is a layout. -/
def panesL (l : List CellV) : List Int := if (readF l).isSome then idsOf l else []
/-- Where a number stands first. -/
def FirstAt (zs : List Int) (x : Int) (k : Nat) : Prop := zs[k]? = some x ∧ ∀ j, j < k → zs[j]? ≠ some x
theorem first_or (zs : List Int) (x : Int) : (∃ k, k < zs.length ∧ FirstAt zs x k) ∨ ∀ j : Nat, zs[j]? ≠ some x := by
  induction zs with
  | nil => exact .inr fun j => by simp
  | cons a zs ih =>
    by_cases ha : a = x
    · exact .inl ⟨0, by simp, by simp [ha], fun j hj => by omega⟩
    · rcases ih with ⟨k, hk, h1, h2⟩ | h
      · refine .inl ⟨k + 1, by simp; omega, by simpa using h1, fun j hj => ?_⟩
        cases j with
        | zero => simpa using ha
        | succ j => simpa using h2 j (by omega)
      · refine .inr fun j => ?_
        cases j with
        | zero => simpa using ha
        | succ j => simpa using h j
theorem getD_of {zs : List Int} {j : Nat} (hj : j < zs.length) : zs[j]? = some (zs.getD j 0) := by simp [List.getD, hj]
theorem index_hit (u : Value) (zs : List Int) (x : Int) (k : Nat) (B : Nat) (w : World) (h : IOwns w B u zs) (hk : FirstAt zs x k) (hn : zs.length ≤ 1000000) : Calls Try.prog 48 #[u, .int .i64 x] w fun e w' => e = .returned (.int .i64 (k : Int)) ∧ w = w' := by
  have hkl : k < zs.length := (List.getElem?_eq_some_iff.1 hk.1).1
  rcases h.at_ with ⟨rfl, rfl⟩ | ⟨g, cap, rfl, hc⟩
  · simp at hkl
  · refine (Try.slices_Index_int g 0 zs.length cap zs x w (Nat.le_refl _) (by omega) fun j hj => by rw [Nat.zero_add]; exact hc j _ (getD_of hj)).mono fun e w' h2 => ⟨?_, h2.2.symm⟩
    rw [h2.1, Go.Lib.idxOf_hit zs zs.length k x hkl (Nat.le_refl _) (by have := getD_of hkl; rw [hk.1] at this; exact (Option.some.inj this).symm) (fun j hj e => hk.2 j hj (by rw [getD_of (by omega), e]))]
theorem index_miss (u : Value) (zs : List Int) (x : Int) (B : Nat) (w : World) (h : IOwns w B u zs) (hk : ∀ j : Nat, zs[j]? ≠ some x) (hn : zs.length ≤ 1000000) : Calls Try.prog 48 #[u, .int .i64 x] w fun e w' => e = .returned (.int .i64 (-1)) ∧ w = w' := by
  rcases h.at_ with ⟨rfl, rfl⟩ | ⟨g, cap, rfl, hc⟩
  · exact (Try.slices_Index_int_empty none 0 x w).mono fun e w' h2 => ⟨h2.1, h2.2.symm⟩
  · refine (Try.slices_Index_int g 0 zs.length cap zs x w (Nat.le_refl _) (by omega) fun j hj => by rw [Nat.zero_add]; exact hc j _ (getD_of hj)).mono fun e w' h2 => ⟨?_, h2.2.symm⟩
    rw [h2.1, Go.Lib.idxOf_miss zs zs.length x fun j hj e => hk j (by rw [getD_of hj, e])]

/-- The place that is so many behind. -/
def nextAt (k : Nat) (n : Int) (m : Nat) : Nat := (((k : Int) + n.tmod m) % m).toNat
theorem next_facts (k : Nat) (n : Int) (m : Nat) (hk : k < m) : ∃ T : Int, n.tmod m = T ∧ (-(m : Int) < T ∧ T < m) ∧ nextAt k n m < m ∧ ((k : Int) + (T + m)).tmod m = (nextAt k n m : Int) ∧ ((0 ≤ (k : Int) + T ∧ ((k : Int) + T).tmod m = (nextAt k n m : Int)) ∨ ((k : Int) + T < 0 ∧ ((k : Int) + T).tmod m = (k : Int) + T ∧ (k : Int) + T + m = (nextAt k n m : Int))) := by
  have hm : (0 : Int) < m := by omega
  have h1 : n.tmod m < m := Int.tmod_lt_of_pos n hm
  have h2 : -(m : Int) < n.tmod m := by
    have := Int.lt_tmod_of_pos n hm
    omega
  refine ⟨n.tmod m, rfl, ⟨h2, h1⟩, ?_⟩
  obtain ⟨T, hT⟩ : ∃ T, n.tmod m = T := ⟨_, rfl⟩
  unfold nextAt
  rw [hT] at h1 h2 ⊢
  have e0 : 0 ≤ ((k : Int) + T) % m := Int.emod_nonneg _ (by omega)
  have e1 : ((k : Int) + T) % m < m := Int.emod_lt_of_pos _ hm
  have ec : ((((k : Int) + T) % m).toNat : Int) = ((k : Int) + T) % m := Int.toNat_of_nonneg e0
  rw [ec]
  refine ⟨by omega, ?_, ?_⟩
  · rw [Int.tmod_eq_emod_of_nonneg (by omega), ← Int.add_assoc, Int.add_emod_right]
  · by_cases hs : 0 ≤ (k : Int) + T
    · exact .inl ⟨hs, Int.tmod_eq_emod_of_nonneg hs⟩
    · refine .inr ⟨by omega, ?_, ?_⟩
      · obtain ⟨q, hq⟩ : ∃ q : Nat, (k : Int) + T = -(q : Int) := ⟨(-((k : Int) + T)).toNat, by omega⟩
        rw [hq, Int.neg_tmod, Int.tmod_eq_emod_of_nonneg (by omega), Int.emod_eq_of_lt (by omega) (by omega)]
      · have := Int.add_emod_right ((k : Int) + T) m
        rw [← this, Int.emod_eq_of_lt (by omega) (by omega)]

/-- What Next answers. -/
def NextIs (l : List CellV) (pane n : Int) (y e : Int) : Prop :=
  (readF l = none ∧ y = 0 ∧ e = 40) ∨ ((readF l).isSome = true ∧ (∀ j : Nat, (idsOf l)[j]? ≠ some pane) ∧ y = 0 ∧ e = 42) ∨
  ((readF l).isSome = true ∧ ∃ k, FirstAt (idsOf l) pane k ∧ k < (idsOf l).length ∧ (idsOf l)[nextAt k n (idsOf l).length]? = some y ∧ e = 0)
theorem FirstAt.one {zs : List Int} {x : Int} {j k : Nat} (h1 : FirstAt zs x j) (h2 : FirstAt zs x k) : j = k := by
  rcases Nat.lt_trichotomy j k with h | h | h
  · exact absurd h1.1 (h2.2 j h)
  · exact h
  · exact absurd h2.1 (h1.2 k h)
theorem next_same {l : List CellV} {pane n y e y' e' : Int} (h : NextIs l pane n y e) (h' : NextIs l pane n y' e') : y = y' ∧ e = e' := by
  rcases h with ⟨h1, h2, h3⟩ | ⟨h1, h2, h3, h4⟩ | ⟨h1, k, h2, h3, h4, h5⟩ <;> rcases h' with ⟨g1, g2, g3⟩ | ⟨g1, g2, g3, g4⟩ | ⟨g1, k', g2, g3, g4, g5⟩
  · omega
  · rw [h1] at g1; cases g1
  · rw [h1] at g1; cases g1
  · rw [g1] at h1; cases h1
  · omega
  · exact absurd g2.1 (h2 k')
  · rw [g1] at h1; cases h1
  · exact absurd h2.1 (g2 k)
  · have := h2.one g2
    subst this
    rw [h4] at g4
    exact ⟨Option.some.inj g4, by omega⟩
theorem next_ex (l : List CellV) (pane n : Int) : ∃ y e, NextIs l pane n y e := by
  cases hr : readF l with
  | none => exact ⟨0, 40, .inl ⟨hr, rfl, rfl⟩⟩
  | some t =>
    have hs : (readF l).isSome = true := by rw [hr]; rfl
    rcases first_or (idsOf l) pane with ⟨k, hk, hf⟩ | h
    · obtain ⟨T, _, _, h1, _⟩ := next_facts k n (idsOf l).length hk
      exact ⟨_, 0, .inr (.inr ⟨hs, k, hf, hk, List.getElem?_eq_getElem h1, rfl⟩)⟩
    · exact ⟨0, 42, .inr (.inl ⟨hs, h, rfl, rfl⟩)⟩

end Go.Proofs.Ytcjcekaahooamaa
