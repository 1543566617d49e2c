/-
  Layouts: Panes, Next, on both sides.
-/
import Derived.Test.YtammadcigfbgeaaLTreeW
import Derived.Test.YtammadcigfbgeaaLTwin
namespace Go.Proofs.Ytammadcigfbgeaa
open Go.RowKit
set_option linter.unusedVariables false
set_option maxRecDepth 100000

theorem lay_ids {l : List CellV} {t : Tree} (hr : readF l = some t) : (nodeOf t).ids = idsOf l ∧ 1 ≤ (idsOf l).length ∧ (idsOf l).length ≤ 32 ∧ (idsOf l).Nodup ∧ (nodeOf t).cnt ≤ 1000 := by
  have h := readF_lay hr
  have hi := ids_told t 0 h.kinds
  rw [h.tell] at hi
  have hs := size_ids t h.kinds h.sound
  rw [hi] at hs
  have hf := few_len h.few
  have hp := t.size_pos
  refine ⟨hi, by omega, hf.1, hf.2, ?_⟩
  have h1 := layN_length (nodeOf t) 0 0 0
  rw [lay_told t 0 0 0, h.moved, h.tell] at h1
  have := h.size
  omega

/-- The panes of a list, if it is a layout. -/
def panesL (l : List CellV) : List Int := if (readF l).isSome then idsOf l else []
theorem panes_any (v : Value) (l : List CellV) (w : World) (h : CellsIn w v l) : Calls Try.prog 30 #[v] w fun e w' => ∃ z m c, e = .returned (.slice z m c) ∧ (panesL l).length = m ∧ IOwns w' w.heap.size (.slice z m c) (panesL l) ∧ Below w.heap.size w w' := by
  have HR : Hid (Calls Try.prog 45 #[v] w (ReadGood l w)) := read_any v l w h
  have HP : Hid ((readF l).isSome = true → ∀ X, Below w.heap.size w X → Calls Try.prog 62 #[v] X fun e w' => ∃ z m c, e = .returned (.slice z m c) ∧ (panesL l).length = m ∧ IOwns w' w.heap.size (.slice z m c) (panesL l) ∧ Below w.heap.size w w') := fun hs X hX => by
    have hlen : l.length ≤ 1000000 := by
      cases hr : readF l with
      | none => rw [hr] at hs; cases hs
      | some t => have := (readF_lay hr).size; omega
    refine (paneIds_any v l X (h.below hX) hlen).mono ?_
    rintro e w' ⟨u, rfl, h1, h2⟩
    have hp : panesL l = idsOf l := by unfold panesL; rw [if_pos hs]
    rw [hp]
    obtain ⟨z, c, hz⟩ := own_sl5 h1
    subst hz
    exact ⟨z, _, c, rfl, rfl, h1.lower hX.size, below_step hX h2⟩
  clear h
  go_enter Try.func30, Try.ntmps30
  go_wp2_with fail
  refine HR.out.mono ?_
  rintro e w1 (⟨hF, rfl, hb⟩ | ⟨t, T, g, fp, hF, rfl, hAt, hnd, hge, hb⟩)
  · have HE : Hid (panesL l = []) := by show _ = _; unfold panesL; rw [hF]; rfl
    unfold nilPart
    clear hF
    go_wp2
    go_ret
    exact ⟨none, 0, 0, rfl, by rw [HE.out]; rfl, by rw [HE.out]; exact World.ownsRow_nil _ _ _ _, hb⟩
  · have HC : Hid (Calls Try.prog 62 #[v] w1 fun e w' => ∃ z m c, e = .returned (.slice z m c) ∧ (panesL l).length = m ∧ IOwns w' w.heap.size (.slice z m c) (panesL l) ∧ Below w.heap.size w w') := HP.out (by rw [hF]; rfl) w1 hb
    clear hF hAt hnd hge HP
    go_wp2_with fail
    refine HC.out.mono ?_
    rintro e w2 ⟨z, m, c, rfl, h1, h2, h3⟩
    have H2 : Hid ((panesL l).length = m ∧ IOwns w2 w.heap.size (.slice z m c) (panesL l)) := ⟨h1, h2⟩
    clear h1 h2
    go_wp2
    go_ret
    exact ⟨z, m, c, rfl, H2.out.1, H2.out.2, h3⟩

/-- Where a number stands first. -/
def FirstAt (zs : List Int) (x : Int) (k : Nat) : Prop := zs[k]? = some x ∧ ∀ j, j < k → zs[j]? ≠ some x
theorem first_or (zs : List Int) (x : Int) : (∃ k, k < zs.length ∧ FirstAt zs x k) ∨ ∀ j : Nat, zs[j]? ≠ some x := by
  induction zs with
  | nil => exact .inr fun j => by simp
  | cons a zs ih =>
    by_cases ha : a = x
    · exact .inl ⟨0, by simp, by simp [ha], fun j hj => by omega⟩
    · rcases ih with ⟨k, hk, h1, h2⟩ | h
      · refine .inl ⟨k + 1, by simp; omega, by simpa using h1, fun j hj => ?_⟩
        cases j with
        | zero => simpa using ha
        | succ j => simpa using h2 j (by omega)
      · refine .inr fun j => ?_
        cases j with
        | zero => simpa using ha
        | succ j => simpa using h j
theorem getD_of {zs : List Int} {j : Nat} (hj : j < zs.length) : zs[j]? = some (zs.getD j 0) := by simp [List.getD, hj]
theorem index_hit (u : Value) (zs : List Int) (x : Int) (k : Nat) (B : Nat) (w : World) (h : IOwns w B u zs) (hk : FirstAt zs x k) (hn : zs.length ≤ 1000000) : Calls Try.prog 36 #[u, .int .i64 x] w fun e w' => e = .returned (.int .i64 (k : Int)) ∧ w = w' := by
  have hkl : k < zs.length := (List.getElem?_eq_some_iff.1 hk.1).1
  rcases h.at_ with ⟨rfl, rfl⟩ | ⟨g, cap, rfl, hc⟩
  · simp at hkl
  · refine (Try.slices_Index_int g 0 zs.length cap zs x w (Nat.le_refl _) (by omega) fun j hj => by rw [Nat.zero_add]; exact hc j _ (getD_of hj)).mono fun e w' h2 => ⟨?_, h2.2.symm⟩
    rw [h2.1, Go.Lib.idxOf_hit zs zs.length k x hkl (Nat.le_refl _) (by have := getD_of hkl; rw [hk.1] at this; exact (Option.some.inj this).symm) (fun j hj e => hk.2 j hj (by rw [getD_of (by omega), e]))]
theorem index_miss (u : Value) (zs : List Int) (x : Int) (B : Nat) (w : World) (h : IOwns w B u zs) (hk : ∀ j : Nat, zs[j]? ≠ some x) (hn : zs.length ≤ 1000000) : Calls Try.prog 36 #[u, .int .i64 x] w fun e w' => e = .returned (.int .i64 (-1)) ∧ w = w' := by
  rcases h.at_ with ⟨rfl, rfl⟩ | ⟨g, cap, rfl, hc⟩
  · exact (Try.slices_Index_int_empty none 0 x w).mono fun e w' h2 => ⟨h2.1, h2.2.symm⟩
  · refine (Try.slices_Index_int g 0 zs.length cap zs x w (Nat.le_refl _) (by omega) fun j hj => by rw [Nat.zero_add]; exact hc j _ (getD_of hj)).mono fun e w' h2 => ⟨?_, h2.2.symm⟩
    rw [h2.1, Go.Lib.idxOf_miss zs zs.length x fun j hj e => hk j (by rw [getD_of hj, e])]

/-- The place that is so many behind. -/
def nextAt (k : Nat) (n : Int) (m : Nat) : Nat := (((k : Int) + n.tmod m) % m).toNat
theorem next_facts (k : Nat) (n : Int) (m : Nat) (hk : k < m) : ∃ T : Int, n.tmod m = T ∧ (-(m : Int) < T ∧ T < m) ∧ nextAt k n m < m ∧ ((k : Int) + (T + m)).tmod m = (nextAt k n m : Int) ∧ ((0 ≤ (k : Int) + T ∧ ((k : Int) + T).tmod m = (nextAt k n m : Int)) ∨ ((k : Int) + T < 0 ∧ ((k : Int) + T).tmod m = (k : Int) + T ∧ (k : Int) + T + m = (nextAt k n m : Int))) := by
  have hm : (0 : Int) < m := by omega
  have h1 : n.tmod m < m := Int.tmod_lt_of_pos n hm
  have h2 : -(m : Int) < n.tmod m := by
    have := Int.lt_tmod_of_pos n hm
    omega
  refine ⟨n.tmod m, rfl, ⟨h2, h1⟩, ?_⟩
  obtain ⟨T, hT⟩ : ∃ T, n.tmod m = T := ⟨_, rfl⟩
  unfold nextAt
  rw [hT] at h1 h2 ⊢
  have e0 : 0 ≤ ((k : Int) + T) % m := Int.emod_nonneg _ (by omega)
  have e1 : ((k : Int) + T) % m < m := Int.emod_lt_of_pos _ hm
  have ec : ((((k : Int) + T) % m).toNat : Int) = ((k : Int) + T) % m := Int.toNat_of_nonneg e0
  rw [ec]
  refine ⟨by omega, ?_, ?_⟩
  · rw [Int.tmod_eq_emod_of_nonneg (by omega), ← Int.add_assoc, Int.add_emod_right]
  · by_cases hs : 0 ≤ (k : Int) + T
    · exact .inl ⟨hs, Int.tmod_eq_emod_of_nonneg hs⟩
    · refine .inr ⟨by omega, ?_, ?_⟩
      · obtain ⟨q, hq⟩ : ∃ q : Nat, (k : Int) + T = -(q : Int) := ⟨(-((k : Int) + T)).toNat, by omega⟩
        rw [hq, Int.neg_tmod, Int.tmod_eq_emod_of_nonneg (by omega), Int.emod_eq_of_lt (by omega) (by omega)]
      · have := Int.add_emod_right ((k : Int) + T) m
        rw [← this, Int.emod_eq_of_lt (by omega) (by omega)]

/-- What Next answers. -/
def NextIs (l : List CellV) (pane n : Int) (y e : Int) : Prop :=
  (readF l = none ∧ y = 0 ∧ e = 40) ∨ ((readF l).isSome = true ∧ (∀ j : Nat, (idsOf l)[j]? ≠ some pane) ∧ y = 0 ∧ e = 42) ∨
  ((readF l).isSome = true ∧ ∃ k, FirstAt (idsOf l) pane k ∧ k < (idsOf l).length ∧ (idsOf l)[nextAt k n (idsOf l).length]? = some y ∧ e = 0)
theorem FirstAt.one {zs : List Int} {x : Int} {j k : Nat} (h1 : FirstAt zs x j) (h2 : FirstAt zs x k) : j = k := by
  rcases Nat.lt_trichotomy j k with h | h | h
  · exact absurd h1.1 (h2.2 j h)
  · exact h
  · exact absurd h2.1 (h1.2 k h)
theorem next_same {l : List CellV} {pane n y e y' e' : Int} (h : NextIs l pane n y e) (h' : NextIs l pane n y' e') : y = y' ∧ e = e' := by
  rcases h with ⟨h1, h2, h3⟩ | ⟨h1, h2, h3, h4⟩ | ⟨h1, k, h2, h3, h4, h5⟩ <;> rcases h' with ⟨g1, g2, g3⟩ | ⟨g1, g2, g3, g4⟩ | ⟨g1, k', g2, g3, g4, g5⟩
  · omega
  · rw [h1] at g1; cases g1
  · rw [h1] at g1; cases g1
  · rw [g1] at h1; cases h1
  · omega
  · exact absurd g2.1 (h2 k')
  · rw [g1] at h1; cases h1
  · exact absurd h2.1 (g2 k)
  · have := h2.one g2
    subst this
    rw [h4] at g4
    exact ⟨Option.some.inj g4, by omega⟩
theorem next_ex (l : List CellV) (pane n : Int) : ∃ y e, NextIs l pane n y e := by
  cases hr : readF l with
  | none => exact ⟨0, 40, .inl ⟨hr, rfl, rfl⟩⟩
  | some t =>
    have hs : (readF l).isSome = true := by rw [hr]; rfl
    rcases first_or (idsOf l) pane with ⟨k, hk, hf⟩ | h
    · obtain ⟨T, _, _, h1, _⟩ := next_facts k n (idsOf l).length hk
      exact ⟨_, 0, .inr (.inr ⟨hs, k, hf, hk, List.getElem?_eq_getElem h1, rfl⟩)⟩
    · exact ⟨0, 42, .inr (.inl ⟨hs, h, rfl, rfl⟩)⟩

set_option maxHeartbeats 1000000 in
theorem next_prog (v : Value) (l : List CellV) (pane n y e : Int) (w : World) (h : CellsIn w v l) (hn : -9223372036854775808 ≤ n ∧ n ≤ 9223372036854775807) (hN : NextIs l pane n y e) : Calls Try.prog 14 #[v, .int .i64 pane, .int .i64 n] w fun x w' => x = .returned (.tuple #[.int .i64 y, .int .i64 e]) ∧ Below w.heap.size w w' := by
  have HP : Hid (Calls Try.prog 30 #[v] w fun e w' => ∃ z m c, e = .returned (.slice z m c) ∧ (panesL l).length = m ∧ IOwns w' w.heap.size (.slice z m c) (panesL l) ∧ Below w.heap.size w w') := panes_any v l w h
  clear h
  rcases hN with ⟨h1, rfl, rfl⟩ | ⟨h1, h2, rfl, rfl⟩ | ⟨h1, k, h2, h3, h4, rfl⟩
  · have hp : panesL l = [] := by unfold panesL; rw [h1]; rfl
    rw [hp] at HP
    clear hp h1
    go_enter Try.func14, Try.ntmps14
    go_wp2_with fail
    refine HP.out.mono ?_
    rintro e w1 ⟨z, m, c, rfl, hm, _, hb⟩
    have hm0 : m = 0 := by simpa using hm.symm
    subst hm0
    clear hm
    go_wp2
    go_ret2
    exact ⟨rfl, hb⟩
  · have hp : panesL l = idsOf l := by unfold panesL; rw [if_pos h1]
    have hi : 1 ≤ (idsOf l).length ∧ (idsOf l).length ≤ 32 := by
      cases hr : readF l with
      | none => rw [hr] at h1; cases h1
      | some t => have := lay_ids hr; omega
    have HI : Hid (∀ u B X, IOwns X B u (idsOf l) → Calls Try.prog 36 #[u, .int .i64 pane] X fun e w' => e = .returned (.int .i64 (-1)) ∧ X = w') := fun u B X hX => index_miss u _ pane B X hX h2 (by omega)
    rw [hp] at HP
    obtain ⟨zs, hzs⟩ : ∃ zs, idsOf l = zs := ⟨_, rfl⟩
    rw [hzs] at HP HI hi
    clear hp h1 h2 hzs
    go_enter Try.func14, Try.ntmps14
    go_wp2_with fail
    refine HP.out.mono ?_
    rintro e w1 ⟨z, m, c, rfl, hm, hio, hb⟩
    have hm0 : ((m : Int) == 0) = false := by simp; omega
    have HI1 : Hid (Calls Try.prog 36 #[.slice z m c, .int .i64 pane] w1 fun e w' => e = .returned (.int .i64 (-1)) ∧ w1 = w') := HI.out _ _ w1 hio
    clear hm hio HI
    go_wp2_with fail
    refine HI1.out.mono ?_
    rintro e w2 ⟨rfl, rfl⟩
    go_wp2
    go_ret2
    exact ⟨rfl, hb⟩
  · have hp : panesL l = idsOf l := by unfold panesL; rw [if_pos h1]
    have hi : 1 ≤ (idsOf l).length ∧ (idsOf l).length ≤ 32 := by
      cases hr : readF l with
      | none => rw [hr] at h1; cases h1
      | some t => have := lay_ids hr; omega
    have HI : Hid (∀ u B X, IOwns X B u (idsOf l) → Calls Try.prog 36 #[u, .int .i64 pane] X fun e w' => e = .returned (.int .i64 (k : Int)) ∧ X = w') := fun u B X hX => index_hit u _ pane k B X hX h2 (by omega)
    rw [hp] at HP
    obtain ⟨zs, hzs⟩ : ∃ zs, idsOf l = zs := ⟨_, rfl⟩
    rw [hzs] at HP HI hi h3 h4
    obtain ⟨M, hM⟩ : ∃ M, zs.length = M := ⟨_, rfl⟩
    rw [hM] at HP hi h3 h4
    obtain ⟨T, f1, f2, f3, f4, _⟩ := next_facts k n M h3
    obtain ⟨j, hj⟩ : ∃ j, nextAt k n M = j := ⟨_, rfl⟩
    rw [hj] at f3 f4 h4
    have HY : Hid (zs[j]? = some y) := h4
    have w1 : IntKind.i64.wrap T = T := by rw [IntKind.wrap_i64]; omega
    have w2 : IntKind.i64.wrap (T + M) = T + M := by rw [IntKind.wrap_i64]; omega
    have w3 : IntKind.i64.wrap ((k : Int) + (T + M)) = (k : Int) + (T + M) := by rw [IntKind.wrap_i64]; omega
    have w4 : IntKind.i64.wrap (j : Int) = (j : Int) := by rw [IntKind.wrap_i64]; omega
    have hm0 : ((M : Int) == 0) = false := by simp; omega
    have hmn : ¬ (M : Int) = 0 := by omega
    have hk0 : ¬ ((k : Int) < 0) := by omega
    clear hp h1 h2 hzs hj h4
    go_enter Try.func14, Try.ntmps14
    go_wp2_with fail
    refine HP.out.mono ?_
    rintro e w1 ⟨z, m, c, rfl, hm, hio, hb⟩
    subst hm
    have HI1 : Hid (Calls Try.prog 36 #[.slice z M c, .int .i64 pane] w1 fun e w' => e = .returned (.int .i64 (k : Int)) ∧ w1 = w') := HI.out _ _ w1 hio
    obtain ⟨g, hz, hcell⟩ : ∃ g, z = some ⟨g, 0, none⟩ ∧ w1.cell? ⟨g, j, none⟩ = some (.int .i64 y) := by
      rcases hio.at_ with ⟨e1, e2⟩ | ⟨g, cap, e1, e2⟩
      · rw [e2] at hM; simp at hM; omega
      · injection e1 with e3 _ _
        exact ⟨g, e3, e2 j y HY.out⟩
    subst hz
    clear hio HI hM
    go_wp2_with fail
    refine HI1.out.mono ?_
    rintro e w2 ⟨rfl, rfl⟩
    go_wp2
    go_ret2
    exact ⟨rfl, hb⟩

set_option maxHeartbeats 2000000 in
theorem next_ref (v : Value) (l : List CellV) (pane n y e : Int) (w : World) (h : CellsIn w v l) (hn : -9223372036854775808 ≤ n ∧ n ≤ 9223372036854775807) (hN : NextIs l pane n y e) : Calls Try.prog 15 #[v, .int .i64 pane, .int .i64 n] w fun x w' => x = .returned (.tuple #[.int .i64 y, .int .i64 e]) ∧ Below w.heap.size w w' := by
  have HT : Hid (Calls Try.prog 37 #[v] w (TreeGood l w)) := tree_any v l w h
  have HN : Hid (NextIs l pane n y e) := hN
  clear h hN
  go_enter Try.func15, Try.ntmps15
  go_wp2_with fail
  refine HT.out.mono ?_
  rintro x w1 ⟨hb, ⟨hr, rfl⟩ | ⟨t, sa, sn, sc, fp, hr, rfl, hIn⟩⟩
  · have HE : Hid (y = 0 ∧ e = 40) := by
      have := next_same HN.out (.inl ⟨hr, rfl, rfl⟩)
      exact this
    have HB : Hid (∀ o, Below w.heap.size w (w1.alloc o)) := fun o => below_step hb ((Below.refl _ _).alloc (Nat.le_refl _) o)
    unfold zeroN
    clear hr hb
    go_wp2
    go_ret2
    exact ⟨by rw [HE.out.1, HE.out.2]; rfl, HB.out _⟩
  · obtain ⟨g1, g2, g3, _, g5⟩ := lay_ids hr
    have HB : Hid (∀ o, Below w.heap.size w (w1.alloc o)) := fun o => below_step hb ((Below.refl _ _).alloc (Nat.le_refl _) o)
    obtain ⟨nn, hnn⟩ : ∃ x, nodeOf t = x := ⟨_, rfl⟩
    rw [hnn] at hIn g1 g5 ⊢
    have HId : Hid (∀ o, Calls Try.prog 38 #[.agg #[.int .i64 nn.k, .int .i64 nn.w, .int .i64 nn.h, .int .i64 nn.i, .slice sa sn sc]] (w1.alloc o) fun e w' => ∃ z c, e = .returned (.slice z (idsOf l).length c) ∧ IOwns w' w.heap.size (.slice z (idsOf l).length c) (idsOf l) ∧ Below w.heap.size w w') := fun o => by
      refine (ids_good nn g5 _ fp (w1.alloc o) (hIn.below ((Below.refl _ _).alloc (Nat.le_refl _) o))).mono ?_
      rintro e w' ⟨u, rfl, h1, h2⟩
      obtain ⟨za, zc, hz⟩ := own_sl5 h1
      subst hz
      rw [g1] at h1 ⊢
      exact ⟨za, zc, rfl, h1.lower (HB.out o).size, below_step (HB.out o) h2⟩
    have HS : Hid ((readF l).isSome = true) := by show _ = _; rw [hr]; rfl
    obtain ⟨zs, hzs⟩ : ∃ zs, idsOf l = zs := ⟨_, rfl⟩
    rw [hzs] at g2 g3 HId
    obtain ⟨M, hM⟩ : ∃ M, zs.length = M := ⟨_, rfl⟩
    rw [hM] at g2 g3 HId
    have HM : Hid (zs.length = M) := hM
    have HMiss : Hid ((∀ j : Nat, zs[j]? ≠ some pane) → y = 0 ∧ e = 42) := fun hm => next_same HN.out (.inr (.inl ⟨HS.out, by rw [hzs]; exact hm, rfl, rfl⟩))
    have HHit : Hid (∀ k, FirstAt zs pane k → k < M → zs[nextAt k n M]? = some y ∧ e = 0) := fun k hk hkm => by
      obtain ⟨_, _, _, h1, _⟩ := next_facts k n M hkm
      obtain ⟨q, hq⟩ : ∃ q, zs[nextAt k n M]? = some q := ⟨_, List.getElem?_eq_getElem (by rw [hM]; exact h1)⟩
      have h3 := next_same HN.out (.inr (.inr ⟨HS.out, k, by rw [hzs]; exact hk, by rw [hzs, hM]; exact hkm, by rw [hzs, hM]; exact hq, rfl⟩))
      exact ⟨by rw [h3.1]; exact hq, h3.2⟩
    unfold nodeV
    clear hr hb hIn g1 g5 hnn hzs hM
    go_wp2_with fail
    refine (HId.out _).mono ?_
    rintro x w2 ⟨z, zc, rfl, hio, hb2⟩
    obtain ⟨g, hz, hcell⟩ : ∃ g, z = some ⟨g, 0, none⟩ ∧ ∀ (j : Nat) x, zs[j]? = some x → w2.cell? ⟨g, j, none⟩ = some (.int .i64 x) := by
      rcases hio.at_ with ⟨e1, e2⟩ | ⟨g, cap, e1, e2⟩
      · have := HM.out; rw [e2] at this; simp at this; omega
      · injection e1 with e3 _ _
        exact ⟨g, e3, e2⟩
    subst hz
    have HC : Hid (∀ X, Below w2.heap.size w2 X → ∀ (j : Nat) x, zs[j]? = some x → X.cell? ⟨g, j, none⟩ = some (.int .i64 x)) := fun X hX j x hj => (hX.cell (p := ⟨g, j, none⟩) (World.block_lt_of_cell? w2 _ (hcell j x hj))).trans (hcell j x hj)
    have HB2 : Hid (Below w.heap.size w w2) := hb2
    clear hio hb2 hcell HId
    go_wp2
    go_loopw [11] (fun v wr => ∃ i : Nat, i ≤ M ∧ v = .int .i64 i ∧ Hid (∀ j, j < i → zs[j]? ≠ some pane) ∧ w2 = wr) (fun v _ => M - (intOf v).toNat)
    case atStart => exact ⟨0, Nat.zero_le _, rfl, fun j hj => by omega, rfl⟩
    case round =>
      obtain ⟨i, hi, rfl, HJ, rfl⟩ := hrel
      by_cases hlt : i < M
      · obtain ⟨x, hx⟩ : ∃ x, zs[i]? = some x := ⟨_, List.getElem?_eq_getElem (by rw [HM.out]; exact hlt)⟩
        have c1 := HC.out w2 (Below.refl _ _) i x hx
        by_cases hxp : x = pane
        · have hxp' : (x == pane) = true := by simpa using hxp
          obtain ⟨k1, k2⟩ := HHit.out i ⟨by rw [hx, hxp], HJ.out⟩ hlt
          obtain ⟨T, f1, f2, f3, _, f5⟩ := next_facts i n M hlt
          obtain ⟨j, hj⟩ : ∃ j, nextAt i n M = j := ⟨_, rfl⟩
          rw [hj] at f3 f5 k1
          have c2 := HC.out w2 (Below.refl _ _) j y k1
          subst k2
          have v1 : IntKind.i64.wrap T = T := by rw [IntKind.wrap_i64]; omega
          have v2 : IntKind.i64.wrap ((i : Int) + T) = (i : Int) + T := by rw [IntKind.wrap_i64]; omega
          have v3 : IntKind.i64.wrap (j : Int) = (j : Int) := by rw [IntKind.wrap_i64]; omega
          have hmn : ¬ (M : Int) = 0 := by omega
          have hm0 : ((M : Int) == 0) = false := by simp; omega
          clear hxp hx k1 hj
          rcases f5 with ⟨d1, d2⟩ | ⟨d1, d2, d3⟩
          · have d4 : ¬ ((j : Int) < 0) := by omega
            go_wp2
            go_ret2
            exact ⟨rfl, HB2.out⟩
          · have v4 : IntKind.i64.wrap ((i : Int) + T + M) = (j : Int) := by rw [d3]; exact v3
            go_wp2
            go_ret2
            exact ⟨rfl, HB2.out⟩
        · have hxp' : (x == pane) = false := by simpa using hxp
          have HX : Hid (zs[i]? ≠ some pane) := by rw [hx]; intro e; exact hxp (Option.some.inj e)
          clear hxp hx
          go_wp2
          go_roundw
          case rel => exact ⟨i + 1, by omega, by go_num, fun j hj => (by by_cases hji : j = i; exact hji ▸ HX.out; exact HJ.out j (by omega)), trivial⟩
          case measure => simp [intOf]; omega
      · have HE : Hid (y = 0 ∧ e = 42) := HMiss.out fun j => by
          by_cases hj : j < M
          · exact HJ.out j (by omega)
          · rw [List.getElem?_eq_none (by rw [HM.out]; omega)]; simp
        go_wp2
        go_ret2
        exact ⟨by rw [HE.out.1, HE.out.2]; rfl, HB2.out⟩

set_option maxHeartbeats 1000000 in
theorem nexts_walk (v : Value) (l : List CellV) (pane n : Int) (w : World) (hv : CellsIn w v l) (hnil : v = .slice none 0 0 ∨ ∃ a n c, v = .slice (some a) n c) (hlen : l.length * 56 ≤ 140737488351232) (hn : -9223372036854775808 ≤ n ∧ n ≤ 9223372036854775807) : Calls Try.prog 4 #[v, .int .i64 pane, .int .i64 n] w fun x w' => x = .returned (.bool true) ∧ Below w.heap.size w w' := by
  obtain ⟨y, e, hN⟩ := next_ex l pane n
  have HTw : Hid (Calls Try.prog 13 #[v] w fun e w' => ∃ g cap, e = .returned (.slice (some ⟨g, 0, none⟩) l.length cap) ∧ TwinAt w' g cap l ∧ w.heap.size ≤ g ∧ Below w.heap.size w w') := twin_any v l w hv hnil hlen
  have HP : Hid (∀ u X, CellsIn X u l → Calls Try.prog 14 #[u, .int .i64 pane, .int .i64 n] X fun x w' => x = .returned (.tuple #[.int .i64 y, .int .i64 e]) ∧ Below X.heap.size X w') := fun u X hX => next_prog u l pane n y e X hX hn hN
  have HR : Hid (∀ X, Below w.heap.size w X → Calls Try.prog 15 #[v, .int .i64 pane, .int .i64 n] X fun x w' => x = .returned (.tuple #[.int .i64 y, .int .i64 e]) ∧ Below X.heap.size X w') := fun X hX => next_ref v l pane n y e X (hv.below hX) hn hN
  have HW : Hid (∀ W, Calls Try.prog 11 #[] W fun e w' => e = .returned (.bool true) ∧ Below W.heap.size W w') := works_true
  have HK : Hid (∀ g cap X, TwinAt X g cap l → Below w.heap.size w X → Calls Try.prog 16 #[.slice (some ⟨g, 0, none⟩) l.length cap, v] X fun e w' => e = .returned (.bool true) ∧ Below X.heap.size X w') := fun g cap X hT hX => kept_any v g cap l X hT (hv.below hX) hlen
  obtain ⟨L, hL⟩ : ∃ L, l.length = L := ⟨_, rfl⟩
  rw [hL] at HTw HK
  have HL : Hid (l.length = L) := hL
  clear hv hnil hlen hn hN hL
  go_enter Try.func4, Try.ntmps4
  go_wp2_with fail
  refine HTw.out.mono ?_
  rintro x w1 ⟨g, cap, rfl, hT, _, hb1⟩
  have H1 : Hid (TwinAt w1 g cap l ∧ Below w.heap.size w w1) := ⟨hT, hb1⟩
  have HP1 : Hid (Calls Try.prog 14 #[.slice (some ⟨g, 0, none⟩) L cap, .int .i64 pane, .int .i64 n] w1 fun x w' => x = .returned (.tuple #[.int .i64 y, .int .i64 e]) ∧ Below w1.heap.size w1 w') := HP.out _ w1 (by have := hT.cellsIn; rw [HL.out] at this; exact this)
  clear hT hb1 HTw HP
  go_wp2_with fail
  refine HP1.out.mono ?_
  rintro x w2 ⟨rfl, hb2⟩
  have H2 : Hid (TwinAt w2 g cap l ∧ Below w.heap.size w w2) := ⟨H1.out.1.below hb2, below_step H1.out.2 hb2⟩
  clear hb2 H1 HP1
  go_wp2_with fail
  refine (HR.out _ H2.out.2).mono ?_
  rintro x w3 ⟨rfl, hb3⟩
  have H3 : Hid (TwinAt w3 g cap l ∧ Below w.heap.size w w3) := ⟨H2.out.1.below hb3, below_step H2.out.2 hb3⟩
  clear hb3 H2 HR
  go_wp2_with fail
  refine (HW.out _).mono ?_
  rintro x w4 ⟨rfl, hb4⟩
  have H4 : Hid (TwinAt w4 g cap l ∧ Below w.heap.size w w4) := ⟨H3.out.1.below hb4, below_step H3.out.2 hb4⟩
  clear hb4 H3 HW
  go_wp2_with fail
  refine (HK.out _ _ _ H4.out.1 H4.out.2).mono ?_
  rintro x w5 ⟨rfl, hb5⟩
  have H5 : Hid (Below w.heap.size w w5) := below_step H4.out.2 hb5
  clear hb5 H4
  go_wp2
  go_ret
  exact ⟨rfl, H5.out⟩

end Go.Proofs.Ytammadcigfbgeaa
