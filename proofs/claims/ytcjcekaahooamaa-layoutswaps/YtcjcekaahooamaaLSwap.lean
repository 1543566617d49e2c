/-
  Layouts: the program's Swap.
-/
import Derived.Test.YtcjcekaahooamaaLSwapP
namespace Go.Proofs.Ytcjcekaahooamaa
open Go.RowKit
set_option linter.unusedVariables false
set_option maxRecDepth 100000

/-- What Swap answers. -/
def swapE (l : List CellV) (a b : Int) : Int := if (readF l).isSome = true then (if a ∈ idsOf l ∧ b ∈ idsOf l then 0 else 42) else 40
def swapL (l : List CellV) (a b : Int) : List CellV := if (readF l).isSome = true ∧ a ∈ idsOf l ∧ b ∈ idsOf l then l.map (swapC a b) else []
theorem swap_none {l : List CellV} (a b : Int) (h : readF l = none) : swapE l a b = 40 ∧ swapL l a b = [] := by
  unfold swapE swapL
  rw [h]
  simp
theorem swap_miss {l : List CellV} {t : Tree} (a b : Int) (h : readF l = some t) (hm : ¬ (a ∈ idsOf l ∧ b ∈ idsOf l)) : swapE l a b = 42 ∧ swapL l a b = [] := by
  unfold swapE swapL
  rw [h]
  simp [hm]
theorem swap_both {l : List CellV} {t : Tree} (a b : Int) (h : readF l = some t) (ha : a ∈ idsOf l) (hb : b ∈ idsOf l) : swapE l a b = 0 ∧ swapL l a b = l.map (swapC a b) := by
  unfold swapE swapL
  rw [h]
  simp [ha, hb]

theorem Reach.below {W W' : World} : ∀ {ps : List Nat} {v v' : Value} {st : List (Nat × Nat)}, Reach W v ps v' st → Below W.heap.size W W' → Reach W' v ps v' st
  | [], v, v', st, h, hb => h
  | i :: ps, v, v', st, h, hb => by
    obtain ⟨g, pg, n, cap, vi, st', h1, h2, h3, h4, h5, h6⟩ := h
    exact ⟨g, pg, n, cap, vi, st', h1, (hb.cell (p := ⟨g, 5, none⟩) (World.block_lt_of_cell? W _ h2)).trans h2, h3, (hb.cell (p := ⟨pg, i, none⟩) (World.block_lt_of_cell? W _ h4)).trans h4, Reach.below h5 hb, h6⟩
mutual
theorem idl_idB : ∀ (t : Tree), t.sound = true → ∀ q ∈ t.idl, idB q = true
  | .leaf x p, hs, q, hq => by
    unfold Tree.idl at hq
    simp at hq
    subst hq
    unfold Tree.sound at hs
    simp only [Bool.and_eq_true] at hs
    exact hs.2
  | .split x k ts, hs, q, hq => by
    unfold Tree.sound at hs
    simp only [Bool.and_eq_true] at hs
    unfold Tree.idl at hq
    exact idls_idB ts x k hs.2.1 q hq
theorem idls_idB : ∀ (ts : List Tree) (b : Box) (k : Int), soundAll ts b k = true → ∀ q ∈ idls ts, idB q = true
  | [], b, k, hs, q, hq => by simp [idls] at hq
  | t :: ts, b, k, hs, q, hq => by
    unfold soundAll at hs
    simp only [Bool.and_eq_true] at hs
    unfold idls at hq
    rcases List.mem_append.1 hq with hq | hq
    · exact idl_idB t hs.1.1 q hq
    · exact idls_idB ts b k hs.2 q hq
end
theorem read_lenS {l : List CellV} (hs : (readF l).isSome = true) : l.length ≤ 63 ∧ l ≠ [] := by
  cases hr : readF l with
  | none => rw [hr] at hs; cases hs
  | some t =>
    unfold readF at hr
    split at hr
    · cases hr
    · rename_i h
      refine ⟨by omega, ?_⟩
      rintro rfl
      rw [takeF_nil] at hr
      cases hr

mutual
theorem kinds_fine : ∀ (t : Tree), t.kinds → t.size ≤ 200 → t.fine
  | .leaf x p, hk, hz => trivial
  | .split x k ts, hk, hz => by
    unfold Tree.size at hz
    exact ⟨hk.1, by have := length_sizes ts; omega, kinds_fines ts hk.2 (by omega)⟩
theorem kinds_fines : ∀ (ts : List Tree), kindsAll ts → sizes ts ≤ 200 → fines ts
  | [], hk, hz => trivial
  | t :: ts, hk, hz => by
    unfold sizes at hz
    exact ⟨kinds_fine t hk.1 (by omega), kinds_fines ts hk.2 (by omega)⟩
/-- The leaf that a way leads to. -/
theorem reach_leaf {W : World} {B : Nat} : ∀ {t : Tree} {v : Value} {fp : List Nat} {q : Int} {ps : List Nat} {gl : Nat} {st : List (Nat × Nat)}, t.At W B v fp → t.path q = some ps → Reach W v ps (leafI gl) st → ∃ x, LeafAt W gl x q ∧ gl ∈ fp
  | .leaf x p, v, fp, q, ps, gl, st, h, hp, hr => by
    obtain ⟨g, rfl, hl, rfl⟩ := h
    unfold Tree.path at hp
    split at hp
    · rename_i e
      cases hp
      have e2 : gl = g := by
        have := hr.1
        unfold leafI at this
        simpa using this
      subst e2
      exact ⟨x, e ▸ hl, by simp⟩
    · cases hp
  | .split x k ts, v, fp, q, ps, gl, st, h, hp, hr => by
    obtain ⟨g, sl, vs, fs, rfl, hS, hR, hP, rfl⟩ := h
    unfold Tree.path at hp
    obtain ⟨j, u, ps', e, h1, h2⟩ := pathAll_inv q ts 0 ps hp
    rw [Nat.zero_add] at e
    subst e
    obtain ⟨g', pg, n, cap, vi, st', e1, e2, e3, e4, e5, _⟩ := hr
    have hg : g = g' := by
      unfold splitI at e1
      simpa using e1
    subst hg
    have hvs : vs ≠ [] := by
      intro e
      have := hP.length
      rw [e] at this
      have := (List.getElem?_eq_some_iff.1 h1).1
      simp at *
      omega
    obtain ⟨pg', cap', hsl, hseen⟩ := seen_of hS hR hvs
    subst hsl
    have q5 := hseen.parts
    rw [e2] at q5
    have hpg : pg = pg' := by
      have := Option.some.inj q5
      simp at this
      exact this.1
    subst hpg
    obtain ⟨y, hy, hg⟩ := reach_parts hP h1 h2 (fun w hw => by
      have := hseen.row j w hw
      rw [e4] at this
      cases this
      exact e5)
    exact ⟨y, hy, by simp [hg]⟩
theorem reach_parts {W : World} {B : Nat} : ∀ {ts : List Tree} {vs : List Value} {fs : List Nat} {q : Int} {j : Nat} {u : Tree} {ps : List Nat} {gl : Nat} {st : List (Nat × Nat)}, partsAt W B ts vs fs → ts[j]? = some u → u.path q = some ps → (∀ w, vs[j]? = some w → Reach W w ps (leafI gl) st) → ∃ x, LeafAt W gl x q ∧ gl ∈ fs
  | [], vs, fs, q, j, u, ps, gl, st, h, hj, hp, hr => by simp at hj
  | t :: ts, vs, fs, q, 0, u, ps, gl, st, h, hj, hp, hr => by
    obtain ⟨v, vs', f, f', rfl, hA, hP, rfl⟩ := h
    simp at hj
    subst hj
    obtain ⟨x, h1, h2⟩ := reach_leaf hA hp (hr v rfl)
    exact ⟨x, h1, List.mem_append_left _ h2⟩
  | t :: ts, vs, fs, q, j + 1, u, ps, gl, st, h, hj, hp, hr => by
    obtain ⟨v, vs', f, f', rfl, hA, hP, rfl⟩ := h
    obtain ⟨x, h1, h2⟩ := reach_parts hP (by simpa using hj) hp (fun w hw => hr w (by simpa using hw))
    exact ⟨x, h1, List.mem_append_right _ h2⟩
end
theorem LeafAt.setP {W : World} {g : Nat} {x : Box} {p : Int} (h : LeafAt W g x p) (q : Int) : LeafAt (W.setCell ⟨g, 4, none⟩ (.int .i64 q)) g x q := by
  have hlt : g < W.heap.size := lt_of_block h
  have h' : W.heap[g] = .cells (leafV x p) 44 (0, 0) := by unfold LeafAt at h; simpa [Array.getElem?_eq_getElem hlt] using h
  show (W.heap.modify g _)[g]? = _
  rw [Array.getElem?_eq_getElem (by simpa using hlt), Array.getElem_modify_self, h']
  rfl
/-- Two stores. -/
theorem swapped_of {W : World} {g1 g2 : Nat} {a b : Int} {b1 b2 : Box} (h1 : LeafAt W g1 b1 a) (h2 : LeafAt W g2 b2 b) : Swapped W ((W.setCell ⟨g1, 4, none⟩ (.int .i64 b)).setCell ⟨g2, 4, none⟩ (.int .i64 a)) g1 g2 a b b1 b2 := by
  refine ⟨h1, h2, fun x hx => ?_, fun x hx => ?_, fun g hg n1 n2 => ?_⟩
  · by_cases e : g1 = g2
    · subst e
      have := leaf_id h1 h2
      subst this
      exact (hx.setP a).setP a
    · exact (Below.heap_setCell _ _ _ _ e).trans (hx.setP b)
  · by_cases e : g1 = g2
    · subst e
      exact (hx.setP b).setP a
    · have k : LeafAt (W.setCell ⟨g1, 4, none⟩ (.int .i64 b)) g2 x b := (Below.heap_setCell _ _ _ _ (Ne.symm e)).trans hx
      exact k.setP a
  · exact (Below.heap_setCell _ _ _ _ n2).trans (Below.heap_setCell _ _ _ _ n1)

/-- What lies behind the two stores. -/
theorem swap_end {l : List CellV} {t : Tree} {a b : Int} {v : Value} {fp : List Nat} {W0 W1 W : World} {gl1 gl2 : Nat} {ps1 ps2 : List Nat} {s1 s2 : List (Nat × Nat)} (hr : readF l = some t) (hA : t.At W1 0 v fp) (hnd : fp.Nodup) (hge : ∀ q ∈ fp, W0.heap.size ≤ q) (hb0 : Below W0.heap.size W0 W1) (hW : Below W1.heap.size W1 W) (p1 : t.path a = some ps1) (r1 : Reach W1 v ps1 (leafI gl1) s1) (p2 : t.path b = some ps2) (r2 : Reach W1 v ps2 (leafI gl2) s2) :
    (∃ p, W.cell? ⟨gl1, 4, none⟩ = some (.int .i64 p)) ∧ W.frozen? ⟨gl1, 4, none⟩ = false ∧ (∃ p, (W.setCell ⟨gl1, 4, none⟩ (.int .i64 b)).cell? ⟨gl2, 4, none⟩ = some (.int .i64 p)) ∧ W.frozen? ⟨gl2, 4, none⟩ = false ∧
    Calls Try.prog 11 #[v] ((W.setCell ⟨gl1, 4, none⟩ (.int .i64 b)).setCell ⟨gl2, 4, none⟩ (.int .i64 a)) fun e w' => ∃ u, e = .returned u ∧ CeOwns w' W0.heap.size u (swapL l a b) ∧ Below W0.heap.size W0 w' := by
  have hl := readF_lay hr
  obtain ⟨x1, l1, m1⟩ := reach_leaf hA p1 r1
  obtain ⟨x2, l2, m2⟩ := reach_leaf hA p2 r2
  have l1' : LeafAt W gl1 x1 a := (hW.block gl1 (lt_of_block l1)).trans l1
  have l2' : LeafAt W gl2 x2 b := (hW.block gl2 (lt_of_block l2)).trans l2
  have hids := idl_told t 0 hl.kinds
  rw [hl.tell] at hids
  have hnd2 : t.idl.Nodup := by rw [hids]; exact (lay_ids hr).2.2.2.1
  have ha : a ∈ t.idl := Classical.byContradiction fun e => by rw [(path_mem t a).2 e] at p1; cases p1
  have hb : b ∈ t.idl := Classical.byContradiction fun e => by rw [(path_mem t b).2 e] at p2; cases p2
  have hsw := swapped_of l1' l2'
  have hAW : t.At W 0 v fp := hA.below hW
  have s1' : Stat W t v a gl1 := .inr ⟨ps1, s1, p1, r1.below hW⟩
  have s2' : Stat W t v b gl2 := .inr ⟨ps2, s2, p2, r2.below hW⟩
  have hN := hAW.swap hsw s1' s2' hnd2
  have hz : t.size ≤ 63 := by
    have := t.tell_length 0
    rw [hl.tell] at this
    have := (read_lenS (by rw [hr]; rfl)).1
    omega
  have hia : idB a = true := idl_idB t hl.sound a ha
  have hib : idB b = true := idl_idB t hl.sound b hb
  have h0 : swapI a b 0 = 0 := by
    unfold idB at hia hib
    simp at hia hib
    unfold swapI
    rw [if_neg (by omega), if_neg (by omega)]
  have hlay := lay_any (t.swap a b) 0 v fp _ hN hnd (by rw [swap_sound a b hia hib, hl.sound]) (swap_fine a b t (kinds_fine t hl.kinds (by omega))) (by rw [swap_size]; omega)
  have hfz : ∀ g x p, LeafAt W g x p → W.frozen? ⟨g, 4, none⟩ = false := fun g x p h => free_atL h 4
  refine ⟨⟨a, cell_atL l1' 4⟩, hfz _ _ _ l1', ?_, hfz _ _ _ l2', ?_⟩
  · by_cases e : gl1 = gl2
    · subst e
      exact ⟨b, cell_atL (l1'.setP b) 4⟩
    · exact ⟨b, cell_atL (show LeafAt (W.setCell ⟨gl1, 4, none⟩ (.int .i64 b)) gl2 x2 b from (Below.heap_setCell _ _ _ _ (Ne.symm e)).trans l2') 4⟩
  · refine hlay.mono ?_
    rintro e w' ⟨u, rfl, hu, _, hbut⟩
    have hsz : ((W.setCell ⟨gl1, 4, none⟩ (.int .i64 b)).setCell ⟨gl2, 4, none⟩ (.int .i64 a)).heap.size = W.heap.size := by simp [World.setCell]
    have hle : W0.heap.size ≤ W.heap.size := Nat.le_trans hb0.size hW.size
    refine ⟨u, rfl, ?_, ?_⟩
    · rw [(swap_both a b hr (hids ▸ ha) (hids ▸ hb)).2]
      have := hu.lower (B' := W0.heap.size) (by rw [hsz]; exact hle)
      rw [swap_moved, hl.moved, swap_tell a b h0, hl.tell] at this
      exact this
    · refine ⟨?_, ?_, ?_, ?_, fun k hk => ?_⟩
      · exact hbut.os.trans (hW.os.trans hb0.os)
      · exact hbut.tape.trans (hW.tape.trans hb0.tape)
      · exact hbut.output.trans (hW.output.trans hb0.output)
      · have := hbut.size
        rw [hsz] at this
        omega
      · have hkn : ∀ q ∈ fp, k ≠ q := fun q hq e => by have := hge q hq; omega
        refine (hbut.block k (by rw [hsz]; omega) (fun hm => hkn k hm rfl)).trans ?_
        refine (Below.heap_setCell _ _ _ _ (hkn _ m2)).trans ((Below.heap_setCell _ _ _ _ (hkn _ m1)).trans ?_)
        exact (hW.block k (Nat.lt_of_lt_of_le hk hb0.size)).trans (hb0.block k hk)

end Go.Proofs.Ytcjcekaahooamaa
