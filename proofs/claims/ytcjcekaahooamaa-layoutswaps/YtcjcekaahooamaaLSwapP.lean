/-
  Layouts: two panes change places: trees, lists, memory.
-/
import Derived.Test.YtcjcekaahooamaaLWay
namespace Go.Proofs.Ytcjcekaahooamaa
open Go.RowKit
set_option linter.unusedVariables false
set_option maxRecDepth 100000

/-- One id for the other. -/
def swapI (a b p : Int) : Int := if p = a then b else if p = b then a else p
def swapC (a b : Int) (c : CellV) : CellV := ⟨c.depth, c.kind, c.x, c.y, c.w, c.h, swapI a b c.p⟩
mutual
def Tree.swap (a b : Int) : Tree → Tree
  | .leaf x p => .leaf x (swapI a b p)
  | .split x k ts => .split x k (swapAll a b ts)
def swapAll (a b : Int) : List Tree → List Tree
  | [] => []
  | t :: ts => t.swap a b :: swapAll a b ts
end
theorem swap_box (a b : Int) (t : Tree) : (t.swap a b).box = t.box := by
  cases t with
  | leaf x p => rfl
  | split x k ts => rfl
theorem swap_kindIs (a b : Int) (t : Tree) (k : Int) : (t.swap a b).kindIs k = t.kindIs k := by
  cases t with
  | leaf x p => rfl
  | split x k ts => rfl
theorem swap_length (a b : Int) : ∀ (ts : List Tree), (swapAll a b ts).length = ts.length
  | [] => rfl
  | t :: ts => by
    show (swapAll a b ts).length + 1 = ts.length + 1
    rw [swap_length a b ts]
theorem swap_ext (a b k : Int) : ∀ (ts : List Tree), extAll (swapAll a b ts) k = extAll ts k
  | [] => rfl
  | t :: ts => by
    show extAll (t.swap a b :: swapAll a b ts) k = _
    unfold extAll
    rw [swap_box, swap_ext a b k ts]
mutual
theorem swap_moved (a b : Int) : ∀ (t : Tree) (x y : Int), (t.swap a b).moved x y = (t.moved x y).swap a b
  | .leaf q p, x, y => rfl
  | .split q k ts, x, y => by
    show Tree.split _ k (movedAll (swapAll a b ts) k x y) = Tree.split _ k (swapAll a b (movedAll ts k x y))
    rw [swap_movedAll a b ts k x y]
theorem swap_movedAll (a b : Int) : ∀ (ts : List Tree) (k x y : Int), movedAll (swapAll a b ts) k x y = swapAll a b (movedAll ts k x y)
  | [], k, x, y => rfl
  | t :: ts, k, x, y => by
    show (t.swap a b).moved x y :: (if k = 2 then movedAll (swapAll a b ts) k (x + ((t.swap a b).box.ext k + 1)) y else movedAll (swapAll a b ts) k x (y + ((t.swap a b).box.ext k + 1))) = (t.moved x y).swap a b :: swapAll a b (if k = 2 then movedAll ts k (x + (t.box.ext k + 1)) y else movedAll ts k x (y + (t.box.ext k + 1)))
    rw [swap_moved a b t x y, swap_box]
    split
    · rw [swap_movedAll a b ts]
    · rw [swap_movedAll a b ts]
theorem swap_tell (a b : Int) (h0 : swapI a b 0 = 0) : ∀ (t : Tree) (d : Int), (t.swap a b).tell d = (t.tell d).map (swapC a b)
  | .leaf q p, d => rfl
  | .split q k ts, d => by
    show _ :: tellAll (swapAll a b ts) (d + 1) = swapC a b _ :: (tellAll ts (d + 1)).map (swapC a b)
    rw [swap_tellAll a b h0 ts (d + 1)]
    unfold swapC
    rw [h0]
theorem swap_tellAll (a b : Int) (h0 : swapI a b 0 = 0) : ∀ (ts : List Tree) (d : Int), tellAll (swapAll a b ts) d = (tellAll ts d).map (swapC a b)
  | [], d => rfl
  | t :: ts, d => by
    show (t.swap a b).tell d ++ tellAll (swapAll a b ts) d = (t.tell d ++ tellAll ts d).map (swapC a b)
    rw [swap_tell a b h0 t d, swap_tellAll a b h0 ts d, List.map_append]
theorem swap_sound (a b : Int) (ha : idB a = true) (hb : idB b = true) : ∀ (t : Tree), (t.swap a b).sound = t.sound
  | .leaf q p => by
    show ((sideB q.w && sideB q.h) && idB (swapI a b p)) = ((sideB q.w && sideB q.h) && idB p)
    congr 1
    unfold swapI
    split
    · rename_i e; rw [e, ha, hb]
    · split
      · rename_i e; rw [e, ha, hb]
      · rfl
  | .split q k ts => by
    show ((decide (2 ≤ (swapAll a b ts).length) && _) && (soundAll (swapAll a b ts) q k && decide (extAll (swapAll a b ts) k = q.ext k))) = _
    rw [swap_length, swap_ext, swap_soundAll a b ha hb ts q k]
    rfl
theorem swap_soundAll (a b : Int) (ha : idB a = true) (hb : idB b = true) : ∀ (ts : List Tree) (q : Box) (k : Int), soundAll (swapAll a b ts) q k = soundAll ts q k
  | [], q, k => rfl
  | t :: ts, q, k => by
    show (((t.swap a b).sound && (!(t.swap a b).kindIs k && decide ((t.swap a b).box.ext (acrossK k) = q.ext (acrossK k)))) && soundAll (swapAll a b ts) q k) = _
    rw [swap_sound a b ha hb t, swap_kindIs, swap_box, swap_soundAll a b ha hb ts q k]
    rfl
theorem swap_fine (a b : Int) : ∀ (t : Tree), t.fine → (t.swap a b).fine
  | .leaf q p, h => trivial
  | .split q k ts, h => by
    refine ⟨h.1, ?_, swap_fines a b ts h.2.2⟩
    rw [swap_length]
    exact h.2.1
theorem swap_fines (a b : Int) : ∀ (ts : List Tree), fines ts → fines (swapAll a b ts)
  | [], h => trivial
  | t :: ts, h => ⟨swap_fine a b t h.1, swap_fines a b ts h.2⟩
theorem swap_size (a b : Int) : ∀ (t : Tree), (t.swap a b).size = t.size
  | .leaf q p => rfl
  | .split q k ts => by
    show 1 + sizes (swapAll a b ts) = 1 + sizes ts
    rw [swap_sizes a b ts]
theorem swap_sizes (a b : Int) : ∀ (ts : List Tree), sizes (swapAll a b ts) = sizes ts
  | [] => rfl
  | t :: ts => by
    show (t.swap a b).size + sizes (swapAll a b ts) = t.size + sizes ts
    rw [swap_size a b t, swap_sizes a b ts]
end
mutual
/-- The ids of a tree's panes. -/
def Tree.idl : Tree → List Int
  | .leaf _ p => [p]
  | .split _ _ ts => idls ts
def idls : List Tree → List Int
  | [] => []
  | t :: ts => t.idl ++ idls ts
end
mutual
theorem path_mem : ∀ (t : Tree) (q : Int), t.path q = none ↔ q ∉ t.idl
  | .leaf x p, q => by
    unfold Tree.path Tree.idl
    by_cases e : p = q
    · simp [e]
    · simp [e, Ne.symm e]
  | .split x k ts, q => by
    unfold Tree.path Tree.idl
    exact pathAll_mem ts q 0
theorem pathAll_mem : ∀ (ts : List Tree) (q : Int) (k : Nat), pathAll ts q k = none ↔ q ∉ idls ts
  | [], q, k => by simp [pathAll, idls]
  | t :: ts, q, k => by
    unfold pathAll idls
    have h1 := path_mem t q
    have h2 := pathAll_mem ts q (k + 1)
    cases hp : t.path q with
    | none => rw [hp] at h1; simp at h1; simp [h1, h2]
    | some ps => rw [hp] at h1; simp at h1; simp [h1]
theorem idl_told : ∀ (t : Tree) (d : Int), t.kinds → t.idl = idsOf (t.tell d)
  | .leaf x p, d, h => rfl
  | .split x k ts, d, h => by
    have := idls_told ts (d + 1) h.2
    unfold Tree.idl
    rw [this]
    show _ = idsOf (⟨d, k, x.x, x.y, x.w, x.h, 0⟩ :: tellAll ts (d + 1))
    unfold idsOf
    rw [List.filter_cons_of_neg]
    have := h.1
    simp
    omega
theorem idls_told : ∀ (ts : List Tree) (d : Int), kindsAll ts → idls ts = idsOf (tellAll ts d)
  | [], d, h => rfl
  | t :: ts, d, h => by
    unfold idls
    rw [idl_told t d h.1, idls_told ts d h.2]
    show idsOf (t.tell d) ++ idsOf (tellAll ts d) = idsOf (t.tell d ++ tellAll ts d)
    unfold idsOf
    rw [List.filter_append, List.map_append]
end
theorem pathAll_inv (q : Int) : ∀ (ts : List Tree) (k : Nat) (qs : List Nat), pathAll ts q k = some qs → ∃ i t ps, qs = (k + i) :: ps ∧ ts[i]? = some t ∧ t.path q = some ps
  | [], k, qs, h => by unfold pathAll at h; cases h
  | t :: ts, k, qs, h => by
    unfold pathAll at h
    cases hp : t.path q with
    | some ps =>
      rw [hp] at h
      cases h
      exact ⟨0, t, ps, rfl, rfl, hp⟩
    | none =>
      rw [hp] at h
      obtain ⟨i, t', ps, e, h1, h2⟩ := pathAll_inv q ts (k + 1) qs h
      exact ⟨i + 1, t', ps, by rw [e, show k + 1 + i = k + (i + 1) by omega], by simpa using h1, h2⟩
theorem idls_at (q : Int) : ∀ (ts : List Tree) (i : Nat) (t : Tree), ts[i]? = some t → q ∈ t.idl → q ∈ idls ts
  | [], i, t, h, hq => by simp at h
  | a :: ts, 0, t, h, hq => by
    simp at h
    subst h
    unfold idls
    exact List.mem_append_left _ hq
  | a :: ts, i + 1, t, h, hq => by
    unfold idls
    exact List.mem_append_right _ (idls_at q ts i t (by simpa using h) hq)
theorem idls_apart (q : Int) : ∀ (ts : List Tree), (idls ts).Nodup → ∀ (i j : Nat) (t u : Tree), ts[i]? = some t → ts[j]? = some u → i ≠ j → q ∈ t.idl → q ∉ u.idl
  | [], h, i, j, t, u, hi, hj, hne, hq => by simp at hi
  | a :: ts, h, i, j, t, u, hi, hj, hne, hq => by
    unfold idls at h
    obtain ⟨_, n2, n3⟩ := List.nodup_append.1 h
    cases i with
    | zero =>
      simp at hi
      subst hi
      cases j with
      | zero => exact absurd rfl hne
      | succ j => exact fun hu => n3 q hq q (idls_at q ts j u (by simpa using hj) hu) rfl
    | succ i =>
      cases j with
      | zero =>
        simp at hj
        subst hj
        exact fun hu => n3 q hu q (idls_at q ts i t (by simpa using hi) hq) rfl
      | succ j => exact idls_apart q ts n2 i j t u (by simpa using hi) (by simpa using hj) (by omega) hq
theorem idls_nodup : ∀ (ts : List Tree), (idls ts).Nodup → ∀ (i : Nat) (t : Tree), ts[i]? = some t → t.idl.Nodup
  | [], h, i, t, hi => by simp at hi
  | a :: ts, h, i, t, hi => by
    unfold idls at h
    obtain ⟨n1, n2, _⟩ := List.nodup_append.1 h
    cases i with
    | zero => simp at hi; subst hi; exact n1
    | succ i => exact idls_nodup ts n2 i t (by simpa using hi)

/-- Where the pane of an id lies, if it is there. -/
def Stat (W : World) (t : Tree) (v : Value) (q : Int) (gl : Nat) : Prop := t.path q = none ∨ ∃ ps st, t.path q = some ps ∧ Reach W v ps (leafI gl) st
theorem Stat.parts {W : World} {B g gl : Nat} {b : Box} {k q : Int} {sl : Value} {vs : List Value} {fs : List Nat} {ts : List Tree} (hS : SplitAt W g b k sl) (hR : W.ownsRow B 35 1 sl vs.length vs) (hP : partsAt W B ts vs fs) (hn : (idls ts).Nodup) (h : Stat W (.split b k ts) (splitI g) q gl) : ∀ (i : Nat) t v, ts[i]? = some t → vs[i]? = some v → Stat W t v q gl := by
  intro i t v ht hv
  rcases h with h | ⟨qs, st, h, hr⟩
  · refine .inl ((path_mem t q).2 fun hq => ?_)
    unfold Tree.path at h
    exact (pathAll_mem ts q 0).1 h (idls_at q ts i t ht hq)
  · unfold Tree.path at h
    obtain ⟨j, u, ps, e, h1, h2⟩ := pathAll_inv q ts 0 qs h
    rw [Nat.zero_add] at e
    subst e
    obtain ⟨g', pg, n, cap, vi, st', e1, e2, e3, e4, e5, _⟩ := hr
    have hg : g = g' := by
      unfold splitI at e1
      simpa using e1
    subst hg
    by_cases hij : i = j
    · subst hij
      rw [ht] at h1
      cases h1
      refine .inr ⟨ps, st', h2, ?_⟩
      obtain ⟨pg', cap', hsl, hseen⟩ := seen_of hS hR (by intro e; rw [e] at hv; simp at hv)
      subst hsl
      have q5 := hseen.parts
      rw [e2] at q5
      have hpg : pg = pg' := by
        have := Option.some.inj q5
        simp at this
        exact this.1
      subst hpg
      have := hseen.row i v hv
      rw [e4] at this
      cases this
      exact e5
    · refine .inl ((path_mem t q).2 ?_)
      refine idls_apart q ts hn j i u t h1 ht (Ne.symm hij) ?_
      refine Classical.byContradiction fun hq => ?_
      rw [(path_mem u q).2 hq] at h2
      cases h2

theorem leaf_not_split {W : World} {g : Nat} {b b' : Box} {p k : Int} {sl : Value} (h : LeafAt W g b p) (h' : SplitAt W g b' k sl) : False := by
  have := h.symm.trans h'
  simp at this
theorem leaf_not_row {W : World} {B g : Nat} {b : Box} {p : Int} {sl : Value} {n : Nat} {vs : List Value} (h : LeafAt W g b p) (h' : W.ownsRow B 35 1 sl n vs) (hg : g ∈ sl.ownBlock.toList) : False := by
  rcases h'.2 with ⟨rfl, _⟩ | ⟨g', cap, cur, rfl, hb, hh, r⟩
  · simp [Value.ownBlock] at hg
  · have e : g = g' := by simpa [Value.ownBlock] using hg
    subst e
    have := h.symm.trans hh
    simp at this

theorem leaf_id {W : World} {g : Nat} {x y : Box} {p q : Int} (h : LeafAt W g x p) (h' : LeafAt W g y q) : p = q := by
  have := (cell_atL h 4).symm.trans (cell_atL h' 4)
  simp [leafV] at this
  exact this
/-- The ids of two leaves have changed, and nothing else. -/
structure Swapped (W W' : World) (g1 g2 : Nat) (a b : Int) (b1 b2 : Box) : Prop where
  h1 : LeafAt W g1 b1 a
  h2 : LeafAt W g2 b2 b
  k1 : ∀ x, LeafAt W g1 x a → LeafAt W' g1 x b
  k2 : ∀ x, LeafAt W g2 x b → LeafAt W' g2 x a
  hk : ∀ g, g < W.heap.size → g ≠ g1 → g ≠ g2 → W'.heap[g]? = W.heap[g]?
mutual
theorem Tree.At.swap {W W' : World} {B g1 g2 : Nat} {a b : Int} {b1 b2 : Box} (H : Swapped W W' g1 g2 a b b1 b2) : ∀ {t : Tree} {v : Value} {fp : List Nat}, t.At W B v fp → Stat W t v a g1 → Stat W t v b g2 → t.idl.Nodup → (t.swap a b).At W' B v fp
  | .leaf x p, v, fp, h, s1, s2, hn => by
    obtain ⟨g, rfl, hl, rfl⟩ := h
    refine ⟨g, rfl, ?_, rfl⟩
    unfold swapI
    by_cases ea : p = a
    · subst ea
      rw [if_pos rfl]
      rcases s1 with s1 | ⟨ps, st, s1, hr⟩
      · unfold Tree.path at s1
        rw [if_pos rfl] at s1
        cases s1
      · unfold Tree.path at s1
        rw [if_pos rfl] at s1
        cases s1
        have e : g1 = g := by
          have := hr.1
          unfold leafI at this
          simpa using this
        subst e
        exact H.k1 x hl
    · rw [if_neg ea]
      by_cases eb : p = b
      · subst eb
        rw [if_pos rfl]
        rcases s2 with s2 | ⟨ps, st, s2, hr⟩
        · unfold Tree.path at s2
          rw [if_pos rfl] at s2
          cases s2
        · unfold Tree.path at s2
          rw [if_pos rfl] at s2
          cases s2
          have e : g2 = g := by
            have := hr.1
            unfold leafI at this
            simpa using this
          subst e
          exact H.k2 x hl
      · rw [if_neg eb]
        refine (H.hk g (lt_of_block hl) ?_ ?_).trans hl
        · rintro rfl
          exact ea (leaf_id hl H.h1)
        · rintro rfl
          exact eb (leaf_id hl H.h2)
  | .split x k ts, v, fp, h, s1, s2, hn => by
    obtain ⟨g, sl, vs, fs, rfl, hS, hR, hP, rfl⟩ := h
    unfold Tree.idl at hn
    refine ⟨g, sl, vs, fs, rfl, ?_, ?_, partsAt.swap H hP (fun i t v ht hv => ⟨s1.parts hS hR hP hn i t v ht hv, s2.parts hS hR hP hn i t v ht hv, idls_nodup ts hn i t ht⟩), rfl⟩
    · refine (H.hk g (lt_of_block hS) ?_ ?_).trans hS
      · rintro rfl
        exact leaf_not_split H.h1 hS
      · rintro rfl
        exact leaf_not_split H.h2 hS
    · refine own_kept hR fun q hq => H.hk q (own_lt hR q hq) ?_ ?_
      · rintro rfl
        exact leaf_not_row H.h1 hR hq
      · rintro rfl
        exact leaf_not_row H.h2 hR hq
theorem partsAt.swap {W W' : World} {B g1 g2 : Nat} {a b : Int} {b1 b2 : Box} (H : Swapped W W' g1 g2 a b b1 b2) : ∀ {ts : List Tree} {vs : List Value} {fs : List Nat}, partsAt W B ts vs fs → (∀ (i : Nat) t v, ts[i]? = some t → vs[i]? = some v → Stat W t v a g1 ∧ Stat W t v b g2 ∧ t.idl.Nodup) → partsAt W' B (swapAll a b ts) vs fs
  | [], vs, fs, h, hs => h
  | t :: ts, vs, fs, h, hs => by
    obtain ⟨v, vs', f, f', rfl, hA, hP, rfl⟩ := h
    obtain ⟨x1, x2, x3⟩ := hs 0 t v rfl rfl
    exact ⟨v, vs', f, f', rfl, Tree.At.swap H hA x1 x2 x3, partsAt.swap H hP (fun i u z hu hz => hs (i + 1) u z (by simpa using hu) (by simpa using hz)), rfl⟩
end

end Go.Proofs.Ytcjcekaahooamaa
