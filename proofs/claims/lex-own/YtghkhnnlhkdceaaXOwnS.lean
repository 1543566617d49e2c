/-
  Lines of commands: what the law of one's own lists goes through, step by step.
-/
import Derived.Test.YtghkhnnlhkdceaaXOwnM
namespace Go.Proofs.Ytghkhnnlhkdceaa
open Go.RowKit
set_option linter.unusedVariables false
set_option maxRecDepth 100000

/-- The lists of lists are as they were. -/
def Same24 (w w' : World) : Prop := ∀ (g : Nat) (cur : Array Value), w.heap[g]? = some (.cells cur 29 (0, 0)) → w'.heap[g]? = w.heap[g]?
theorem Same24.refl (w : World) : Same24 w w := fun _ _ _ => rfl
theorem Same24.row {w w' : World} (h : Same24 w w') {B : Nat} {v : Value} {n : Nat} {xs : List Value} (ho : w.ownsRow B 29 1 v n xs) : w'.ownsRow B 29 1 v n xs := own_same ho fun g cur _ hg => h g cur hg
theorem Same24.but {w w1 w2 : World} (h : Same24 w w1) {S : List Nat} (hb : But S w1 w2) (hS : ∀ g ∈ S, w.heap.size ≤ g ∨ ∃ cur, w1.heap[g]? = some (.cells cur 9 (0, 0))) : Same24 w w2 := fun g cur hg => by
  have h1 := h g cur hg
  rw [← h1]
  refine hb.block g (lt_block (by rw [h1]; exact hg)) fun hm => ?_
  rcases hS g hm with h2 | ⟨c2, h2⟩
  · have := lt_block hg
    omega
  · rw [h1, hg] at h2
    exact absurd (Obj.cells.inj (Option.some.inj h2)).2.1 (by decide)
theorem own_block {w : World} {B : Nat} {e : TypeId} {v : Value} {n : Nat} {xs : List Value} (h : w.ownsRow B e 1 v n xs) {g : Nat} (hg : v.ownBlock = some g) : ∃ cur, w.heap[g]? = some (.cells cur e (0, 0)) := by
  rcases h.2 with ⟨rfl, _⟩ | ⟨g', cap, cur, rfl, hb, hg', _⟩
  · cases hg
  · have e0 : g' = g := Option.some.inj hg
    subst e0
    exact ⟨cur, hg'⟩
theorem own_slice {w : World} {B : Nat} {e : TypeId} {v : Value} {n : Nat} {xs : List Value} (h : w.ownsRow B e 1 v n xs) : ∃ a c, v = .slice a n c ∧ (0 < n → ∃ g, a = some ⟨g, 0, none⟩) := by
  rcases h.2 with ⟨e, h0⟩ | ⟨g', cap, cur, e, _⟩
  · exact ⟨none, 0, by rw [e, h0], fun h => by omega⟩
  · exact ⟨_, _, e, fun _ => ⟨_, rfl⟩⟩

/-- The first loop: the words are written over. -/
def Own1 (B : Nat) (w1 w5 : World) (vs : List Value) (Ls : List Nat) (M : Nat → Value) (i k : Nat) (wr : World) : Prop := ∃ xss, Fam wr B vs xss ∧ xss.map List.length = Ls ∧ Done M i k xss ∧ Same24 w5 wr ∧ Below B w1 wr ∧ w5.heap.size ≤ wr.heap.size
theorem get_map_len {xss : List (List Value)} {Ls : List Nat} (h : xss.map List.length = Ls) {i L : Nat} (hL : Ls[i]? = some L) : ∃ xs, xss[i]? = some xs ∧ xs.length = L := by
  rw [← h, List.getElem?_map] at hL
  cases hx : xss[i]? with
  | none => rw [hx] at hL; cases hL
  | some xs => rw [hx] at hL; exact ⟨xs, rfl, Option.some.inj hL⟩
theorem Own1.row {B : Nat} {w1 w5 : World} {vs : List Value} {Ls : List Nat} {M : Nat → Value} {i k : Nat} {wr : World} (h : Own1 B w1 w5 vs Ls M i k wr) {j : Nat} {v : Value} {L : Nat} (hv : vs[j]? = some v) (hL : Ls[j]? = some L) : ∃ xs, xs.length = L ∧ wr.ownsRow B 9 1 v L xs := by
  obtain ⟨xss, hf, hm, _⟩ := h
  obtain ⟨xs, hx, hl⟩ := get_map_len hm hL
  exact ⟨xs, hl, by rw [← hl]; exact hf.row j v xs hv hx⟩
theorem Own1.set {B : Nat} {w1 w5 : World} {vs : List Value} {Ls : List Nat} {M : Nat → Value} {i k : Nat} {wr : World} (h : Own1 B w1 w5 vs Ls M i k wr) {g L cap : Nat} (hv : vs[i]? = some (.slice (some ⟨g, 0, none⟩) L cap)) (hL : Ls[i]? = some L) (hk : k < L) : Own1 B w1 w5 vs Ls M i (k + 1) (wr.setCell ⟨g, k, none⟩ (M i)) := by
  obtain ⟨xss, hf, hm, hd, h5, hb, hz⟩ := h
  obtain ⟨xs, hx, hl⟩ := get_map_len hm hL
  have hr := hf.row i _ xs hv hx
  obtain ⟨cur, hcur⟩ := own_block hr (g := g) rfl
  have hBg := (World.ownsRow.lt hr g rfl).1
  have hbut : But [g] wr (wr.setCell ⟨g, k, none⟩ (M i)) := (But.refl _ _).setCell (.inl (by simp)) _
  refine ⟨_, hf.set hv hx k (M i), ?_, hd.set hx (by omega), h5.but hbut fun g' hg' => .inr ⟨cur, by rw [List.mem_singleton.1 hg']; exact hcur⟩, hb.setCell hBg _, Nat.le_trans hz hbut.size⟩
  rw [← hm, List.map_set, List.length_set]
  refine List.ext_getElem? fun j => ?_
  by_cases e : i = j
  · subst e
    have hi : i < (xss.map List.length).length := by rw [List.length_map]; exact (List.getElem?_eq_some_iff.1 hx).1
    rw [List.getElem?_set_self hi, List.getElem?_map, hx]
    rfl
  · rw [List.getElem?_set_ne e]
theorem Own1.next {B : Nat} {w1 w5 : World} {vs : List Value} {Ls : List Nat} {M : Nat → Value} {i k : Nat} {wr : World} (h : Own1 B w1 w5 vs Ls M i k wr) {L : Nat} (hL : Ls[i]? = some L) (hk : L ≤ k) : Own1 B w1 w5 vs Ls M (i + 1) 0 wr := by
  obtain ⟨xss, hf, hm, hd, r⟩ := h
  obtain ⟨xs, hx, hl⟩ := get_map_len hm hL
  exact ⟨xss, hf, hm, hd.next hx (by omega), r⟩
theorem Own1.drew {B : Nat} {w1 w5 : World} {vs : List Value} {Ls : List Nat} {M : Nat → Value} {i k : Nat} {wr : World} (h : Own1 B w1 w5 vs Ls M i k wr) : Own1 B w1 w5 vs Ls M i k wr.drew := by
  obtain ⟨xss, hf, hm, hd, h5, hb, hz⟩ := h
  exact ⟨xss, ⟨hf.len, hf.row, hf.apart⟩, hm, hd, h5, ⟨hb.os, hb.tape, hb.output, hb.size, hb.block⟩, hz⟩

/-- The second loop: each list is made longer. -/
def Apart9 (H : Nat) (vs : List Value) : Prop := (∀ (i j : Nat) u v g, vs[i]? = some u → vs[j]? = some v → u.ownBlock = some g → v.ownBlock = some g → i = j) ∧ ∀ (i : Nat) v g, vs[i]? = some v → v.ownBlock = some g → g < H
def Own2 (B H : Nat) (w1 w5 : World) (vs : List Value) (Ls : List Nat) (M : Nat → Value) (i : Nat) (us : List Value) (wr : World) : Prop :=
  (∀ (j : Nat) v L, vs[j]? = some v → Ls[j]? = some L → See9 wr v (List.replicate L (M j)) ∧ (i ≤ j → wr.ownsRow B 9 1 v L (List.replicate L (M j)))) ∧ us.length = i ∧
  (∀ (j : Nat) u v L, us[j]? = some u → vs[j]? = some v → Ls[j]? = some L → See9 wr u (List.replicate (L + 64) (M j)) ∧ (u.ownBlock = v.ownBlock ∨ ∃ g, H ≤ g ∧ u.ownBlock = some g)) ∧
  Same24 w5 wr ∧ Below B w1 wr ∧ H ≤ wr.heap.size
theorem Own1.own2 {B : Nat} {w1 w5 : World} {vs : List Value} {Ls : List Nat} {M : Nat → Value} {wr : World} (h : Own1 B w1 w5 vs Ls M vs.length 0 wr) : Own2 B wr.heap.size w1 w5 vs Ls M 0 [] wr ∧ Apart9 wr.heap.size vs := by
  obtain ⟨xss, hf, hm, hd, h5, hb, hz⟩ := h
  refine ⟨⟨fun j v L hv hL => ?_, rfl, fun j u v L hu => by simp at hu, h5, hb, Nat.le_refl _⟩, hf.apart, fun j v g hv hg => ?_⟩
  · obtain ⟨xs, hx, hl⟩ := get_map_len hm hL
    have hr := hf.row j v xs hv hx
    have ha := hd.all hx (List.getElem?_eq_some_iff.1 hv).1
    rw [hl] at ha hr
    rw [ha] at hr
    refine ⟨own_see (B := B) (by rw [List.length_replicate]; exact hr), fun _ => hr⟩
  · have hj := (List.getElem?_eq_some_iff.1 hv).1
    rw [hf.len] at hj
    exact (World.ownsRow.lt (hf.row j v _ hv (List.getElem?_eq_getElem hj)) g hg).2
def Own2k (B : Nat) (wr : World) (v : Value) (L : Nat) (m : Value) (k : Nat) (vg : Value) (wk : World) : Prop := wk.ownsRow B 9 1 vg (L + k) (List.replicate (L + k) m) ∧ (vg.ownBlock = v.ownBlock ∨ ∃ g, wr.heap.size ≤ g ∧ vg.ownBlock = some g) ∧ See9 wk v (List.replicate L m) ∧ But v.ownBlock.toList wr wk
theorem own2k_start {B : Nat} {wr : World} {v : Value} {L : Nat} {m : Value} (h : wr.ownsRow B 9 1 v L (List.replicate L m)) : Own2k B wr v L m 0 v wr := ⟨h, .inl rfl, own_see (B := B) (by rw [List.length_replicate]; exact h), But.refl _ _⟩
theorem own2k_step {B : Nat} {wr : World} {v : Value} {L : Nat} {m : Value} {k : Nat} {vg : Value} {wk : World} (h : Own2k B wr v L m k vg wk) (hlt : ∀ g, v.ownBlock = some g → g < wr.heap.size) {v' : Value} {w' : World} (ho : w'.ownsRow B 9 1 v' (L + k + 1) (List.replicate (L + k) m ++ [m])) (hb : But vg.ownBlock.toList wk w') (hf : v'.ownBlock = vg.ownBlock ∨ Below wk.heap.size wk w' ∧ ∃ g, wk.heap.size ≤ g ∧ v'.ownBlock = some g) : Own2k B wr v L m (k + 1) v' w' := by
  obtain ⟨h1, h2, h3, h4⟩ := h
  have ho' : w'.ownsRow B 9 1 v' (L + (k + 1)) (List.replicate (L + (k + 1)) m) := by
    rw [show L + (k + 1) = L + k + 1 by omega, List.replicate_succ']
    exact ho
  refine ⟨ho', ?_, ?_, ?_⟩
  · rcases hf with e | ⟨_, g, hg, e⟩
    · rw [e]; exact h2
    · exact .inr ⟨g, Nat.le_trans h4.size hg, e⟩
  · rcases hf with e | ⟨hb', _⟩
    · rcases h2 with e2 | ⟨g, hg, e2⟩
      · refine see_longer (ys := List.replicate (k + 1) m) h3 (B := B) (n := L + (k + 1)) (u := v') ?_ (e.trans e2)
        rw [List.replicate_append_replicate]
        exact ho'
      · refine h3.keep fun g' cur hg' hc => hb.block g' (lt_block hc) fun hm => ?_
        rw [e2] at hm
        have e4 : g' = g := by simpa using hm
        have := hlt g' hg'
        omega
    · exact h3.keep fun g' cur hg' hc => hb'.block g' (lt_block hc)
  · refine ⟨hb.os.trans h4.os, hb.tape.trans h4.tape, hb.output.trans h4.output, Nat.le_trans h4.size hb.size, fun g hg hn => (hb.block g (Nat.lt_of_lt_of_le hg h4.size) fun hm => ?_).trans (h4.block g hg hn)⟩
    have e : vg.ownBlock = some g := by simpa using hm
    rcases h2 with e2 | ⟨g', hg', e2⟩
    · exact hn (by rw [← e2, e]; simp)
    · rw [e2] at e
      have := Option.some.inj e
      omega
theorem See9.type {w w' : World} {v : Value} {xs : List Value} (h : See9 w v xs) {S : List Nat} (hb : But S w w') (hS : ∀ g ∈ S, ∃ cur, w.heap[g]? = some (.cells cur 29 (0, 0))) : See9 w' v xs := h.keep fun g cur hg hc => hb.block g (lt_block hc) fun hm => by
  obtain ⟨c2, h2⟩ := hS g hm
  rw [hc] at h2
  exact absurd (Obj.cells.inj (Option.some.inj h2)).2.1 (by decide)
theorem own_type {w w' : World} {B n : Nat} {v : Value} {xs : List Value} (h : w.ownsRow B 9 1 v n xs) {S : List Nat} (hb : But S w w') (hS : ∀ g ∈ S, ∃ cur, w.heap[g]? = some (.cells cur 29 (0, 0))) : w'.ownsRow B 9 1 v n xs := own_same h fun g cur hg hc => hb.block g (lt_block hc) fun hm => by
  obtain ⟨c2, h2⟩ := hS g hm
  rw [hc] at h2
  exact absurd (Obj.cells.inj (Option.some.inj h2)).2.1 (by decide)
theorem own2_row {B H : Nat} {w1 w5 wr wk : World} {vs us : List Value} {Ls : List Nat} {M : Nat → Value} {i : Nat} {v gv vg : Value} {L : Nat} {m : Value} {k : Nat} (h : Own2 B H w1 w5 vs Ls M i us wr) (hv : vs[i]? = some v) (hL : Ls[i]? = some L) (h2 : Own2k B wr v L m k vg wk) (hr : wr.ownsRow H 29 1 gv i us) : wk.ownsRow H 29 1 gv i us := by
  have hs := (h.1 i v L hv hL).2 (Nat.le_refl _)
  refine own_same hr fun g cur hg hc => h2.2.2.2.block g (lt_block hc) fun hm => ?_
  obtain ⟨c2, h3⟩ := own_block hs (g := g) (by simpa using hm)
  rw [hc] at h3
  exact absurd (Obj.cells.inj (Option.some.inj h3)).2.1 (by decide)
theorem own2_next {B H : Nat} {w1 w5 wr wk w' : World} {vs us : List Value} {Ls : List Nat} {M : Nat → Value} {i : Nat} {v gv vg : Value} {L : Nat} (h : Own2 B H w1 w5 vs Ls M i us wr) (hA : Apart9 H vs) (hv : vs[i]? = some v) (hL : Ls[i]? = some L) (h2 : Own2k B wr v L (M i) 64 vg wk) (hr : wr.ownsRow H 29 1 gv i us) (hB : B ≤ H) (h5 : w5.heap.size ≤ H) (hb : But gv.ownBlock.toList wk w') : Own2 B H w1 w5 vs Ls M (i + 1) (us ++ [vg]) w' := by
  obtain ⟨g1, g2, g3, g4, g5, g6⟩ := id h
  have hrk := own2_row h hv hL h2 hr
  obtain ⟨k1, k2, k3, k4⟩ := h2
  have hty : ∀ g ∈ gv.ownBlock.toList, ∃ cur, wk.heap[g]? = some (Obj.cells cur 29 (0, 0)) := fun g hg => own_block hrk (by simpa using hg)
  have hvlt : ∀ g, v.ownBlock = some g → g < H := fun g hg => hA.2 i v g hv hg
  refine ⟨fun j v' L' hv' hL' => ?_, by rw [List.length_append, g2]; rfl, fun j u v' L' hu hv' hL' => ?_, ?_, ?_, ?_⟩
  · by_cases e : j = i
    · subst e
      rw [hv] at hv'
      rw [hL] at hL'
      cases hv'
      cases hL'
      exact ⟨k3.type hb hty, fun hh => by omega⟩
    · have hap : ∀ g, v'.ownBlock = some g → g ∉ v.ownBlock.toList := fun g hg hm => e (hA.1 j i v' v g hv' hv hg (by simpa using hm))
      obtain ⟨s1, s2⟩ := g1 j v' L' hv' hL'
      refine ⟨(s1.keep fun g cur hg hc => k4.block g (lt_block hc) (hap g hg)).type hb hty, fun hh => own_type (own_same (s2 (by omega)) fun g cur hg hc => k4.block g (lt_block hc) (hap g hg)) hb hty⟩
  · by_cases e : j < us.length
    · rw [List.getElem?_append_left e] at hu
      obtain ⟨s1, s2⟩ := g3 j u v' L' hu hv' hL'
      refine ⟨(s1.keep fun g cur hg hc => k4.block g (lt_block hc) fun hm => ?_).type hb hty, s2⟩
      have hm' : v.ownBlock = some g := by simpa using hm
      rcases s2 with e2 | ⟨g', hg', e2⟩
      · have := hA.1 j i v' v g hv' hv (by rw [← e2]; exact hg) hm'
        omega
      · rw [e2] at hg
        have := Option.some.inj hg
        have := hvlt g hm'
        omega
    · have hj := (List.getElem?_eq_some_iff.1 hu).1
      rw [List.length_append, List.length_singleton] at hj
      have e2 : j = i := by omega
      subst e2
      rw [← g2, List.getElem?_concat_length] at hu
      cases hu
      rw [hv] at hv'
      rw [hL] at hL'
      cases hv'
      cases hL'
      refine ⟨(own_see (B := B) (by rw [List.length_replicate]; exact k1)).type hb hty, ?_⟩
      rcases k2 with e | ⟨g, hg, e⟩
      · exact .inl e
      · exact .inr ⟨g, Nat.le_trans g6 hg, e⟩
  · have q1 : Same24 w5 wk := g4.but k4 fun g hg => .inr (own_block ((g1 i v L hv hL).2 (Nat.le_refl _)) (by simpa using hg))
    exact q1.but hb fun g hg => .inl (Nat.le_trans h5 (World.ownsRow.lt hr g (by simpa using hg)).1)
  · have q1 : Below B w1 wk := k4.under g5 (Nat.le_trans hB g6) fun g hg => (World.ownsRow.lt ((g1 i v L hv hL).2 (Nat.le_refl _)) g (by simpa using hg)).1
    exact hb.under q1 (Nat.le_trans hB (Nat.le_trans g6 k4.size)) fun g hg => Nat.le_trans hB (World.ownsRow.lt hr g (by simpa using hg)).1
  · exact Nat.le_trans g6 (Nat.le_trans k4.size hb.size)

/-- The fourth loop: the two lists of lists are made longer. -/
def Own4 (B : Nat) (w1 : World) (xa xb : List Value) (X Y : Value) (va vb : Value) (n m : Nat) (wr : World) : Prop := ∃ ya yb, wr.ownsRow B 29 1 va n (xa ++ ya) ∧ wr.ownsRow B 29 1 vb m (xb ++ yb) ∧ (∀ y ∈ ya, See9 wr y [X]) ∧ (∀ y ∈ yb, See9 wr y [Y]) ∧ (∀ g, va.ownBlock = some g → vb.ownBlock ≠ some g) ∧ Below B w1 wr ∧ B ≤ wr.heap.size
theorem Own4.swap {B : Nat} {w1 wr : World} {xa xb : List Value} {X Y va vb : Value} {n m : Nat} (h : Own4 B w1 xa xb X Y va vb n m wr) : Own4 B w1 xb xa Y X vb va m n wr := by
  obtain ⟨ya, yb, h1, h2, h3, h4, h5, h6⟩ := h
  exact ⟨yb, ya, h2, h1, h4, h3, fun g hg hn => h5 g hn hg, h6⟩
theorem Own4.step {B : Nat} {w1 wr w' : World} {xa xb ya : List Value} {X Y va vb v' : Value} {n m : Nat} (h : Own4 B w1 xa xb X Y va vb n m wr) (hX : wr.ownsRow B 29 1 va n (xa ++ ya)) (ho : w'.ownsRow B 29 1 v' (n + 1) ((xa ++ ya) ++ [.slice (some ⟨wr.heap.size, 0, none⟩) 1 1])) (hb : But va.ownBlock.toList (wr.alloc (.cells #[X] 9)) w') (hf : v'.ownBlock = va.ownBlock ∨ Below (wr.alloc (.cells #[X] 9)).heap.size (wr.alloc (.cells #[X] 9)) w' ∧ ∃ g, (wr.alloc (.cells #[X] 9)).heap.size ≤ g ∧ v'.ownBlock = some g) : Own4 B w1 xa xb X Y v' vb (n + 1) m w' := by
  obtain ⟨ya', yb, h1, h2, h3, h4, h5, h6, h7⟩ := h
  have hya : ya' = ya := by
    have e1 : xa ++ ya' = xa ++ ya := by
      rcases h1.2 with ⟨e, h0⟩ | ⟨g, cap, cur, e, _, hg, _, _, _, ht⟩
      · have l1 := h1.1
        have l2 := hX.1
        subst h0
        rw [List.length_eq_zero_iff.1 (by simpa using l1 : (xa ++ ya').length = 0), List.length_eq_zero_iff.1 (by simpa using l2 : (xa ++ ya).length = 0)]
      · rcases hX.2 with ⟨e', _⟩ | ⟨g', cap', cur', e', _, hg', _, _, _, ht'⟩
        · rw [e] at e'; cases e'
        · rw [e] at e'
          cases e'
          rw [hg] at hg'
          cases hg'
          rw [← ht, ht']
    exact List.append_cancel_left e1
  subst hya
  obtain ⟨W, hW⟩ : ∃ x, wr.alloc (.cells #[X] 9) = x := ⟨_, rfl⟩
  have hbW : Below wr.heap.size wr W := by rw [← hW]; exact (Below.refl _ _).alloc (Nat.le_refl _) _
  have hnew : W.heap[wr.heap.size]? = some (.cells #[X] 9 (0, 0)) := by rw [← hW]; exact new_at _ _
  rw [hW] at hb hf
  have hrW : W.ownsRow B 29 1 va n (xa ++ ya') := own_same h1 fun g cur _ hg => hbW.block g (lt_block hg)
  have hty : ∀ g ∈ va.ownBlock.toList, ∃ cur, W.heap[g]? = some (Obj.cells cur 29 (0, 0)) := fun g hg => own_block hrW (by simpa using hg)
  have see : ∀ y Z, See9 wr y [Z] → See9 w' y [Z] := fun y Z hs => (hs.keep fun g cur _ hg => hbW.block g (lt_block hg)).type hb hty
  refine ⟨ya' ++ [.slice (some ⟨wr.heap.size, 0, none⟩) 1 1], yb, by rw [← List.append_assoc]; exact ho, own_same h2 fun g cur hg hc => ?_, fun y hy => ?_, fun y hy => see y _ (h4 y hy), fun g hg hn => ?_, hb.under (h6.trans (hbW.mono h7)) (Nat.le_trans h7 hbW.size) fun g hg => (World.ownsRow.lt h1 g (by simpa using hg)).1, Nat.le_trans h7 (Nat.le_trans hbW.size hb.size)⟩
  · have hlt := lt_block hc
    rw [← hbW.block g hlt]
    exact hb.block g (Nat.lt_of_lt_of_le hlt hbW.size) fun hm => h5 g (by simpa using hm) hg
  · rcases List.mem_append.1 hy with h8 | h8
    · exact see y _ (h3 y h8)
    · rw [List.mem_singleton.1 h8]
      have s0 : See9 W (.slice (some ⟨wr.heap.size, 0, none⟩) 1 1) [X] := ⟨_, _, rfl, fun _ => ⟨_, _, rfl, hnew, fun i x hx => by simpa using hx⟩⟩
      exact s0.type hb hty
  · rcases hf with e | ⟨_, g', hg', e⟩
    · exact h5 g (by rw [← e]; exact hg) hn
    · rw [e] at hg
      have e3 := Option.some.inj hg
      have h9 := (World.ownsRow.lt h2 g hn).2
      have := hbW.size
      omega

end Go.Proofs.Ytghkhnnlhkdceaa
