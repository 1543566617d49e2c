/-
  Layouts: the document's without.
-/
import Derived.Test.YtjnmjoigmbpodaaCWm
import Derived.Test.YtjnmjoigmbpodaaCFq
namespace Go.Proofs.Ytjnmjoigmbpodaa
open Go.RowKit
set_option linter.unusedVariables false
set_option maxRecDepth 100000

/-- The children so far, behind so many of those that were there: part a, a pane, has gone; from there on they are these. -/
def kidsTo (ts us : List Tree) (a i : Nat) : List Tree := if i ≤ a then ts.take i else us.take (i - 1)
/-- Parts one behind the other, each as it is or by its children. -/
def flats (k : Int) (rs : List Tree) : List Tree := rs.flatMap (flatT k)
theorem flats_take (k : Int) (rs : List Tree) (j : Nat) (r : Tree) (h : rs[j]? = some r) : flats k (rs.take (j + 1)) = flats k (rs.take j) ++ flatT k r := by
  unfold flats
  rw [List.take_add_one, h]
  simp
/-- Blocks that the answer of without may reach. -/
def OkB (fp : List Nat) (w : World) (y : Nat) : Prop := (y ∈ fp ∨ w.heap.size ≤ y) ∧ y ≠ w.heap.size + 1
theorem okB_new {fp : List Nat} {w : World} {n : Nat} (h : w.heap.size + 2 ≤ n) : ∀ y, n ≤ y → OkB fp w y := fun y hy => ⟨.inr (by omega), by omega⟩
/-- How far the second loop of without has come: m's block, its children, what was there. -/
def Made (k wd ht : Int) (A : Nat → Prop) (wl : World) (ns : List Node) (wx : World) : Prop := ∃ sa sn sc, wx.heap[wl.heap.size]? = some (.cells #[.int .i64 k, .int .i64 wd, .int .i64 ht, .int .i64 0, .slice sa sn sc] 67 (0, 0)) ∧ (∃ fs, KidsF wx (wl.heap.size + 1) (.slice sa sn sc) ns fs ∧ ∀ y ∈ fs, y ≠ wl.heap.size ∧ A y) ∧ Below wl.heap.size wl wx
/-- What the first loop of without meets. -/
structure WithK (q : Int) (k : Int) (ts us : List Tree) (a : Nat) : Prop where
  next : ∀ (i : Nat) t, ts[i]? = some t → i ≠ a → (a ≠ 0 ∨ 2 ≤ i) → kidsTo ts us a (i + 1) = kidsTo ts us a i ++ [t]
  other : ∀ (i : Nat) bl p, ts[i]? = some (.leaf bl p) → i ≠ a → p ≠ q
  here : ∀ t, ts[a]? = some t → ∃ bl x u, t = .leaf bl q ∧ Str x k (bl.ext k + 1) u ∧ (1 ≤ bl.ext k ∧ bl.ext k ≤ 1000) ∧ ((0 < a ∧ (kidsTo ts us a a)[a - 1]? = some x ∧ (kidsTo ts us a a).length = a ∧ kidsTo ts us a (a + 1) = (kidsTo ts us a a).set (a - 1) u) ∨ (a = 0 ∧ 2 ≤ ts.length ∧ ts[1]? = some x ∧ kidsTo ts us a 2 = [u]))

theorem with_keep (q k : Int) (ts : List Tree) (h : q ∉ idls ts) : WithK q k ts ts ts.length := by
  have hk : ∀ i, i ≤ ts.length → kidsTo ts ts ts.length i = ts.take i := fun i hi => if_pos hi
  refine ⟨fun i t hi _ _ => ?_, fun i bl p hi _ e => h (idls_at q ts i _ hi (by simp [Tree.idl, e])), fun t ht => ?_⟩
  · have hlt := (List.getElem?_eq_some_iff.1 hi).1
    rw [hk i (by omega), hk (i + 1) (by omega), List.take_add_one, hi]
    rfl
  · rw [List.getElem?_eq_none (Nat.le_refl _)] at ht
    cases ht

theorem set5at_belowB {B : Nat} {W0 W : World} (h : Below B W0 W) (g o : Nat) (hg : B ≤ g) (n : Node) (sl : Value) : Below B W0 (set5at W g o n sl) := by
  have hs : ∀ (X : World) (a : Addr) (v : Value), B ≤ a.block → Below B W0 X → Below B W0 (X.setCell a v) := fun X a v ha hX => ⟨hX.os, hX.tape, hX.output, by simpa using hX.size, fun q hq => (heap_setCell_other X a q v (by omega)).trans (hX.block q hq)⟩
  unfold set5at
  exact hs _ _ _ hg (hs _ _ _ hg (hs _ _ _ hg (hs _ _ _ hg (hs _ _ _ hg h))))

set_option maxHeartbeats 1000000 in
theorem with_one (b : Box) (k q : Int) (ts us : List Tree) (a gk L cap : Nat) (fp : List Nat) (w : World) (hW : WithK q k ts us a) (hL : ts.length = L) (hL1 : 2 ≤ L ∧ L ≤ 100) (ha : a ≤ L)
    (hK : ∀ (i : Nat) t, ts[i]? = some t → ∃ sa sn sc f, (∀ y ∈ f, y ∈ fp) ∧ (nodeOf t).In w (.slice sa sn sc) f ∧ KidIn w gk (i * 5) (nodeOf t) (.slice sa sn sc)) (Post : Ending → World → Prop) (rs : List Tree) (hkd : kindsAll ts) (hk23 : k = 2 ∨ k = 3) (husl : us.length ≤ 100)
    (hrl : rs.length = (kidsTo ts us a L).length) (hlen : ∀ j, (flats k (rs.take j)).length ≤ 1000) (hrk : ∀ r ∈ rs, (nodeOf r).ks.length ≤ 1000)
    (hIH : ∀ (j : Nat) t r, (kidsTo ts us a L)[j]? = some t → rs[j]? = some r → ((nodeOf t).k = 1 ∧ r = t) ∨ ((nodeOf t).k ≠ 1 ∧ ∀ sl f X, (nodeOf t).In X sl f → Calls Try.prog 38 #[.agg (nodeV (nodeOf t) sl), .int .i64 q] X (StrN r f X)))
    (hone : (kidsTo ts us a L).length = 1 → ∀ wr sa sn sc f v0 v1 v2 v3 v4 u, kidsTo ts us a L = [u] → Below w.heap.size w wr → (nodeOf u).In wr (.slice sa sn sc) f → w.heap.size + 1 < wr.heap.size → (∀ y ∈ f, OkB fp w y) → Post (.returned (.agg (nodeV (nodeOf u) (.slice sa sn sc)))) (set5 wr (w.heap.size + 1) v0 v1 v2 v3 v4))
    (hmany : (kidsTo ts us a L).length ≠ 1 → ∀ wr sa sn sc f v0 v1 v2 v3 v4, Below w.heap.size w wr → (Node.mk k b.w b.h 0 (nodesOf (flats k rs))).In wr (.slice sa sn sc) f → w.heap.size + 1 < wr.heap.size → (∀ y ∈ f, OkB fp w y) → Post (.returned (.agg #[.int .i64 k, .int .i64 b.w, .int .i64 b.h, .int .i64 0, .slice sa sn sc])) (set5 wr (w.heap.size + 1) v0 v1 v2 v3 v4)) :
    Calls Try.prog 38 #[.agg #[.int .i64 k, .int .i64 b.w, .int .i64 b.h, .int .i64 0, .slice (some ⟨gk, 0, none⟩) L cap], .int .i64 q] w Post := by
  obtain ⟨W0, hW0⟩ : ∃ W0, (w.alloc (.cells #[.int .i64 k, .int .i64 b.w, .int .i64 b.h, .int .i64 0, .slice (some ⟨gk, 0, none⟩) L cap] 67)).alloc (.cells #[.int .i64 0, .int .i64 0, .int .i64 0, .int .i64 0, .slice none 0 0] 67) = W0 := ⟨_, rfl⟩
  have HW0 : Hid (Below w.heap.size w W0 ∧ W0.heap.size = w.heap.size + 2 ∧ W0.heap[w.heap.size + 1]? = some (.cells #[.int .i64 0, .int .i64 0, .int .i64 0, .int .i64 0, .slice none 0 0] 67 (0, 0)) ∧ W0.heap[w.heap.size]? = some (.cells #[.int .i64 k, .int .i64 b.w, .int .i64 b.h, .int .i64 0, .slice (some ⟨gk, 0, none⟩) L cap] 67 (0, 0))) := by
    rw [← hW0]
    obtain ⟨O1, hO1⟩ : ∃ o, Obj.cells #[.int .i64 k, .int .i64 b.w, .int .i64 b.h, .int .i64 0, .slice (some ⟨gk, 0, none⟩) L cap] 67 = o := ⟨_, rfl⟩
    obtain ⟨O2, hO2⟩ : ∃ o, Obj.cells #[.int .i64 0, .int .i64 0, .int .i64 0, .int .i64 0, .slice none 0 0] 67 = o := ⟨_, rfl⟩
    have s1 : (w.alloc O1).heap.size = w.heap.size + 1 := by simp
    show Below _ _ _ ∧ _ ∧ _ ∧ _
    rw [hO1, hO2]
    refine ⟨((Below.refl _ _).alloc (Nat.le_refl _) O1).alloc (by omega) O2, by simp, ?_, ?_⟩
    · have := heap_alloc_new (w.alloc O1) O2
      rw [s1] at this
      rw [this]
    · exact (Below.heap_alloc _ _ _ (by omega)).trans (heap_alloc_new _ _)
  have HST : Hid (KidsA W0 (w.heap.size + 2) (OkB fp w) (.slice none 0 0) (nodesOf (kidsTo ts us a 0)) ∧ Below (w.heap.size + 2) W0 W0) := by
    refine ⟨?_, Below.refl _ _⟩
    have : kidsTo ts us a 0 = [] := by
      unfold kidsTo
      rw [if_pos (Nat.zero_le _)]
      rfl
    rw [this]
    exact KidsA.nil _ _ _
  have HK : Hid (∀ (i : Nat) t, ts[i]? = some t → ∃ sa sn sc f, (∀ y ∈ f, y ∈ fp) ∧ (nodeOf t).In w (.slice sa sn sc) f ∧ KidIn w gk (i * 5) (nodeOf t) (.slice sa sn sc)) := hK
  have HW : Hid (WithK q k ts us a) := hW
  have HKd : Hid (kindsAll ts) := hkd
  have HK23 : Hid (k = 2 ∨ k = 3) := hk23
  have HLn : Hid ((∀ j, (flats k (rs.take j)).length ≤ 1000) ∧ ∀ r ∈ rs, (nodeOf r).ks.length ≤ 1000) := ⟨hlen, hrk⟩
  have HRl : Hid (rs.length = (kidsTo ts us a L).length) := hrl
  have HIH : Hid (∀ (j : Nat) t r, (kidsTo ts us a L)[j]? = some t → rs[j]? = some r → ((nodeOf t).k = 1 ∧ r = t) ∨ ((nodeOf t).k ≠ 1 ∧ ∀ sl f X, (nodeOf t).In X sl f → Calls Try.prog 38 #[.agg (nodeV (nodeOf t) sl), .int .i64 q] X (StrN r f X))) := hIH
  have HOne : Hid ((kidsTo ts us a L).length = 1 → ∀ wr sa sn sc f v0 v1 v2 v3 v4 u, kidsTo ts us a L = [u] → Below w.heap.size w wr → (nodeOf u).In wr (.slice sa sn sc) f → w.heap.size + 1 < wr.heap.size → (∀ y ∈ f, OkB fp w y) → Post (.returned (.agg (nodeV (nodeOf u) (.slice sa sn sc)))) (set5 wr (w.heap.size + 1) v0 v1 v2 v3 v4)) := hone
  have HMany : Hid ((kidsTo ts us a L).length ≠ 1 → ∀ wr sa sn sc f v0 v1 v2 v3 v4, Below w.heap.size w wr → (Node.mk k b.w b.h 0 (nodesOf (flats k rs))).In wr (.slice sa sn sc) f → w.heap.size + 1 < wr.heap.size → (∀ y ∈ f, OkB fp w y) → Post (.returned (.agg #[.int .i64 k, .int .i64 b.w, .int .i64 b.h, .int .i64 0, .slice sa sn sc])) (set5 wr (w.heap.size + 1) v0 v1 v2 v3 v4)) := hmany
  have HL : Hid (ts.length = L) := hL
  have HE : Hid ((w.alloc (.cells #[.int .i64 k, .int .i64 b.w, .int .i64 b.h, .int .i64 0, .slice (some ⟨gk, 0, none⟩) L cap] 67)).alloc (.cells #[.int .i64 0, .int .i64 0, .int .i64 0, .int .i64 0, .slice none 0 0] 67) = W0) := hW0
  clear hK hW hL hW0 hkd hlen hrk hrl hIH hone hmany hk23
  go_enter Try.func38, Try.ntmps38
  go_wp2_with fail
  rw [HE.out]
  go_loopw [5, 6] (fun vk vi wr => ∃ i : Nat, i ≤ L ∧ vi = .int .i64 i ∧ (i = 0 ∨ a ≠ 0 ∨ 2 ≤ i) ∧ ∃ ka kn kc, vk = .slice ka kn kc ∧ Hid (KidsA wr (w.heap.size + 2) (OkB fp w) (.slice ka kn kc) (nodesOf (kidsTo ts us a i)) ∧ Below (w.heap.size + 2) W0 wr)) (fun vk vi _ => L - (intOf vi).toNat)
  case atStart => exact ⟨0, Nat.zero_le _, rfl, .inl rfl, none, 0, 0, rfl, HST⟩
  case round =>
    obtain ⟨i, hi, rfl, hi0, ka, kn, kc, rfl, HI⟩ := hrel
    have hblk : wr.heap[w.heap.size]? = some (.cells #[.int .i64 k, .int .i64 b.w, .int .i64 b.h, .int .i64 0, .slice (some ⟨gk, 0, none⟩) L cap] 67 (0, 0)) := (HI.out.2.block w.heap.size (by omega)).trans HW0.out.2.2.2
    have p0 : wr.cell? ⟨w.heap.size, 0, none⟩ = some (.int .i64 k) := cell_atL hblk 0
    have p4 : wr.cell? ⟨w.heap.size, 4, none⟩ = some (.slice (some ⟨gk, 0, none⟩) L cap) := cell_atL hblk 4
    have p0a : ∀ o, (wr.alloc o).cell? ⟨w.heap.size, 0, none⟩ = some (.int .i64 k) := fun o => (((Below.refl _ _).alloc (Nat.le_refl _) o).cell (p := ⟨w.heap.size, 0, none⟩) (World.block_lt_of_cell? wr _ p0)).trans p0
    have hblk0 := hblk
    clear hblk
    by_cases hlt : i < L
    · obtain ⟨t, ht⟩ : ∃ t, ts[i]? = some t := ⟨_, List.getElem?_eq_getElem (by rw [HL.out]; exact hlt)⟩
      obtain ⟨sa, sn, sc, f, hfi, hIn, hKi⟩ := HK.out i t ht
      have hbl : Below w.heap.size w wr := ⟨HI.out.2.os.trans HW0.out.1.os, HI.out.2.tape.trans HW0.out.1.tape, HI.out.2.output.trans HW0.out.1.output, Nat.le_trans HW0.out.1.size HI.out.2.size, fun x hx => (HI.out.2.block x (by omega)).trans (HW0.out.1.block x hx)⟩
      have hInr := hIn.below hbl
      have hgkl : gk < w.heap.size := World.block_lt_of_cell? w _ hKi.q0
      have hcr : ∀ o, wr.cell? ⟨gk, o, none⟩ = w.cell? ⟨gk, o, none⟩ := fun o => World.cell?_of_block (w' := wr) (w := w) (a := ⟨gk, o, none⟩) (hbl.block gk hgkl)
      have c0 := (hcr _).trans hKi.q0
      have c1 := (hcr _).trans hKi.q1
      have c2 := (hcr _).trans hKi.q2
      have c3 := (hcr _).trans hKi.q3
      have c4 := (hcr _).trans hKi.q4
      by_cases hia : i = a
      · subst hia
        obtain ⟨bl, x, u, rfl, hstr, hext, hcase⟩ := HW.out.here t ht
        have hwE : IntKind.i64.wrap (bl.ext k + 1) = bl.ext k + 1 := by rw [IntKind.wrap_i64]; omega
        have HX : Hid (∀ X, Calls Try.prog 31 #[.agg #[.int .i64 1, .int .i64 bl.w, .int .i64 bl.h, .int .i64 q, .slice sa sn sc], .int .i64 k] X fun e w' => e = .returned (.int .i64 (bl.ext k)) ∧ Below X.heap.size X w') := fun X => by
          have := ref_extent (.mk 1 bl.w bl.h q []) sa sn sc k X
          exact this
        have c0' : wr.cell? ⟨gk, i * 5, none⟩ = some (.int .i64 1) := c0
        have c1' : wr.cell? ⟨gk, i * 5 + 1, none⟩ = some (.int .i64 bl.w) := c1
        have c2' : wr.cell? ⟨gk, i * 5 + 2, none⟩ = some (.int .i64 bl.h) := c2
        have c3' : wr.cell? ⟨gk, i * 5 + 3, none⟩ = some (.int .i64 q) := c3
        clear c0 c1 c2 c3
        rcases hcase with ⟨hpos, hx, hlen, hset⟩ | ⟨h0, hl2, hx, hset⟩
        · obtain ⟨c, rfl⟩ : ∃ c, i = c + 1 := ⟨i - 1, by omega⟩
          rw [Nat.add_sub_cancel] at hx hset
          have hkn : kn = c + 1 := by
            obtain ⟨a', c', e⟩ := HI.out.1.sl
            cases e
            rw [nodesOf_length, hlen]
          subst hkn
          obtain ⟨g, hka⟩ : ∃ g, ka = some ⟨g, 0, none⟩ := by
            obtain ⟨fks, ⟨cs, o1, _⟩, _⟩ := HI.out.1
            rcases o1.2 with ⟨_, e0⟩ | ⟨g, cap', cur, e, _⟩
            · rw [nodesOf_length, hlen] at e0
              omega
            · injection e with ea _ _
              exact ⟨g, ea⟩
          subst hka
          obtain ⟨xa, xn, xc, fx, x1, x2, x3, x4, x5⟩ := HI.out.1.one (okB_new (by have := HI.out.2.size; rw [HW0.out.2.1] at this; exact this)) c (nodeOf x) (nodesOf_get _ c x hx)
          have hgl := (HI.out.1.lt g (by simp [Value.ownBlock])).2
          have hgB := (HI.out.1.lt g (by simp [Value.ownBlock])).1
          have HS : Hid (∀ X, Below wr.heap.size wr X → X.cell? ⟨w.heap.size, 0, none⟩ = some (.int .i64 k) ∧ (∀ o, X.frozen? ⟨g, o, none⟩ = false) ∧ KidIn X g (c * 5) (nodeOf x) (.slice xa xn xc) ∧ Calls Try.prog 60 #[.agg (nodeV (nodeOf x) (.slice xa xn xc)), .int .i64 k, .int .i64 (bl.ext k + 1)] X fun e w' => ∃ nr ta tn tc, e = .returned (.agg (nodeV nr (.slice ta tn tc))) ∧ Below X.heap.size X w' ∧ (KidsA (set5at w' g (c * 5) nr (.slice ta tn tc)) (w.heap.size + 2) (OkB fp w) (.slice (some ⟨g, 0, none⟩) (c + 1) kc) (nodesOf (kidsTo ts us (c + 1) (c + 1 + 1))) ∧ Below (w.heap.size + 2) W0 (set5at w' g (c * 5) nr (.slice ta tn tc)))) := fun X hX => by
            have hcX : ∀ o, X.cell? ⟨g, o, none⟩ = wr.cell? ⟨g, o, none⟩ := fun o => World.cell?_of_block (w' := X) (w := wr) (a := ⟨g, o, none⟩) (hX.block g hgl)
            refine ⟨(hX.cell (p := ⟨w.heap.size, 0, none⟩) (World.block_lt_of_cell? wr _ p0)).trans p0, fun o => ?_, ⟨(hcX _).trans x3.q0, (hcX _).trans x3.q1, (hcX _).trans x3.q2, (hcX _).trans x3.q3, (hcX _).trans x3.q4⟩, ?_⟩
            · rw [World.frozen?_of_block (w' := X) (w := wr) (a := ⟨g, o, none⟩) (hX.block g hgl)]
              exact x4 o
            · refine (str_good x k (bl.ext k + 1) u _ fx X hstr (x1.below hX)).mono fun e w' h => ?_
              obtain ⟨ta, tn, tc, f', he, h1, h2, h3⟩ := h
              have hB : Below wr.heap.size wr w' := below_step hX h3
              refine ⟨nodeOf u, ta, tn, tc, he, h3, ?_, ?_⟩
              · rw [hset, nodesOf_set]
                refine x5 w' (nodeOf u) _ f' hB h1 fun y hy => ?_
                rcases h2 y hy with h4 | h4
                · exact .inl h4
                · exact .inr (Nat.le_trans hX.size h4)
              · have hb0 : Below (w.heap.size + 2) W0 w' := HI.out.2.trans (hB.mono (by have := HI.out.2.size; rw [HW0.out.2.1] at this; exact this))
                exact set5at_belowB hb0 g (c * 5) hgB _ _
          have hwc : IntKind.i64.wrap ((c : Int) + 1 - 1) = (c : Int) := by rw [IntKind.wrap_i64]; omega
          have hcc : (c : Int) < (c : Int) + 1 := by omega
          have hwc0 : IntKind.i64.wrap (c : Int) = (c : Int) := by rw [IntKind.wrap_i64]; omega
          have hc1 : c < c + 1 := by omega
          obtain ⟨nx, hnx⟩ : ∃ nx, nodeOf x = nx := ⟨_, rfl⟩
          rw [hnx] at HS
          unfold nodeV at HS
          clear x1 x2 x3 x4 x5 hset hx hlen hKi hIn hcr hbl hInr HI HE HST hnx hstr
          go_wp2_with fail
          refine (HX.out _).mono ?_
          rintro e w2 ⟨rfl, hb2⟩
          have HB2 : Hid (Below wr.heap.size wr w2) := below_step ((Below.refl _ _).alloc (Nat.le_refl _) _) hb2
          obtain ⟨s0, sf, ⟨y0, y1, y2, y3, y4⟩, hS2⟩ := HS.out w2 HB2.out
          have HC2 : Hid (Calls Try.prog 60 #[.agg #[.int .i64 nx.k, .int .i64 nx.w, .int .i64 nx.h, .int .i64 nx.i, .slice xa xn xc], .int .i64 k, .int .i64 (bl.ext k + 1)] w2.drew _) := (HS.out w2.drew HB2.out.drew).2.2.2
          clear hb2 hS2 HX c0' c1' c2' c3' c4 p4
          go_wp2_with fail
          go_region_with (go_at_call 60; refine HC2.out.mono ?_; rintro e w3 ⟨nr, ta, tn, tc, rfl, hb3, hk3⟩; have hB3 := below_step HB2.out.drew hb3; obtain ⟨s02, sf2, ⟨z0, z1, z2, z3, z4⟩, hS3⟩ := HS.out w3 hB3; clear hS3 hB3 hb3)
          all_goals (
            have HK3 : Hid (KidsA (set5at w3 g (c * 5) nr (.slice ta tn tc)) (w.heap.size + 2) (OkB fp w) (.slice (some ⟨g, 0, none⟩) (c + 1) kc) (nodesOf (kidsTo ts us (c + 1) (c + 1 + 1))) ∧ Below (w.heap.size + 2) W0 (set5at w3 g (c * 5) nr (.slice ta tn tc))) := hk3
            clear hk3 HC2 HS HB2 s0 sf y0 y1 y2 y3 y4 z0 z1 z2 z3 z4 s02 sf2
            go_wp2_with fail
            go_roundw
            case rel => exact ⟨c + 1 + 1, by omega, by go_num, by omega, _, _, _, rfl, HK3⟩
            case measure => simp [intOf]; omega)
        · subst h0
          have hK0 : kidsTo ts us 0 0 = [] := by
            unfold kidsTo
            rw [if_pos (Nat.le_refl _)]
            rfl
          have hkn : kn = 0 := by
            obtain ⟨a', c', e⟩ := HI.out.1.sl
            cases e
            rw [nodesOf_length, hK0]
            rfl
          subst hkn
          have hI1 : KidsA wr (w.heap.size + 2) (OkB fp w) (.slice ka 0 kc) [] := by
            have := HI.out.1
            rw [hK0] at this
            exact this
          obtain ⟨xa, xn, xc, fx, hfx, x1, x3⟩ := HK.out 1 x hx
          have hsz : w.heap.size + 2 ≤ wr.heap.size := by rw [← HW0.out.2.1]; exact HI.out.2.size
          have HS : Hid (∀ X, Below wr.heap.size wr X → X.cell? ⟨w.heap.size, 0, none⟩ = some (.int .i64 k) ∧ X.cell? ⟨w.heap.size, 4, none⟩ = some (.slice (some ⟨gk, 0, none⟩) L cap) ∧ KidIn X gk 5 (nodeOf x) (.slice xa xn xc) ∧ Calls Try.prog 60 #[.agg (nodeV (nodeOf x) (.slice xa xn xc)), .int .i64 k, .int .i64 (bl.ext k + 1)] X fun e w' => ∃ nr ta tn tc, e = .returned (.agg (nodeV nr (.slice ta tn tc))) ∧ (w'.ownsRow (w.heap.size + 2) 67 5 (.slice ka 0 kc) 0 [] ∧ w.heap.size + 2 ≤ w'.heap.size) ∧ ∀ v' w6, (∀ cs, (w'.alloc (.cells (nodeV nr (.slice ta tn tc)) 67)).ownsRow (w.heap.size + 2) 67 5 (.slice ka 0 kc) 0 cs → w6.ownsRow (w.heap.size + 2) 67 5 v' (0 + 1) (cs ++ nodeL nr (.slice ta tn tc))) → (w'.alloc (.cells (nodeV nr (.slice ta tn tc)) 67)).grownBy w6 (Value.slice ka 0 kc).ownBlock → (v'.ownBlock = (Value.slice ka 0 kc).ownBlock ∨ ∃ g, v'.ownBlock = some g ∧ w'.heap.size ≤ g) → KidsA w6 (w.heap.size + 2) (OkB fp w) v' (nodesOf (kidsTo ts us 0 2)) ∧ Below (w.heap.size + 2) W0 w6) := fun X hX => by
            have hcX : ∀ o, X.cell? ⟨gk, o, none⟩ = w.cell? ⟨gk, o, none⟩ := fun o => (World.cell?_of_block (w' := X) (w := wr) (a := ⟨gk, o, none⟩) (hX.block gk (Nat.lt_of_lt_of_le hgkl hbl.size))).trans (hcr o)
            refine ⟨(hX.cell (p := ⟨w.heap.size, 0, none⟩) (World.block_lt_of_cell? wr _ p0)).trans p0, (hX.cell (p := ⟨w.heap.size, 4, none⟩) (World.block_lt_of_cell? wr _ p4)).trans p4, ⟨(hcX _).trans x3.q0, (hcX _).trans x3.q1, (hcX _).trans x3.q2, (hcX _).trans x3.q3, (hcX _).trans x3.q4⟩, ?_⟩
            refine (str_good x k (bl.ext k + 1) u _ fx X hstr ((x1.below hbl).below hX)).mono fun e w' h => ?_
            obtain ⟨ta, tn, tc, f', he, h1, h2, h3⟩ := h
            have hB : Below wr.heap.size wr w' := below_step hX h3
            have hO := hI1.below hB
            refine ⟨nodeOf u, ta, tn, tc, he, ⟨?_, Nat.le_trans hsz hB.size⟩, fun v' w6 e1 e2 e3 => ?_⟩
            · obtain ⟨fks, ⟨cs, o1, _⟩, _⟩ := hO
              have : cs = [] := List.length_eq_zero_iff.1 (by have := o1.1; simpa using this)
              subst this
              exact o1
            · have h4 := hO.snoc ((Below.refl _ _).alloc (Nat.le_refl _) _) h1 (fun g hg hin => by
                have h5 := hI1.lt g hg
                rcases h2 g hin with h6 | h6
                · have := x1.lt g h6
                  omega
                · have := hX.size
                  omega) (fun y hy => by
                rcases h2 y hy with h6 | h6
                · exact ⟨.inl (hfx y h6), by have := x1.lt y h6; omega⟩
                · exact okB_new hsz y (Nat.le_trans hX.size h6)) e1 e2 e3 (Nat.le_trans hsz hB.size)
              rw [hset]
              exact ⟨h4.1, (HI.out.2.trans (hB.mono hsz)).trans h4.2⟩
          obtain ⟨nx, hnx⟩ : ∃ nx, nodeOf x = nx := ⟨_, rfl⟩
          rw [hnx] at HS
          unfold nodeV at HS
          rw [Nat.zero_mul] at c0' c1' c2' c3' c4
          have hL2 : (1 : Int) < (L : Int) := by omega
          clear x1 x3 hset hx hKi hIn hcr hbl hInr HI HE HST hnx hstr hI1 hK0
          go_wp2_with fail
          refine (HX.out _).mono ?_
          rintro e w2 ⟨rfl, hb2⟩
          have HB2 : Hid (Below wr.heap.size wr w2) := below_step ((Below.refl _ _).alloc (Nat.le_refl _) _) hb2
          obtain ⟨s0, s4, ⟨y0, y1, y2, y3, y4⟩, hS2⟩ := HS.out w2 HB2.out
          have HC2 : Hid (Calls Try.prog 60 #[.agg #[.int .i64 nx.k, .int .i64 nx.w, .int .i64 nx.h, .int .i64 nx.i, .slice xa xn xc], .int .i64 k, .int .i64 (bl.ext k + 1)] w2.drew _) := (HS.out w2.drew HB2.out.drew).2.2.2
          clear hb2 hS2 HX c0' c1' c2' c3' c4 p4 HS
          go_wp2_with fail
          go_region_law (first
            | (refine step_append_nodeX w3 rfl _ _ rfl (w.heap.size + 2) (.slice ka 0 kc) 0 [] nr ta tn tc (by simp [Act.eval]) HO3.out.1 (by simp [Act.eval]) (by omega) HO3.out.2 ?_; intro v' w6 a1 a2 a3 a4; have he := HE3.out v' w6 a1 a2 a3; obtain ⟨ra, rc, hv'⟩ := a4; subst hv'; have HN6 : Hid (KidsA w6 (w.heap.size + 2) (OkB fp w) (.slice ra (0 + 1) rc) (nodesOf (kidsTo ts us 0 2)) ∧ Below (w.heap.size + 2) W0 w6) := he; clear a1 a2 a3 he)
            | (go_simp; go_at_call 60; refine HC2.out.mono ?_; rintro e w3 ⟨nr, ta, tn, tc, rfl, hO3, hE3⟩; have HO3 : Hid (w3.ownsRow (w.heap.size + 2) 67 5 (.slice ka 0 kc) 0 [] ∧ w.heap.size + 2 ≤ w3.heap.size) := hO3; have HE3 : Hid (∀ v' w6, (∀ cs, (w3.alloc (.cells (nodeV nr (.slice ta tn tc)) 67)).ownsRow (w.heap.size + 2) 67 5 (.slice ka 0 kc) 0 cs → w6.ownsRow (w.heap.size + 2) 67 5 v' (0 + 1) (cs ++ nodeL nr (.slice ta tn tc))) → (w3.alloc (.cells (nodeV nr (.slice ta tn tc)) 67)).grownBy w6 (Value.slice ka 0 kc).ownBlock → (v'.ownBlock = (Value.slice ka 0 kc).ownBlock ∨ ∃ g, v'.ownBlock = some g ∧ w3.heap.size ≤ g) → KidsA w6 (w.heap.size + 2) (OkB fp w) v' (nodesOf (kidsTo ts us 0 2)) ∧ Below (w.heap.size + 2) W0 w6) := hE3; clear hO3 hE3))
          all_goals (
            go_wp2_with fail
            go_roundw
            case rel => exact ⟨2, by omega, by go_num, by omega, _, _, _, rfl, HN6⟩
            case measure => simp [intOf]; omega)
      · have hcond : ¬ ((nodeOf t).k = 1 ∧ (nodeOf t).i = q) := by
          cases t with
          | leaf bl p => exact fun h => HW.out.other i bl p ht hia h.2
          | split b' k' ts' =>
            intro h
            have h1 := (kindsAll_at ts i _ ht HKd.out).1
            have h2 : k' = 1 := h.1
            omega
        obtain ⟨nn, hnn⟩ : ∃ nn, nodeOf t = nn := ⟨_, rfl⟩
        rw [hnn] at hcond c0 c1 c2 c3 hInr
        obtain ⟨fks, ⟨cs, o1, o2, o3⟩, _⟩ := HI.out.1
        have hkn : (nodesOf (kidsTo ts us a i)).length = kn := by
          obtain ⟨a', c', e⟩ := own_sl5 o1
          cases e
          rfl
        rw [hkn] at o1
        have hkl : kn ≤ 1000000 := by
          rw [← hkn, nodesOf_length]
          unfold kidsTo
          have h1 := HL.out
          split
          · rw [List.length_take]; omega
          · rw [List.length_take]; omega
        have hsz : w.heap.size + 2 ≤ wr.heap.size := by rw [← HW0.out.2.1]; exact HI.out.2.size
        have HOw : Hid (∀ o, (wr.alloc o).ownsRow (w.heap.size + 2) 67 5 (.slice ka kn kc) kn cs) := fun o => o1.alloc o
        have HSz : Hid (∀ o, w.heap.size + 2 ≤ (wr.alloc o).heap.size) := fun o => by
          show _ ≤ _
          have : (wr.alloc o).heap.size = wr.heap.size + 1 := by simp
          omega
        have hnx := HW.out.next i t ht hia (by omega)
        have HEnd : Hid (∀ o v' w', (∀ cs, ((wr.alloc o).alloc (.cells (nodeV nn (.slice sa sn sc)) 67)).ownsRow (w.heap.size + 2) 67 5 (.slice ka kn kc) kn cs → w'.ownsRow (w.heap.size + 2) 67 5 v' (kn + 1) (cs ++ nodeL nn (.slice sa sn sc))) → ((wr.alloc o).alloc (.cells (nodeV nn (.slice sa sn sc)) 67)).grownBy w' (Value.slice ka kn kc).ownBlock → (v'.ownBlock = (Value.slice ka kn kc).ownBlock ∨ ∃ g, v'.ownBlock = some g ∧ (wr.alloc o).heap.size ≤ g) → KidsA w' (w.heap.size + 2) (OkB fp w) v' (nodesOf (kidsTo ts us a (i + 1))) ∧ Below (w.heap.size + 2) W0 w') := fun o v' w' e1 e2 e3 => by
          have hs1 : (wr.alloc o).heap.size = wr.heap.size + 1 := by simp
          have hB2 : Below wr.heap.size wr ((wr.alloc o).alloc (.cells (nodeV nn (.slice sa sn sc)) 67)) := ((Below.refl _ _).alloc (Nat.le_refl _) o).alloc (by omega) _
          have := HI.out.1.snoc hB2 hInr (fun g hg hin => by
            have h1 := (HI.out.1.lt g hg).1
            have h2 := hIn.lt g hin
            omega) (fun y hy => ⟨.inl (hfi y hy), by have := hIn.lt y hy; omega⟩) (by rw [hkn]; exact e1) e2 (by
              rcases e3 with e3 | ⟨g, e3, h4⟩
              · exact .inl e3
              · exact .inr ⟨g, e3, by omega⟩) hsz
          refine ⟨?_, HI.out.2.trans this.2⟩
          rw [hnx, nodesOf_append, show nodesOf [t] = [nn] by rw [← hnn]; rfl]
          exact this.1
        clear hnx o1 o2 o3 hkn hsz hKi hIn hcr hbl hInr HI HE HST hnn
        by_cases hk1 : nn.k = 1
        · have hk1b : (nn.k == 1) = true := by simpa using hk1
          have hq1 : (nn.i == q) = false := by
            have : ¬ nn.i = q := fun e => hcond ⟨hk1, e⟩
            simpa using this
          clear hcond hk1
          go_wp2_with (at_builtin; refine wpList_append_nodeX (wr.alloc (.cells #[.int .i64 nn.k, .int .i64 nn.w, .int .i64 nn.h, .int .i64 nn.i, .slice sa sn sc] 67)) rfl _ _ rfl (w.heap.size + 2) (.slice ka kn kc) kn cs nn sa sn sc ?y1 (HOw.out _) ?y2 ?x1 (HSz.out _) ?_; (case y1 => rfl); (case y2 => simp [Act.eval]); (case x1 => omega); intro v' w6 a1 a2 a3 a4; have he := HEnd.out _ v' w6 a1 a2 a3; obtain ⟨ra, rc, hv'⟩ := a4; subst hv'; have HN6 : Hid (KidsA w6 (w.heap.size + 2) (OkB fp w) (.slice ra (kn + 1) rc) (nodesOf (kidsTo ts us a (i + 1))) ∧ Below (w.heap.size + 2) W0 w6) := he; clear a1 a2 a3 he)
          go_roundw
          case rel => exact ⟨i + 1, by omega, by go_num, by omega, ra, kn + 1, rc, rfl, HN6⟩
          case measure => simp [intOf]; omega
        · have hk1b : (nn.k == 1) = false := by simpa using hk1
          clear hcond hk1
          go_wp2_with (at_builtin; refine wpList_append_nodeX (wr.alloc (.cells #[.int .i64 nn.k, .int .i64 nn.w, .int .i64 nn.h, .int .i64 nn.i, .slice sa sn sc] 67)) rfl _ _ rfl (w.heap.size + 2) (.slice ka kn kc) kn cs nn sa sn sc ?y1 (HOw.out _) ?y2 ?x1 (HSz.out _) ?_; (case y1 => rfl); (case y2 => simp [Act.eval]); (case x1 => omega); intro v' w6 a1 a2 a3 a4; have he := HEnd.out _ v' w6 a1 a2 a3; obtain ⟨ra, rc, hv'⟩ := a4; subst hv'; have HN6 : Hid (KidsA w6 (w.heap.size + 2) (OkB fp w) (.slice ra (kn + 1) rc) (nodesOf (kidsTo ts us a (i + 1))) ∧ Below (w.heap.size + 2) W0 w6) := he; clear a1 a2 a3 he)
          go_roundw
          case rel => exact ⟨i + 1, by omega, by go_num, by omega, ra, kn + 1, rc, rfl, HN6⟩
          case measure => simp [intOf]; omega
    · have hil : i = L := by omega
      subst hil
      have hbl : Below w.heap.size w wr := ⟨HI.out.2.os.trans HW0.out.1.os, HI.out.2.tape.trans HW0.out.1.tape, HI.out.2.output.trans HW0.out.1.output, Nat.le_trans HW0.out.1.size HI.out.2.size, fun x hx => (HI.out.2.block x (by omega)).trans (HW0.out.1.block x hx)⟩
      have hsz : w.heap.size + 2 ≤ wr.heap.size := by rw [← HW0.out.2.1]; exact HI.out.2.size
      have hres := (HI.out.2.block (w.heap.size + 1) (by omega)).trans HW0.out.2.2.1
      obtain ⟨fl, hfl⟩ : ∃ fl, kidsTo ts us a i = fl := ⟨_, rfl⟩
      rw [hfl] at HI HIH HOne HMany HRl
      have hkn : kn = fl.length := by
        obtain ⟨a', c', e⟩ := HI.out.1.sl
        cases e
        rw [nodesOf_length]
      have hkb : kn ≤ 100 := by
        rw [hkn, ← hfl]
        unfold kidsTo
        have := HL.out
        split
        · rw [List.length_take]; omega
        · rw [List.length_take]; omega
      by_cases hone : fl.length = 1
      · obtain ⟨u, rfl⟩ : ∃ u, fl = [u] := by
          match fl, hone with
          | [u], _ => exact ⟨u, rfl⟩
        rw [hone] at hkn
        subst hkn
        obtain ⟨g, hka⟩ : ∃ g, ka = some ⟨g, 0, none⟩ := by
          obtain ⟨fks, ⟨cs, o1, _⟩, _⟩ := HI.out.1
          rcases o1.2 with ⟨_, e0⟩ | ⟨g, cap', cur, e, _⟩
          · cases e0
          · injection e with ea _ _
            exact ⟨g, ea⟩
        subst hka
        obtain ⟨xa, xn, xc, fx, x1, x2, ⟨y0, y1, y2, y3, y4⟩, _, _⟩ := HI.out.1.one (okB_new hsz) 0 (nodeOf u) rfl
        rw [Nat.zero_mul] at y0 y1 y2 y3 y4
        have HF : Hid (∀ v0 v1 v2 v3 v4, Post (.returned (.agg (nodeV (nodeOf u) (.slice xa xn xc)))) (set5 wr (w.heap.size + 1) v0 v1 v2 v3 v4)) := fun v0 v1 v2 v3 v4 => HOne.out rfl wr xa xn xc fx v0 v1 v2 v3 v4 u rfl hbl x1 (by omega) (fun y hy => (x2 y hy).2)
        have r0 : wr.cell? ⟨w.heap.size + 1, 0, none⟩ = some (.int .i64 0) := cell_atL hres 0
        have r1 : wr.cell? ⟨w.heap.size + 1, 1, none⟩ = some (.int .i64 0) := cell_atL hres 1
        have r2 : wr.cell? ⟨w.heap.size + 1, 2, none⟩ = some (.int .i64 0) := cell_atL hres 2
        have r3 : wr.cell? ⟨w.heap.size + 1, 3, none⟩ = some (.int .i64 0) := cell_atL hres 3
        have r4 : wr.cell? ⟨w.heap.size + 1, 4, none⟩ = some (.slice none 0 0) := cell_atL hres 4
        have f0 := free_atL hres 0
        have f1 := free_atL hres 1
        have f2 := free_atL hres 2
        have f3 := free_atL hres 3
        have f4 := free_atL hres 4
        obtain ⟨nn, hnn⟩ : ∃ nn, nodeOf u = nn := ⟨_, rfl⟩
        rw [hnn] at HF y0 y1 y2 y3
        unfold nodeV at HF
        clear hres hbl hsz x1 x2 HI HOne HMany HIH HRl HLn hnn hblk0 HE HST hfl
        go_wp2
        exact bodyPost_ret (v := .agg #[.int .i64 nn.k, .int .i64 nn.w, .int .i64 nn.h, .int .i64 nn.i, .slice xa xn xc]) (by simp [results, Try.results38, go_sem, r0, r1, r2, r3, r4]) rfl (HF.out _ _ _ _ _)
      · have hk1 : ¬ (kn = 1) := by omega
        have hk2 : ¬ ((kn : Int) = 1) := by omega
        have hk3 : ((kn : Int) == 1) = false := by simpa using hk2
        have p1 : wr.cell? ⟨w.heap.size, 1, none⟩ = some (.int .i64 b.w) := cell_atL hblk0 1
        have p2 : wr.cell? ⟨w.heap.size, 2, none⟩ = some (.int .i64 b.h) := cell_atL hblk0 2
        have p3 : wr.cell? ⟨w.heap.size, 3, none⟩ = some (.int .i64 0) := cell_atL hblk0 3
        have HRow : Hid (∀ (j : Nat) t, fl[j]? = some t → ∃ g2 sa sn sc f, ka = some ⟨g2, 0, none⟩ ∧ g2 < wr.heap.size ∧ (∀ y ∈ f, OkB fp w y) ∧ (nodeOf t).In wr (.slice sa sn sc) f ∧ KidIn wr g2 (j * 5) (nodeOf t) (.slice sa sn sc)) := fun j t hj => by
          have hpos : 0 < fl.length := by have := (List.getElem?_eq_some_iff.1 hj).1; omega
          obtain ⟨g, hka⟩ : ∃ g, ka = some ⟨g, 0, none⟩ := by
            obtain ⟨fks, ⟨cs, o1, _⟩, _⟩ := HI.out.1
            rcases o1.2 with ⟨_, e0⟩ | ⟨g, cap', cur, e, _⟩
            · rw [nodesOf_length] at e0
              omega
            · injection e with ea _ _
              exact ⟨g, ea⟩
          subst hka
          obtain ⟨xa, xn, xc, fx, x1, x2, x3, _, _⟩ := HI.out.1.one (okB_new hsz) j (nodeOf t) (nodesOf_get _ j t hj)
          exact ⟨g, xa, xn, xc, fx, rfl, (HI.out.1.lt g (by simp [Value.ownBlock])).2, fun y hy => (x2 y hy).2, x1, x3⟩
        have HB : Hid (Below w.heap.size w wr ∧ w.heap.size + 2 ≤ wr.heap.size ∧ wr.heap[w.heap.size + 1]? = some (.cells #[.int .i64 0, .int .i64 0, .int .i64 0, .int .i64 0, .slice none 0 0] 67 (0, 0)) ∧ wr.heap[w.heap.size]? = some (.cells #[.int .i64 k, .int .i64 b.w, .int .i64 b.h, .int .i64 0, .slice (some ⟨gk, 0, none⟩) i cap] 67 (0, 0))) := ⟨hbl, hsz, hres, hblk0⟩
        have HM0 : Hid (Made k b.w b.h (OkB fp w) wr (nodesOf (flats k (rs.take 0))) (wr.alloc (.cells #[.int .i64 k, .int .i64 b.w, .int .i64 b.h, .int .i64 0, .slice none 0 0] 67))) := ⟨none, 0, 0, heap_alloc_new _ _, ⟨[], KidsF.nil _ _, fun y hy => by cases hy⟩, (Below.refl _ _).alloc (Nat.le_refl _) _⟩
        have HKn : Hid (kn = fl.length) := hkn
        clear hblk0 hbl hsz hres HI hkn HE HST hfl HK HW
        obtain ⟨wl, hwl⟩ : ∃ wl, wl = wr := ⟨_, rfl⟩
        subst hwl
        go_wp2_with fail
        go_loopw [10] (fun v wx => ∃ j : Nat, j ≤ kn ∧ v = .int .i64 j ∧ Hid (Made k b.w b.h (OkB fp w) wl (nodesOf (flats k (rs.take j))) wx)) (fun v _ => kn - (intOf v).toNat)
        case atStart => exact ⟨0, Nat.zero_le _, rfl, HM0⟩
        case round =>
          obtain ⟨j, hj, rfl, HM⟩ := hrel
          clear p0 p0a p1 p2 p3 p4 HM0
          obtain ⟨ma, mn, mc, hm1, ⟨fm, hm2, hm2'⟩, hm3⟩ := HM.out
          have hnb : wr.heap[w.heap.size]? = some (.cells #[.int .i64 k, .int .i64 b.w, .int .i64 b.h, .int .i64 0, .slice (some ⟨gk, 0, none⟩) i cap] 67 (0, 0)) := (hm3.block w.heap.size (by have := HB.out.2.1; omega)).trans HB.out.2.2.2
          have b0 : wr.cell? ⟨w.heap.size, 0, none⟩ = some (.int .i64 k) := cell_atL hnb 0
          have hml := lt_of_block hm1
          by_cases hjl : j < kn
          · obtain ⟨t, ht⟩ : ∃ t, fl[j]? = some t := ⟨_, List.getElem?_eq_getElem (by rw [← HKn.out]; exact hjl)⟩
            obtain ⟨r, hr⟩ : ∃ r, rs[j]? = some r := ⟨_, List.getElem?_eq_getElem (by rw [HRl.out, ← HKn.out]; exact hjl)⟩
            obtain ⟨g2, sa, sn, sc, f, hka, hg2, hfA, hIn, hKi⟩ := HRow.out j t ht
            subst hka
            have hInr := hIn.below hm3
            have hcr : ∀ o, wr.cell? ⟨g2, o, none⟩ = wl.cell? ⟨g2, o, none⟩ := fun o => World.cell?_of_block (w' := wr) (w := wl) (a := ⟨g2, o, none⟩) (hm3.block g2 hg2)
            have c0 := (hcr _).trans hKi.q0
            have c1 := (hcr _).trans hKi.q1
            have c2 := (hcr _).trans hKi.q2
            have c3 := (hcr _).trans hKi.q3
            have c4 := (hcr _).trans hKi.q4
            -- one child more, as it comes back
            have HJ : Hid (∀ X na nn' nc f', Below wr.heap.size wr X → (nodeOf r).In X (.slice na nn' nc) f' → (∀ y ∈ f', y ∈ f ∨ wr.heap.size ≤ y) → X.cell? ⟨wl.heap.size, 4, none⟩ = some (.slice ma mn mc) ∧ X.frozen? ⟨wl.heap.size, 4, none⟩ = false ∧ X.cell? ⟨w.heap.size, 0, none⟩ = some (.int .i64 k) ∧ Calls Try.prog 58 #[.slice ma mn mc, .int .i64 k, .agg (nodeV (nodeOf r) (.slice na nn' nc))] X fun e Y => ∃ ra rn rc, e = .returned (.slice ra rn rc) ∧ Y.cell? ⟨wl.heap.size, 4, none⟩ = some (.slice ma mn mc) ∧ Y.frozen? ⟨wl.heap.size, 4, none⟩ = false ∧ Made k b.w b.h (OkB fp w) wl (nodesOf (flats k (rs.take (j + 1)))) (Y.setCell ⟨wl.heap.size, 4, none⟩ (.slice ra rn rc))) := fun X na nn' nc f' hX hr' hf' => by
              have hX1 := (hX.block wl.heap.size hml).trans hm1
              have hnl : (nodesOf (flats k (rs.take j))).length ≤ 1000 := by rw [nodesOf_length]; exact HLn.out.1 j
              refine ⟨cell_atL hX1 4, free_atL hX1 4, (hX.cell (p := ⟨w.heap.size, 0, none⟩) (World.block_lt_of_cell? wr _ b0)).trans b0, ?_⟩
              refine (joined_sepF k (nodeOf r) na nn' nc f' (wl.heap.size + 1) (.slice ma mn mc) _ fm X (hm2.below hX) hr' (fun g hg hin => ?_) (by have := hX.size; omega) hnl (HLn.out.2 r (List.mem_of_getElem? hr))).mono ?_
              · have h1 := hm2.lt g hg
                rcases hf' g hin with h2 | h2
                · have := hIn.lt g h2
                  omega
                · omega
              · rintro e Y ⟨ra, rn, rc, rfl, ⟨gs, hgs, h1⟩, h2⟩
                have hwl2 := HB.out.2.1
                have hgs' : ∀ y ∈ fm ++ gs, y ≠ wl.heap.size ∧ OkB fp w y := fun y hy => by
                  rcases List.mem_append.1 hy with h | h
                  · exact hm2' y h
                  · rcases hf' y (hgs y h) with h4 | h4
                    · have := hIn.lt y h4
                      exact ⟨by omega, hfA y h4⟩
                    · exact ⟨by omega, okB_new hwl2 y (by have := hm3.size; omega)⟩
                have hY1 := (h2.block wl.heap.size (by omega)).trans hX1
                refine ⟨ra, rn, rc, rfl, cell_atL hY1 4, free_atL hY1 4, ra, rn, rc, ?_, ?_, ?_⟩
                · exact heap_setCell_same Y wl.heap.size 4 _ _ _ hY1
                · rw [flats_take k rs j r hr, nodesOf_append, ← flatN_of k HK23.out]
                  obtain ⟨cs, o1, o2, o3⟩ := h1
                  refine ⟨fm ++ gs, ⟨cs, own_kept5 o1 fun y hy => heap_setCell_other _ _ _ _ ?_, o2.keep fun y hy => heap_setCell_other _ _ _ _ ?_, o3⟩, hgs'⟩
                  · have := (World.ownsRow.lt o1 y (by simpa using hy)).1
                    show y ≠ wl.heap.size
                    omega
                  · exact (hgs' y hy).1
                · have hb1 : Below wl.heap.size wl Y := ⟨h2.os.trans (hX.os.trans hm3.os), h2.tape.trans (hX.tape.trans hm3.tape), h2.output.trans (hX.output.trans hm3.output), Nat.le_trans hm3.size (Nat.le_trans hX.size h2.size), fun y hy => (h2.block y (by omega)).trans ((hX.block y (by have := hm3.size; omega)).trans (hm3.block y hy))⟩
                  exact below_grown hb1 (grownBy_set _ _ _ _) (Nat.le_refl _)
            have hfl' : ∀ y ∈ f, y < wl.heap.size := hIn.lt
            obtain ⟨nn, hnn⟩ : ∃ nn, nodeOf t = nn := ⟨_, rfl⟩
            have hsa1 : ∀ o, (wr.alloc o).heap.size = wr.heap.size + 1 := fun o => by simp
            rcases HIH.out j t r ht hr with ⟨hk1', rfl⟩ | ⟨hk1', hcall⟩
            · obtain ⟨j4, jf, j0, hcj⟩ := HJ.out (wr.alloc (.cells #[.int .i64 nn.k, .int .i64 nn.w, .int .i64 nn.h, .int .i64 nn.i, .slice sa sn sc] 67)) sa sn sc f ((Below.refl _ _).alloc (Nat.le_refl _) _) (hInr.below ((Below.refl _ _).alloc (Nat.le_refl _) _)) (fun y hy => .inl hy)
              rw [hnn] at hcj hk1' c0 c1 c2 c3
              unfold nodeV at hcj
              have HCj : Hid (Calls Try.prog 58 #[.slice ma mn mc, .int .i64 k, .agg #[.int .i64 nn.k, .int .i64 nn.w, .int .i64 nn.h, .int .i64 nn.i, .slice sa sn sc]] (wr.alloc (.cells #[.int .i64 nn.k, .int .i64 nn.w, .int .i64 nn.h, .int .i64 nn.i, .slice sa sn sc] 67)) _) := hcj
              have hk1b : (nn.k != 1) = false := by simpa using hk1'
              clear hcj hk1' hIn hKi hInr hcr hm1 hm2 hm2' hm3 HM hnb hnn HJ hfl' hsa1 ht hr hg2 hml
              go_wp2_with fail
              refine HCj.out.mono ?_
              rintro e Y ⟨ra, rn, rc, rfl, y4, yf, hM2⟩
              have HM2 : Hid (Made k b.w b.h (OkB fp w) wl (nodesOf (flats k (rs.take (j + 1)))) (Y.setCell ⟨wl.heap.size, 4, none⟩ (.slice ra rn rc))) := hM2
              clear hM2 HCj
              go_wp2_with fail
              go_roundw
              case rel => exact ⟨j + 1, by omega, by go_num, HM2⟩
              case measure => simp [intOf]; omega
            · have hcw := hcall (.slice sa sn sc) f (wr.alloc (.cells #[.int .i64 nn.k, .int .i64 nn.w, .int .i64 nn.h, .int .i64 nn.i, .slice sa sn sc] 67)) (hInr.below ((Below.refl _ _).alloc (Nat.le_refl _) _))
              rw [hnn] at hcw hk1' c0 c1 c2 c3
              unfold nodeV at hcw
              have HCw : Hid (Calls Try.prog 38 #[.agg #[.int .i64 nn.k, .int .i64 nn.w, .int .i64 nn.h, .int .i64 nn.i, .slice sa sn sc], .int .i64 q] (wr.alloc (.cells #[.int .i64 nn.k, .int .i64 nn.w, .int .i64 nn.h, .int .i64 nn.i, .slice sa sn sc] 67)) (StrN r f _)) := hcw
              have hk1b : (nn.k != 1) = true := by simpa using hk1'
              have HJ2 : Hid (∀ w' na nn' nc f', Below (wr.heap.size + 1) (wr.alloc (.cells #[.int .i64 nn.k, .int .i64 nn.w, .int .i64 nn.h, .int .i64 nn.i, .slice sa sn sc] 67)) w' → (nodeOf r).In w' (.slice na nn' nc) f' → (∀ y ∈ f', y ∈ f ∨ wr.heap.size + 1 ≤ y) → ∀ X, X = set5 w' wr.heap.size (.int .i64 (nodeOf r).k) (.int .i64 (nodeOf r).w) (.int .i64 (nodeOf r).h) (.int .i64 (nodeOf r).i) (.slice na nn' nc) → w'.cell? ⟨wl.heap.size, 4, none⟩ = some (.slice ma mn mc) ∧ w'.cell? ⟨w.heap.size, 0, none⟩ = some (.int .i64 k) ∧ w'.heap[wr.heap.size]? = some (.cells #[.int .i64 nn.k, .int .i64 nn.w, .int .i64 nn.h, .int .i64 nn.i, .slice sa sn sc] 67 (0, 0)) ∧ Calls Try.prog 58 #[.slice ma mn mc, .int .i64 k, .agg (nodeV (nodeOf r) (.slice na nn' nc))] X fun e Y => ∃ ra rn rc, e = .returned (.slice ra rn rc) ∧ Y.cell? ⟨wl.heap.size, 4, none⟩ = some (.slice ma mn mc) ∧ Y.frozen? ⟨wl.heap.size, 4, none⟩ = false ∧ Made k b.w b.h (OkB fp w) wl (nodesOf (flats k (rs.take (j + 1)))) (Y.setCell ⟨wl.heap.size, 4, none⟩ (.slice ra rn rc))) := fun w' na nn' nc f' hb' hr' hf' X hX => by
                subst hX
                have hw' : Below wr.heap.size wr w' := by
                  have h1 : Below wr.heap.size wr (wr.alloc (.cells #[.int .i64 nn.k, .int .i64 nn.w, .int .i64 nn.h, .int .i64 nn.i, .slice sa sn sc] 67)) := (Below.refl _ _).alloc (Nat.le_refl _) _
                  exact ⟨hb'.os.trans h1.os, hb'.tape.trans h1.tape, hb'.output.trans h1.output, Nat.le_trans h1.size hb'.size, fun y hy => (hb'.block y (by omega)).trans (h1.block y hy)⟩
                have hB := set5_below hw' wr.heap.size (Nat.le_refl _) (.int .i64 (nodeOf r).k) (.int .i64 (nodeOf r).w) (.int .i64 (nodeOf r).h) (.int .i64 (nodeOf r).i) (.slice na nn' nc)
                have hne : ∀ y ∈ f', y ≠ wr.heap.size := fun y hy => by
                  rcases hf' y hy with h | h
                  · have h1 := hfl' y h
                    have h2 := hm3.size
                    omega
                  · omega
                obtain ⟨q1, q2, q3, q4⟩ := HJ.out _ na nn' nc f' hB (hr'.keep fun y hy => set5_block _ _ _ _ _ _ _ y (hne y hy)) (fun y hy => by
                  rcases hf' y hy with h | h
                  · exact .inl h
                  · exact .inr (by omega))
                have hcw1 : w'.heap[wl.heap.size]? = wr.heap[wl.heap.size]? := hw'.block _ hml
                refine ⟨?_, (hw'.cell (p := ⟨w.heap.size, 0, none⟩) (World.block_lt_of_cell? wr _ b0)).trans b0, ?_, q4⟩
                · exact cell_atL (hcw1.trans hm1) 4
                · exact (hb'.block wr.heap.size (by omega)).trans (heap_alloc_new _ _)
              have hne1 : ¬ wl.heap.size = wr.heap.size := by omega
              have hne2 : ¬ w.heap.size = wr.heap.size := by have := HB.out.2.1; have := hm3.size; omega
              have hne3 : ¬ wr.heap.size = wl.heap.size := by omega
              have hne4 : ¬ wr.heap.size = w.heap.size := by omega
              clear hcw hk1' hIn hKi hInr hcr hm1 hm2 hm2' hm3 HM hnb hnn HJ ht hr hg2 hcall hfl'
              go_wp2_with fail
              refine HCw.out.mono ?_
              rintro e w' ⟨na, nn', nc, f', rfl, hIn', hf', hb'⟩
              rw [hsa1] at hf' hb'
              obtain ⟨v4, v0, vb, hcj⟩ := HJ2.out w' na nn' nc f' hb' hIn' hf' _ rfl
              unfold set5 at hcj
              unfold nodeV at hcj
              obtain ⟨nr, hnr⟩ : ∃ nr, nodeOf r = nr := ⟨_, rfl⟩
              rw [hnr] at hcj
              unfold nodeV
              rw [hnr]
              have HCj : Hid (Calls Try.prog 58 #[.slice ma mn mc, .int .i64 k, .agg #[.int .i64 nr.k, .int .i64 nr.w, .int .i64 nr.h, .int .i64 nr.i, .slice na nn' nc]] _ _) := hcj
              have e0 : w'.cell? ⟨wr.heap.size, 0, none⟩ = some (.int .i64 nn.k) := cell_atL vb 0
              have e1 : w'.cell? ⟨wr.heap.size, 1, none⟩ = some (.int .i64 nn.w) := cell_atL vb 1
              have e2 : w'.cell? ⟨wr.heap.size, 2, none⟩ = some (.int .i64 nn.h) := cell_atL vb 2
              have e3 : w'.cell? ⟨wr.heap.size, 3, none⟩ = some (.int .i64 nn.i) := cell_atL vb 3
              have e4 : w'.cell? ⟨wr.heap.size, 4, none⟩ = some (.slice sa sn sc) := cell_atL vb 4
              have f0 := free_atL vb 0
              have f1 := free_atL vb 1
              have f2 := free_atL vb 2
              have f3 := free_atL vb 3
              have f4 := free_atL vb 4
              clear hcj hIn' hf' hb' vb HJ2 HCw hnr hsa1 c0 c1 c2 c3 c4 b0
              go_wp2_with fail
              refine HCj.out.mono ?_
              rintro e Y ⟨ra, rn, rc, rfl, y4, yf, hM2⟩
              have HM2 : Hid (Made k b.w b.h (OkB fp w) wl (nodesOf (flats k (rs.take (j + 1)))) (Y.setCell ⟨wl.heap.size, 4, none⟩ (.slice ra rn rc))) := hM2
              clear hM2 HCj
              go_wp2_with fail
              go_roundw
              case rel => exact ⟨j + 1, by omega, by go_num, HM2⟩
              case measure => simp [intOf]; omega
          · have hjk : j = kn := by omega
            subst hjk
            have hrt : rs.take j = rs := List.take_of_length_le (by rw [HRl.out, ← HKn.out]; exact Nat.le_refl _)
            rw [hrt] at hm2
            have hIn := hm2.in_ k b.w b.h 0
            have hres : wr.heap[w.heap.size + 1]? = some (.cells #[.int .i64 0, .int .i64 0, .int .i64 0, .int .i64 0, .slice none 0 0] 67 (0, 0)) := (hm3.block (w.heap.size + 1) (by have := HB.out.2.1; omega)).trans HB.out.2.2.1
            have HF : Hid (∀ v0 v1 v2 v3 v4, Post (.returned (.agg #[.int .i64 k, .int .i64 b.w, .int .i64 b.h, .int .i64 0, .slice ma mn mc])) (set5 wr (w.heap.size + 1) v0 v1 v2 v3 v4)) := fun v0 v1 v2 v3 v4 => HMany.out hone wr ma mn mc _ v0 v1 v2 v3 v4 (below_step HB.out.1 hm3) hIn (by have := HB.out.2.1; omega) (fun y h => by
              rcases List.mem_append.1 h with h | h
              · exact okB_new HB.out.2.1 y (by have := (hm2.lt y (by simpa using h)).1; omega)
              · exact (hm2' y h).2)
            have n0 : wr.cell? ⟨wl.heap.size, 0, none⟩ = some (.int .i64 k) := cell_atL hm1 0
            have n1 : wr.cell? ⟨wl.heap.size, 1, none⟩ = some (.int .i64 b.w) := cell_atL hm1 1
            have n2 : wr.cell? ⟨wl.heap.size, 2, none⟩ = some (.int .i64 b.h) := cell_atL hm1 2
            have n3 : wr.cell? ⟨wl.heap.size, 3, none⟩ = some (.int .i64 0) := cell_atL hm1 3
            have n4 : wr.cell? ⟨wl.heap.size, 4, none⟩ = some (.slice ma mn mc) := cell_atL hm1 4
            have r0 : wr.cell? ⟨w.heap.size + 1, 0, none⟩ = some (.int .i64 0) := cell_atL hres 0
            have r1 : wr.cell? ⟨w.heap.size + 1, 1, none⟩ = some (.int .i64 0) := cell_atL hres 1
            have r2 : wr.cell? ⟨w.heap.size + 1, 2, none⟩ = some (.int .i64 0) := cell_atL hres 2
            have r3 : wr.cell? ⟨w.heap.size + 1, 3, none⟩ = some (.int .i64 0) := cell_atL hres 3
            have r4 : wr.cell? ⟨w.heap.size + 1, 4, none⟩ = some (.slice none 0 0) := cell_atL hres 4
            have f0 := free_atL hres 0
            have f1 := free_atL hres 1
            have f2 := free_atL hres 2
            have f3 := free_atL hres 3
            have f4 := free_atL hres 4
            clear hm1 hm2 hm2' hm3 hIn hres HM hnb HRow HB HLn HIH HOne HMany HRl hrt hml b0
            go_wp2
            exact bodyPost_ret (v := .agg #[.int .i64 k, .int .i64 b.w, .int .i64 b.h, .int .i64 0, .slice ma mn mc]) (by simp [results, Try.results38, go_sem, r0, r1, r2, r3, r4]) rfl (HF.out _ _ _ _ _)

end Go.Proofs.Ytjnmjoigmbpodaa
