/-
  Layouts: the document's cut, of a row or a column.
-/
import Derived.Test.YtnepemlagnnngaaCWm
import Derived.Test.YtnepemlagnnngaaCSp
namespace Go.Proofs.Ytnepemlagnnngaa
open Go.RowKit
set_option linter.unusedVariables false
set_option maxRecDepth 100000

theorem hiddenC {p : Prop} (h : p) : Hid p := h
/-- What the document's cut makes of a tree. -/
def CutG (q k z id : Int) (bf : Bool) (t r : Tree) : Prop := ∀ sl fp w, (nodeOf t).In w sl fp → Calls Try.prog 42 #[.agg (nodeV (nodeOf t) sl), .int .i64 q, .int .i64 k, .int .i64 z, .bool bf, .int .i64 id] w (StrN r fp w)

set_option maxHeartbeats 2000000 in
theorem cut_loop (q k z id : Int) (bf : Bool) (b : Box) (k' : Int) (ts rs : List Tree) (hs : (Tree.split b k' ts).sound = true) (hk : (Tree.split b k' ts).kinds) (hz : (Tree.split b k' ts).size ≤ 100) (hrl : rs.length = ts.length) (hlen : ∀ j, (flats k' (rs.take j)).length ≤ 1000) (hrk : ∀ r ∈ rs, (nodeOf r).ks.length ≤ 1000) (hIH : ∀ (j : Nat) t r, ts[j]? = some t → rs[j]? = some r → CutG q k z id bf t r) : CutG q k z id bf (.split b k' ts) (.split b k' (flats k' rs)) := by
  intro sl fp w hIn
  unfold Tree.sound at hs
  simp only [Bool.and_eq_true, decide_eq_true_eq] at hs
  have h2 := hs.1.1
  have hll := length_sizes ts
  have hz' : 1 + sizes ts ≤ 100 := hz
  have hIn0 := hIn
  obtain ⟨cs, fs, o1, o2, hfp⟩ := hIn
  have hnl : (nodesOf ts).length = ts.length := nodesOf_length ts
  obtain ⟨gk, cap, rfl⟩ : ∃ gk cap, sl = .slice (some ⟨gk, 0, none⟩) ts.length cap := by
    rcases o1.2 with ⟨_, e0⟩ | ⟨g, cap, cur, e, _⟩
    · omega
    · exact ⟨g, cap, by rw [e, hnl]⟩
  rw [hnl] at o1
  have hK : ∀ (i : Nat) t, ts[i]? = some t → ∃ sa sn sc f, (∀ y ∈ f, y ∈ fp) ∧ (nodeOf t).In w (.slice sa sn sc) f ∧ KidIn w gk (i * 5) (nodeOf t) (.slice sa sn sc) := fun i t hi => by
    obtain ⟨sl2, f2, g1, g2, g3⟩ := o2.get i (nodeOf t) (nodesOf_get ts i t hi)
    have hil := (List.getElem?_eq_some_iff.1 hi).1
    have hcell : ∀ o, o < 5 → w.cell? ⟨gk, i * 5 + o, none⟩ = (nodeL (nodeOf t) sl2)[o]? := fun o ho => by
      rw [World.ownsRow.cellAt o1 (i * 5 + o) (by omega), g3 o ho]
    obtain ⟨ad, c, hsl⟩ := g1.sl
    subst hsl
    exact ⟨ad, _, c, f2, fun y hy => by rw [hfp]; exact List.mem_append_right _ (g2 y hy), g1, ⟨hcell 0 (by omega), hcell 1 (by omega), hcell 2 (by omega), hcell 3 (by omega), hcell 4 (by omega)⟩⟩
  obtain ⟨L, hL⟩ : ∃ L, ts.length = L := ⟨_, rfl⟩
  rw [hL] at h2 hll hrl o1 ⊢
  have hL1 : L ≤ 100 := by omega
  obtain ⟨wl, hwl⟩ : ∃ W0, (w.alloc (.cells #[.int .i64 k', .int .i64 b.w, .int .i64 b.h, .int .i64 0, .slice (some ⟨gk, 0, none⟩) L cap] 80)).alloc (.cells #[.int .i64 0, .int .i64 0, .int .i64 0, .int .i64 0, .slice none 0 0] 80) = W0 := ⟨_, rfl⟩
  have HB : Hid (Below w.heap.size w wl ∧ wl.heap.size = w.heap.size + 2 ∧ wl.heap[w.heap.size + 1]? = some (.cells #[.int .i64 0, .int .i64 0, .int .i64 0, .int .i64 0, .slice none 0 0] 80 (0, 0)) ∧ wl.heap[w.heap.size]? = some (.cells #[.int .i64 k', .int .i64 b.w, .int .i64 b.h, .int .i64 0, .slice (some ⟨gk, 0, none⟩) L cap] 80 (0, 0))) := by
    rw [← hwl]
    obtain ⟨O1, hO1⟩ : ∃ o, Obj.cells #[.int .i64 k', .int .i64 b.w, .int .i64 b.h, .int .i64 0, .slice (some ⟨gk, 0, none⟩) L cap] 80 = o := ⟨_, rfl⟩
    obtain ⟨O2, hO2⟩ : ∃ o, Obj.cells #[.int .i64 0, .int .i64 0, .int .i64 0, .int .i64 0, .slice none 0 0] 80 = o := ⟨_, rfl⟩
    have s1 : (w.alloc O1).heap.size = w.heap.size + 1 := by simp
    show Below _ _ _ ∧ _ ∧ _ ∧ _
    rw [hO1, hO2]
    refine ⟨((Below.refl _ _).alloc (Nat.le_refl _) O1).alloc (by omega) O2, by simp, ?_, ?_⟩
    · have := heap_alloc_new (w.alloc O1) O2
      rw [s1] at this
      rw [this]
    · exact (Below.heap_alloc _ _ _ (by omega)).trans (heap_alloc_new _ _)
  have HE : Hid ((w.alloc (.cells #[.int .i64 k', .int .i64 b.w, .int .i64 b.h, .int .i64 0, .slice (some ⟨gk, 0, none⟩) L cap] 80)).alloc (.cells #[.int .i64 0, .int .i64 0, .int .i64 0, .int .i64 0, .slice none 0 0] 80) = wl) := hwl
  have HRow : Hid (∀ (j : Nat) t, ts[j]? = some t → ∃ sa sn sc f, gk < wl.heap.size ∧ (∀ y ∈ f, OkB fp w y) ∧ (nodeOf t).In wl (.slice sa sn sc) f ∧ KidIn wl gk (j * 5) (nodeOf t) (.slice sa sn sc)) := fun j t hj => by
    obtain ⟨sa, sn, sc, f, h1, h3, h4⟩ := hK j t hj
    have hgk : gk < w.heap.size := World.block_lt_of_cell? w _ h4.q0
    have hc : ∀ o, wl.cell? ⟨gk, o, none⟩ = w.cell? ⟨gk, o, none⟩ := fun o => World.cell?_of_block (w' := wl) (w := w) (a := ⟨gk, o, none⟩) (HB.out.1.block gk hgk)
    refine ⟨sa, sn, sc, f, by have := HB.out.2.1; omega, fun y hy => ⟨.inl (h1 y hy), ?_⟩, h3.below HB.out.1, ⟨(hc _).trans h4.q0, (hc _).trans h4.q1, (hc _).trans h4.q2, (hc _).trans h4.q3, (hc _).trans h4.q4⟩⟩
    have := h3.lt y hy
    omega
  have HM0 : Hid (Made k' b.w b.h (OkB fp w) wl (nodesOf (flats k' (rs.take 0))) (wl.alloc (.cells #[.int .i64 k', .int .i64 b.w, .int .i64 b.h, .int .i64 0, .slice none 0 0] 80))) := ⟨none, 0, 0, heap_alloc_new _ _, ⟨[], KidsF.nil _ _, fun y hy => by cases hy⟩, (Below.refl _ _).alloc (Nat.le_refl _) _⟩
  have HK23 : Hid (k' = 2 ∨ k' = 3) := hk.1
  have hk1 : (k' == 1) = false := by
    have := hk.1
    have : k' ≠ 1 := by omega
    simpa using this
  have HLn : Hid ((∀ j, (flats k' (rs.take j)).length ≤ 1000) ∧ ∀ r ∈ rs, (nodeOf r).ks.length ≤ 1000) := ⟨hlen, hrk⟩
  have HRl : Hid (rs.length = L) := hrl
  have HL : Hid (ts.length = L) := hL
  have HIH : Hid (∀ (j : Nat) t r, ts[j]? = some t → rs[j]? = some r → CutG q k z id bf t r) := hIH
  have HMany : Hid (∀ wr sa sn sc f v0 v1 v2 v3 v4, Below w.heap.size w wr → (Node.mk k' b.w b.h 0 (nodesOf (flats k' rs))).In wr (.slice sa sn sc) f → w.heap.size + 1 < wr.heap.size → (∀ y ∈ f, OkB fp w y) → StrN (.split b k' (flats k' rs)) fp w (.returned (.agg #[.int .i64 k', .int .i64 b.w, .int .i64 b.h, .int .i64 0, .slice sa sn sc])) (set5 wr (w.heap.size + 1) v0 v1 v2 v3 v4)) := fun wr sa sn sc f v0 v1 v2 v3 v4 hb hi hlt hok =>
    ⟨sa, sn, sc, f, rfl, hi.keep fun y hy => set5_block _ _ _ _ _ _ _ y (hok y hy).2, fun y hy => (hok y hy).1, set5_below hb _ (by omega) _ _ _ _ _⟩
  show Calls Try.prog 42 #[.agg #[.int .i64 k', .int .i64 b.w, .int .i64 b.h, .int .i64 0, .slice (some ⟨gk, 0, none⟩) L cap], .int .i64 q, .int .i64 k, .int .i64 z, .bool bf, .int .i64 id] w _
  have p0 : wl.cell? ⟨w.heap.size, 0, none⟩ = some (.int .i64 k') := cell_atL HB.out.2.2.2 0
  have p1 : wl.cell? ⟨w.heap.size, 1, none⟩ = some (.int .i64 b.w) := cell_atL HB.out.2.2.2 1
  have p2 : wl.cell? ⟨w.heap.size, 2, none⟩ = some (.int .i64 b.h) := cell_atL HB.out.2.2.2 2
  have p3 : wl.cell? ⟨w.heap.size, 3, none⟩ = some (.int .i64 0) := cell_atL HB.out.2.2.2 3
  have p4 : wl.cell? ⟨w.heap.size, 4, none⟩ = some (.slice (some ⟨gk, 0, none⟩) L cap) := cell_atL HB.out.2.2.2 4
  clear hs hk hz hrl hlen hrk hIH hll hz' hIn0 o1 o2 hfp hnl hK hL hwl
  go_enter Try.func42, Try.ntmps42
  go_upto_region 1 with fail
  rw [HE.out]
  go_wp2_with fail
  go_loopw [16] (fun v wx => ∃ j : Nat, j ≤ L ∧ v = .int .i64 j ∧ Hid (Made k' b.w b.h (OkB fp w) wl (nodesOf (flats k' (rs.take j))) wx)) (fun v _ => L - (intOf v).toNat)
  case atStart => exact ⟨0, Nat.zero_le _, rfl, HM0⟩
  case round =>
    obtain ⟨j, hj, rfl, HM⟩ := hrel
    clear p0 p1 p2 p3 p4 HM0
    obtain ⟨ma, mn, mc, hm1, ⟨fm, hm2, hm2'⟩, hm3⟩ := HM.out
    have hnb : wr.heap[w.heap.size]? = some (.cells #[.int .i64 k', .int .i64 b.w, .int .i64 b.h, .int .i64 0, .slice (some ⟨gk, 0, none⟩) L cap] 80 (0, 0)) := (hm3.block w.heap.size (by have := HB.out.2.1; omega)).trans HB.out.2.2.2
    have b0 : wr.cell? ⟨w.heap.size, 0, none⟩ = some (.int .i64 k') := cell_atL hnb 0
    have b4 : wr.cell? ⟨w.heap.size, 4, none⟩ = some (.slice (some ⟨gk, 0, none⟩) L cap) := cell_atL hnb 4
    have hml := lt_of_block hm1
    by_cases hjl : j < L
    · obtain ⟨t, ht⟩ : ∃ t, ts[j]? = some t := ⟨_, List.getElem?_eq_getElem (by rw [HL.out]; exact hjl)⟩
      obtain ⟨r, hr⟩ : ∃ r, rs[j]? = some r := ⟨_, List.getElem?_eq_getElem (by rw [HRl.out]; exact hjl)⟩
      obtain ⟨sa, sn, sc, f, hg2, hfA, hIn, hKi⟩ := HRow.out j t ht
      have hInr := hIn.below hm3
      have hcr : ∀ o, wr.cell? ⟨gk, o, none⟩ = wl.cell? ⟨gk, o, none⟩ := fun o => World.cell?_of_block (w' := wr) (w := wl) (a := ⟨gk, o, none⟩) (hm3.block gk hg2)
      have c0 := (hcr _).trans hKi.q0
      have c1 := (hcr _).trans hKi.q1
      have c2 := (hcr _).trans hKi.q2
      have c3 := (hcr _).trans hKi.q3
      have c4 := (hcr _).trans hKi.q4
      have m4 : wr.cell? ⟨wl.heap.size, 4, none⟩ = some (.slice ma mn mc) := cell_atL hm1 4
      -- one child more, as it comes back
      have HJ : Hid (∀ X na nn' nc f', Below wr.heap.size wr X → (nodeOf r).In X (.slice na nn' nc) f' → (∀ y ∈ f', y ∈ f ∨ wr.heap.size ≤ y) → Calls Try.prog 69 #[.slice ma mn mc, .int .i64 k', .agg (nodeV (nodeOf r) (.slice na nn' nc))] X fun e Y => ∃ ra rn rc, e = .returned (.slice ra rn rc) ∧ (∀ y, y ≤ wl.heap.size → Y.heap[y]? = wr.heap[y]?) ∧ Y.frozen? ⟨wl.heap.size, 4, none⟩ = false ∧ Made k' b.w b.h (OkB fp w) wl (nodesOf (flats k' (rs.take (j + 1)))) (Y.setCell ⟨wl.heap.size, 4, none⟩ (.slice ra rn rc))) := fun X na nn' nc f' hX hr' hf' => by
        have hX1 := (hX.block wl.heap.size hml).trans hm1
        have hnl : (nodesOf (flats k' (rs.take j))).length ≤ 1000 := by rw [nodesOf_length]; exact HLn.out.1 j
        refine (joined_sepF k' (nodeOf r) na nn' nc f' (wl.heap.size + 1) (.slice ma mn mc) _ fm X (hm2.below hX) hr' (fun g hg hin => ?_) (by have := hX.size; omega) hnl (HLn.out.2 r (List.mem_of_getElem? hr))).mono ?_
        · have h1 := hm2.lt g hg
          rcases hf' g hin with h2 | h2
          · have := hIn.lt g h2
            omega
          · omega
        · rintro e Y ⟨ra, rn, rc, rfl, ⟨gs, hgs, h1⟩, h2⟩
          have hwl2 := HB.out.2.1
          have hgs' : ∀ y ∈ fm ++ gs, y ≠ wl.heap.size ∧ OkB fp w y := fun y hy => by
            rcases List.mem_append.1 hy with h | h
            · exact hm2' y h
            · rcases hf' y (hgs y h) with h4 | h4
              · have := hIn.lt y h4
                exact ⟨by omega, hfA y h4⟩
              · exact ⟨by omega, okB_new (n := wl.heap.size) (by omega) y (by have := hm3.size; omega)⟩
          have hY1 := (h2.block wl.heap.size (by omega)).trans hX1
          refine ⟨ra, rn, rc, rfl, fun y hy => (h2.block y (by omega)).trans (hX.block y (by omega)), free_atL hY1 4, ra, rn, rc, ?_, ?_, ?_⟩
          · exact heap_setCell_same Y wl.heap.size 4 _ _ _ hY1
          · rw [flats_take k' rs j r hr, nodesOf_append, ← flatN_of k' HK23.out]
            obtain ⟨cs, o1, o2, o3⟩ := h1
            refine ⟨fm ++ gs, ⟨cs, own_kept5 o1 fun y hy => heap_setCell_other _ _ _ _ ?_, o2.keep fun y hy => heap_setCell_other _ _ _ _ ?_, o3⟩, hgs'⟩
            · have := (World.ownsRow.lt o1 y (by simpa using hy)).1
              show y ≠ wl.heap.size
              omega
            · exact (hgs' y hy).1
          · have hb1 : Below wl.heap.size wl Y := ⟨h2.os.trans (hX.os.trans hm3.os), h2.tape.trans (hX.tape.trans hm3.tape), h2.output.trans (hX.output.trans hm3.output), Nat.le_trans hm3.size (Nat.le_trans hX.size h2.size), fun y hy => (h2.block y (by omega)).trans ((hX.block y (by have := hm3.size; omega)).trans (hm3.block y hy))⟩
            exact below_grown hb1 (grownBy_set _ _ _ _) (Nat.le_refl _)
      have HCu : Hid (∀ X0, Below wr.heap.size wr X0 → Calls Try.prog 42 #[.agg (nodeV (nodeOf t) (.slice sa sn sc)), .int .i64 q, .int .i64 k, .int .i64 z, .bool bf, .int .i64 id] X0 fun e X => ∃ (nr : Node), ∃ na nn' nc, e = .returned (.agg #[.int .i64 nr.k, .int .i64 nr.w, .int .i64 nr.h, .int .i64 nr.i, .slice na nn' nc]) ∧ Below wr.heap.size wr X ∧ ∀ X', Below X.heap.size X X' → Calls Try.prog 69 #[.slice ma mn mc, .int .i64 k', .agg #[.int .i64 nr.k, .int .i64 nr.w, .int .i64 nr.h, .int .i64 nr.i, .slice na nn' nc]] X' fun e Y => ∃ ra rn rc, e = .returned (.slice ra rn rc) ∧ (∀ y, y ≤ wl.heap.size → Y.heap[y]? = wr.heap[y]?) ∧ Y.frozen? ⟨wl.heap.size, 4, none⟩ = false ∧ Made k' b.w b.h (OkB fp w) wl (nodesOf (flats k' (rs.take (j + 1)))) (Y.setCell ⟨wl.heap.size, 4, none⟩ (.slice ra rn rc))) := fun X0 hbm => by
        refine (HIH.out j t r ht hr (.slice sa sn sc) f X0 (hInr.below hbm)).mono ?_
        rintro e X ⟨na, nn', nc, f', rfl, h1, h2, h3⟩
        refine ⟨nodeOf r, na, nn', nc, rfl, below_step hbm h3, fun X' hX' => ?_⟩
        have hbX : Below wr.heap.size wr X' := below_step (below_step hbm h3) hX'
        refine HJ.out X' na nn' nc f' hbX (h1.below hX') (fun y hy => ?_)
        rcases h2 y hy with h | h
        · exact .inl h
        · exact .inr (Nat.le_trans hbm.size h)
      have HC8 : Hid (∀ X : World, (∀ y, y ≤ wl.heap.size → X.heap[y]? = wr.heap[y]?) → X.cell? ⟨w.heap.size, 0, none⟩ = some (.int .i64 k') ∧ X.cell? ⟨w.heap.size, 4, none⟩ = some (.slice (some ⟨gk, 0, none⟩) L cap) ∧ X.cell? ⟨wl.heap.size, 4, none⟩ = some (.slice ma mn mc) ∧ X.cell? ⟨gk, j * 5, none⟩ = some (.int .i64 (nodeOf t).k) ∧ X.cell? ⟨gk, j * 5 + 1, none⟩ = some (.int .i64 (nodeOf t).w) ∧ X.cell? ⟨gk, j * 5 + 2, none⟩ = some (.int .i64 (nodeOf t).h) ∧ X.cell? ⟨gk, j * 5 + 3, none⟩ = some (.int .i64 (nodeOf t).i) ∧ X.cell? ⟨gk, j * 5 + 4, none⟩ = some (.slice sa sn sc)) := fun X hX => by
        have h1 := (hX w.heap.size (by have := HB.out.2.1; omega)).trans hnb
        have h2 := (hX wl.heap.size (Nat.le_refl _)).trans hm1
        have hc : ∀ o, X.cell? ⟨gk, o, none⟩ = wr.cell? ⟨gk, o, none⟩ := fun o => World.cell?_of_block (w' := X) (w := wr) (a := ⟨gk, o, none⟩) (hX gk (by omega))
        exact ⟨cell_atL h1 0, cell_atL h1 4, cell_atL h2 4, (hc _).trans c0, (hc _).trans c1, (hc _).trans c2, (hc _).trans c3, (hc _).trans c4⟩
      have HWl : Hid (∀ X, Below wr.heap.size wr X → ∀ y, y ≤ wl.heap.size → X.heap[y]? = wr.heap[y]?) := fun X hX y hy => hX.block y (by omega)
      obtain ⟨nn, hnn⟩ : ∃ nn, nodeOf t = nn := ⟨_, rfl⟩
      rw [hnn] at c0 c1 c2 c3 HCu HC8
      unfold nodeV at HCu
      clear hIn hKi hInr hcr hm1 hm2 hm2' hm3 HM hnb hnn HJ ht hr hg2 hml HIH HRow HMany hfA
      go_wp2_with fail
      go_region_with (first
        | (go_at_call 42; refine (HCu.out _ (by first | exact Below.refl _ _ | exact (Below.refl _ _).drew)).mono ?_; rintro e X ⟨nr, na, nn', nc, rfl, hbX, hJj⟩; have HJj := hiddenC hJj; obtain ⟨x0, x4, xm, xk0, xk1, xk2, xk3, xk4⟩ := HC8.out X (HWl.out X hbX); clear hJj hbX)
        | (go_at_call 69; refine (HJj.out _ (by first | exact Below.refl _ _ | exact (Below.refl _ _).drew)).mono ?_; rintro e Y ⟨ra, rn, rc, rfl, hyk, yf, hM2⟩; have HM2 := hiddenC hM2; obtain ⟨y0, y4, ym, yk0, yk1, yk2, yk3, yk4⟩ := HC8.out Y hyk; clear hM2 hyk))
      all_goals (
        clear y0 y4 yk0 yk1 yk2 yk3 yk4
        go_wp2_with fail
        go_roundw
        case rel => exact ⟨j + 1, by omega, by go_num, HM2⟩
        case measure => simp [intOf]; omega)
    · have hjk : j = L := by omega
      subst hjk
      have hrt : rs.take j = rs := List.take_of_length_le (by rw [HRl.out]; exact Nat.le_refl _)
      rw [hrt] at hm2
      have hIn := hm2.in_ k' b.w b.h 0
      have hres : wr.heap[w.heap.size + 1]? = some (.cells #[.int .i64 0, .int .i64 0, .int .i64 0, .int .i64 0, .slice none 0 0] 80 (0, 0)) := (hm3.block (w.heap.size + 1) (by have := HB.out.2.1; omega)).trans HB.out.2.2.1
      have HF : Hid (∀ v0 v1 v2 v3 v4, StrN (.split b k' (flats k' rs)) fp w (.returned (.agg #[.int .i64 k', .int .i64 b.w, .int .i64 b.h, .int .i64 0, .slice ma mn mc])) (set5 wr (w.heap.size + 1) v0 v1 v2 v3 v4)) := fun v0 v1 v2 v3 v4 => HMany.out wr ma mn mc _ v0 v1 v2 v3 v4 (below_step HB.out.1 hm3) hIn (by have := HB.out.2.1; have := hm3.size; omega) (fun y h => by
        rcases List.mem_append.1 h with h | h
        · exact okB_new (n := wl.heap.size) (by have := HB.out.2.1; omega) y (by have := (hm2.lt y (by simpa using h)).1; omega)
        · exact (hm2' y h).2)
      have n0 : wr.cell? ⟨wl.heap.size, 0, none⟩ = some (.int .i64 k') := cell_atL hm1 0
      have n1 : wr.cell? ⟨wl.heap.size, 1, none⟩ = some (.int .i64 b.w) := cell_atL hm1 1
      have n2 : wr.cell? ⟨wl.heap.size, 2, none⟩ = some (.int .i64 b.h) := cell_atL hm1 2
      have n3 : wr.cell? ⟨wl.heap.size, 3, none⟩ = some (.int .i64 0) := cell_atL hm1 3
      have n4 : wr.cell? ⟨wl.heap.size, 4, none⟩ = some (.slice ma mn mc) := cell_atL hm1 4
      have r0 : wr.cell? ⟨w.heap.size + 1, 0, none⟩ = some (.int .i64 0) := cell_atL hres 0
      have r1 : wr.cell? ⟨w.heap.size + 1, 1, none⟩ = some (.int .i64 0) := cell_atL hres 1
      have r2 : wr.cell? ⟨w.heap.size + 1, 2, none⟩ = some (.int .i64 0) := cell_atL hres 2
      have r3 : wr.cell? ⟨w.heap.size + 1, 3, none⟩ = some (.int .i64 0) := cell_atL hres 3
      have r4 : wr.cell? ⟨w.heap.size + 1, 4, none⟩ = some (.slice none 0 0) := cell_atL hres 4
      have f0 := free_atL hres 0
      have f1 := free_atL hres 1
      have f2 := free_atL hres 2
      have f3 := free_atL hres 3
      have f4 := free_atL hres 4
      clear hm1 hm2 hm2' hm3 hIn hres HM hnb HRow HB HLn HIH HMany HRl hrt hml
      go_wp2
      exact bodyPost_ret (v := .agg #[.int .i64 k', .int .i64 b.w, .int .i64 b.h, .int .i64 0, .slice ma mn mc]) (by simp [results, Try.results42, go_sem, r0, r1, r2, r3, r4]) rfl (HF.out _ _ _ _ _)

end Go.Proofs.Ytnepemlagnnngaa
