/-
  Layouts: Close in the program, where the pane stands in a row or a column.
  Layouts: Close in the program, whole.
-/
import Derived.Test.YtnepemlagnnngaaCCx
namespace Go.Proofs.Ytnepemlagnnngaa
open Go.RowKit Go.Lib
set_option linter.unusedVariables false
set_option maxRecDepth 20000

theorem close_data {w w1 w2 : World} {T' : List CellV} {r : Value} {gl wg wn wc g a : Nat} {b : Box} {k : Int} {ts : List Tree} {bl : Box} {q : Int} {x u : Tree} {us : List Tree} {fj : List Nat} (hs1 : (Tree.split b k ts).At w1 0 (splitI g) fj) (hfn : fj.Nodup) (hra : Reach w1 (splitI g) [a] (leafI gl) [(g, a)]) (hG : Gone k ts a bl q x u us) (hsd : (Tree.split b k ts).sound = true) (hkd : (Tree.split b k ts).kinds) (hz : (Tree.split b k ts).size ≤ 100) (hb2 : Below w1.heap.size w1 w2) (hlen : 1 ≤ wn ∧ wn ≤ 1000 ∧ wn ≤ wc ∧ wc ≤ 9223372036854775807) (hup : w2.cell? ⟨wg, 0, none⟩ = some (.pointer (some ⟨g, 0, none⟩)) ∧ w2.cell? ⟨wg, 1, none⟩ = some (.int .i64 a))
    (hmany : 2 ≤ us.length → ∀ X Z f'', Below w2.heap.size w2 X → But fj X Z → (Tree.split b k us).At Z 0 (splitI g) f'' → f''.Nodup → (∀ y ∈ f'', y ∈ fj) → Calls Try.prog 31 #[r] Z (Fin T' w))
    (halone : us = [u] → ∀ X Z Tu gu fu, Below w2.heap.size w2 X → But fj X Z → u.At Z 0 (.iface Tu (.pointer (some ⟨gu, 0, none⟩))) fu → fu.Nodup → (∀ y ∈ fu, y ∈ fj) → ∀ m, Calls Try.prog 32 #[r, .slice (some (if wc = 1 then ⟨wg, 0, none⟩ else ⟨wg, 2, none⟩)) (wn - 1) (wc - 1), .iface Tu (.pointer (some ⟨gu, 0, none⟩))] (Z.drewN m) fun e Z' => ∃ T3 g3, e = .returned (.iface T3 (.pointer (some ⟨g3, 0, none⟩))) ∧ Calls Try.prog 31 #[.iface T3 (.pointer (some ⟨g3, 0, none⟩))] Z' (Fin T' w)) :
    ∃ pg M cap Tc gi Fx E P1 P2, CloseD w T' w2 r gl wg wn wc g a k pg M cap Tc gi Fx E P1 P2 := by
  obtain ⟨g', st', pg, cap, vs, f1, f2, R, e0, _, hI⟩ := in_at (qs := []) hs1 hfn hra rfl hG.leaf
  cases e0
  have hO := gone_ok hsd hkd hG
  have hI2 := hI.below hs1 hb2
  have hA2 := hs1.below hb2
  obtain ⟨M, hM⟩ : ∃ M, ts.length = M + 1 := by
    have := hO.len
    exact ⟨us.length, this.symm⟩
  have hMu : us.length = M := by have := hO.len; omega
  have h2 : 2 ≤ ts.length := by
    have := hsd
    unfold Tree.sound at this
    simp only [Bool.and_eq_true, decide_eq_true_eq] at this
    exact this.1.1
  have hll := length_sizes ts
  have hz' : 1 + sizes ts ≤ 100 := hz
  have hal : a < ts.length := (List.getElem?_eq_some_iff.1 hG.leaf).1
  have hsub : ∀ y, y ∈ g :: pg :: (f1 ++ f2) → y ∈ fj := fun y hy => hI.perm.mem_iff.2 (by
    rcases List.mem_cons.1 hy with h | h
    · simp [h]
    · rcases List.mem_cons.1 h with h | h
      · simp [h]
      · rcases List.mem_append.1 h with h | h <;> simp [h])
  have hnd1 : (g :: pg :: gl :: (f1 ++ f2)).Nodup := by
    have h := hI.nd
    rw [← List.append_assoc] at h
    have hsl : List.Sublist (g :: pg :: gl :: (f1 ++ f2)) (g :: pg :: gl :: (f1 ++ f2 ++ R)) := by
      refine List.Sublist.cons_cons _ (List.Sublist.cons_cons _ (List.Sublist.cons_cons _ ?_))
      exact List.sublist_append_left _ _
    exact hsl.nodup h
  have hnd2 : (g :: pg :: (f1 ++ f2)).Nodup := by
    have hsl : List.Sublist (g :: pg :: (f1 ++ f2)) (g :: pg :: gl :: (f1 ++ f2)) := List.Sublist.cons_cons _ (List.Sublist.cons_cons _ (List.sublist_cons_self _ _))
    exact hsl.nodup hnd1
  obtain ⟨cur, hcur, c1, c2, c3, c4, c5⟩ := own_open hI2.row
  obtain ⟨aa, haa⟩ := hI.enc
  have hrest := rest_of hsd hkd hG.leaf
  have hlsd : (Tree.leaf bl q).sound = true := by
    have := hsd
    unfold Tree.sound at this
    simp only [Bool.and_eq_true] at this
    have := soundAll_at ts b k a _ hG.leaf this.2.1
    simp only [Bool.and_eq_true] at this
    exact this.1
  have hbl := sides_ext bl k ((Tree.leaf bl q).sound_sides hlsd)
  -- the parts that stay, as they are to begin with
  have hpar0 : partsAt w2 0 (ts.eraseIdx a) (vs.eraseIdx a) (f1 ++ f2) := by
    rw [List.eraseIdx_eq_take_drop_succ, List.eraseIdx_eq_take_drop_succ]
    exact hI2.ahead.append hI2.behind
  obtain ⟨vc, fc, d1, d2, d3, d4, _⟩ := hpar0.one (List.nodup_cons.1 (List.nodup_cons.1 hnd2).2).2 (a - 1) x hG.near
  obtain ⟨Tc, gi, Fx, hX⟩ := x.stretches 0 vc fc w2 d2 d3
  have hv := hX.val
  subst hv
  have hstr : ∀ X Y, OutAt X b k (ts.eraseIdx a) bl q g gl pg M cap (vs.eraseIdx a) f1 f2 Y → ∀ m, Calls Try.prog Fx #[.pointer (some ⟨gi, 0, none⟩), .int .i64 k, .int .i64 (bl.ext k + 1)] (Y.drewN m) fun e Z => e = .returned (.tuple #[]) ∧ OutAt X b k us bl q g gl pg M cap (vs.eraseIdx a) f1 f2 Z := by
    intro X Y hY m
    obtain ⟨T2, g2, F2, e1, e2, e3, e4, e5⟩ := out_stretch hY hnd1 hG.near hG.str
    rw [d1] at e1
    cases e1
    have hF : Fx = F2 := by
      have h6 := (hX.mX w).symm.trans (e2 w)
      injection h6 with h6 _
      injection h6
    subst hF
    have := e5 (Y.drewN m) (below_drewN (Below.refl _ _) m)
    rw [← hG.list] at this
    exact this
  refine ⟨pg, M, cap, Tc, gi, Fx, bl.ext k, fun Y => ∃ X, Below w2.heap.size w2 X ∧ OutAt X b k (ts.eraseIdx a) bl q g gl pg M cap (vs.eraseIdx a) f1 f2 Y, fun Z => ∃ X, Below w2.heap.size w2 X ∧ OutAt X b k us bl q g gl pg M cap (vs.eraseIdx a) f1 f2 Z, hlen, hup, ?_, ⟨by omega, by omega, by omega, by omega, c2⟩, ?_, ?_, ?_, hbl, hX.mX, hX.nX, hX.fX, ?_, ?_, ?_, ?_⟩
  · rw [← hM]
    exact cell_atL hI2.own 5
  · intro X hX'
    have hIX := hI2.below hA2 hX'
    have hrow := hIX.row
    rw [hM] at hrow
    have hd := delete_any pg (M + 1) cap a vs aa X haa hrow (by omega)
    rw [show ((a + 1 : Nat) : Int) = (a : Int) + 1 by omega] at hd
    refine hd.mono fun e Y h => ?_
    obtain ⟨he, ho, hbu⟩ := h
    rw [Nat.add_sub_cancel] at he ho
    obtain ⟨o1, o2, o3⟩ := out_first hIX (hA2.below hX') (by rw [hM, Nat.add_sub_cancel]; exact ho) hbu
    rw [hM, Nat.add_sub_cancel] at o3
    rw [hM] at o1
    exact ⟨he, o1, o2, X, hX', o3⟩
  · rintro Y ⟨X, hX', hY⟩
    refine ⟨cell_atL hY.own 4, cell_atL hY.own 5, own_cells hY.row _ _ d1⟩
  · rintro Y m ⟨X, hX', hY⟩
    exact box_extent gl bl k (Y.drewN m) (hY.lf.below (below_drewN (Below.refl _ _) m)).box
  · rintro Y m ⟨X, hX', hY⟩
    exact (hstr X Y hY m).mono fun e Z h => ⟨h.1, X, hX', h.2⟩
  · rintro Z ⟨X, hX', hZ⟩
    exact cell_atL hZ.own 5
  · rintro Z ⟨X, hX', hZ⟩ hM1
    refine hmany (by omega) X Z (g :: ((Value.slice (some ⟨pg, 0, none⟩) M cap).ownBlock.toList ++ (f1 ++ f2))) hX' (hZ.but.mono hsub) ⟨g, _, _, _, rfl, hZ.own, ?_, hZ.parts, rfl⟩ (by simpa [Value.ownBlock] using hnd2) (fun y hy => hsub y (by simpa [Value.ownBlock] using hy))
    have := hZ.parts.length
    rw [this, hMu]
    exact hZ.row
  · rintro Z ⟨X, hX', hZ⟩ hM1
    have hus : us = [u] := by
      have hin := hO.in_
      have hl1 : us.length = 1 := by omega
      match us, hl1, hin with
      | [c], _, hin =>
        have : u = c := by simpa using hin
        rw [this]
    have hpz := hZ.parts
    rw [hus] at hpz
    obtain ⟨vu, vs', fu, fr, e1, e2, ⟨e3, e4⟩, e5⟩ := hpz
    subst e3 e4
    rw [List.append_nil] at e5
    obtain ⟨gu, hvu, _⟩ := e2.own
    have hvu' : ∃ Tu, vu = .iface Tu (.pointer (some ⟨gu, 0, none⟩)) := by
      rcases hvu with h | h
      · exact ⟨_, h⟩
      · exact ⟨_, h⟩
    obtain ⟨Tu, rfl⟩ := hvu'
    refine ⟨Tu, gu, own_cells hZ.row 0 _ (by rw [e1]; rfl), halone hus X Z Tu gu fu hX' (hZ.but.mono hsub) e2 ?_ (fun y hy => hsub y ?_)⟩
    · rw [← e5]
      exact (List.nodup_cons.1 (List.nodup_cons.1 hnd2).2).2
    · rw [← e5] at hy
      exact List.mem_cons_of_mem _ (List.mem_cons_of_mem _ hy)

end Go.Proofs.Ytnepemlagnnngaa

namespace Go.Proofs.Ytnepemlagnnngaa
open Go.RowKit Go.Lib
set_option linter.unusedVariables false
set_option maxRecDepth 20000

theorem sub_sane : ∀ (qs : List Nat) (t s : Tree), t.subAt qs = some s → t.sound = true → t.kinds → s.sound = true ∧ s.kinds ∧ s.size ≤ t.size
  | [], t, s, h, hs, hk => by
    have : t = s := by simpa [Tree.subAt] using h
    subst this
    exact ⟨hs, hk, Nat.le_refl _⟩
  | i :: qs, .leaf b p, s, h, hs, hk => by simp [Tree.subAt] at h
  | i :: qs, .split b k ts, s, h, hs, hk => by
    cases hi : ts[i]? with
    | none => simp [Tree.subAt, hi] at h
    | some u =>
      have h' : u.subAt qs = some s := by simpa [Tree.subAt, hi] using h
      unfold Tree.sound at hs
      simp only [Bool.and_eq_true, decide_eq_true_eq] at hs
      have hsd := soundAll_at ts b k i u hi hs.2.1
      simp only [Bool.and_eq_true] at hsd
      have ih := sub_sane qs u s h' hsd.1 (kindsAll_at ts i u hi hk.2)
      have hz := sizes_at ts i u hi
      refine ⟨ih.1, ih.2.1, ?_⟩
      show s.size ≤ 1 + sizes ts
      have := ih.2.2
      omega
theorem sub_snoc : ∀ (rs : List Nat) (t : Tree) (b : Box) (k : Int) (ts : List Tree) (j : Nat) (s : Tree), t.subAt rs = some (.split b k ts) → ts[j]? = some s → t.subAt (rs ++ [j]) = some s
  | [], t, b, k, ts, j, s, h, hj => by
    have : t = .split b k ts := by simpa [Tree.subAt] using h
    subst this
    simp [Tree.subAt, hj]
  | i :: rs, .leaf b' p, b, k, ts, j, s, h, hj => by simp [Tree.subAt] at h
  | i :: rs, .split b' k' ts', b, k, ts, j, s, h, hj => by
    cases hi : ts'[i]? with
    | none => simp [Tree.subAt, hi] at h
    | some u =>
      have h' : u.subAt rs = some (.split b k ts) := by simpa [Tree.subAt, hi] using h
      have := sub_snoc rs u b k ts j s h' hj
      show (Tree.split b' k' ts').subAt (i :: (rs ++ [j])) = some s
      simp only [Tree.subAt, hi]
      exact this

theorem step_cells {w : World} {B : Nat} {v : Value} {st : List (Nat × Nat)} (h : Steps w B v st) (hne : st ≠ []) : ∃ wg wc, v = .slice (some ⟨wg, 0, none⟩) st.length wc ∧ B ≤ wg ∧ wg < w.heap.size ∧ st.length ≤ wc ∧ wc ≤ 9223372036854775807 ∧ ∀ i s, st[i]? = some s → w.cell? ⟨wg, i * 2, none⟩ = some (.pointer (some ⟨s.1, 0, none⟩)) ∧ w.cell? ⟨wg, i * 2 + 1, none⟩ = some (.int .i64 s.2) := by
  have hl : ∀ (st : List (Nat × Nat)) (i : Nat) (s : Nat × Nat), st[i]? = some s → (stepL st)[i * 2]? = some (.pointer (some ⟨s.1, 0, none⟩)) ∧ (stepL st)[i * 2 + 1]? = some (.int .i64 s.2) := by
    intro st
    induction st with
    | nil => intro i s hi; simp at hi
    | cons a st ih =>
      intro i s hi
      cases i with
      | zero =>
        simp at hi
        subst hi
        exact ⟨rfl, rfl⟩
      | succ i =>
        have := ih i s (by simpa using hi)
        rw [show (i + 1) * 2 = i * 2 + 2 by omega, show i * 2 + 2 + 1 = i * 2 + 1 + 2 by omega]
        exact this
  have h' : w.ownsRow B 98 2 v st.length (stepL st) := h
  rcases h'.2 with ⟨_, h0⟩ | ⟨wg, cap, cur, rfl, hb, hg, r1, r2, r3, r4⟩
  · exact absurd (List.length_eq_zero_iff.1 h0) hne
  · refine ⟨wg, cap, rfl, hb, lt_of_block hg, r1, r2, fun i s hi => ?_⟩
    have hlt := (List.getElem?_eq_some_iff.1 hi).1
    obtain ⟨e1, e2⟩ := hl st i s hi
    have x1 := World.ownsRow.cellAt h' (i * 2) (by omega)
    have x2 := World.ownsRow.cellAt h' (i * 2 + 1) (by omega)
    rw [x1, x2]
    exact ⟨e1, e2⟩

theorem fin_end {t : Tree} {v : Value} {fp : List Nat} {w Z : World} (hZ : Below w.heap.size w Z) (hge : ∀ q ∈ fp, w.heap.size ≤ q) (hnd : fp.Nodup) (hA : t.At Z 0 v fp) (hs : t.sound = true) (hk : t.kinds) (hz : t.size ≤ 200) : Calls Try.prog 31 #[v] Z (Fin (laidL t) w) := lay_end hZ (But.refl _ _) hge hnd hA hs hk hz

set_option maxHeartbeats 800000 in
theorem cloP_okT (v : Value) (l : List CellV) (q : Int) (w : World) (h : CellsIn w v l) {t t' : Tree} (hF : readF l = some t) {ps : List Nat} (hp : t.path q = some ps) (hCT : CloseT q t ps t') (hCs : t'.sound = true) (hCk : t'.kinds) (hz2 : t'.size ≤ 200) : Calls Try.prog 22 #[v, .int .i64 q] w (Ans2 0 (laidL t') w) := by
  have hl := readF_lay hF
  have hz := lay_size hl
  have hpl := path_len t q ps hp
  refine cloP_walk v l q w h hF (laidL t') (fun T g0 fp w1 hA hnd hge hb => ?_)
  obtain ⟨Fw, m1, m2, hc⟩ := way_root hA hl.sound (by omega) q
  refine ⟨Fw, m1, m2, (hc w1 (Below.refl _ _)).mono fun e w2 hw => ?_⟩
  obtain ⟨hb2, ⟨h1, _⟩ | ⟨ps', gl, st, sa, sn, sc, h1, hr, he, hst⟩⟩ := hw
  · rw [hp] at h1
    cases h1
  rw [hp] at h1
  cases h1
  have hsl := hr.len
  have hbw : Below w.heap.size w w2 := below_step hb hb2
  -- the way's first step, and what stands there
  have key : ∀ (qs : List Nat) (a : Nat) (b : Box) (k : Int) (ts : List Tree) (bl : Box) (x u : Tree) (us : List Tree) (g : Nat) (st' : List (Nat × Nat)) (fj : List Nat), ps = qs ++ [a] → st = (g, a) :: st' → (Tree.split b k ts).At w1 0 (splitI g) fj → fj.Nodup → Reach w1 (splitI g) [a] (leafI gl) [(g, a)] → t.subAt qs = some (.split b k ts) → Gone k ts a bl q x u us →
      (∀ wg wc, (.slice sa sn sc : Value) = .slice (some ⟨wg, 0, none⟩) st.length wc → w1.heap.size ≤ wg → wg < w2.heap.size → st.length ≤ wc → wc ≤ 9223372036854775807 → (∀ i s, st[i]? = some s → w2.cell? ⟨wg, i * 2, none⟩ = some (.pointer (some ⟨s.1, 0, none⟩)) ∧ w2.cell? ⟨wg, i * 2 + 1, none⟩ = some (.int .i64 s.2)) →
        (2 ≤ us.length → ∀ X Z f'', Below w2.heap.size w2 X → But fj X Z → (Tree.split b k us).At Z 0 (splitI g) f'' → f''.Nodup → (∀ y ∈ f'', y ∈ fj) → Calls Try.prog 31 #[.iface T (.pointer (some ⟨g0, 0, none⟩))] Z (Fin (laidL t') w)) ∧
        (us = [u] → ∀ X Z Tu gu fu, Below w2.heap.size w2 X → But fj X Z → u.At Z 0 (.iface Tu (.pointer (some ⟨gu, 0, none⟩))) fu → fu.Nodup → (∀ y ∈ fu, y ∈ fj) → ∀ m, Calls Try.prog 32 #[.iface T (.pointer (some ⟨g0, 0, none⟩)), .slice (some (if wc = 1 then ⟨wg, 0, none⟩ else ⟨wg, 2, none⟩)) (st.length - 1) (wc - 1), .iface Tu (.pointer (some ⟨gu, 0, none⟩))] (Z.drewN m) fun e Z' => ∃ T3 g3, e = .returned (.iface T3 (.pointer (some ⟨g3, 0, none⟩))) ∧ Calls Try.prog 31 #[.iface T3 (.pointer (some ⟨g3, 0, none⟩))] Z' (Fin (laidL t') w))) →
      ∃ gl wg wn wc g a k pg L cap Tc gi Fx E P1 P2, e = .returned (.tuple #[.slice (some ⟨wg, 0, none⟩) wn wc, .pointer (some ⟨gl, 0, none⟩)]) ∧ CloseD w (laidL t') w2 (.iface T (.pointer (some ⟨g0, 0, none⟩))) gl wg wn wc g a k pg L cap Tc gi Fx E P1 P2 := by
    intro qs a b k ts bl x u us g st' fj e1 e2 hs1 hfn hra hsub hG hrest
    obtain ⟨wg, wc, e3, s1, s2, s3, s4, s5⟩ := step_cells hst (by rw [e2]; simp)
    obtain ⟨r1, r2⟩ := hrest wg wc e3 s1 s2 s3 s4 s5
    obtain ⟨n1, n2, n3⟩ := sub_sane qs t _ hsub hl.sound hl.kinds
    have hup := s5 0 (g, a) (by rw [e2]; rfl)
    have hst1 : 1 ≤ st.length := by rw [e2]; simp
    obtain ⟨pg, M, cap, Tc, gi, Fx, E, P1, P2, hD⟩ := close_data (w := w) (T' := laidL t') (r := .iface T (.pointer (some ⟨g0, 0, none⟩))) hs1 hfn hra hG n1 n2 (by omega) hb2 (wn := st.length) (wc := wc) ⟨hst1, by omega, s3, s4⟩ hup r1 r2
    exact ⟨gl, wg, st.length, wc, g, a, k, pg, M, cap, Tc, gi, Fx, E, P1, P2, by rw [he, e3], hD⟩
  cases hCT with
  | many qs a b k ts bl x u us x1 x2 x3 =>
    obtain ⟨g, st', y1, y2, y3⟩ := Reach.split qs a hr
    obtain ⟨s, fj, R, hS⟩ := Tree.At.reach qs hA y1
    have hs : s = .split b k ts := by
      have := hS.sub
      rw [x1] at this
      exact (Option.some.inj this).symm
    subst hs
    obtain ⟨n1, n2, n3, n4, n5⟩ := hS.nd hnd
    refine key qs a b k ts bl x u us g st' fj rfl y2 hS.here n1 y3 x1 x2 (fun wg wc _ _ _ _ _ _ => ⟨fun _ X Z f'' hX hbu hAt hfn hff => ?_, fun e => by rw [e] at x3; simp at x3⟩)
    have hb2X : Below w1.heap.size w1 X := below_step hb2 hX
    obtain ⟨fp', hA', hperm⟩ := hS.put Z _ f'' hAt (fun y hy => by
      have hlt := hA.lt y (n5 y hy)
      rw [hbu.block y (Nat.lt_of_lt_of_le hlt hb2X.size) (fun hyf => n3 y hyf hy)]
      exact hb2X.block y hlt)
    have hin : ∀ y ∈ fp', y ∈ fp := fun y hy => by
      rcases List.mem_append.1 (hperm.mem_iff.1 hy) with h | h
      · exact n4 y (hff y h)
      · exact n5 y h
    refine fin_end (below_but (below_step hb hb2X) hbu (fun y hy => hge y (n4 y hy))) (fun y hy => hge y (hin y hy)) ?_ hA' hCs hCk hz2
    exact hperm.nodup_iff.2 (List.nodup_append.2 ⟨hfn, n2, fun a1 h1 b1 h2 e => n3 a1 (hff a1 h1) (e ▸ h2)⟩)
  | root a b k ts bl x _ x1 x2 =>
    subst x1
    obtain ⟨g, st', y1, y2, y3⟩ := Reach.split [] a hr
    obtain ⟨y4, y5⟩ := y1
    rw [← y4] at hA
    refine key [] a b k ts bl x t' [t'] g st' fp rfl y2 hA hnd y3 rfl x2 (fun wg wc _ _ _ _ _ _ => ⟨fun h2 => by simp at h2, fun _ X Z Tu gu fu hX hbu hAt hfn hff m => ?_⟩)
    have hlen : st.length - 1 = 0 := by rw [y2, y5]; rfl
    rw [hlen]
    refine (replace_root _ _ _ _ _).mono ?_
    rintro e Z' ⟨rfl, rfl⟩
    have hbX : Below w.heap.size w X := below_step hbw hX
    have hbZ : Below w.heap.size w Z := below_but hbX hbu hge
    exact ⟨Tu, gu, rfl, fin_end (below_drewN hbZ m) (fun y hy => hge y (hff y hy)) hfn (hAt.below (below_drewN (Below.refl _ _) m)) hCs hCk hz2⟩
  | up rs j a b2 k2 ts2 b k ts bl x u x1 x2 x3 =>
    obtain ⟨g, st', y1, y2, y3⟩ := Reach.split (rs ++ [j]) a hr
    obtain ⟨g2, st2, y4, y5, y6⟩ := Reach.split rs j y1
    obtain ⟨s, f', R, hS⟩ := Tree.At.reach rs hA y4
    have hs : s = .split b2 k2 ts2 := by
      have := hS.sub
      rw [x1] at this
      exact (Option.some.inj this).symm
    subst hs
    obtain ⟨n1, n2, n3, n4, n5⟩ := hS.nd hnd
    obtain ⟨s1, s2, s3⟩ := sub_sane rs t _ x1 hl.sound hl.kinds
    obtain ⟨g', sl, vs, fs, e0, k2', k3, k4, hf⟩ := hS.here
    cases e0
    obtain ⟨g'', pg, n, cap, vi, st'', e1, e2, e3, e4, e5, _⟩ := y6
    cases e1
    obtain ⟨rfl, _⟩ := e5
    have hsl2 : sl = .slice (some ⟨pg, 0, none⟩) n cap := by
      have := cell_atL k2' 5
      rw [e2] at this
      exact (Option.some.inj this).symm
    subst hsl2
    obtain ⟨hvn, hvg⟩ := row_get k3
    obtain ⟨v1, fj, f1, f2, z1, z2, z3, z4, z5, z6⟩ := k4.mid j _ x2
    have hv1 : v1 = splitI g := by
      have := hvg j _ e3 e4
      rw [z1] at this
      exact Option.some.inj this
    subst hv1
    have hff' : f' = g2 :: pg :: (f1 ++ (fj ++ f2)) := by
      rw [hf, z5]
      simp [Value.ownBlock]
    have hnd' : (g2 :: pg :: (f1 ++ (fj ++ (f2 ++ R)))).Nodup := by
      have h8 := hS.perm.nodup_iff.1 hnd
      rw [hff'] at h8
      simpa [List.append_assoc] using h8
    obtain ⟨a1, a2⟩ := List.nodup_cons.1 hnd'
    obtain ⟨a3, a4⟩ := List.nodup_cons.1 a2
    obtain ⟨b1, b2', b3⟩ := List.nodup_append.1 a4
    obtain ⟨b4, b5, b6⟩ := List.nodup_append.1 b2'
    have hjf : ∀ y ∈ fj, y ∈ f' := fun y hy => by rw [hff']; simp [hy]
    refine key (rs ++ [j]) a b k ts bl x u [u] g st' fj rfl y2 z2 b4 y3 (sub_snoc rs t b2 k2 ts2 j _ x1 x2) x3 (fun wg wc q1 q2 q3 q4 q5 q6 => ⟨fun h2 => by simp at h2, fun _ X Z Tu gu fu hX hbu hAt hfn hff m => ?_⟩)
    have hst2 : 2 ≤ st.length := by rw [y2, y5]; simp
    have hwc : ¬ wc = 1 := by omega
    rw [if_neg hwc]
    have hb2X : Below w1.heap.size w1 X := below_step hb2 hX
    have hbZ : Below w.heap.size w Z := below_but (below_step hb hb2X) hbu (fun y hy => hge y (n4 y (hjf y hy)))
    -- what the level below left alone
    have hkeep : ∀ y, y ∈ fp → y ∉ fj → Z.heap[y]? = w1.heap[y]? := fun y hy hn => by
      have hlt := hA.lt y hy
      rw [hbu.block y (Nat.lt_of_lt_of_le hlt hb2X.size) hn]
      exact hb2X.block y hlt
    have hmm : ∀ y, y ∈ g2 :: pg :: (f1 ++ (f2 ++ R)) → y ∈ fp ∧ y ∉ fj := fun y hy => by
      have hin : y ∈ fp := hS.perm.mem_iff.2 (by
        rw [hff']
        rcases List.mem_cons.1 hy with h | h
        · simp [h]
        · rcases List.mem_cons.1 h with h | h
          · simp [h]
          · rcases List.mem_append.1 h with h | h
            · simp [h]
            · rcases List.mem_append.1 h with h | h <;> simp [h])
      refine ⟨hin, fun hyf => ?_⟩
      rcases List.mem_cons.1 hy with h | h
      · exact a1 (by rw [← h]; simp [hyf])
      · rcases List.mem_cons.1 h with h | h
        · exact a3 (by rw [← h]; simp [hyf])
        · rcases List.mem_append.1 h with h | h
          · exact b3 y h y (by simp [hyf]) rfl
          · exact b6 y hyf y h rfl
    have hk9 : ∀ y, y ∈ g2 :: pg :: (f1 ++ (f2 ++ R)) → (Z.drewN m).heap[y]? = w1.heap[y]? := fun y hy => hkeep y (hmm y hy).1 (hmm y hy).2
    have hwgk : ∀ o, (Z.drewN m).cell? ⟨wg, o, none⟩ = w2.cell? ⟨wg, o, none⟩ := fun o => by
      have h7 : Z.heap[wg]? = w2.heap[wg]? := by
        rw [hbu.block wg (Nat.lt_of_lt_of_le q3 hX.size) (fun e => by have := hA.lt wg (n4 wg (hjf wg e)); omega)]
        exact hX.block wg q3
      exact World.cell?_of_block (w' := Z.drewN m) (w := w2) (a := ⟨wg, o, none⟩) h7
    have hup := q6 1 (g2, j) (by rw [y2, y5]; rfl)
    have htl := length_sizes ts2
    have hz3 : 1 + sizes ts2 ≤ 63 := by
      have : (Tree.split b2 k2 ts2).size ≤ t.size := s3
      change 1 + sizes ts2 ≤ t.size at this
      omega
    have hvl := k4.length
    have hgo := gone_ok (sub_sane (rs ++ [j]) t _ (sub_snoc rs t b2 k2 ts2 j _ x1 x2) hl.sound hl.kinds).1 (sub_sane (rs ++ [j]) t _ (sub_snoc rs t b2 k2 ts2 j _ x1 x2) hl.sound hl.kinds).2.1 x3
    obtain ⟨o1, o2, o3, o4⟩ := gone_one (sub_sane (rs ++ [j]) t _ (sub_snoc rs t b2 k2 ts2 j _ x1 x2) hl.sound hl.kinds).2.1.1 hgo
    have hzs := (sub_sane (rs ++ [j]) t _ (sub_snoc rs t b2 k2 ts2 j _ x1 x2) hl.sound hl.kinds).2.2
    change 1 + sizes ts ≤ t.size at hzs
    have hgr := replace_graft t (.iface T (.pointer (some ⟨g0, 0, none⟩))) fp rs b2 k2 ts2 g2 pg n cap j vs f1 f2 R u (.iface Tu (.pointer (some ⟨gu, 0, none⟩))) fu wg 2 (st.length - 1) (wc - 1) (Z.drewN m)
      (by rw [hwgk]; exact hup.1) (by rw [hwgk]; exact hup.2) (by omega)
      ((hk9 g2 (by simp)).trans k2') (own_kept (by rw [hvn] at k3; exact k3) fun y hy => hk9 y (by
        have : y = pg := by simpa [Value.ownBlock] using hy
        simp [this])) e3 (by omega)
      (z3.keep fun y hy => hk9 y (by simp [hy])) (z4.keep fun y hy => hk9 y (by simp [hy])) k4.one_cell
      (fun W' s' f'' hs' hk' => hS.put W' s' f'' hs' fun y hy => (hk' y hy).trans (hk9 y (by simp [hy])))
      (fun y hy => Nat.lt_of_lt_of_le (hA.lt y (n5 y hy)) (Nat.le_trans hb2X.size hbu.size))
      (hAt.below (below_drewN (Below.refl _ _) m)) o1 (kinds_fine u o2 (by omega)) (by omega)
      (by
        refine List.nodup_cons.2 ⟨fun h => a1 ?_, List.nodup_cons.2 ⟨fun h => a3 ?_, List.nodup_append.2 ⟨b1, List.nodup_append.2 ⟨hfn, b5, fun c1 hc1 c2 hc2 e => b6 c1 (hff c1 hc1) c2 hc2 e⟩, fun c1 hc1 c2 hc2 e => b3 c1 hc1 c2 ?_ e⟩⟩⟩
        · rcases List.mem_cons.1 h with h | h
          · simp [h]
          · rcases List.mem_append.1 h with h | h
            · simp [h]
            · rcases List.mem_append.1 h with h | h
              · simp [hff _ h]
              · rcases List.mem_append.1 h with h | h <;> simp [h]
        · rcases List.mem_append.1 h with h | h
          · simp [h]
          · rcases List.mem_append.1 h with h | h
            · simp [hff _ h]
            · rcases List.mem_append.1 h with h | h <;> simp [h]
        · rcases List.mem_append.1 hc2 with h | h
          · simp [hff _ h]
          · rcases List.mem_append.1 h with h | h <;> simp [h])
      (fun y hy => by
        rcases hy with h | h | h | h | h
        · exact (hmm y (by simp [h])).1
        · exact (hmm y (by simp [h])).1
        · exact (hmm y (by simp [h])).1
        · exact (hmm y (by simp [h])).1
        · exact (hmm y (by simp [h])).1)
    refine hgr.mono ?_
    rintro e Z' ⟨rfl, fp', hA', hn', hin', hbu'⟩
    have hbZm : Below w.heap.size w (Z.drewN m) := below_drewN hbZ m
    refine ⟨T, g0, rfl, fin_end (below_but hbZm hbu' hge) (fun y hy => ?_) hn' hA' hCs hCk hz2⟩
    rcases hin' y hy with h | h | h
    · exact hge y h
    · exact hge y (n4 y (hjf y (hff y h)))
    · exact Nat.le_trans hbZm.size h

theorem cloP_ok (v : Value) (l : List CellV) (q : Int) (w : World) (h : CellsIn w v l) {t t' : Tree} (hF : readF l = some t) {ps : List Nat} (hp : t.path q = some ps) (hC : CloseOk q t ps t') : Calls Try.prog 22 #[v, .int .i64 q] w (Ans2 0 (laidL t') w) := cloP_okT v l q w h hF hp hC.close hC.sound hC.kinds (by have := hC.size; have := lay_size (readF_lay hF); omega)

end Go.Proofs.Ytnepemlagnnngaa
