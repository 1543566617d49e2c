/-
  Binds, the statement's play.
-/
import Derived.Test.YtbonnjilbocldaaGreatDoorIL
import Derived.Deep.DeepCutAuto
namespace Go.Proofs.YtbonnjilbocldaaGreatDoor
open Go.RowKit
set_option linter.unusedVariables false
set_option maxRecDepth 100000

set_option maxHeartbeats 40000000 in
theorem play_any {w : World} (hT : Tabs w) (hw : 5 < w.heap.size) (p1 p2 rep : Int) (ov : Value) (l : List Stp) (hv : SeeS w ov l) (hl : ∀ s ∈ l, s.wf) (hp1 : (Lit.int .i64 p1).wf = true) (hp2 : (Lit.int .i64 p2).wf = true) (hrep : (Lit.int .i64 rep).wf = true) (lo hi : Int) :
    Calls Tryz.prog 6 #[.agg #[.int .i64 p1, .int .i64 p2, .int .i64 rep, ov], .int .i64 lo, .int .i64 hi] w fun r w' => r = .returned (.bool true) ∧ Below w.heap.size w w' := by
  obtain ⟨ad, cp, rfl, hcell⟩ := hv
  obtain ⟨N, hN⟩ : ∃ N, l.length = N := ⟨_, rfl⟩
  rw [hN]
  obtain ⟨W1, hW1⟩ : ∃ W, w.alloc (.cells #[.int .i64 p1, .int .i64 p2, .int .i64 rep, .slice ad N cp] 26) = W := ⟨_, rfl⟩
  obtain ⟨q, hq⟩ : ∃ q, w.heap.size = q := ⟨_, rfl⟩
  have ha1 : W1.heap[q]? = some (.cells #[.int .i64 p1, .int .i64 p2, .int .i64 rep, .slice ad N cp] 26 (0, 0)) := by rw [← hW1, ← hq]; exact heap_alloc_new w _
  have hb1 : Below w.heap.size w W1 := by rw [← hW1]; exact (Below.refl _ _).alloc (Nat.le_refl _) _
  obtain ⟨B, hB⟩ : ∃ B, W1.heap.size = B := ⟨_, rfl⟩
  have hqB : q + 1 = B := by rw [← hB, ← hW1, ← hq]; simp
  have hNw := new_any (hT.below hb1) (by rw [hB, ← hqB, ← hq]; omega)
  rw [hB] at hNw
  have HSu : Hid (∀ Y, Below w.heap.size w Y → Calls Tryz.prog 24 #[] Y fun r w' => r = .returned (.bool true) ∧ Below Y.heap.size Y w') := fun Y hY => sure_any (hT.below hY) (Nat.lt_of_lt_of_le hw hY.size)
  have HCe := hidK hcell
  have HN := hidK hN
  have HL := hidK hl
  have HB1 := hidK hb1
  have HA1 := hidK ha1
  have HQ : Hid (w.heap.size = q ∧ q + 1 = B ∧ W1.heap.size = B) := ⟨hq, hqB, hB⟩
  have HWf : Hid ((Lit.int .i64 p1).wf = true ∧ (Lit.int .i64 p2).wf = true ∧ (Lit.int .i64 rep).wf = true) := ⟨hp1, hp2, hrep⟩
  clear hT hw hcell hN hl hb1 ha1 hqB hB hp1 hp2 hrep
  go_enter Tryz.func6, Tryz.ntmps6
  go_wp2_with fail
  refine hNw.mono ?_
  rintro e W2 ⟨rfl, ht2, hb2⟩
  have HT2 := hidK ht2
  have hsz2 := ht2.lt.1
  have hA2 := (hb2.block q (by have := HQ.out; omega)).trans HA1.out
  have hbw2 : Below w.heap.size w W2 := below_step2 HB1.out hb2 (by have := HQ.out; omega)
  have HX2 : Hid (B + 1 < W2.heap.size ∧ W2.heap[q]? = some (.cells #[.int .i64 p1, .int .i64 p2, .int .i64 rep, .slice ad N cp] 26 (0, 0)) ∧ Below w.heap.size w W2) := ⟨hsz2, hA2, hbw2⟩
  clear ht2 hb2 hNw hW1 hq hsz2 hA2 hbw2
  go_wp2_with fail
  refine (rnew_any (w := W2)).mono ?_
  rintro e W3 ⟨dv, rfl, hse, hb3⟩
  obtain ⟨da, dc, rfl⟩ := hse.shape'
  rw [docL_len] at hse ⊢
  obtain ⟨e, he⟩ : ∃ e, W3.heap.size = e := ⟨_, rfl⟩
  obtain ⟨W4, hW4⟩ : ∃ W, W3.alloc (.cells #[.slice da 60 dc] 33) = W := ⟨_, rfl⟩
  obtain ⟨z, hz⟩ : ∃ z, W4.heap.size = z := ⟨_, rfl⟩
  obtain ⟨W5, hW5⟩ : ∃ W, W4.alloc (.cells #[.string ⟨#[]⟩, .int .i64 0] 36) = W := ⟨_, rfl⟩
  obtain ⟨W6, hW6⟩ : ∃ W, (W5.setCell ⟨z, 0, none⟩ (.string ⟨#[]⟩)).setCell ⟨z, 1, none⟩ (.int .i64 0) = W := ⟨_, rfl⟩
  obtain ⟨x, hx⟩ : ∃ x, W6.heap.size = x := ⟨_, rfl⟩
  obtain ⟨W7, hW7⟩ : ∃ W, W6.alloc (.cells #[.string ⟨#[]⟩, .int .i64 0] 37) = W := ⟨_, rfl⟩
  obtain ⟨W8, hW8⟩ : ∃ W, (W7.setCell ⟨x, 0, none⟩ (.string ⟨#[]⟩)).setCell ⟨x, 1, none⟩ (.int .i64 0) = W := ⟨_, rfl⟩
  have v4 : W4.heap[e]? = some (.cells #[.slice da 60 dc] 33 (0, 0)) := by rw [← hW4, ← he]; exact heap_alloc_new W3 _
  have v5 : W5.heap[z]? = some (.cells #[.string ⟨#[]⟩, .int .i64 0] 36 (0, 0)) := by rw [← hW5, ← hz]; exact heap_alloc_new W4 _
  have v6 : W6.heap[z]? = some (.cells #[.string ⟨#[]⟩, .int .i64 0] 36 (0, 0)) := by rw [← hW6]; exact put_at (put_at v5 0 _) 1 _
  have v7 : W7.heap[x]? = some (.cells #[.string ⟨#[]⟩, .int .i64 0] 37 (0, 0)) := by rw [← hW7, ← hx]; exact heap_alloc_new W6 _
  have v8 : W8.heap[x]? = some (.cells #[.string ⟨#[]⟩, .int .i64 0] 37 (0, 0)) := by rw [← hW8]; exact put_at (put_at v7 0 _) 1 _
  have b34 : Below W3.heap.size W3 W4 := by rw [← hW4]; exact (Below.refl _ _).alloc (Nat.le_refl _) _
  have b46 : Below W4.heap.size W4 W6 := by rw [← hW6, ← hW5, ← hz]; exact (((Below.refl _ _).alloc (Nat.le_refl _) _).setCell (Nat.le_refl _) _).setCell (Nat.le_refl _) _
  have b68 : Below W6.heap.size W6 W8 := by rw [← hW8, ← hW7, ← hx]; exact (((Below.refl _ _).alloc (Nat.le_refl _) _).setCell (Nat.le_refl _) _).setCell (Nat.le_refl _) _
  have b38 := below_step (below_step b34 b46) b68
  have b28 := below_step hb3 b38
  have HP0 : Hid (Pl w W8 q B e z x p1 p2 rep (.slice ad N cp) D0 60 docL da 60 dc ⟨#[]⟩ 0) := by
    have h1 := HX2.out
    have h2 := hb3.size
    have h3 := b34.size
    have h4 := b46.size
    have h5 := HQ.out
    exact ⟨HT2.out.more b28, dc_doc, kp b28 h1.2.1, kp (below_step b46 b68) v4, hse.below b38, kp b68 v6, v8, below_step h1.2.2 b28, by decide, by omega⟩
  have x50 := cell_at v5 0
  have x51 := cell_at v5 1
  have f50 := free_at v5 0
  have f51 := free_at v5 1
  have x70 := cell_at v7 0
  have x71 := cell_at v7 1
  have f70 := free_at v7 0
  have f71 := free_at v7 1
  clear v4 v5 v6 v7 v8 b34 b46 b68 b38 b28 hse hb3
  go_wp2_with fail
  clear x50 x51 f50 f51 x70 x71 f70 f71 hW4 hW5 hW6 hW7 hW8 he hz hx HT2 HX2
  go_loopw [11] (fun iv wr => ∃ (k : Nat) (D : DataW Unit) (L : List Ent) (a : Option Addr) (m c : Nat) (t : ByteArray) (u : Int), k ≤ N ∧ k ≤ 250 ∧ iv = .int .i64 k ∧ Hid (Pl w wr q B e z x p1 p2 rep (.slice ad N cp) D (60 + k) L a m c t u)) (fun iv _ => N - (intOf iv).toNat)
  case atStart => exact ⟨0, D0, docL, da, 60, dc, _, _, Nat.zero_le _, Nat.zero_le _, rfl, HP0⟩
  case round =>
    clear HP0
    obtain ⟨k, D, L, a, m, c, t, u, hk, hk2, rfl, HP⟩ := hrel
    have c3 : wr.cell? ⟨q, 3, none⟩ = some (.slice ad N cp) := cell_at HP.out.cse 3
    obtain ⟨cnd, hcnd⟩ : ∃ c, (decide (k < N) && decide (k < 250)) = c := ⟨_, rfl⟩
    have HC := hidK hcnd
    clear hcnd
    go_upto_region 8 with fail
    go_cut [46] (fun v X => v = .bool cnd ∧ wr = X)
    case first =>
      by_cases q1 : k < N
      · have i1 : (k : Int) < (N : Int) := by omega
        by_cases q2 : k < 250
        · have i2 : (k : Int) < 250 := by omega
          go_wp2_with fail
          go_meet
          case rel => exact ⟨by rw [← HC.out]; simp [q1, q2], rfl⟩
        · have i2 : ¬ (k : Int) < 250 := by omega
          go_wp2_with fail
          go_meet
          case rel => exact ⟨by rw [← HC.out]; simp [q2], rfl⟩
      · have i1 : ¬ (k : Int) < (N : Int) := by omega
        go_wp2_with fail
        go_meet
        case rel => exact ⟨by rw [← HC.out]; simp [q1], rfl⟩
    case rest =>
      obtain ⟨rfl, rfl⟩ := hcut
      cases cnd with
      | false =>
        go_wp2_with fail
        refine (HSu.out _ HP.out.below).mono ?_
        rintro e' Y ⟨rfl, hb⟩
        have HBz := hidK (below_step HP.out.below hb)
        clear hb
        go_wp2_with fail
        go_ret
        exact ⟨rfl, HBz.out⟩
      | true =>
        have hkk : k < N ∧ k < 250 := by have := HC.out; simpa using this
        have hka : k < l.length := by rw [HN.out]; exact hkk.1
        obtain ⟨g, o, rfl, hc⟩ := HCe.out (fun e => by rw [e] at hka; simp at hka)
        have hcs := hc k hka
        have hsw := HL.out _ (List.getElem_mem hka)
        obtain ⟨⟨kd, tik, ⟨st, sc, sm, sr, sl⟩⟩, hst⟩ : ∃ q, l[k] = q := ⟨_, rfl⟩
        rw [hst] at hcs hsw
        have up : ∀ (o : Nat) (v : Value), w.cell? ⟨g, o, none⟩ = some v → wr.cell? ⟨g, o, none⟩ = some v := fun o v h => (HP.out.below.cell (World.block_lt_of_cell? w _ h)).trans h
        have e0 : wr.cell? ⟨g, o + k * 7, none⟩ = some (.int .i64 kd) := up _ _ (hcs 0 _ rfl)
        have e1 : wr.cell? ⟨g, o + k * 7 + 1, none⟩ = some (.int .i64 tik) := up _ _ (hcs 1 _ rfl)
        have e2 : wr.cell? ⟨g, o + k * 7 + 2, none⟩ = some (.string st) := up _ _ (hcs 2 _ rfl)
        have e3 : wr.cell? ⟨g, o + k * 7 + 3, none⟩ = some (.int .i64 sc) := up _ _ (hcs 3 _ rfl)
        have e4 : wr.cell? ⟨g, o + k * 7 + 4, none⟩ = some (.int .i64 sm) := up _ _ (hcs 4 _ rfl)
        have e5 : wr.cell? ⟨g, o + k * 7 + 5, none⟩ = some (.bool sr) := up _ _ (hcs 5 _ rfl)
        have e6 : wr.cell? ⟨g, o + k * 7 + 6, none⟩ = some (.string sl) := up _ _ (hcs 6 _ rfl)
        have i1 : (k : Int) < (N : Int) := by omega
        have i2 : (k : Int) < 250 := by omega
        have HKk : Hid (k + 1 ≤ N ∧ k + 1 ≤ 250) := by show _ ∧ _; omega
        have HSw := hidK hsw
        clear hc hcs hst hsw hka up hkk HC hk hk2 HCe
        obtain ⟨q5, hq5⟩ : ∃ q5, wr.heap.size = q5 := ⟨_, rfl⟩
        obtain ⟨V, hV⟩ : ∃ W, wr.alloc (.cells #[.int .i64 kd, .int .i64 tik, .string st, .int .i64 sc, .int .i64 sm, .bool sr, .string sl] 41) = W := ⟨_, rfl⟩
        have ha5 : V.heap[q5]? = some (.cells #[.int .i64 kd, .int .i64 tik, .string st, .int .i64 sc, .int .i64 sm, .bool sr, .string sl] 41 (0, 0)) := by rw [← hV, ← hq5]; exact heap_alloc_new _ _
        have hb5 : Below wr.heap.size wr V := by rw [← hV]; exact (Below.refl _ _).alloc (Nat.le_refl _) _
        have HP5 := hidK (HP.out.more hb5)
        have HA5 := hidK ha5
        have hq5B : B < q5 := by have h1 := HP.out.tb.lt.1; omega
        have HqB : Hid (B < q5) := hq5B
        have g0 := cell_at ha5 0
        have g1 := cell_at ha5 1
        have g2 := cell_at ha5 2
        have g3 := cell_at ha5 3
        have g4 := cell_at ha5 4
        have g5 := cell_at ha5 5
        have g6 := cell_at ha5 6
        have d0 : V.cell? ⟨e, 0, none⟩ = some (.slice a m c) := cell_at HP5.out.box 0
        clear ha5 hb5 hq5B
        by_cases k1 : kd = 1
        · subst k1
          as_aux_lemma =>
            have HR := rbind_any HP5.out.see HP5.out.dc st sc sm sr sl HSw.out.1 HSw.out.2.1
            obtain ⟨bc, hbc⟩ : ∃ x, bndC D ⟨st, sc, sm, sr, sl⟩ = x := ⟨_, rfl⟩
            have HBc := hidK hbc
            go_wp2_with fail
            refine HR.mono ?_
            rintro e' Y1 ⟨v', rfl, hse, hb⟩
            obtain ⟨xa, xc, rfl⟩ := hse.shape'
            obtain ⟨xn, hxn⟩ : ∃ n, (bndL D L ⟨st, sc, sm, sr, sl⟩).length = n := ⟨_, rfl⟩
            rw [hxn] at hse ⊢
            rw [hbc]
            obtain ⟨q6, hq6⟩ : ∃ x, Y1.heap.size = x := ⟨_, rfl⟩
            obtain ⟨Y2, hY2⟩ : ∃ W, Y1.alloc (.cells #[.slice xa xn xc] 33) = W := ⟨_, rfl⟩
            have hy : Below Y1.heap.size Y1 Y2 := by rw [← hY2]; exact (Below.refl _ _).alloc (Nat.le_refl _) _
            have h6 : Y2.heap[q6]? = some (.cells #[.slice xa xn xc] 33 (0, 0)) := by rw [← hY2, ← hq6]; exact heap_alloc_new _ _
            have hbb := below_step hb hy
            have HP6 := hidK (HP5.out.more hbb)
            have HA6 := hidK (kp hbb HA5.out)
            have H6 := hidK h6
            have HSe := hidK (hse.below hy)
            have Hq6 : Hid (B < q6) := by have h1 := HP5.out.tb.lt.1; have h2 := hb.size; show _ < _; omega
            have HBp := bind_code HP6.out.tb (by have := HKk.out; omega) ⟨st, sc, sm, sr, sl⟩ HSw.out.1 HSw.out.2.1
            rw [hbc] at HBp
            clear hse hxn hb hy h6 hbb hbc HR hV hq5
            clear g0 g1 g2 g3 g4 g5 g6 d0
            have g0 : Y2.cell? ⟨q5, 0, none⟩ = some (.int .i64 1) := cell_at HA6.out 0
            have g1 : Y2.cell? ⟨q5, 1, none⟩ = some (.int .i64 tik) := cell_at HA6.out 1
            have g2 : Y2.cell? ⟨q5, 2, none⟩ = some (.string st) := cell_at HA6.out 2
            have g3 : Y2.cell? ⟨q5, 3, none⟩ = some (.int .i64 sc) := cell_at HA6.out 3
            have g4 : Y2.cell? ⟨q5, 4, none⟩ = some (.int .i64 sm) := cell_at HA6.out 4
            have g5 : Y2.cell? ⟨q5, 5, none⟩ = some (.bool sr) := cell_at HA6.out 5
            have g6 : Y2.cell? ⟨q5, 6, none⟩ = some (.string sl) := cell_at HA6.out 6
            go_wp2_with fail
            refine HBp.mono ?_
            rintro e' Y3 ⟨rfl, htn⟩
            have y6 := cell_at ((htn.but.block q6 (lt_block H6.out) (by have := Hq6.out; simp; omega)).trans H6.out) 0
            have hbx := (htn.but.block e (lt_block HP6.out.box) (by have := HP6.out.lo; simp; omega)).trans HP6.out.box
            have ye := cell_at hbx 0
            have fe := free_at hbx 0
            have HPn : Hid (Pl w (Y3.setCell ⟨e, 0, none⟩ (.slice xa xn xc)) q B e z x p1 p2 rep (.slice (some ⟨g, o, none⟩) N cp) _ (60 + (k + 1)) _ xa xn xc t u) := (HP6.out.turn htn (HP6.out.dc.bnd (e := ⟨st, sc, sm, sr, sl⟩) HSw.out.1) HSe.out)
            clear htn hbx HBp hY2 hq6
            go_wp2_with fail
            refine (num_any _ _).mono ?_
            rintro e' Y4 ⟨rfl, h4⟩
            subst h4
            go_wp2_with fail
            exact ⟨⟨k + 1, _, _, _, _, _, _, _, HKk.out.1, HKk.out.2, by first | rfl | simp, HPn⟩, by have := HKk.out; simp [intOf]; omega⟩
        · have j1 : (kd == 1) = false := by simpa using k1
          by_cases k2 : kd = 2
          · subst k2
            as_aux_lemma =>
              have HR := runbind_any HP5.out.see HP5.out.dc st sc sm HSw.out.1
              obtain ⟨bc, hbc⟩ : ∃ x, (if Maps.has D (Ent.k ⟨st, sc, sm, false, ⟨#[]⟩⟩) then (0 : Int) else 220) = x := ⟨_, rfl⟩
              have HBc := hidK hbc
              go_wp2_with fail
              refine HR.mono ?_
              rintro e' Y1 ⟨v', rfl, hse, hb⟩
              obtain ⟨xa, xc, rfl⟩ := hse.shape'
              obtain ⟨xn, hxn⟩ : ∃ n, (unbL D L ⟨st, sc, sm, false, ⟨#[]⟩⟩).length = n := ⟨_, rfl⟩
              rw [hxn] at hse ⊢
              rw [hbc]
              obtain ⟨q6, hq6⟩ : ∃ x, Y1.heap.size = x := ⟨_, rfl⟩
              obtain ⟨Y2, hY2⟩ : ∃ W, Y1.alloc (.cells #[.slice xa xn xc] 33) = W := ⟨_, rfl⟩
              have hy : Below Y1.heap.size Y1 Y2 := by rw [← hY2]; exact (Below.refl _ _).alloc (Nat.le_refl _) _
              have h6 : Y2.heap[q6]? = some (.cells #[.slice xa xn xc] 33 (0, 0)) := by rw [← hY2, ← hq6]; exact heap_alloc_new _ _
              have hbb := below_step hb hy
              have HP6 := hidK (HP5.out.more hbb)
              have HA6 := hidK (kp hbb HA5.out)
              have H6 := hidK h6
              have HSe := hidK (hse.below hy)
              have Hq6 : Hid (B < q6) := by have h1 := HP5.out.tb.lt.1; have h2 := hb.size; show _ < _; omega
              have HBp := unbind_code HP6.out.tb ⟨st, sc, sm, false, ⟨#[]⟩⟩ HSw.out.1
              rw [hbc] at HBp
              clear hse hxn hb hy h6 hbb hbc HR hV hq5
              clear g0 g1 g2 g3 g4 g5 g6 d0
              have g0 : Y2.cell? ⟨q5, 0, none⟩ = some (.int .i64 2) := cell_at HA6.out 0
              have g1 : Y2.cell? ⟨q5, 1, none⟩ = some (.int .i64 tik) := cell_at HA6.out 1
              have g2 : Y2.cell? ⟨q5, 2, none⟩ = some (.string st) := cell_at HA6.out 2
              have g3 : Y2.cell? ⟨q5, 3, none⟩ = some (.int .i64 sc) := cell_at HA6.out 3
              have g4 : Y2.cell? ⟨q5, 4, none⟩ = some (.int .i64 sm) := cell_at HA6.out 4
              have g5 : Y2.cell? ⟨q5, 5, none⟩ = some (.bool sr) := cell_at HA6.out 5
              have g6 : Y2.cell? ⟨q5, 6, none⟩ = some (.string sl) := cell_at HA6.out 6
              go_wp2_with fail
              refine HBp.mono ?_
              rintro e' Y3 ⟨rfl, htn⟩
              have y6 := cell_at ((htn.but.block q6 (lt_block H6.out) (by have := Hq6.out; simp; omega)).trans H6.out) 0
              have hbx := (htn.but.block e (lt_block HP6.out.box) (by have := HP6.out.lo; simp; omega)).trans HP6.out.box
              have ye := cell_at hbx 0
              have fe := free_at hbx 0
              have HPn : Hid (Pl w (Y3.setCell ⟨e, 0, none⟩ (.slice xa xn xc)) q B e z x p1 p2 rep (.slice (some ⟨g, o, none⟩) N cp) _ (60 + (k + 1)) _ xa xn xc t u) := (HP6.out.turn htn (HP6.out.dc.unb (e := ⟨st, sc, sm, false, ⟨#[]⟩⟩) HSw.out.1) HSe.out)
              clear htn hbx HBp hY2 hq6
              go_wp2_with fail
              refine (num_any _ _).mono ?_
              rintro e' Y4 ⟨rfl, h4⟩
              subst h4
              go_wp2_with fail
              exact ⟨⟨k + 1, _, _, _, _, _, _, _, HKk.out.1, HKk.out.2, by first | rfl | simp, HPn⟩, by have := HKk.out; simp [intOf]; omega⟩
          · have j2 : (kd == 2) = false := by simpa using k2
            by_cases k3 : kd = 3
            · subst k3
              as_aux_lemma =>
                have HF1 := find_any HP5.out.tb st sc sm HSw.out.1.1 HSw.out.1.2.1 HSw.out.1.2.2
                go_wp2_with fail
                refine HF1.mono ?_
                rintro e' Y1 ⟨⟨fs, fr, hat, rfl⟩, hb⟩
                obtain ⟨⟨ft, fc, fm, hfv⟩, -⟩ := fnd_val hat
                have HAt := hidK hat
                obtain ⟨has, hhas⟩ : ∃ b, Maps.has D (slotK st.data.toList sc sm) = b := ⟨_, rfl⟩
                rw [hhas] at hfv ⊢
                rw [hfv]
                have HFv := hidK hfv
                have HHs := hidK hhas
                obtain ⟨q6, hq6⟩ : ∃ x, Y1.heap.size = x := ⟨_, rfl⟩
                obtain ⟨Y2, hY2⟩ : ∃ W, Y1.alloc (.cells #[.string ft, .int .i64 fc, .int .i64 fm, .bool fr, .string fs] 39) = W := ⟨_, rfl⟩
                have hy : Below Y1.heap.size Y1 Y2 := by rw [← hY2]; exact (Below.refl _ _).alloc (Nat.le_refl _) _
                have h6 : Y2.heap[q6]? = some (.cells #[.string ft, .int .i64 fc, .int .i64 fm, .bool fr, .string fs] 39 (0, 0)) := by rw [← hY2, ← hq6]; exact heap_alloc_new _ _
                have hbb := below_step hb hy
                have HP6 := hidK (HP5.out.more hbb)
                have HA6 := hidK (kp hbb HA5.out)
                have H6 := hidK h6
                have HF2 := rfind_any HP6.out.see HP6.out.dc st sc sm HSw.out.1
                clear hat hhas hfv hb hy h6 hbb HF1 hV hq5
                clear g0 g1 g2 g3 g4 g5 g6 d0
                have g0 : Y2.cell? ⟨q5, 0, none⟩ = some (.int .i64 3) := cell_at HA6.out 0
                have g1 : Y2.cell? ⟨q5, 1, none⟩ = some (.int .i64 tik) := cell_at HA6.out 1
                have g2 : Y2.cell? ⟨q5, 2, none⟩ = some (.string st) := cell_at HA6.out 2
                have g3 : Y2.cell? ⟨q5, 3, none⟩ = some (.int .i64 sc) := cell_at HA6.out 3
                have g4 : Y2.cell? ⟨q5, 4, none⟩ = some (.int .i64 sm) := cell_at HA6.out 4
                have g5 : Y2.cell? ⟨q5, 5, none⟩ = some (.bool sr) := cell_at HA6.out 5
                have g6 : Y2.cell? ⟨q5, 6, none⟩ = some (.string sl) := cell_at HA6.out 6
                have d0 : Y2.cell? ⟨e, 0, none⟩ = some (.slice a m c) := cell_at HP6.out.box 0
                go_wp2_with fail
                refine HF2.mono ?_
                rintro e' Y3 ⟨⟨fs2, fr2, hat2, rfl⟩, hb3⟩
                obtain ⟨e5, e6⟩ := meanD_inj (hat2.symm.trans HAt.out)
                subst e5 e6
                rw [HHs.out, HFv.out]
                obtain ⟨q7, hq7⟩ : ∃ x, Y3.heap.size = x := ⟨_, rfl⟩
                obtain ⟨Y4, hY4⟩ : ∃ W, Y3.alloc (.cells #[.string ft, .int .i64 fc, .int .i64 fm, .bool fr2, .string fs2] 39) = W := ⟨_, rfl⟩
                have hy : Below Y3.heap.size Y3 Y4 := by rw [← hY4]; exact (Below.refl _ _).alloc (Nat.le_refl _) _
                have h7 : Y4.heap[q7]? = some (.cells #[.string ft, .int .i64 fc, .int .i64 fm, .bool fr2, .string fs2] 39 (0, 0)) := by rw [← hY4, ← hq7]; exact heap_alloc_new _ _
                have hbb := below_step hb3 hy
                have HPn : Hid (Pl w Y4 q B e z x p1 p2 rep (.slice (some ⟨g, o, none⟩) N cp) D (60 + (k + 1)) L a m c t u) := (HP6.out.more hbb).mono (by omega)
                have hx6 := kp hbb H6.out
                have m0 := cell_at hx6 0
                have m1 := cell_at hx6 1
                have m2 := cell_at hx6 2
                have m3 := cell_at hx6 3
                have m4 := cell_at hx6 4
                have n0 := cell_at h7 0
                have n1 := cell_at h7 1
                have n2 := cell_at h7 2
                have n3 := cell_at h7 3
                have n4 := cell_at h7 4
                clear hat2 hb3 hy h7 hbb hx6 HF2 hY2 hq6
                clear g0 g1 g2 g3 g4 g5 g6 d0
                go_wp2_with fail
                exact ⟨⟨k + 1, _, _, _, _, _, _, _, HKk.out.1, HKk.out.2, by first | rfl | simp, HPn⟩, by have := HKk.out; simp [intOf]; omega⟩
            · have j3 : (kd == 3) = false := by simpa using k3
              by_cases k4 : kd = 4
              · subst k4
                as_aux_lemma =>
                  have HL1 := list_own HP5.out.tb HP5.out.dc.is.ok st HSw.out.1.1
                  go_wp2_with fail
                  refine HL1.mono ?_
                  rintro e' Y1 ⟨v1, l1, rfl, hl1, ho1, hb⟩
                  obtain ⟨a1, c1, rfl⟩ := ho1.slice
                  have HP6 := hidK (HP5.out.more hb)
                  have HA6 := hidK (kp hb HA5.out)
                  have HBa := hidK hb
                  have HL := hidK hl1
                  have HO := hidK ho1
                  have HL2 := rlist_any HP6.out.see HP6.out.dc st
                  clear hl1 ho1 hb HL1 hV hq5
                  clear g0 g1 g2 g3 g4 g5 g6 d0
                  have g0 : Y1.cell? ⟨q5, 0, none⟩ = some (.int .i64 4) := cell_at HA6.out 0
                  have g1 : Y1.cell? ⟨q5, 1, none⟩ = some (.int .i64 tik) := cell_at HA6.out 1
                  have g2 : Y1.cell? ⟨q5, 2, none⟩ = some (.string st) := cell_at HA6.out 2
                  have g3 : Y1.cell? ⟨q5, 3, none⟩ = some (.int .i64 sc) := cell_at HA6.out 3
                  have g4 : Y1.cell? ⟨q5, 4, none⟩ = some (.int .i64 sm) := cell_at HA6.out 4
                  have g5 : Y1.cell? ⟨q5, 5, none⟩ = some (.bool sr) := cell_at HA6.out 5
                  have g6 : Y1.cell? ⟨q5, 6, none⟩ = some (.string sl) := cell_at HA6.out 6
                  have d0 : Y1.cell? ⟨e, 0, none⟩ = some (.slice a m c) := cell_at HP6.out.box 0
                  go_wp2_with fail
                  refine HL2.mono ?_
                  rintro e' Y2 ⟨v2, l2, rfl, hl2, hs2, hb2⟩
                  have hll := HL.out.one hl2
                  subst hll
                  have HLn : Hid (l1.length ≤ 200) := HL.out.len HP6.out.dc.is.ok
                  have HSm := same_any (HO.out.see.below hb2) hs2 (by have := HLn.out; omega) (by have := HLn.out; omega)
                  have HBb := hidK (below_step HBa.out hb2)
                  have HO2 := hidK (HO.out.below hb2)
                  clear hl2 hs2 hb2 HL2
                  clear g0 g1 g2 g3 g4 g5 g6 d0
                  go_wp2_with fail
                  refine HSm.mono ?_
                  rintro e' Y3 ⟨⟨zz, rfl, hzz⟩, hb3⟩
                  have hz1 : zz = true := by first | exact hzz.2 rfl | exact hzz.2 trivial
                  subst hz1
                  obtain ⟨n1, hn1⟩ : ∃ n, l1.length = n := ⟨_, rfl⟩
                  have HB3 : Hid (Below V.heap.size V Y3) := below_step HBb.out hb3
                  have HO3 := hidK (HO2.out.below hb3)
                  have i7 : (n1 : Int) ≤ 200 := by have := HLn.out; omega
                  have HN1 : Hid (l1.length = n1) := hn1
                  rw [hn1] at HO3 ⊢
                  clear hzz hb3 HSm hn1 HO HO2 HBa HBb
                  go_wp2_with fail
                  go_loopw [23] (fun iv Y => ∃ (i : Nat) (l' : List Ent), i ≤ n1 ∧ iv = .int .i64 i ∧ Hid (EntsAt Y (V.heap.size + 1) (.slice a1 n1 c1) l' ∧ Below V.heap.size V Y)) (fun iv _ => n1 - (intOf iv).toNat)
                  case atStart => exact ⟨0, l1, Nat.zero_le _, rfl, HO3.out, HB3.out⟩
                  case round =>
                    obtain ⟨i, l', hi, rfl, HR⟩ := hrel
                    by_cases hin : i < n1
                    · have i8 : (i : Int) < (n1 : Int) := by omega
                      obtain ⟨gb, rfl⟩ := HR.out.1.own (by omega)
                      have hln := HR.out.1.len
                      obtain ⟨x0, x1, x2, x3, x4⟩ := HR.out.1.at5 (j := i) (by omega) rfl
                      have y0 := HR.out.1.free (i * 5)
                      have y1 := HR.out.1.free (i * 5 + 1)
                      have y2 := HR.out.1.free (i * 5 + 2)
                      have y3 := HR.out.1.free (i * 5 + 3)
                      have y4 := HR.out.1.free (i * 5 + 4)
                      have hgb : V.heap.size + 1 ≤ gb := (HR.out.1.blk rfl).1
                      have HR2 : Hid (EntsAt (wr.setCells gb (i * 5) (encE ⟨⟨#[]⟩, 0, 0, false, ⟨#[115, 112, 111, 105, 108, 116]⟩⟩)) (V.heap.size + 1) (.slice (some ⟨gb, 0, none⟩) n1 c1) (l'.set i ⟨⟨#[]⟩, 0, 0, false, ⟨#[115, 112, 111, 105, 108, 116]⟩⟩) ∧ Below V.heap.size V (wr.setCells gb (i * 5) (encE ⟨⟨#[]⟩, 0, 0, false, ⟨#[115, 112, 111, 105, 108, 116]⟩⟩))) := ⟨HR.out.1.put5 i (by omega) _, below_sets (by omega) _ _ HR.out.2⟩
                      clear hgb
                      go_wp2_with fail
                      go_roundw
                      case rel => exact ⟨i + 1, _, by omega, by first | rfl | go_num, HR2⟩
                      case measure => simp [intOf]; omega
                    · obtain rfl : i = n1 := by omega
                      have HPn : Hid (Pl w wr q B e z x p1 p2 rep (.slice (some ⟨g, o, none⟩) N cp) D (60 + (k + 1)) L a m c t u) := (HP5.out.more HR.out.2).mono (by omega)
                      go_wp2_with fail
                      exact ⟨⟨k + 1, _, _, _, _, _, _, _, HKk.out.1, HKk.out.2, by first | rfl | simp, HPn⟩, by have := HKk.out; simp [intOf]; omega⟩
              · have j4 : (kd == 4) = false := by simpa using k4
                by_cases k5 : kd = 5
                · subst k5
                  as_aux_lemma =>
                    have HL1 := names_own HP5.out.tb HP5.out.dc.is.ok
                    go_wp2_with fail
                    refine HL1.mono ?_
                    rintro e' Y1 ⟨v1, l1, rfl, hl1, hfew, ho1, hb⟩
                    obtain ⟨a1, c1, rfl⟩ := ho1.slice
                    have HP6 := hidK (HP5.out.more hb)
                    have HA6 := hidK (kp hb HA5.out)
                    have HBa := hidK hb
                    have HL := hidK hl1
                    have HO := hidK ho1
                    have HLn : Hid (l1.length ≤ 200) := hfew
                    have HL2 := rnames_any HP6.out.see HP6.out.dc
                    clear hl1 ho1 hb HL1 hV hq5 hfew
                    clear g0 g1 g2 g3 g4 g5 g6 d0
                    have g0 : Y1.cell? ⟨q5, 0, none⟩ = some (.int .i64 5) := cell_at HA6.out 0
                    have g1 : Y1.cell? ⟨q5, 1, none⟩ = some (.int .i64 tik) := cell_at HA6.out 1
                    have g2 : Y1.cell? ⟨q5, 2, none⟩ = some (.string st) := cell_at HA6.out 2
                    have g3 : Y1.cell? ⟨q5, 3, none⟩ = some (.int .i64 sc) := cell_at HA6.out 3
                    have g4 : Y1.cell? ⟨q5, 4, none⟩ = some (.int .i64 sm) := cell_at HA6.out 4
                    have g5 : Y1.cell? ⟨q5, 5, none⟩ = some (.bool sr) := cell_at HA6.out 5
                    have g6 : Y1.cell? ⟨q5, 6, none⟩ = some (.string sl) := cell_at HA6.out 6
                    have d0 : Y1.cell? ⟨e, 0, none⟩ = some (.slice a m c) := cell_at HP6.out.box 0
                    go_wp2_with fail
                    refine HL2.mono ?_
                    rintro e' Y2 ⟨v2, l2, rfl, hl2, hs2, hb2⟩
                    have hll := HL.out.one hl2
                    subst hll
                    have HSm := sameTexts_any (HO.out.see.below hb2) hs2 HLn.out
                    have HBb := hidK (below_step HBa.out hb2)
                    have HO2 := hidK (HO.out.below hb2)
                    clear hl2 hs2 hb2 HL2
                    clear g0 g1 g2 g3 g4 g5 g6 d0
                    go_wp2_with fail
                    refine HSm.mono ?_
                    rintro e' Y3 ⟨rfl, hb3⟩
                    obtain ⟨n1, hn1⟩ : ∃ n, l1.length = n := ⟨_, rfl⟩
                    have HB3 : Hid (Below V.heap.size V Y3) := below_step HBb.out hb3
                    have HO3 := hidK (HO2.out.below hb3)
                    have i7 : (n1 : Int) ≤ 200 := by have := HLn.out; omega
                    rw [hn1] at HO3 ⊢
                    clear hb3 HSm hn1 HO HO2 HBa HBb
                    go_wp2_with fail
                    go_loopw [25] (fun iv Y => ∃ (i : Nat) (l' : List ByteArray), i ≤ n1 ∧ iv = .int .i64 i ∧ Hid (NamsAt Y (V.heap.size + 1) (.slice a1 n1 c1) l' ∧ Below V.heap.size V Y)) (fun iv _ => n1 - (intOf iv).toNat)
                    case atStart => exact ⟨0, l1, Nat.zero_le _, rfl, HO3.out, HB3.out⟩
                    case round =>
                      obtain ⟨i, l', hi, rfl, HR⟩ := hrel
                      by_cases hin : i < n1
                      · have i8 : (i : Int) < (n1 : Int) := by omega
                        obtain ⟨hln, gb, rfl⟩ := HR.out.1.own1 (by omega)
                        obtain ⟨x0, y0, hgb⟩ := HR.out.1.at1 (j := i) (by omega)
                        have HR2 : Hid (NamsAt (wr.setCell ⟨gb, i, none⟩ (.string ⟨#[115, 112, 111, 105, 108, 116]⟩)) (V.heap.size + 1) (.slice (some ⟨gb, 0, none⟩) n1 c1) (l'.set i ⟨#[115, 112, 111, 105, 108, 116]⟩) ∧ Below V.heap.size V (wr.setCell ⟨gb, i, none⟩ (.string ⟨#[115, 112, 111, 105, 108, 116]⟩))) := ⟨HR.out.1.put1 i _, HR.out.2.setCell (by simp; omega) _⟩
                        clear hgb
                        go_wp2_with fail
                        go_roundw
                        case rel => exact ⟨i + 1, _, by omega, by first | rfl | go_num, HR2⟩
                        case measure => simp [intOf]; omega
                      · obtain rfl : i = n1 := by omega
                        have HPn : Hid (Pl w wr q B e z x p1 p2 rep (.slice (some ⟨g, o, none⟩) N cp) D (60 + (k + 1)) L a m c t u) := (HP5.out.more HR.out.2).mono (by omega)
                        go_wp2_with fail
                        exact ⟨⟨k + 1, _, _, _, _, _, _, _, HKk.out.1, HKk.out.2, by first | rfl | simp, HPn⟩, by have := HKk.out; simp [intOf]; omega⟩
                · have j5 : (kd == 5) = false := by simpa using k5
                  by_cases k6 : kd = 6
                  · subst k6
                    as_aux_lemma =>
                      clear d0
                      have z0 : V.cell? ⟨z, 0, none⟩ = some (.string t) := cell_at HP5.out.wbx 0
                      have z1 : V.cell? ⟨z, 1, none⟩ = some (.int .i64 u) := cell_at HP5.out.wbx 1
                      have x0 : V.cell? ⟨x, 0, none⟩ = some (.string t) := cell_at HP5.out.xbx 0
                      have x1 : V.cell? ⟨x, 1, none⟩ = some (.int .i64 u) := cell_at HP5.out.xbx 1
                      have q0 : V.cell? ⟨q, 0, none⟩ = some (.int .i64 p1) := cell_at HP5.out.cse 0
                      have q1 : V.cell? ⟨q, 1, none⟩ = some (.int .i64 p2) := cell_at HP5.out.cse 1
                      have q2 : V.cell? ⟨q, 2, none⟩ = some (.int .i64 rep) := cell_at HP5.out.cse 2
                      have d0 : V.cell? ⟨e, 0, none⟩ = some (.slice a m c) := cell_at HP5.out.box 0
                      obtain ⟨xt, xu, ln, pn, hpr⟩ := press_is D t u p1 p2 sc sm tik rep
                      have HPr := press_any HP5.out.tb t u p1 p2 sc sm tik rep (by have := HP5.out.small; omega) HSw.out.1.2.1 HSw.out.1.2.2 HSw.out.2.2.2 HWf.out.2.2
                      rw [hpr.eq] at HPr
                      have HPx := hidK hpr
                      clear hpr
                      go_wp2_with fail
                      refine HPr.mono ?_
                      rintro e' Y1 ⟨rfl, hb⟩
                      obtain ⟨q6, hq6⟩ : ∃ x, Y1.heap.size = x := ⟨_, rfl⟩
                      obtain ⟨Y2, hY2⟩ : ∃ W, Y1.alloc (.cells #[.string xt, .int .i64 xu] 36) = W := ⟨_, rfl⟩
                      have hy : Below Y1.heap.size Y1 Y2 := by rw [← hY2]; exact (Below.refl _ _).alloc (Nat.le_refl _) _
                      have h6 : Y2.heap[q6]? = some (.cells #[.string xt, .int .i64 xu] 36 (0, 0)) := by rw [← hY2, ← hq6]; exact heap_alloc_new _ _
                      have hbb := below_step hb hy
                      have HP6 := hidK (HP5.out.more hbb)
                      have HA6 := hidK (kp hbb HA5.out)
                      have H6 := hidK h6
                      have HRr := rpress_any HP6.out.see HP6.out.dc t u p1 p2 sc sm tik rep (by have := HP6.out.small; omega) HSw.out.1.2.1 HSw.out.1.2.2 HSw.out.2.2.2 HWf.out.2.2
                      unfold walkV at HRr
                      clear hb hy h6 hbb HPr hV hq5
                      clear z0 z1 x0 x1 q0 q1 q2
                      clear g0 g1 g2 g3 g4 g5 g6 d0
                      have g0 : Y2.cell? ⟨q5, 0, none⟩ = some (.int .i64 6) := cell_at HA6.out 0
                      have g1 : Y2.cell? ⟨q5, 1, none⟩ = some (.int .i64 tik) := cell_at HA6.out 1
                      have g2 : Y2.cell? ⟨q5, 2, none⟩ = some (.string st) := cell_at HA6.out 2
                      have g3 : Y2.cell? ⟨q5, 3, none⟩ = some (.int .i64 sc) := cell_at HA6.out 3
                      have g4 : Y2.cell? ⟨q5, 4, none⟩ = some (.int .i64 sm) := cell_at HA6.out 4
                      have g5 : Y2.cell? ⟨q5, 5, none⟩ = some (.bool sr) := cell_at HA6.out 5
                      have g6 : Y2.cell? ⟨q5, 6, none⟩ = some (.string sl) := cell_at HA6.out 6
                      have z0 : Y2.cell? ⟨z, 0, none⟩ = some (.string t) := cell_at HP6.out.wbx 0
                      have z1 : Y2.cell? ⟨z, 1, none⟩ = some (.int .i64 u) := cell_at HP6.out.wbx 1
                      have x0 : Y2.cell? ⟨x, 0, none⟩ = some (.string t) := cell_at HP6.out.xbx 0
                      have x1 : Y2.cell? ⟨x, 1, none⟩ = some (.int .i64 u) := cell_at HP6.out.xbx 1
                      have q0 : Y2.cell? ⟨q, 0, none⟩ = some (.int .i64 p1) := cell_at HP6.out.cse 0
                      have q1 : Y2.cell? ⟨q, 1, none⟩ = some (.int .i64 p2) := cell_at HP6.out.cse 1
                      have q2 : Y2.cell? ⟨q, 2, none⟩ = some (.int .i64 rep) := cell_at HP6.out.cse 2
                      have d0 : Y2.cell? ⟨e, 0, none⟩ = some (.slice a m c) := cell_at HP6.out.box 0
                      go_wp2_with fail
                      refine HRr.mono ?_
                      rintro e' Y3 ⟨rfl, hb3⟩
                      rw [HPx.out.eq]
                      obtain ⟨q7, hq7⟩ : ∃ x, Y3.heap.size = x := ⟨_, rfl⟩
                      obtain ⟨Y4, hY4⟩ : ∃ W, Y3.alloc (.cells #[.string xt, .int .i64 xu] 37) = W := ⟨_, rfl⟩
                      have hy : Below Y3.heap.size Y3 Y4 := by rw [← hY4]; exact (Below.refl _ _).alloc (Nat.le_refl _) _
                      have h7 : Y4.heap[q7]? = some (.cells #[.string xt, .int .i64 xu] 37 (0, 0)) := by rw [← hY4, ← hq7]; exact heap_alloc_new _ _
                      have hbb := below_step hb3 hy
                      have HP7 := hidK (HP6.out.more hbb)
                      have hx6 := kp hbb H6.out
                      have m0 := cell_at hx6 0
                      have m1 := cell_at hx6 1
                      have n0 := cell_at h7 0
                      have n1 := cell_at h7 1
                      have zz0 := cell_at HP7.out.wbx 0
                      have zz1 := cell_at HP7.out.wbx 1
                      have xx0 := cell_at HP7.out.xbx 0
                      have xx1 := cell_at HP7.out.xbx 1
                      have zf0 := free_at HP7.out.wbx 0
                      have zf1 := free_at HP7.out.wbx 1
                      have xf0 := free_at HP7.out.xbx 0
                      have xf1 := free_at HP7.out.xbx 1
                      have nzx : ¬ z = x := kind_ne HP7.out.wbx HP7.out.xbx (by decide)
                      have nxz : ¬ x = z := fun h => nzx h.symm
                      have nz7 : ¬ z = q7 := kind_ne HP7.out.wbx h7 (by decide)
                      have n7z : ¬ q7 = z := fun h => nz7 h.symm
                      have n6x : ¬ q6 = x := kind_ne hx6 HP7.out.xbx (by decide)
                      have nx6 : ¬ x = q6 := fun h => n6x h.symm
                      have HBo := hidK (HP7.out.both (t' := xt) (u' := xu) HPx.out.small)
                      clear hb3 hy h7 hbb hx6 HRr hY2 hq6
                      clear z0 z1 x0 x1 q0 q1 q2
                      clear g0 g1 g2 g3 g4 g5 g6 d0
                      go_wp2_with fail
                      go_region
                      all_goals (
                        refine gen_exitB (fun Y => Pl w Y q B e z x p1 p2 rep (.slice (some ⟨g, o, none⟩) N cp) D (60 + k) L a m c xt xu) (by first | exact HBo.out.1 | exact HBo.out.2 | exact HBo.out.1.more (Below.drew (Below.refl _ _)) | exact HBo.out.2.more (Below.drew (Below.refl _ _))) ?_
                        intro Y hY
                        have HPn : Hid (Pl w Y q B e z x p1 p2 rep (.slice (some ⟨g, o, none⟩) N cp) D (60 + (k + 1)) L a m c xt xu) := hY.mono (by omega)
                        clear hY
                        go_wp2_with fail
                        exact ⟨⟨k + 1, _, _, _, _, _, _, _, HKk.out.1, HKk.out.2, by first | rfl | simp, HPn⟩, by have := HKk.out; simp [intOf]; omega⟩)
                  · have j6 : (kd == 6) = false := by simpa using k6
                    have HPn : Hid (Pl w V q B e z x p1 p2 rep (.slice (some ⟨g, o, none⟩) N cp) D (60 + (k + 1)) L a m c t u) := HP5.out.mono (by omega)
                    go_wp2_with fail
                    exact ⟨⟨k + 1, _, _, _, _, _, _, _, HKk.out.1, HKk.out.2, by first | rfl | simp, HPn⟩, by have := HKk.out; simp [intOf]; omega⟩
end Go.Proofs.YtbonnjilbocldaaGreatDoor
