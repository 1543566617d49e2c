/-
  Binds: the pane's law.
-/
import Derived.Test.YtbonnjilbocldaaDoorBPaA
namespace Go.Proofs.YtbonnjilbocldaaDoor
open Go.RowKit
set_option linter.unusedVariables false
set_option maxRecDepth 100000

/-- Steps that can be read. -/
def SeeS (w : World) (v : Value) (l : List Stp) : Prop := ∃ ad cp, v = .slice ad l.length cp ∧ (l ≠ [] → ∃ g o, ad = some ⟨g, o, none⟩ ∧ ∀ j (hj : j < l.length) (c : Nat) u, (encS l[j])[c]? = some u → w.cell? ⟨g, o + j * 7 + c, none⟩ = some u)
theorem SeeS.below {w w' : World} {v : Value} {l : List Stp} (h : SeeS w v l) (hb : Below w.heap.size w w') : SeeS w' v l := by
  obtain ⟨a, c, rfl, hc⟩ := h
  refine ⟨a, c, rfl, fun hne => ?_⟩
  obtain ⟨g, o, rfl, hcell⟩ := hc hne
  refine ⟨g, o, rfl, fun j hj c u hu => ?_⟩
  have h1 := hcell j hj c u hu
  exact (hb.cell (World.block_lt_of_cell? w _ h1)).trans h1
/-- The tables, the Case and the Walk behind some steps. -/
structure Pn (w wr : World) (q B z : Nat) (p1 p2 rep : Int) (ov : Value) (D : DataW Unit) (n : Nat) (t : ByteArray) (u : Int) : Prop where
  tb : Tb wr (B + 1) B n D
  ok : Ok D
  cse : wr.heap[q]? = some (.cells #[.int .i64 p1, .int .i64 p2, .int .i64 rep, ov] 26 (0, 0))
  box : wr.heap[z]? = some (.cells #[.string t, .int .i64 u] 42 (0, 0))
  below : Below w.heap.size w wr
  small : t.size ≤ 6
  lo : w.heap.size ≤ q ∧ q < B ∧ B + 1 < z
theorem Pn.more {w wr Y : World} {q B z : Nat} {p1 p2 rep : Int} {ov : Value} {D : DataW Unit} {n : Nat} {t : ByteArray} {u : Int} (h : Pn w wr q B z p1 p2 rep ov D n t u) (hb : Below wr.heap.size wr Y) : Pn w Y q B z p1 p2 rep ov D n t u :=
  ⟨h.tb.more hb, h.ok, (hb.block q (lt_block h.cse)).trans h.cse, (hb.block z (lt_block h.box)).trans h.box, below_step h.below hb, h.small, h.lo⟩
theorem Pn.step {w wr Y : World} {q B z : Nat} {p1 p2 rep : Int} {ov : Value} {D D' : DataW Unit} {n n' : Nat} {t : ByteArray} {u : Int} (h : Pn w wr q B z p1 p2 rep ov D n t u) (ht : Tn wr Y (B + 1) B n' D') (ho : Ok D') : Pn w Y q B z p1 p2 rep ov D' n' t u := by
  have hlo := h.lo
  exact ⟨ht.tb, ho, (ht.but.block q (lt_block h.cse) (by simp; omega)).trans h.cse, (ht.but.block z (lt_block h.box) (by simp; omega)).trans h.box, ht.below h.below (by omega), h.small, h.lo⟩
theorem Pn.walk {w wr : World} {q B z : Nat} {p1 p2 rep : Int} {ov : Value} {D : DataW Unit} {n : Nat} {t : ByteArray} {u : Int} (h : Pn w wr q B z p1 p2 rep ov D n t u) {t' : ByteArray} {u' : Int} (hs : t'.size ≤ 6) : Pn w ((wr.setCell ⟨z, 0, none⟩ (.string t')).setCell ⟨z, 1, none⟩ (.int .i64 u')) q B z p1 p2 rep ov D n t' u' := by
  have hlo := h.lo
  refine ⟨⟨?_, ?_, h.tb.short⟩, h.ok, ?_, put_at (put_at h.box 0 _) 1 _, (h.below.setCell (by simp; omega) _).setCell (by simp; omega) _, hs, h.lo⟩
  · exact put_other (put_other h.tb.blk (by simp; omega) _ _) (by simp; omega) _ _
  · refine own_same h.tb.own ?_
    exact put_other (put_other rfl (by simp; omega) _ _) (by simp; omega) _ _
  · exact put_other (put_other h.cse (by simp; omega) _ _) (by simp; omega) _ _
theorem Pn.mono {w wr : World} {q B z : Nat} {p1 p2 rep : Int} {ov : Value} {D : DataW Unit} {n n' : Nat} {t : ByteArray} {u : Int} (h : Pn w wr q B z p1 p2 rep ov D n t u) (hn : n ≤ n') : Pn w wr q B z p1 p2 rep ov D n' t u := ⟨h.tb.mono hn, h.ok, h.cse, h.box, h.below, h.small, h.lo⟩
theorem kp {X Y : World} {g : Nat} {o : Obj} (hb : Below X.heap.size X Y) (h : X.heap[g]? = some o) : Y.heap[g]? = some o := (hb.block g (lt_block h)).trans h
set_option maxHeartbeats 40000000 in
theorem bindsPane_walk {w : World} (hT : Tabs w) (hw : 4 < w.heap.size) (p1 p2 rep : Int) (ov : Value) (l : List Stp) (hv : SeeS w ov l) (hl : ∀ s ∈ l, s.wf) (hp1 : (Lit.int .i64 p1).wf = true) (hp2 : (Lit.int .i64 p2).wf = true) (hrep : (Lit.int .i64 rep).wf = true) :
    Calls Tryd.prog 4 #[.agg #[.int .i64 p1, .int .i64 p2, .int .i64 rep, ov]] w fun r w' => r = .returned (.bool true) ∧ Below w.heap.size w w' := by
  obtain ⟨ad, cp, rfl, hcell⟩ := hv
  obtain ⟨N, hN⟩ : ∃ N, l.length = N := ⟨_, rfl⟩
  rw [hN]
  obtain ⟨W1, hW1⟩ : ∃ W, w.alloc (.cells #[.int .i64 p1, .int .i64 p2, .int .i64 rep, .slice ad N cp] 26) = W := ⟨_, rfl⟩
  obtain ⟨q, hq⟩ : ∃ q, w.heap.size = q := ⟨_, rfl⟩
  have ha1 : W1.heap[q]? = some (.cells #[.int .i64 p1, .int .i64 p2, .int .i64 rep, .slice ad N cp] 26 (0, 0)) := by rw [← hW1, ← hq]; exact heap_alloc_new w _
  have hb1 : Below w.heap.size w W1 := by rw [← hW1]; exact (Below.refl _ _).alloc (Nat.le_refl _) _
  obtain ⟨B, hB⟩ : ∃ B, W1.heap.size = B := ⟨_, rfl⟩
  have hqB : q + 1 = B := by rw [← hB, ← hW1, ← hq]; simp
  have hNw := new_any (hT.below hb1) (by rw [hB, ← hqB, ← hq]; omega)
  rw [hB] at hNw
  have HSu : Hid (∀ Y, Below w.heap.size w Y → Calls Tryd.prog 9 #[] Y fun r w' => r = .returned (.bool true) ∧ Below Y.heap.size Y w') := fun Y hY => sure_any (hT.below hY) (Nat.lt_of_lt_of_le hw hY.size)
  have HCe := hidK hcell
  have HN := hidK hN
  have HL := hidK hl
  have HB1 := hidK hb1
  have HA1 := hidK ha1
  have HQ : Hid (w.heap.size = q ∧ q + 1 = B ∧ W1.heap.size = B) := ⟨hq, hqB, hB⟩
  have c3 := cell_at ha1 3
  clear hT hw hcell hN hl hb1 ha1 hqB hB
  go_enter Tryd.func4, Tryd.ntmps4
  go_wp2_with fail
  refine hNw.mono ?_
  rintro e W2 ⟨rfl, ht2, hb2⟩
  have HT2 := hidK ht2
  have HB2 := hidK hb2
  have hsz2 := ht2.lt.1
  have hA2 := (hb2.block q (by have := HQ.out; omega)).trans HA1.out
  have hbw2 : Below w.heap.size w W2 := by
    refine below_step2 HB1.out hb2 ?_
    have := HQ.out
    omega
  clear ht2 hb2 hNw hW1 hq
  have c23 := cell_at hA2 3
  clear c3
  obtain ⟨z, hz⟩ : ∃ z, W2.heap.size = z := ⟨_, rfl⟩
  obtain ⟨W3, hW3⟩ : ∃ W, W2.alloc (.cells #[.string ⟨#[]⟩, .int .i64 0] 42) = W := ⟨_, rfl⟩
  have HP3 : Hid (Pn w W3 q B z p1 p2 rep (.slice ad N cp) D0 60 ⟨#[]⟩ 0) := by
    have hb3 : Below W2.heap.size W2 W3 := by rw [← hW3]; exact (Below.refl _ _).alloc (Nat.le_refl _) _
    refine ⟨HT2.out.more hb3, is_D0.ok, (hb3.block q (lt_block hA2)).trans hA2, ?_, below_step hbw2 hb3, by decide, ?_⟩
    · rw [← hW3, ← hz]; exact heap_alloc_new _ _
    · have := HQ.out
      omega
  have x0 := cell_at HP3.out.box 0
  have x1 := cell_at HP3.out.box 1
  have f0 := free_at HP3.out.box 0
  have f1 := free_at HP3.out.box 1
  obtain ⟨W4, hW4⟩ : ∃ W, (W3.setCell ⟨z, 0, none⟩ (.string ⟨#[]⟩)).setCell ⟨z, 1, none⟩ (.int .i64 0) = W := ⟨_, rfl⟩
  have HP4 : Hid (Pn w W4 q B z p1 p2 rep (.slice ad N cp) D0 60 ⟨#[]⟩ 0) := by
    show Pn w W4 q B z p1 p2 rep (.slice ad N cp) D0 60 ⟨#[]⟩ 0
    rw [← hW4]
    exact HP3.out.walk (by decide)
  clear hA2 hbw2 hsz2
  go_wp2_with fail
  clear x0 x1 f0 f1 hW4 hW3 c23
  go_loopw [5] (fun i wr => ∃ (k : Nat) (D : DataW Unit) (t : ByteArray) (u : Int), k ≤ N ∧ k ≤ 250 ∧ i = .int .i64 k ∧ Hid (Pn w wr q B z p1 p2 rep (.slice ad N cp) D (60 + k) t u)) (fun i _ => N - (intOf i).toNat)
  case atStart => exact ⟨0, D0, _, _, Nat.zero_le _, Nat.zero_le _, rfl, HP4⟩
  case round =>
    obtain ⟨k, D, t, u, hk, hk2, rfl, HP⟩ := hrel
    have c3 := cell_at HP.out.cse 3
    by_cases hlt : k < N
    · have hi1 : (k : Int) < (N : Int) := by omega
      by_cases hlt2 : k < 250
      · have hi2 : (k : Int) < 250 := by omega
        have hka : k < l.length := by rw [HN.out]; exact hlt
        obtain ⟨g, o, rfl, hc⟩ := HCe.out (fun e => by rw [e] at hka; simp at hka)
        have hcs := hc k hka
        have hsw := HL.out _ (List.getElem_mem hka)
        obtain ⟨⟨kd, tk, ⟨st, sc, sm, sr, sl⟩⟩, hst⟩ : ∃ q, l[k] = q := ⟨_, rfl⟩
        rw [hst] at hcs hsw
        have up : ∀ (o : Nat) (v : Value), w.cell? ⟨g, o, none⟩ = some v → wr.cell? ⟨g, o, none⟩ = some v := fun o v h => (HP.out.below.cell (World.block_lt_of_cell? w _ h)).trans h
        have e0 : wr.cell? ⟨g, o + k * 7, none⟩ = some (.int .i64 kd) := up _ _ (hcs 0 _ rfl)
        have e1 : wr.cell? ⟨g, o + k * 7 + 1, none⟩ = some (.int .i64 tk) := up _ _ (hcs 1 _ rfl)
        have e2 : wr.cell? ⟨g, o + k * 7 + 2, none⟩ = some (.string st) := up _ _ (hcs 2 _ rfl)
        have e3 : wr.cell? ⟨g, o + k * 7 + 3, none⟩ = some (.int .i64 sc) := up _ _ (hcs 3 _ rfl)
        have e4 : wr.cell? ⟨g, o + k * 7 + 4, none⟩ = some (.int .i64 sm) := up _ _ (hcs 4 _ rfl)
        have e5 : wr.cell? ⟨g, o + k * 7 + 5, none⟩ = some (.bool sr) := up _ _ (hcs 5 _ rfl)
        have e6 : wr.cell? ⟨g, o + k * 7 + 6, none⟩ = some (.string sl) := up _ _ (hcs 6 _ rfl)
        have HSw := hidK hsw
        clear hc hcs hst hsw hka up
        obtain ⟨q5, hq5⟩ : ∃ q5, wr.heap.size = q5 := ⟨_, rfl⟩
        obtain ⟨W5, hW5⟩ : ∃ W, wr.alloc (.cells #[.int .i64 kd, .int .i64 tk, .string st, .int .i64 sc, .int .i64 sm, .bool sr, .string sl] 30) = W := ⟨_, rfl⟩
        have ha5 : W5.heap[q5]? = some (.cells #[.int .i64 kd, .int .i64 tk, .string st, .int .i64 sc, .int .i64 sm, .bool sr, .string sl] 30 (0, 0)) := by rw [← hW5, ← hq5]; exact heap_alloc_new _ _
        have hb5 : Below wr.heap.size wr W5 := by rw [← hW5]; exact (Below.refl _ _).alloc (Nat.le_refl _) _
        have HP5 := hidK (HP.out.more hb5)
        have HA5 := hidK ha5
        have g0 := cell_at ha5 0
        have g1 := cell_at ha5 1
        have g2 := cell_at ha5 2
        have g3 := cell_at ha5 3
        have g4 := cell_at ha5 4
        have g5 := cell_at ha5 5
        have g6 := cell_at ha5 6
        clear ha5 hb5
        by_cases h6 : kd = 6
        · subst h6
          have HAl := all_any HP5.out.tb HP5.out.ok
          go_wp2_with fail
          refine HAl.mono ?_
          rintro e Y1 ⟨v1, l1, rfl, hl1, hs1, hb1⟩
          have HP6 := hidK (HP5.out.more hb1)
          have HA6 := hidK ((hb1.block q5 (lt_block HA5.out)).trans HA5.out)
          have HL1 := hidK (And.intro hl1 hs1)
          clear e0 e1 e2 e3 e4 e5 e6 g0 g1 g2 g3 g4 g5 g6 hW5 hq5 c3 hl1 hs1 hb1 HAl
          have z0 := cell_at HP6.out.box 0
          have z1 := cell_at HP6.out.box 1
          have y0 := cell_at HP6.out.cse 0
          have y1 := cell_at HP6.out.cse 1
          have y2 := cell_at HP6.out.cse 2
          have a1 := cell_at HA6.out 1
          have a3 := cell_at HA6.out 3
          have a4 := cell_at HA6.out 4
          obtain ⟨xt, xu, ln, pn, hpr⟩ := press_is D t u p1 p2 sc sm tk rep
          have HPr := press_any HP6.out.tb t u p1 p2 sc sm tk rep (by have := HP6.out.small; omega) HSw.out.1.2.1 HSw.out.1.2.2 HSw.out.2.2.2 hrep
          rw [hpr.eq] at HPr
          have HPx := hidK hpr
          clear hpr
          go_wp2_with fail
          refine HPr.mono ?_
          rintro e Y2 ⟨rfl, hb2⟩
          have HP7 := hidK (HP6.out.more hb2)
          have HA7 := hidK ((hb2.block q5 (lt_block HA6.out)).trans HA6.out)
          have HL2 := hidK (And.intro HL1.out.1 (HL1.out.2.below hb2))
          clear z0 z1 y0 y1 y2 a1 a3 a4 hb2 HPr
          obtain ⟨q8, hq8⟩ : ∃ q, Y2.heap.size = q := ⟨_, rfl⟩
          obtain ⟨Y3, hY3⟩ : ∃ W, Y2.alloc (.cells #[.string xt, .int .i64 xu] 42) = W := ⟨_, rfl⟩
          have hw3 : Y3.heap[q8]? = some (.cells #[.string xt, .int .i64 xu] 42 (0, 0)) := by rw [← hY3, ← hq8]; exact heap_alloc_new _ _
          have hb3 : Below Y2.heap.size Y2 Y3 := by rw [← hY3]; exact (Below.refl _ _).alloc (Nat.le_refl _) _
          have HP8 := hidK (HP7.out.more hb3)
          have HA8 := hidK (kp hb3 HA7.out)
          have HW8 := hidK hw3
          have HL3 := hidK (HL2.out.2.below hb3)
          have HAl := all_any HP8.out.tb HP8.out.ok
          clear hw3 hb3
          go_wp2_with fail
          refine HAl.mono ?_
          rintro e Y4 ⟨v2, l2, rfl, hl2, hs2, hb4⟩
          have hll : l1 = l2 := HL1.out.1.one hl2
          have hlen := HL1.out.1.len HP8.out.ok
          subst hll
          have HSm := same_any (HL3.out.below hb4) hs2 (by omega) (by omega)
          have HP9 := hidK (HP8.out.more hb4)
          have HA9 := hidK (kp hb4 HA8.out)
          have HW9 := hidK (kp hb4 HW8.out)
          clear hl2 hs2 hb4 hlen HAl hY3 hq8
          go_wp2_with fail
          refine HSm.mono ?_
          rintro e Y5 ⟨⟨sz, rfl, hsz⟩, hb5⟩
          have hsz1 : sz = true := by first | exact hsz.2 rfl | exact hsz.2 (HL1.out.1.one (by assumption)) | simpa using hsz
          subst hsz1
          have HPF := hidK (HP9.out.more hb5)
          have HAF := hidK (kp hb5 HA9.out)
          have HWF := hidK (kp hb5 HW9.out)
          clear hsz hb5 HSm
          obtain ⟨la, hla⟩ : ∃ q, fndL D rootS sc sm = q := ⟨_, rfl⟩
          obtain ⟨lb, hlb⟩ : ∃ q, fndL D t sc sm = q := ⟨_, rfl⟩
          obtain ⟨hr, hhr⟩ : ∃ q, Maps.has D (slotK rootS.data.toList sc sm) = q := ⟨_, rfl⟩
          have HLa := hidK hla
          have HLb := hidK hlb
          have HHr := hidK hhr
          have HF1 := find_is HPF.out.tb rootS sc sm (by decide) HSw.out.1.2.1 HSw.out.1.2.2
          rw [hla, hhr] at HF1
          clear hla hlb hhr
          have a3 := cell_at HAF.out 3
          have a4 := cell_at HAF.out 4
          unfold rootS at HF1
          go_wp2_with fail
          refine HF1.mono ?_
          rintro e Y6 ⟨⟨ht, hc, hm, hv, rfl, hff⟩, hb6⟩
          clear hff a3 a4 HF1
          obtain ⟨qa, hqa⟩ : ∃ q, Y6.heap.size = q := ⟨_, rfl⟩
          obtain ⟨YA, hYA⟩ : ∃ W, Y6.alloc (.cells #[.string ht, .int .i64 hc, .int .i64 hm, .bool hv, .string la] 28) = W := ⟨_, rfl⟩
          have hba : Below Y6.heap.size Y6 YA := by rw [← hYA]; exact (Below.refl _ _).alloc (Nat.le_refl _) _
          have hbb := below_step hb6 hba
          have HPA := hidK (HPF.out.more hbb)
          have HAA := hidK (kp hbb HAF.out)
          have HWA := hidK (kp hbb HWF.out)
          have HFa : Hid (Calls Tryd.prog 10 #[.pointer (some ⟨B + 1, 0, none⟩), .string ⟨#[114, 111, 111, 116]⟩, .agg #[.int .i64 sc, .int .i64 sm]] YA fun e w' => (∃ ft fc fm fr, e = .returned (.tuple #[.agg #[.string ft, .int .i64 fc, .int .i64 fm, .bool fr, .string la], .bool hr]) ∧ True) ∧ Below YA.heap.size YA w') := by
            refine (find_is HPA.out.tb rootS sc sm (by decide) HSw.out.1.2.1 HSw.out.1.2.2).mono fun e w' hp => ⟨?_, hp.2⟩
            obtain ⟨⟨ft, fc, fm, fr, rfl, _⟩, _⟩ := hp
            exact ⟨ft, fc, fm, fr, by rw [HLa.out, HHr.out], trivial⟩
          clear hb6 hba hbb
          cases pn with
          | false =>
            have HLi := hidK HPx.out.line
            by_cases ln0 : ln = ⟨#[]⟩
            · subst ln0
              have z0 := cell_at HPA.out.box 0
              have z1 := cell_at HPA.out.box 1
              have y0 := cell_at HPA.out.cse 0
              have y1 := cell_at HPA.out.cse 1
              have a1 := cell_at HAA.out 1
              have a3 := cell_at HAA.out 3
              have a4 := cell_at HAA.out 4
              have w0 := cell_at HWA.out 0
              have w1 := cell_at HWA.out 1
              go_wp2_with fail
              refine HFa.out.mono ?_
              rintro e Y7 ⟨⟨ft, fc, fm, fr, rfl, hff⟩, hb7⟩
              clear hff
              clear z0 z1 y0 y1 a1 a3 a4 w0 w1
              obtain ⟨qb, hqb⟩ : ∃ q, Y7.heap.size = q := ⟨_, rfl⟩
              obtain ⟨Y8, hY8⟩ : ∃ W, Y7.alloc (.cells #[.string ft, .int .i64 fc, .int .i64 fm, .bool fr, .string la] 28) = W := ⟨_, rfl⟩
              have hb8 : Below Y7.heap.size Y7 Y8 := by rw [← hY8]; exact (Below.refl _ _).alloc (Nat.le_refl _) _
              have hm8 : Y8.heap[qb]? = some (.cells #[.string ft, .int .i64 fc, .int .i64 fm, .bool fr, .string la] 28 (0, 0)) := by rw [← hY8, ← hqb]; exact heap_alloc_new _ _
              have hbb := below_step hb7 hb8
              have HPB := hidK (HPA.out.more hbb)
              have HAB := hidK (kp hbb HAA.out)
              have HWB := hidK (kp hbb HWA.out)
              have HM8 := hidK hm8
              have HFb := find_is HPB.out.tb t sc sm (by have := HPA.out.small; omega) HSw.out.1.2.1 HSw.out.1.2.2
              rw [HLb.out] at HFb
              clear hb7 hb8 hbb hm8
              have z0 := cell_at HPB.out.box 0
              have z1 := cell_at HPB.out.box 1
              have y0 := cell_at HPB.out.cse 0
              have y1 := cell_at HPB.out.cse 1
              have a1 := cell_at HAB.out 1
              have a3 := cell_at HAB.out 3
              have a4 := cell_at HAB.out 4
              have w0 := cell_at HWB.out 0
              have w1 := cell_at HWB.out 1
              go_wp2_with fail
              refine HFb.mono ?_
              rintro e Y9 ⟨⟨gt, gc, gm, gr, rfl, hff⟩, hb9⟩
              clear hff hY8 hqb HFb
              clear z0 z1 y0 y1 a1 a3 a4 w0 w1
              obtain ⟨qc, hqc⟩ : ∃ q, Y9.heap.size = q := ⟨_, rfl⟩
              obtain ⟨Y10, hY10⟩ : ∃ W, Y9.alloc (.cells #[.string gt, .int .i64 gc, .int .i64 gm, .bool gr, .string lb] 28) = W := ⟨_, rfl⟩
              have hb10 : Below Y9.heap.size Y9 Y10 := by rw [← hY10]; exact (Below.refl _ _).alloc (Nat.le_refl _) _
              have hm10 : Y10.heap[qc]? = some (.cells #[.string gt, .int .i64 gc, .int .i64 gm, .bool gr, .string lb] 28 (0, 0)) := by rw [← hY10, ← hqc]; exact heap_alloc_new _ _
              have hbb := below_step hb9 hb10
              have HPC := hidK (HPB.out.more hbb)
              have HAC := hidK (kp hbb HAB.out)
              have HWC := hidK (kp hbb HWB.out)
              have m8 := cell_at (kp hbb HM8.out) 4
              have m10 := cell_at hm10 4
              clear hb9 hb10 hbb hm10
              have z0 := cell_at HPC.out.box 0
              have z1 := cell_at HPC.out.box 1
              have y0 := cell_at HPC.out.cse 0
              have y1 := cell_at HPC.out.cse 1
              have a1 := cell_at HAC.out 1
              have a3 := cell_at HAC.out 3
              have a4 := cell_at HAC.out 4
              have w0 := cell_at HWC.out 0
              have w1 := cell_at HWC.out 1
              have k0 := free_at HPC.out.box 0
              have k1 := free_at HPC.out.box 1
              go_wp2_with fail
              all_goals exact ⟨⟨k + 1, D, xt, xu, by omega, by omega, by simp, hidK ((HPC.out.walk (by exact HPx.out.small)).mono (by omega))⟩, by simp [intOf]; omega⟩
            · have n0 := nil_no ln0
              have n01 := n0.1
              have n02 := n0.2.1
              have n03 := n0.2.2
              clear n0
              by_cases ln1 : ln = la
              · subst ln1
                have z0 := cell_at HPA.out.box 0
                have z1 := cell_at HPA.out.box 1
                have y0 := cell_at HPA.out.cse 0
                have y1 := cell_at HPA.out.cse 1
                have a1 := cell_at HAA.out 1
                have a3 := cell_at HAA.out 3
                have a4 := cell_at HAA.out 4
                have w0 := cell_at HWA.out 0
                have w1 := cell_at HWA.out 1
                go_wp2_with fail
                refine HFa.out.mono ?_
                rintro e Y7 ⟨⟨ft, fc, fm, fr, rfl, hff⟩, hb7⟩
                clear hff
                clear z0 z1 y0 y1 a1 a3 a4 w0 w1
                obtain ⟨qb, hqb⟩ : ∃ q, Y7.heap.size = q := ⟨_, rfl⟩
                obtain ⟨Y8, hY8⟩ : ∃ W, Y7.alloc (.cells #[.string ft, .int .i64 fc, .int .i64 fm, .bool fr, .string ln] 28) = W := ⟨_, rfl⟩
                have hb8 : Below Y7.heap.size Y7 Y8 := by rw [← hY8]; exact (Below.refl _ _).alloc (Nat.le_refl _) _
                have hm8 : Y8.heap[qb]? = some (.cells #[.string ft, .int .i64 fc, .int .i64 fm, .bool fr, .string ln] 28 (0, 0)) := by rw [← hY8, ← hqb]; exact heap_alloc_new _ _
                have hbb := below_step hb7 hb8
                have HPB := hidK (HPA.out.more hbb)
                have HAB := hidK (kp hbb HAA.out)
                have HWB := hidK (kp hbb HWA.out)
                have HM8 := hidK hm8
                have HFb := find_is HPB.out.tb t sc sm (by have := HPA.out.small; omega) HSw.out.1.2.1 HSw.out.1.2.2
                rw [HLb.out] at HFb
                clear hb7 hb8 hbb hm8
                have z0 := cell_at HPB.out.box 0
                have z1 := cell_at HPB.out.box 1
                have y0 := cell_at HPB.out.cse 0
                have y1 := cell_at HPB.out.cse 1
                have a1 := cell_at HAB.out 1
                have a3 := cell_at HAB.out 3
                have a4 := cell_at HAB.out 4
                have w0 := cell_at HWB.out 0
                have w1 := cell_at HWB.out 1
                go_wp2_with fail
                refine HFb.mono ?_
                rintro e Y9 ⟨⟨gt, gc, gm, gr, rfl, hff⟩, hb9⟩
                clear hff hY8 hqb HFb
                clear z0 z1 y0 y1 a1 a3 a4 w0 w1
                obtain ⟨qc, hqc⟩ : ∃ q, Y9.heap.size = q := ⟨_, rfl⟩
                obtain ⟨Y10, hY10⟩ : ∃ W, Y9.alloc (.cells #[.string gt, .int .i64 gc, .int .i64 gm, .bool gr, .string lb] 28) = W := ⟨_, rfl⟩
                have hb10 : Below Y9.heap.size Y9 Y10 := by rw [← hY10]; exact (Below.refl _ _).alloc (Nat.le_refl _) _
                have hm10 : Y10.heap[qc]? = some (.cells #[.string gt, .int .i64 gc, .int .i64 gm, .bool gr, .string lb] 28 (0, 0)) := by rw [← hY10, ← hqc]; exact heap_alloc_new _ _
                have hbb := below_step hb9 hb10
                have HPC := hidK (HPB.out.more hbb)
                have HAC := hidK (kp hbb HAB.out)
                have HWC := hidK (kp hbb HWB.out)
                have m8 := cell_at (kp hbb HM8.out) 4
                have m10 := cell_at hm10 4
                clear hb9 hb10 hbb hm10
                have z0 := cell_at HPC.out.box 0
                have z1 := cell_at HPC.out.box 1
                have y0 := cell_at HPC.out.cse 0
                have y1 := cell_at HPC.out.cse 1
                have a1 := cell_at HAC.out 1
                have a3 := cell_at HAC.out 3
                have a4 := cell_at HAC.out 4
                have w0 := cell_at HWC.out 0
                have w1 := cell_at HWC.out 1
                have k0 := free_at HPC.out.box 0
                have k1 := free_at HPC.out.box 1
                go_wp2_with fail
                all_goals exact ⟨⟨k + 1, D, xt, xu, by omega, by omega, by simp, hidK ((HPC.out.walk (by exact HPx.out.small)).mono (by omega))⟩, by simp [intOf]; omega⟩
              · have n1 := bytes_ne ln1
                by_cases ln2 : ln = lb
                · subst ln2
                  have z0 := cell_at HPA.out.box 0
                  have z1 := cell_at HPA.out.box 1
                  have y0 := cell_at HPA.out.cse 0
                  have y1 := cell_at HPA.out.cse 1
                  have a1 := cell_at HAA.out 1
                  have a3 := cell_at HAA.out 3
                  have a4 := cell_at HAA.out 4
                  have w0 := cell_at HWA.out 0
                  have w1 := cell_at HWA.out 1
                  go_wp2_with fail
                  refine HFa.out.mono ?_
                  rintro e Y7 ⟨⟨ft, fc, fm, fr, rfl, hff⟩, hb7⟩
                  clear hff
                  clear z0 z1 y0 y1 a1 a3 a4 w0 w1
                  obtain ⟨qb, hqb⟩ : ∃ q, Y7.heap.size = q := ⟨_, rfl⟩
                  obtain ⟨Y8, hY8⟩ : ∃ W, Y7.alloc (.cells #[.string ft, .int .i64 fc, .int .i64 fm, .bool fr, .string la] 28) = W := ⟨_, rfl⟩
                  have hb8 : Below Y7.heap.size Y7 Y8 := by rw [← hY8]; exact (Below.refl _ _).alloc (Nat.le_refl _) _
                  have hm8 : Y8.heap[qb]? = some (.cells #[.string ft, .int .i64 fc, .int .i64 fm, .bool fr, .string la] 28 (0, 0)) := by rw [← hY8, ← hqb]; exact heap_alloc_new _ _
                  have hbb := below_step hb7 hb8
                  have HPB := hidK (HPA.out.more hbb)
                  have HAB := hidK (kp hbb HAA.out)
                  have HWB := hidK (kp hbb HWA.out)
                  have HM8 := hidK hm8
                  have HFb := find_is HPB.out.tb t sc sm (by have := HPA.out.small; omega) HSw.out.1.2.1 HSw.out.1.2.2
                  rw [HLb.out] at HFb
                  clear hb7 hb8 hbb hm8
                  have z0 := cell_at HPB.out.box 0
                  have z1 := cell_at HPB.out.box 1
                  have y0 := cell_at HPB.out.cse 0
                  have y1 := cell_at HPB.out.cse 1
                  have a1 := cell_at HAB.out 1
                  have a3 := cell_at HAB.out 3
                  have a4 := cell_at HAB.out 4
                  have w0 := cell_at HWB.out 0
                  have w1 := cell_at HWB.out 1
                  go_wp2_with fail
                  refine HFb.mono ?_
                  rintro e Y9 ⟨⟨gt, gc, gm, gr, rfl, hff⟩, hb9⟩
                  clear hff hY8 hqb HFb
                  clear z0 z1 y0 y1 a1 a3 a4 w0 w1
                  obtain ⟨qc, hqc⟩ : ∃ q, Y9.heap.size = q := ⟨_, rfl⟩
                  obtain ⟨Y10, hY10⟩ : ∃ W, Y9.alloc (.cells #[.string gt, .int .i64 gc, .int .i64 gm, .bool gr, .string ln] 28) = W := ⟨_, rfl⟩
                  have hb10 : Below Y9.heap.size Y9 Y10 := by rw [← hY10]; exact (Below.refl _ _).alloc (Nat.le_refl _) _
                  have hm10 : Y10.heap[qc]? = some (.cells #[.string gt, .int .i64 gc, .int .i64 gm, .bool gr, .string ln] 28 (0, 0)) := by rw [← hY10, ← hqc]; exact heap_alloc_new _ _
                  have hbb := below_step hb9 hb10
                  have HPC := hidK (HPB.out.more hbb)
                  have HAC := hidK (kp hbb HAB.out)
                  have HWC := hidK (kp hbb HWB.out)
                  have m8 := cell_at (kp hbb HM8.out) 4
                  have m10 := cell_at hm10 4
                  clear hb9 hb10 hbb hm10
                  have z0 := cell_at HPC.out.box 0
                  have z1 := cell_at HPC.out.box 1
                  have y0 := cell_at HPC.out.cse 0
                  have y1 := cell_at HPC.out.cse 1
                  have a1 := cell_at HAC.out 1
                  have a3 := cell_at HAC.out 3
                  have a4 := cell_at HAC.out 4
                  have w0 := cell_at HWC.out 0
                  have w1 := cell_at HWC.out 1
                  have k0 := free_at HPC.out.box 0
                  have k1 := free_at HPC.out.box 1
                  go_wp2_with fail
                  all_goals exact ⟨⟨k + 1, D, xt, xu, by omega, by omega, by simp, hidK ((HPC.out.walk (by exact HPx.out.small)).mono (by omega))⟩, by simp [intOf]; omega⟩
                · have n2 := bytes_ne ln2
                  obtain ⟨r1, r2, r3⟩ : ln = sendS ∧ sc = p1 ∧ sm = p2 := by
                    rcases HLi.out with q | q | q | q
                    · exact absurd q ln0
                    · exact absurd (q.trans HLa.out) ln1
                    · exact absurd (q.trans HLb.out) ln2
                    · exact q
                  subst r2 r3
                  clear ln0 ln1 ln2
                  unfold sendS at r1
                  subst r1
                  have z0 := cell_at HPA.out.box 0
                  have z1 := cell_at HPA.out.box 1
                  have y0 := cell_at HPA.out.cse 0
                  have y1 := cell_at HPA.out.cse 1
                  have a1 := cell_at HAA.out 1
                  have a3 := cell_at HAA.out 3
                  have a4 := cell_at HAA.out 4
                  have w0 := cell_at HWA.out 0
                  have w1 := cell_at HWA.out 1
                  go_wp2_with fail
                  refine HFa.out.mono ?_
                  rintro e Y7 ⟨⟨ft, fc, fm, fr, rfl, hff⟩, hb7⟩
                  clear hff
                  clear z0 z1 y0 y1 a1 a3 a4 w0 w1
                  obtain ⟨qb, hqb⟩ : ∃ q, Y7.heap.size = q := ⟨_, rfl⟩
                  obtain ⟨Y8, hY8⟩ : ∃ W, Y7.alloc (.cells #[.string ft, .int .i64 fc, .int .i64 fm, .bool fr, .string la] 28) = W := ⟨_, rfl⟩
                  have hb8 : Below Y7.heap.size Y7 Y8 := by rw [← hY8]; exact (Below.refl _ _).alloc (Nat.le_refl _) _
                  have hm8 : Y8.heap[qb]? = some (.cells #[.string ft, .int .i64 fc, .int .i64 fm, .bool fr, .string la] 28 (0, 0)) := by rw [← hY8, ← hqb]; exact heap_alloc_new _ _
                  have hbb := below_step hb7 hb8
                  have HPB := hidK (HPA.out.more hbb)
                  have HAB := hidK (kp hbb HAA.out)
                  have HWB := hidK (kp hbb HWA.out)
                  have HM8 := hidK hm8
                  have HFb := find_is HPB.out.tb t sc sm (by have := HPA.out.small; omega) HSw.out.1.2.1 HSw.out.1.2.2
                  rw [HLb.out] at HFb
                  clear hb7 hb8 hbb hm8
                  have z0 := cell_at HPB.out.box 0
                  have z1 := cell_at HPB.out.box 1
                  have y0 := cell_at HPB.out.cse 0
                  have y1 := cell_at HPB.out.cse 1
                  have a1 := cell_at HAB.out 1
                  have a3 := cell_at HAB.out 3
                  have a4 := cell_at HAB.out 4
                  have w0 := cell_at HWB.out 0
                  have w1 := cell_at HWB.out 1
                  go_wp2_with fail
                  refine HFb.mono ?_
                  rintro e Y9 ⟨⟨gt, gc, gm, gr, rfl, hff⟩, hb9⟩
                  clear hff hY8 hqb HFb
                  clear z0 z1 y0 y1 a1 a3 a4 w0 w1
                  obtain ⟨qc, hqc⟩ : ∃ q, Y9.heap.size = q := ⟨_, rfl⟩
                  obtain ⟨Y10, hY10⟩ : ∃ W, Y9.alloc (.cells #[.string gt, .int .i64 gc, .int .i64 gm, .bool gr, .string lb] 28) = W := ⟨_, rfl⟩
                  have hb10 : Below Y9.heap.size Y9 Y10 := by rw [← hY10]; exact (Below.refl _ _).alloc (Nat.le_refl _) _
                  have hm10 : Y10.heap[qc]? = some (.cells #[.string gt, .int .i64 gc, .int .i64 gm, .bool gr, .string lb] 28 (0, 0)) := by rw [← hY10, ← hqc]; exact heap_alloc_new _ _
                  have hbb := below_step hb9 hb10
                  have HPC := hidK (HPB.out.more hbb)
                  have HAC := hidK (kp hbb HAB.out)
                  have HWC := hidK (kp hbb HWB.out)
                  have m8 := cell_at (kp hbb HM8.out) 4
                  have m10 := cell_at hm10 4
                  clear hb9 hb10 hbb hm10
                  have z0 := cell_at HPC.out.box 0
                  have z1 := cell_at HPC.out.box 1
                  have y0 := cell_at HPC.out.cse 0
                  have y1 := cell_at HPC.out.cse 1
                  have a1 := cell_at HAC.out 1
                  have a3 := cell_at HAC.out 3
                  have a4 := cell_at HAC.out 4
                  have w0 := cell_at HWC.out 0
                  have w1 := cell_at HWC.out 1
                  have k0 := free_at HPC.out.box 0
                  have k1 := free_at HPC.out.box 1
                  go_wp2_with fail
                  all_goals exact ⟨⟨k + 1, D, xt, xu, by omega, by omega, by simp, hidK ((HPC.out.walk (by exact HPx.out.small)).mono (by omega))⟩, by simp [intOf]; omega⟩
          | true =>
            obtain ⟨r1, r2, r3, r4, r5, r6⟩ := HPx.out.pane rfl
            subst r4 r5 r6
            rw [HHr.out] at r3
            subst r3
            by_cases t0 : t = ⟨#[]⟩
            · subst t0
              by_cases c0 : sc = p1
              · subst c0
                have c1 : (sm == p2) = false := by simpa using r2
                clear r1 r2
                have z0 := cell_at HPA.out.box 0
                have z1 := cell_at HPA.out.box 1
                have y0 := cell_at HPA.out.cse 0
                have y1 := cell_at HPA.out.cse 1
                have a1 := cell_at HAA.out 1
                have a3 := cell_at HAA.out 3
                have a4 := cell_at HAA.out 4
                have w0 := cell_at HWA.out 0
                have w1 := cell_at HWA.out 1
                go_wp2_with fail
                refine HFa.out.mono ?_
                rintro e Y7 ⟨⟨ft, fc, fm, fr, rfl, hff⟩, hb7⟩
                clear hff
                clear z0 z1 y0 y1 a1 a3 a4 w0 w1
                obtain ⟨qb, hqb⟩ : ∃ q, Y7.heap.size = q := ⟨_, rfl⟩
                obtain ⟨Y8, hY8⟩ : ∃ W, Y7.alloc (.cells #[.string ft, .int .i64 fc, .int .i64 fm, .bool fr, .string la] 28) = W := ⟨_, rfl⟩
                have hb8 : Below Y7.heap.size Y7 Y8 := by rw [← hY8]; exact (Below.refl _ _).alloc (Nat.le_refl _) _
                have hm8 : Y8.heap[qb]? = some (.cells #[.string ft, .int .i64 fc, .int .i64 fm, .bool fr, .string la] 28 (0, 0)) := by rw [← hY8, ← hqb]; exact heap_alloc_new _ _
                have hbb := below_step hb7 hb8
                have HPB := hidK (HPA.out.more hbb)
                have HAB := hidK (kp hbb HAA.out)
                have HWB := hidK (kp hbb HWA.out)
                have HM8 := hidK hm8
                have HFb := find_is HPB.out.tb ⟨#[]⟩ sc sm (by have := HPA.out.small; omega) HSw.out.1.2.1 HSw.out.1.2.2
                rw [HLb.out] at HFb
                clear hb7 hb8 hbb hm8
                have z0 := cell_at HPB.out.box 0
                have z1 := cell_at HPB.out.box 1
                have y0 := cell_at HPB.out.cse 0
                have y1 := cell_at HPB.out.cse 1
                have a1 := cell_at HAB.out 1
                have a3 := cell_at HAB.out 3
                have a4 := cell_at HAB.out 4
                have w0 := cell_at HWB.out 0
                have w1 := cell_at HWB.out 1
                go_wp2_with fail
                refine HFb.mono ?_
                rintro e Y9 ⟨⟨gt, gc, gm, gr, rfl, hff⟩, hb9⟩
                clear hff hY8 hqb HFb
                clear z0 z1 y0 y1 a1 a3 a4 w0 w1
                obtain ⟨qc, hqc⟩ : ∃ q, Y9.heap.size = q := ⟨_, rfl⟩
                obtain ⟨Y10, hY10⟩ : ∃ W, Y9.alloc (.cells #[.string gt, .int .i64 gc, .int .i64 gm, .bool gr, .string lb] 28) = W := ⟨_, rfl⟩
                have hb10 : Below Y9.heap.size Y9 Y10 := by rw [← hY10]; exact (Below.refl _ _).alloc (Nat.le_refl _) _
                have hm10 : Y10.heap[qc]? = some (.cells #[.string gt, .int .i64 gc, .int .i64 gm, .bool gr, .string lb] 28 (0, 0)) := by rw [← hY10, ← hqc]; exact heap_alloc_new _ _
                have hbb := below_step hb9 hb10
                have HPC := hidK (HPB.out.more hbb)
                have HAC := hidK (kp hbb HAB.out)
                have HWC := hidK (kp hbb HWB.out)
                have m8 := cell_at (kp hbb HM8.out) 4
                have m10 := cell_at hm10 4
                clear hb9 hb10 hbb hm10
                have z0 := cell_at HPC.out.box 0
                have z1 := cell_at HPC.out.box 1
                have y0 := cell_at HPC.out.cse 0
                have y1 := cell_at HPC.out.cse 1
                have a1 := cell_at HAC.out 1
                have a3 := cell_at HAC.out 3
                have a4 := cell_at HAC.out 4
                have w0 := cell_at HWC.out 0
                have w1 := cell_at HWC.out 1
                have k0 := free_at HPC.out.box 0
                have k1 := free_at HPC.out.box 1
                go_wp2_with fail
                all_goals exact ⟨⟨k + 1, D, ⟨#[]⟩, 0, by omega, by omega, by simp, hidK ((HPC.out.walk (by decide)).mono (by omega))⟩, by simp [intOf]; omega⟩
              · have c1 : (sc == p1) = false := by simpa using c0
                clear r1 r2
                have z0 := cell_at HPA.out.box 0
                have z1 := cell_at HPA.out.box 1
                have y0 := cell_at HPA.out.cse 0
                have y1 := cell_at HPA.out.cse 1
                have a1 := cell_at HAA.out 1
                have a3 := cell_at HAA.out 3
                have a4 := cell_at HAA.out 4
                have w0 := cell_at HWA.out 0
                have w1 := cell_at HWA.out 1
                go_wp2_with fail
                refine HFa.out.mono ?_
                rintro e Y7 ⟨⟨ft, fc, fm, fr, rfl, hff⟩, hb7⟩
                clear hff
                clear z0 z1 y0 y1 a1 a3 a4 w0 w1
                obtain ⟨qb, hqb⟩ : ∃ q, Y7.heap.size = q := ⟨_, rfl⟩
                obtain ⟨Y8, hY8⟩ : ∃ W, Y7.alloc (.cells #[.string ft, .int .i64 fc, .int .i64 fm, .bool fr, .string la] 28) = W := ⟨_, rfl⟩
                have hb8 : Below Y7.heap.size Y7 Y8 := by rw [← hY8]; exact (Below.refl _ _).alloc (Nat.le_refl _) _
                have hm8 : Y8.heap[qb]? = some (.cells #[.string ft, .int .i64 fc, .int .i64 fm, .bool fr, .string la] 28 (0, 0)) := by rw [← hY8, ← hqb]; exact heap_alloc_new _ _
                have hbb := below_step hb7 hb8
                have HPB := hidK (HPA.out.more hbb)
                have HAB := hidK (kp hbb HAA.out)
                have HWB := hidK (kp hbb HWA.out)
                have HM8 := hidK hm8
                have HFb := find_is HPB.out.tb ⟨#[]⟩ sc sm (by have := HPA.out.small; omega) HSw.out.1.2.1 HSw.out.1.2.2
                rw [HLb.out] at HFb
                clear hb7 hb8 hbb hm8
                have z0 := cell_at HPB.out.box 0
                have z1 := cell_at HPB.out.box 1
                have y0 := cell_at HPB.out.cse 0
                have y1 := cell_at HPB.out.cse 1
                have a1 := cell_at HAB.out 1
                have a3 := cell_at HAB.out 3
                have a4 := cell_at HAB.out 4
                have w0 := cell_at HWB.out 0
                have w1 := cell_at HWB.out 1
                go_wp2_with fail
                refine HFb.mono ?_
                rintro e Y9 ⟨⟨gt, gc, gm, gr, rfl, hff⟩, hb9⟩
                clear hff hY8 hqb HFb
                clear z0 z1 y0 y1 a1 a3 a4 w0 w1
                obtain ⟨qc, hqc⟩ : ∃ q, Y9.heap.size = q := ⟨_, rfl⟩
                obtain ⟨Y10, hY10⟩ : ∃ W, Y9.alloc (.cells #[.string gt, .int .i64 gc, .int .i64 gm, .bool gr, .string lb] 28) = W := ⟨_, rfl⟩
                have hb10 : Below Y9.heap.size Y9 Y10 := by rw [← hY10]; exact (Below.refl _ _).alloc (Nat.le_refl _) _
                have hm10 : Y10.heap[qc]? = some (.cells #[.string gt, .int .i64 gc, .int .i64 gm, .bool gr, .string lb] 28 (0, 0)) := by rw [← hY10, ← hqc]; exact heap_alloc_new _ _
                have hbb := below_step hb9 hb10
                have HPC := hidK (HPB.out.more hbb)
                have HAC := hidK (kp hbb HAB.out)
                have HWC := hidK (kp hbb HWB.out)
                have m8 := cell_at (kp hbb HM8.out) 4
                have m10 := cell_at hm10 4
                clear hb9 hb10 hbb hm10
                have z0 := cell_at HPC.out.box 0
                have z1 := cell_at HPC.out.box 1
                have y0 := cell_at HPC.out.cse 0
                have y1 := cell_at HPC.out.cse 1
                have a1 := cell_at HAC.out 1
                have a3 := cell_at HAC.out 3
                have a4 := cell_at HAC.out 4
                have w0 := cell_at HWC.out 0
                have w1 := cell_at HWC.out 1
                have k0 := free_at HPC.out.box 0
                have k1 := free_at HPC.out.box 1
                go_wp2_with fail
                all_goals exact ⟨⟨k + 1, D, ⟨#[]⟩, 0, by omega, by omega, by simp, hidK ((HPC.out.walk (by decide)).mono (by omega))⟩, by simp [intOf]; omega⟩
            · have n0 := nil_no t0
              have n01 := n0.1
              have n02 := n0.2.1
              have n03 := n0.2.2
              clear n0
              have u0 : 0 < u := by rcases r1 with q | q; exact absurd q t0; exact q
              have u1 : ¬ u ≤ 0 := by omega
              by_cases c0 : sc = p1
              · subst c0
                have c1 : (sm == p2) = false := by simpa using r2
                clear r1 r2
                have z0 := cell_at HPA.out.box 0
                have z1 := cell_at HPA.out.box 1
                have y0 := cell_at HPA.out.cse 0
                have y1 := cell_at HPA.out.cse 1
                have a1 := cell_at HAA.out 1
                have a3 := cell_at HAA.out 3
                have a4 := cell_at HAA.out 4
                have w0 := cell_at HWA.out 0
                have w1 := cell_at HWA.out 1
                go_wp2_with fail
                refine HFa.out.mono ?_
                rintro e Y7 ⟨⟨ft, fc, fm, fr, rfl, hff⟩, hb7⟩
                clear hff
                clear z0 z1 y0 y1 a1 a3 a4 w0 w1
                obtain ⟨qb, hqb⟩ : ∃ q, Y7.heap.size = q := ⟨_, rfl⟩
                obtain ⟨Y8, hY8⟩ : ∃ W, Y7.alloc (.cells #[.string ft, .int .i64 fc, .int .i64 fm, .bool fr, .string la] 28) = W := ⟨_, rfl⟩
                have hb8 : Below Y7.heap.size Y7 Y8 := by rw [← hY8]; exact (Below.refl _ _).alloc (Nat.le_refl _) _
                have hm8 : Y8.heap[qb]? = some (.cells #[.string ft, .int .i64 fc, .int .i64 fm, .bool fr, .string la] 28 (0, 0)) := by rw [← hY8, ← hqb]; exact heap_alloc_new _ _
                have hbb := below_step hb7 hb8
                have HPB := hidK (HPA.out.more hbb)
                have HAB := hidK (kp hbb HAA.out)
                have HWB := hidK (kp hbb HWA.out)
                have HM8 := hidK hm8
                have HFb := find_is HPB.out.tb t sc sm (by have := HPA.out.small; omega) HSw.out.1.2.1 HSw.out.1.2.2
                rw [HLb.out] at HFb
                clear hb7 hb8 hbb hm8
                have z0 := cell_at HPB.out.box 0
                have z1 := cell_at HPB.out.box 1
                have y0 := cell_at HPB.out.cse 0
                have y1 := cell_at HPB.out.cse 1
                have a1 := cell_at HAB.out 1
                have a3 := cell_at HAB.out 3
                have a4 := cell_at HAB.out 4
                have w0 := cell_at HWB.out 0
                have w1 := cell_at HWB.out 1
                go_wp2_with fail
                refine HFb.mono ?_
                rintro e Y9 ⟨⟨gt, gc, gm, gr, rfl, hff⟩, hb9⟩
                clear hff hY8 hqb HFb
                clear z0 z1 y0 y1 a1 a3 a4 w0 w1
                obtain ⟨qc, hqc⟩ : ∃ q, Y9.heap.size = q := ⟨_, rfl⟩
                obtain ⟨Y10, hY10⟩ : ∃ W, Y9.alloc (.cells #[.string gt, .int .i64 gc, .int .i64 gm, .bool gr, .string lb] 28) = W := ⟨_, rfl⟩
                have hb10 : Below Y9.heap.size Y9 Y10 := by rw [← hY10]; exact (Below.refl _ _).alloc (Nat.le_refl _) _
                have hm10 : Y10.heap[qc]? = some (.cells #[.string gt, .int .i64 gc, .int .i64 gm, .bool gr, .string lb] 28 (0, 0)) := by rw [← hY10, ← hqc]; exact heap_alloc_new _ _
                have hbb := below_step hb9 hb10
                have HPC := hidK (HPB.out.more hbb)
                have HAC := hidK (kp hbb HAB.out)
                have HWC := hidK (kp hbb HWB.out)
                have m8 := cell_at (kp hbb HM8.out) 4
                have m10 := cell_at hm10 4
                clear hb9 hb10 hbb hm10
                have z0 := cell_at HPC.out.box 0
                have z1 := cell_at HPC.out.box 1
                have y0 := cell_at HPC.out.cse 0
                have y1 := cell_at HPC.out.cse 1
                have a1 := cell_at HAC.out 1
                have a3 := cell_at HAC.out 3
                have a4 := cell_at HAC.out 4
                have w0 := cell_at HWC.out 0
                have w1 := cell_at HWC.out 1
                have k0 := free_at HPC.out.box 0
                have k1 := free_at HPC.out.box 1
                go_wp2_with fail
                all_goals exact ⟨⟨k + 1, D, ⟨#[]⟩, 0, by omega, by omega, by simp, hidK ((HPC.out.walk (by decide)).mono (by omega))⟩, by simp [intOf]; omega⟩
              · have c1 : (sc == p1) = false := by simpa using c0
                clear r1 r2
                have z0 := cell_at HPA.out.box 0
                have z1 := cell_at HPA.out.box 1
                have y0 := cell_at HPA.out.cse 0
                have y1 := cell_at HPA.out.cse 1
                have a1 := cell_at HAA.out 1
                have a3 := cell_at HAA.out 3
                have a4 := cell_at HAA.out 4
                have w0 := cell_at HWA.out 0
                have w1 := cell_at HWA.out 1
                go_wp2_with fail
                refine HFa.out.mono ?_
                rintro e Y7 ⟨⟨ft, fc, fm, fr, rfl, hff⟩, hb7⟩
                clear hff
                clear z0 z1 y0 y1 a1 a3 a4 w0 w1
                obtain ⟨qb, hqb⟩ : ∃ q, Y7.heap.size = q := ⟨_, rfl⟩
                obtain ⟨Y8, hY8⟩ : ∃ W, Y7.alloc (.cells #[.string ft, .int .i64 fc, .int .i64 fm, .bool fr, .string la] 28) = W := ⟨_, rfl⟩
                have hb8 : Below Y7.heap.size Y7 Y8 := by rw [← hY8]; exact (Below.refl _ _).alloc (Nat.le_refl _) _
                have hm8 : Y8.heap[qb]? = some (.cells #[.string ft, .int .i64 fc, .int .i64 fm, .bool fr, .string la] 28 (0, 0)) := by rw [← hY8, ← hqb]; exact heap_alloc_new _ _
                have hbb := below_step hb7 hb8
                have HPB := hidK (HPA.out.more hbb)
                have HAB := hidK (kp hbb HAA.out)
                have HWB := hidK (kp hbb HWA.out)
                have HM8 := hidK hm8
                have HFb := find_is HPB.out.tb t sc sm (by have := HPA.out.small; omega) HSw.out.1.2.1 HSw.out.1.2.2
                rw [HLb.out] at HFb
                clear hb7 hb8 hbb hm8
                have z0 := cell_at HPB.out.box 0
                have z1 := cell_at HPB.out.box 1
                have y0 := cell_at HPB.out.cse 0
                have y1 := cell_at HPB.out.cse 1
                have a1 := cell_at HAB.out 1
                have a3 := cell_at HAB.out 3
                have a4 := cell_at HAB.out 4
                have w0 := cell_at HWB.out 0
                have w1 := cell_at HWB.out 1
                go_wp2_with fail
                refine HFb.mono ?_
                rintro e Y9 ⟨⟨gt, gc, gm, gr, rfl, hff⟩, hb9⟩
                clear hff hY8 hqb HFb
                clear z0 z1 y0 y1 a1 a3 a4 w0 w1
                obtain ⟨qc, hqc⟩ : ∃ q, Y9.heap.size = q := ⟨_, rfl⟩
                obtain ⟨Y10, hY10⟩ : ∃ W, Y9.alloc (.cells #[.string gt, .int .i64 gc, .int .i64 gm, .bool gr, .string lb] 28) = W := ⟨_, rfl⟩
                have hb10 : Below Y9.heap.size Y9 Y10 := by rw [← hY10]; exact (Below.refl _ _).alloc (Nat.le_refl _) _
                have hm10 : Y10.heap[qc]? = some (.cells #[.string gt, .int .i64 gc, .int .i64 gm, .bool gr, .string lb] 28 (0, 0)) := by rw [← hY10, ← hqc]; exact heap_alloc_new _ _
                have hbb := below_step hb9 hb10
                have HPC := hidK (HPB.out.more hbb)
                have HAC := hidK (kp hbb HAB.out)
                have HWC := hidK (kp hbb HWB.out)
                have m8 := cell_at (kp hbb HM8.out) 4
                have m10 := cell_at hm10 4
                clear hb9 hb10 hbb hm10
                have z0 := cell_at HPC.out.box 0
                have z1 := cell_at HPC.out.box 1
                have y0 := cell_at HPC.out.cse 0
                have y1 := cell_at HPC.out.cse 1
                have a1 := cell_at HAC.out 1
                have a3 := cell_at HAC.out 3
                have a4 := cell_at HAC.out 4
                have w0 := cell_at HWC.out 0
                have w1 := cell_at HWC.out 1
                have k0 := free_at HPC.out.box 0
                have k1 := free_at HPC.out.box 1
                go_wp2_with fail
                all_goals exact ⟨⟨k + 1, D, ⟨#[]⟩, 0, by omega, by omega, by simp, hidK ((HPC.out.walk (by decide)).mono (by omega))⟩, by simp [intOf]; omega⟩
        · have k6 : (kd != 6) = true := by simpa using h6
          have HDo := does_any HP5.out.tb (by omega) ⟨kd, tk, ⟨st, sc, sm, sr, sl⟩⟩ HSw.out
          have HOk := hidK (do_ok HP5.out.ok ⟨kd, tk, ⟨st, sc, sm, sr, sl⟩⟩ HSw.out)
          go_wp2_with fail
          refine HDo.mono ?_
          rintro e Y1 ⟨rfl, htn⟩
          have HP6 := hidK (HP5.out.step htn HOk.out)
          clear htn HDo hW5 hq5
          go_wp2_with fail
          exact ⟨⟨k + 1, _, t, u, by omega, by omega, by simp, HP6⟩, by simp [intOf]; omega⟩
      · obtain rfl : k = 250 := by omega
        go_wp2_with fail
        refine (HSu.out _ HP.out.below).mono ?_
        rintro e Y ⟨rfl, hb⟩
        have HBz := hidK (below_step HP.out.below hb)
        clear hb
        go_wp2_with fail
        go_ret
        exact ⟨rfl, HBz.out⟩
    · obtain rfl : k = N := by omega
      go_wp2_with fail
      refine (HSu.out _ HP.out.below).mono ?_
      rintro e Y ⟨rfl, hb⟩
      have HBz := hidK (below_step HP.out.below hb)
      clear hb
      go_wp2_with fail
      go_ret
      exact ⟨rfl, HBz.out⟩
end Go.Proofs.YtbonnjilbocldaaDoor
