/-
  Buffers: the document's: Rename.
-/
import Derived.Test.YtgbaeajcgiaboaaDoorURfF
namespace Go.Proofs.YtgbaeajcgiaboaaDoor
open Go.RowKit
set_option linter.unusedVariables false
set_option maxRecDepth 100000

/-- A cell of the document's stack written over, in a row of one's own. -/
theorem its_put {w : World} {g o n cp : Nat} {l l' : List Kp} (h : ItsAt w (.slice (some ⟨g, o, none⟩) n cp) l) (hn : l.length = n) {j : Nat} (hj : j < n * 3) (u : Value) (hl : cellsK l' = (cellsK l).set j u) (hl2 : l'.length = n) : ItsAt (w.setCell ⟨g, o + j, none⟩ u) (.slice (some ⟨g, o, none⟩) n cp) l' := by
  unfold ItsAt at h ⊢
  rw [hn] at h
  rw [hl2, hl]
  exact Row.set h hj u
theorem Bx.item {w W : World} {Q1 Q2 g o n cp : Nat} {lim c : Int} {l l' : List Kp} (h : Bx w W Q1 Q2 (.slice (some ⟨g, o, none⟩) n cp) lim c l) (hg : w.heap.size ≤ g) (hn : l.length = n) {j : Nat} (hj : j < n * 3) (u : Value) (hl : cellsK l' = (cellsK l).set j u) (hl2 : l'.length = n) : Bx w (W.setCell ⟨g, o + j, none⟩ u) Q1 Q2 (.slice (some ⟨g, o, none⟩) n cp) lim c l' := by
  have n1 : Q1 ≠ g := fun e => by
    obtain ⟨cur, hc⟩ := Row.block h.its (g := g) rfl
    rw [← e, h.q1] at hc
    cases hc
  have n2 : Q2 ≠ g := fun e => by
    obtain ⟨cur, hc⟩ := Row.block h.its (g := g) rfl
    rw [← e, h.q2] at hc
    cases hc
  exact ⟨h.below.setCell hg _, h.o1, h.o2, h.ne, put_other h.q1 n1 _ _, put_other h.q2 n2 _ _, its_put h.its hn hj u hl hl2⟩
theorem ren_cells {w W : World} {Q1 Q2 g o n cp k : Nat} {lim c : Int} {l : List Kp} (h : Bx w W Q1 Q2 (.slice (some ⟨g, o, none⟩) n cp) lim c l) (hn : l.length = n) (hk : k < n) : W.cell? ⟨g, o + k * 3, none⟩ = some (.string (l[k]'(by omega)).n) ∧ W.frozen? ⟨g, o + k * 3, none⟩ = false := by
  obtain ⟨ad, cap, e, _, _, _, hsome⟩ := h.its.shape
  simp only [Value.slice.injEq] at e
  obtain ⟨rfl, -, -⟩ := e
  obtain ⟨g', o', e', _, _, hat⟩ := hsome _ rfl
  cases e'
  exact ⟨(hat W rfl).1 k (by omega) 0 _ rfl, (hat W rfl).2 _⟩
theorem ren_cells2 {w W : World} {Q1 Q2 g o n cp k : Nat} {lim c : Int} {l : List Kp} (h : Bx w W Q1 Q2 (.slice (some ⟨g, o, none⟩) n cp) lim c l) (hn : l.length = n) (hk : k < n) : W.cell? ⟨g, o + k * 3 + 2, none⟩ = some (.bool (l[k]'(by omega)).a) ∧ W.frozen? ⟨g, o + k * 3 + 2, none⟩ = false := by
  obtain ⟨ad, cap, e, _, _, _, hsome⟩ := h.its.shape
  simp only [Value.slice.injEq] at e
  obtain ⟨rfl, -, -⟩ := e
  obtain ⟨g', o', e', _, _, hat⟩ := hsome _ rfl
  cases e'
  exact ⟨(hat W rfl).1 k (by omega) 2 _ rfl, (hat W rfl).2 _⟩
/-- All of them, copied. -/
theorem copy_box {w W w5 : World} {Q1 Q2 : Nat} {v v2 : Value} {lim c : Int} {l : List Kp} (h : Bx w W Q1 Q2 v lim c l) (h0 : 0 < l.length) (hr : Row w5 87 3 v2 (0 + l.length) ([] ++ cellsK l)) (hg : Grown (W.alloc (.cells #[] 87)) w5 (.slice (some ⟨W.heap.size, 0, none⟩) 0 0) v2 (Value.slice (some ⟨W.heap.size, 0, none⟩) 0 0).ownBlock.toList) :
    ∃ g2 o2 p2, v2 = .slice (some ⟨g2, o2, none⟩) l.length p2 ∧ w.heap.size ≤ g2 ∧ Hid (Bx w w5 Q1 Q2 v lim c l) ∧ Hid (ItsAt w5 v2 l) := by
  have hZ := h.more (W' := W.alloc (.cells #[] 87)) ((Below.refl _ _).alloc (Nat.le_refl _) _)
  have hb : But [W.heap.size] (W.alloc (.cells #[] 87)) w5 := hg.but
  have l1 := lt_block h.q1
  have l2 := lt_block h.q2
  have l3 := h.below.size
  have hi : ItsAt w5 v2 l := by
    rw [Nat.zero_add, List.nil_append] at hr
    exact hr
  obtain ⟨ad, cap, e, _, _, hnil, hsome⟩ := hi.shape
  cases ad with
  | none => have := (hnil rfl).1; rw [this] at h0; simp at h0
  | some a =>
    obtain ⟨g, o, rfl, hob, _⟩ := hsome a rfl
    refine ⟨g, o, cap, e, ?_, ⟨hb.under hZ.below hZ.below.size (fun k hk => by simp at hk; omega), hZ.o1, hZ.o2, hZ.ne, (hb.block Q1 (lt_block hZ.q1) (by simp; omega)).trans hZ.q1, (hb.block Q2 (lt_block hZ.q2) (by simp; omega)).trans hZ.q2, ?_⟩, hi⟩
    · rcases hg.own with z | z
      · rw [hob] at z
        simp [Value.ownBlock] at z
        omega
      · rw [hob] at z
        simp at z
        omega
    · exact Row.but hZ.its hb fun q hq => by
        have := Row.lt h.its q hq
        simp
        omega
set_option maxHeartbeats 16000000 in
theorem rRename_any {w : World} {v : Value} {s : St} (h : ItsAt w v s.l) (name tw : ByteArray) (hlen : s.l.length ≤ 1000000) (htw : tw.size ≤ 140737488355328) :
    Calls Tryd.prog 33 #[.agg #[v, .int .i64 (s.lim : Int), .int .i64 (s.c : Int)], .string name, .string tw] w fun e w' => ∃ v', e = .returned (.tuple #[.agg #[v', .int .i64 ((renF s name tw).1.lim : Int), .int .i64 ((renF s name tw).1.c : Int)], .int .i64 (renF s name tw).2]) ∧ ItsAt w' v' (renF s name tw).1.l ∧ Below w.heap.size w w' := by
  have HX := hidK (Bx.new h (s.lim : Int) (s.c : Int) _ _ rfl rfl)
  obtain ⟨W2, hW2⟩ : ∃ W, (w.alloc (.cells #[v, .int .i64 (s.lim : Int), .int .i64 (s.c : Int)] 62)).alloc (.cells #[.slice none 0 0, .int .i64 0, .int .i64 0] 62) = W := ⟨_, rfl⟩
  rw [hW2] at HX
  obtain ⟨Q1, hQ1⟩ : ∃ Q, w.heap.size = Q := ⟨_, rfl⟩
  obtain ⟨Q2, hQ2⟩ : ∃ Q, w.heap.size + 1 = Q := ⟨_, rfl⟩
  have HXQ : Hid (Bx w W2 Q1 Q2 v (s.lim : Int) (s.c : Int) s.l) := by rw [← hQ1, ← hQ2]; exact HX
  have HWe := hidK hW2
  have HQ1 := hidK hQ1
  have HQ2 := hidK hQ2
  have HM := hidK (rMeant_any HXQ.out.its (s.lim : Int) (s.c : Int) name)
  obtain ⟨ad, n0, cp, rfl⟩ := h.sl
  have q0 := cell_at HXQ.out.q1 0
  have q1 := cell_at HXQ.out.q1 1
  have q2 := cell_at HXQ.out.q1 2
  have HWd := hidK (fun W => refIsWord_any tw W (by unfold maxLen; omega))
  have hge := fidx_ge (nmd tw) s.l
  have HAt : Hid (∀ W, Bx w W Q1 Q2 (.slice ad n0 cp) (s.lim : Int) (s.c : Int) s.l → Calls Tryd.prog 49 #[.agg #[.slice ad n0 cp, .int .i64 (s.lim : Int), .int .i64 (s.c : Int)], .string tw] W fun e w' => e = .returned (.int .i64 (fidx (nmd tw) s.l)) ∧ Below W.heap.size W w') := fun W hW => rAt_any hW.its _ _ tw
  have HCo : Hid (∀ W, Bx w W Q1 Q2 (.slice ad n0 cp) (s.lim : Int) (s.c : Int) s.l → Calls Tryd.prog 55 #[.agg #[.slice ad n0 cp, .int .i64 (s.lim : Int), .int .i64 (s.c : Int)], .bool false] W fun e w' => e = .returned (.int .i64 ((named s.l : Nat) : Int)) ∧ Below W.heap.size W w') := fun W hW => rCount_any hW.its _ _ false
  have hS : Hid (∀ W, Bx w W Q1 Q2 (.slice ad n0 cp) (s.lim : Int) (s.c : Int) s.l → W.cell? ⟨Q1, 0, none⟩ = some (.slice ad n0 cp) ∧ W.cell? ⟨Q1, 1, none⟩ = some (.int .i64 (s.lim : Int)) ∧ W.cell? ⟨Q1, 2, none⟩ = some (.int .i64 (s.c : Int)) ∧ W.cell? ⟨Q2, 0, none⟩ = some (.slice none 0 0) ∧ W.cell? ⟨Q2, 1, none⟩ = some (.int .i64 0) ∧ W.cell? ⟨Q2, 2, none⟩ = some (.int .i64 0) ∧ W.frozen? ⟨Q2, 0, none⟩ = false ∧ W.frozen? ⟨Q2, 1, none⟩ = false ∧ W.frozen? ⟨Q2, 2, none⟩ = false ∧ W.frozen? ⟨Q1, 0, none⟩ = false) := fun W hW => ⟨cell_at hW.q1 0, cell_at hW.q1 1, cell_at hW.q1 2, cell_at hW.q2 0, cell_at hW.q2 1, cell_at hW.q2 2, free_at hW.q2 0, free_at hW.q2 1, free_at hW.q2 2, free_at hW.q1 0⟩
  have HRet : Hid (∀ W, Bx w W Q1 Q2 (.slice ad n0 cp) (s.lim : Int) (s.c : Int) s.l → ∃ cs, ((((W.setCell ⟨Q2, 0, none⟩ (.slice ad n0 cp)).setCell ⟨Q2, 1, none⟩ (.int .i64 (s.lim : Int))).setCell ⟨Q2, 2, none⟩ (.int .i64 (s.c : Int))).heap[Q2]? = some (.cells cs 62 (0, 0))) ∧ cs = #[.slice ad n0 cp, .int .i64 (s.lim : Int), .int .i64 (s.c : Int)] ∧ ItsAt (((W.setCell ⟨Q2, 0, none⟩ (.slice ad n0 cp)).setCell ⟨Q2, 1, none⟩ (.int .i64 (s.lim : Int))).setCell ⟨Q2, 2, none⟩ (.int .i64 (s.c : Int))) (.slice ad n0 cp) s.l ∧ Below w.heap.size w (((W.setCell ⟨Q2, 0, none⟩ (.slice ad n0 cp)).setCell ⟨Q2, 1, none⟩ (.int .i64 (s.lim : Int))).setCell ⟨Q2, 2, none⟩ (.int .i64 (s.c : Int)))) := fun W hW => by
    obtain ⟨t1, t2, t3⟩ := hW.told (lim' := (s.lim : Int)) (c' := (s.c : Int)) hW.its
    exact ⟨_, t1, rfl, t2, t3⟩
  clear hQ1 hQ2 HX hW2 h htw
  cases hm : mnt name s.l with
  | none =>
    have HF : Hid (renF s name tw = (s, 240)) := by show _ = _; unfold renF; rw [hm]
    have h1 : mntM name s.l = -1 := by unfold mntM; rw [hm]
    rw [HF.out]
    rw [h1] at HM
    clear hm h1
    go_enter Tryd.func33, Tryd.ntmps33
    go_upto_region 1 with fail
    rw [HWe.out, HQ2.out, HQ1.out]
    clear HWe
    go_wp2_with fail
    refine HM.out.mono ?_
    rintro e w3 ⟨rfl, hb3⟩
    have HB3 := hidK (HXQ.out.more hb3)
    obtain ⟨r0, r1, r2, y0, y1, y2, z0, z1, z2, z3⟩ := hS.out _ HB3.out
    clear hb3 q0 q1 q2
    go_wp2_with fail
    obtain ⟨cs, t1, rfl, t2, t3⟩ := HRet.out _ HB3.out
    exact ret_cell2 rfl rfl t1 Tryd.underlying62 rfl infoRB rfl ⟨_, rfl, t2, t3⟩
  | some k =>
    have hk := mnt_lt hm
    have h1 : mntM name s.l = (k : Int) := by unfold mntM; rw [hm]
    rw [h1] at HM
    obtain ⟨I, hI⟩ : ∃ I, fidx (nmd tw) s.l = I := ⟨_, rfl⟩
    rw [hI] at HAt hge
    have HI := hidK hI
    have hk0 : ¬ (k : Int) < 0 := by omega
    clear h1 hI
    by_cases hw : word tw = false
    · have HF : Hid (renF s name tw = (s, 73)) := by show _ = _; unfold renF; rw [hm]; exact if_pos hw
      rw [HF.out]
      have hw' : (nameB tw && !has tw 32) = false := hw
      rw [hw'] at HWd
      clear hm hw hw' hk
      go_enter Tryd.func33, Tryd.ntmps33
      go_upto_region 1 with fail
      rw [HWe.out, HQ2.out, HQ1.out]
      clear HWe
      go_wp2_with fail
      refine HM.out.mono ?_
      rintro e w3 ⟨rfl, hb3⟩
      have HB3 := hidK (HXQ.out.more hb3)
      clear hb3 q0 q1 q2
      go_wp2_with fail
      refine (HWd.out _).mono ?_
      rintro e w4 ⟨rfl, hb4⟩
      subst hb4
      obtain ⟨r0, r1, r2, y0, y1, y2, z0, z1, z2, z3⟩ := hS.out _ HB3.out
      go_wp2_with fail
      obtain ⟨cs, t1, rfl, t2, t3⟩ := HRet.out _ HB3.out
      exact ret_cell2 rfl rfl t1 Tryd.underlying62 rfl infoRB rfl ⟨_, rfl, t2, t3⟩
    · have hw1 : word tw = true := by simpa using hw
      have hw' : (nameB tw && !has tw 32) = true := hw1
      rw [hw'] at HWd
      obtain ⟨tb, htb⟩ : ∃ tb, decide (0 ≤ I ∧ I ≠ (k : Int)) = tb := ⟨_, rfl⟩
      have HTb := hidK htb
      obtain ⟨⟨xn, xt, xa⟩, hx⟩ : ∃ q, s.l[k] = q := ⟨_, rfl⟩
      have ex : s.l[k]? = some ⟨xn, xt, xa⟩ := by rw [List.getElem?_eq_getElem hk, hx]
      obtain ⟨fb, hfb⟩ : ∃ fb, (xa && decide (20 ≤ named s.l)) = fb := ⟨_, rfl⟩
      have HFb := hidK hfb
      have HR1 : Hid (tb = true → renF s name tw = (s, 74)) := fun h => by
        unfold renF
        rw [hm]
        simp only [if_neg hw, HI.out]
        exact if_pos (of_decide_eq_true (htb.trans h))
      have HR2 : Hid (tb = false → fb = true → renF s name tw = (s, 3)) := fun h h2 => by
        unfold renF
        rw [hm]
        simp only [if_neg hw, HI.out, if_neg (of_decide_eq_false (htb.trans h)), ex, Option.map_some, Option.getD_some]
        refine if_pos ?_
        rw [h2] at hfb
        simpa using hfb
      have HR3 : Hid (tb = false → fb = false → renF s name tw = (⟨s.l.set k ⟨tw, xt, false⟩, s.lim, s.c⟩, 0)) := fun h h2 => by
        unfold renF renAt
        rw [hm]
        simp only [if_neg hw, HI.out, if_neg (of_decide_eq_false (htb.trans h)), ex, Option.map_some, Option.getD_some]
        refine if_neg ?_
        rw [h2] at hfb
        intro hh
        rw [hh.1, decide_eq_true hh.2] at hfb
        cases hfb
      obtain ⟨ad2, cp2, he, _, _, hnil, hsome⟩ := HXQ.out.its.shape
      cases he
      have hkl : (k : Int) < (s.l.length : Int) := by omega
      cases ad with
      | none => have := (hnil rfl).1; rw [this] at hk; simp at hk
      | some a =>
        obtain ⟨g0, o0, rfl, hob, hgl, hat⟩ := hsome _ rfl
        have HAt2 : Hid (∀ W, Below W2.heap.size W2 W → W.cell? ⟨g0, o0 + k * 3 + 2, none⟩ = some (.bool xa)) := fun W hW => (hat W (hW.block g0 hgl)).1 k hk 2 _ (by rw [hx]; rfl)
        obtain ⟨Rn, hRn⟩ : ∃ R, renF s name tw = R := ⟨_, rfl⟩
        rw [hRn] at HR1 HR2 HR3 ⊢
        have hnm : named s.l ≤ 1000000 := Nat.le_trans (cnt_le false s.l) hlen
        obtain ⟨Nm, hNm⟩ : ∃ N, named s.l = N := ⟨_, rfl⟩
        rw [hNm] at HCo HFb hnm
        have hset1 : Hid (cellsK (s.l.set k ⟨tw, xt, xa⟩) = (cellsK s.l).set (k * 3) (.string tw)) := by show _ = _; rw [cells_name _ _ hk, hx]
        have hset2 : Hid (cellsK (s.l.set k ⟨tw, xt, false⟩) = (cellsK (s.l.set k ⟨tw, xt, xa⟩)).set (k * 3 + 2) (.bool false)) := by
          show _ = _
          rw [cells_auto _ _ (by rw [List.length_set]; exact hk)]
          simp
        clear hm hw hw' hw1 hx ex htb hfb hnil hsome hob hgl hat hRn hNm
        go_enter Tryd.func33, Tryd.ntmps33
        go_upto_region 1 with fail
        rw [HWe.out, HQ2.out, HQ1.out]
        clear HWe
        go_wp2_with fail
        refine HM.out.mono ?_
        rintro e w3 ⟨rfl, hb3⟩
        have HB3 := hidK (HXQ.out.more hb3)
        have HE3 := hidK hb3
        clear hb3 q0 q1 q2
        go_wp2_with fail
        refine (HWd.out _).mono ?_
        rintro e w4 ⟨rfl, hb4⟩
        subst hb4
        obtain ⟨r0, r1, r2, y0, y1, y2, z0, z1, z2, z3⟩ := hS.out _ HB3.out
        go_upto_region 6 with fail
        go_cut [21] (fun v X => v = .bool tb ∧ Hid (Bx w X Q1 Q2 (.slice (some ⟨g0, o0, none⟩) s.l.length cp) (s.lim : Int) (s.c : Int) s.l) ∧ Hid (Below W2.heap.size W2 X))
        case first =>
          by_cases c1 : 0 ≤ I
          · go_wp2_with fail
            refine (HAt.out _ HB3.out).mono ?_
            rintro e w5 ⟨rfl, hb5⟩
            have HB5 := hidK (HB3.out.more hb5)
            have HE5 := hidK (HE3.out.trans (hb5.mono HE3.out.size))
            obtain ⟨p0, p1, p2, _⟩ := hS.out _ HB5.out
            clear hb5
            go_wp2_with fail
            all_goals first | (exfalso; omega) | skip
            refine (HAt.out _ HB5.out).mono ?_
            rintro e w6 ⟨rfl, hb6⟩
            have HB6 := hidK (HB5.out.more hb6)
            have HE6 := hidK (HE5.out.trans (hb6.mono HE5.out.size))
            clear hb6
            by_cases c2 : I = (k : Int)
            · have d1 : (I == (k : Int)) = true := by simpa using c2
              have d2 : (I != (k : Int)) = false := by simpa using c2
              have HV : Hid (tb = false) := by show _ = _; rw [← HTb.out]; exact decide_eq_false (fun h => h.2 c2)
              go_wp2_with fail
              all_goals first | (exfalso; omega) | skip
              go_meet
              case rel => exact ⟨by rw [HV.out], HB6, HE6⟩
            · have d1 : (I == (k : Int)) = false := by simpa using c2
              have d2 : (I != (k : Int)) = true := by simpa using c2
              have HV : Hid (tb = true) := by show _ = _; rw [← HTb.out]; exact decide_eq_true ⟨c1, c2⟩
              go_wp2_with fail
              all_goals first | (exfalso; omega) | skip
              go_meet
              case rel => exact ⟨by rw [HV.out], HB6, HE6⟩
          · have HV : Hid (tb = false) := by show _ = _; rw [← HTb.out]; exact decide_eq_false (fun h => c1 h.1)
            go_wp2_with fail
            refine (HAt.out _ HB3.out).mono ?_
            rintro e w5 ⟨rfl, hb5⟩
            have HB5 := hidK (HB3.out.more hb5)
            have HE5 := hidK (HE3.out.trans (hb5.mono HE3.out.size))
            clear hb5
            go_wp2_with fail
            all_goals first | (exfalso; omega) | skip
            go_meet
            case rel => exact ⟨by rw [HV.out], HB5, HE5⟩
        case rest =>
          obtain ⟨rfl, HBc, HEc⟩ := hcut
          clear r0 r1 r2 y0 y1 y2 z0 z1 z2 z3 HB3 HE3
          obtain ⟨r0, r1, r2, y0, y1, y2, z0, z1, z2, z3⟩ := hS.out _ HBc.out
          cases tb with
          | true =>
            go_wp2_with fail
            obtain ⟨cs, t1, rfl, t2, t3⟩ := HRet.out _ HBc.out
            exact ret_cell2 rfl rfl t1 Tryd.underlying62 rfl infoRB rfl (by rw [HR1.out (by simp)]; exact ⟨_, rfl, t2, t3⟩)
          | false =>
            have k2 := HAt2.out _ HEc.out
            go_upto_region 8 with fail
            go_cut [34] (fun v X => v = .bool fb ∧ Hid (Bx w X Q1 Q2 (.slice (some ⟨g0, o0, none⟩) s.l.length cp) (s.lim : Int) (s.c : Int) s.l))
            case first =>
              cases xa with
              | false =>
                have HV : Hid (fb = false) := by show _ = _; rw [← HFb.out]; rfl
                go_wp2_with fail
                go_meet
                case rel => exact ⟨by rw [HV.out], HBc⟩
              | true =>
                have HV : Hid (decide (20 ≤ Nm) = fb) := by show _ = _; rw [← HFb.out]; rfl
                go_wp2_with fail
                refine (HCo.out _ HBc.out).mono ?_
                rintro e w5 ⟨rfl, hb5⟩
                have HB5 := hidK (HBc.out.more hb5)
                clear hb5
                go_wp2_with fail
                go_meet
                case rel => exact ⟨by rw [← HV.out]; simp; omega, HB5⟩
            case rest =>
              obtain ⟨rfl, HBd⟩ := hcut
              clear r0 r1 r2 y0 y1 y2 z0 z1 z2 z3 k2 HBc HEc
              obtain ⟨r0, r1, r2, y0, y1, y2, z0, z1, z2, z3⟩ := hS.out _ HBd.out
              cases fb with
              | true =>
                go_wp2_with fail
                obtain ⟨cs, t1, rfl, t2, t3⟩ := HRet.out _ HBd.out
                exact ret_cell2 rfl rfl t1 Tryd.underlying62 rfl infoRB rfl (by rw [HR2.out (by simp) (by simp)]; exact ⟨_, rfl, t2, t3⟩)
              | false =>
                have HRow : Hid (Row (wc.alloc (.cells #[] 87)) 87 3 (.slice (some ⟨wc.heap.size, 0, none⟩) 0 0) 0 []) := ⟨rfl, .inr ⟨wc.heap.size, 0, 0, #[], rfl, heap_alloc_new _ _, Nat.le_refl _, Nat.zero_le _, Nat.zero_le _, fun j u hu => by simp at hu⟩⟩
                have HSr := hidK (its_src (HBd.out.more (W' := wc.alloc (.cells #[] 87)) ((Below.refl _ _).alloc (Nat.le_refl _) _)).its)
                have e0 : (wc.alloc (.cells #[] 87)).cell? ⟨Q1, 0, none⟩ = some (.slice (some ⟨g0, o0, none⟩) s.l.length cp) := Lib.cell?_alloc_some _ r0
                have hpos : 0 < s.l.length := by omega
                clear r0 r1 r2 y0 y1 y2 z0 z1 z2 z3
                go_wp2_with (at_builtin; refine wpList_append_row (wc.alloc (.cells #[] 87)) rfl _ _ 60 60 rfl underI infoI rfl rfl rfl HRow.out HSr.out (by omega) (by unfold maxLen; omega) ?_; intro v2 w5 hr hg; obtain ⟨g2, o2, p2, rfl, hg2, HB5, HI5⟩ := copy_box HBd.out hpos hr.out hg.out; clear hr hg e0; obtain ⟨w6, hw6⟩ : ∃ w6, w5.setCell ⟨Q1, 0, none⟩ (.slice (some ⟨g2, o2, none⟩) s.l.length p2) = w6 := ⟨_, rfl⟩; have hb6 := HB5.out.put0 HI5.out; have a0 := cell_at HB5.out.q1 0; have a1 := free_at HB5.out.q1 0; rw [hw6] at hb6; have b0 := cell_at hb6.q1 0; obtain ⟨c0, c1⟩ := ren_cells hb6 (by omega) hk; obtain ⟨w7, hw7⟩ : ∃ w7, w6.setCell ⟨g2, o2 + k * 3, none⟩ (.string tw) = w7 := ⟨_, rfl⟩; have hb7 := hb6.item hg2 rfl (j := k * 3) (by omega) (.string tw) hset1.out (by rw [List.length_set]); rw [hw7] at hb7; have d0 := cell_at hb7.q1 0; obtain ⟨d1, d2⟩ := ren_cells2 hb7 (by rw [List.length_set]) hk; obtain ⟨w8, hw8⟩ : ∃ w8, w7.setCell ⟨g2, o2 + k * 3 + 2, none⟩ (.bool false) = w8 := ⟨_, rfl⟩; have hb8 := hb7.item hg2 (by rw [List.length_set]) (j := k * 3 + 2) (by omega) (.bool false) hset2.out (by rw [List.length_set]); rw [← Nat.add_assoc, hw8] at hb8; have HB8 := hidK hb8; have t0 := cell_at hb8.q1 0; have t1 := cell_at hb8.q1 1; have t2 := cell_at hb8.q1 2; have s0 := cell_at hb8.q2 0; have s1 := cell_at hb8.q2 1; have s2 := cell_at hb8.q2 2; have u0 := free_at hb8.q2 0; have u1 := free_at hb8.q2 1; have u2 := free_at hb8.q2 2; clear hb6 hb7 hb8)
                obtain ⟨x1, x2, x3⟩ := HB8.out.told (lim' := (s.lim : Int)) (c' := (s.c : Int)) HB8.out.its
                exact ret_cell2 rfl rfl x1 Tryd.underlying62 rfl infoRB rfl (by rw [HR3.out (by simp) (by simp)]; exact ⟨_, rfl, x2, x3⟩)
end Go.Proofs.YtgbaeajcgiaboaaDoor
