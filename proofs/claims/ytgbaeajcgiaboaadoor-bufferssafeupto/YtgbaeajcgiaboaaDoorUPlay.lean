/-
  Buffers, the statement's play.
-/
import Derived.Test.YtgbaeajcgiaboaaDoorUGam
import Derived.Deep.DeepCutAuto
namespace Go.Proofs.YtgbaeajcgiaboaaDoor
open Go.RowKit
set_option linter.unusedVariables false
set_option maxRecDepth 100000

theorem start_a {w w1 w2 : World} {b : Nat} (hp : Pr w w1 b (.slice none 0 0) ⟨[], 20, 0⟩) (hb : Below w1.heap.size w1 w2) : Pr w (w2.alloc (.cells #[.slice none 0 0, .int .i64 20, .int .i64 0] 62)) b (.slice none 0 0) ⟨[], 20, 0⟩ ∧ Dr w (w2.alloc (.cells #[.slice none 0 0, .int .i64 20, .int .i64 0] 62)) w2.heap.size (.slice none 0 0) ⟨[], 20, 0⟩ :=
  ⟨(hp.below hb).below ((Below.refl _ _).alloc (Nat.le_refl _) _), (hp.below hb).env.old.size, heap_alloc_new _ _, Row.nil _ _ _⟩
/-- The document's new struct, laid over the old one. -/
theorem doc_step {w Y Z Z2 : World} {b Q q : Nat} {vp vd vd' : Value} {sp s s' : St} {cs : Array Value} (hp : Pr w Y b vp sp) (hd : Dr w Y Q vd s) (h' : ItsAt Y vd' s'.l) (hq : Y.heap[q]? = some (.cells cs 47 (0, 0)))
    (hZ : Y.alloc (.cells #[vd', .int .i64 (s'.lim : Int), .int .i64 (s'.c : Int)] 62) = Z) (hZ2 : ((Z.setCell ⟨Q, 0, none⟩ vd').setCell ⟨Q, 1, none⟩ (.int .i64 (s'.lim : Int))).setCell ⟨Q, 2, none⟩ (.int .i64 (s'.c : Int)) = Z2) :
    Hid (Pr w Z2 b vp sp) ∧ Hid (Dr w Z2 Q vd' s') ∧ Hid (Z2.heap[q]? = some (.cells cs 47 (0, 0))) := by
  have hb : Below Y.heap.size Y Z := by rw [← hZ]; exact (Below.refl _ _).alloc (Nat.le_refl _) _
  have hdz := hd.below hb
  have hpz := hp.below hb
  have hqz : Z.heap[q]? = _ := (hb.block q (lt_block hq)).trans hq
  have hne : q ≠ Q := fun e => by
    rw [e, hdz.q] at hqz
    cases hqz
  rw [← hZ2]
  refine ⟨?_, hdz.new (Row.below h' hb), put_other (put_other (put_other hqz hne _ _) hne _ _) hne _ _⟩
  have p1 := hpz.put hdz.q (by decide) (by decide) hd.ge 0 vd'
  have p2 := p1.put (put_at hdz.q 0 vd') (by decide) (by decide) hd.ge 1 (.int .i64 (s'.lim : Int))
  exact p2.put (put_at (put_at hdz.q 0 vd') 1 _) (by decide) (by decide) hd.ge 2 _
set_option maxHeartbeats 40000000 in
theorem play_any {w : World} (hT : Tens w) (v : Value) (l : List Ps) (hv : SeeP w v l) (hl : ∀ s ∈ l, s.wf) (lo hi : Int) :
    Calls Tryd.prog 17 #[v, .int .i64 lo, .int .i64 hi] w fun r w' => r = .returned (.bool true) ∧ Below w.heap.size w w' := by
  obtain ⟨ad, cp, rfl, hcell⟩ := hv
  obtain ⟨N, hN⟩ : ∃ N, l.length = N := ⟨_, rfl⟩
  rw [hN]
  have HNw := hidK (new_any w)
  have HSu : Hid (∀ Y, Below w.heap.size w Y → Calls Tryd.prog 10 #[] Y fun r w' => r = .returned (.bool true) ∧ Below Y.heap.size Y w') := fun Y hY => sure_any (hT.below hY)
  have HCe := hidK hcell
  have HN := hidK hN
  have HL := hidK hl
  have HT := hidK hT
  obtain ⟨b, hb⟩ : ∃ b, w.heap.size = b := ⟨_, rfl⟩
  have Hb := hidK hb
  rw [hb] at HNw
  have HRn := hidK (fun W => rNew_any W)
  clear hT hcell hN hl hb
  go_enter Tryd.func17, Tryd.ntmps17
  go_wp2_with fail
  refine HNw.out.mono ?_
  rintro e w1 ⟨rfl, hn1, hn2⟩
  have HP1 : Hid (Pr w w1 b (.slice none 0 0) ⟨[], 20, 0⟩) := ⟨Env.self HT.out (by rw [Hb.out]; exact hn2) (Nat.le_of_eq Hb.out), hn1⟩
  clear hn1 hn2 HNw
  go_wp2_with fail
  refine (HRn.out _).mono ?_
  rintro e w2 ⟨rfl, hb2⟩
  obtain ⟨hs1, hs2⟩ := start_a HP1.out hb2
  have HS1 := hidK hs1
  have HS2 := hidK hs2
  clear hs1 hs2 hb2
  go_upto_region 5 with fail
  refine gen_wp (fun Y => ∃ Q, Q = w2.heap.size ∧ Pr w Y b (.slice none 0 0) ⟨[], 20, 0⟩ ∧ Dr w Y Q (.slice none 0 0) ⟨[], 20, 0⟩) ?g1 ?_
  case g1 => exact ⟨_, rfl, HS1.out, HS2.out⟩
  rintro W0 ⟨Q, hQ, hp0, hd0⟩
  have HP0 := hidK hp0
  have HD0 := hidK hd0
  rw [← hQ]
  clear hQ hp0 hd0 HS1 HS2 HP1 HRn
  go_wp2_with fail
  go_loopw [9] (fun iv wr => ∃ (k : Nat) (s : St) (vp vd : Value), k ≤ N ∧ k ≤ 300 ∧ iv = .int .i64 k ∧ Hid (Pr w wr b vp s) ∧ Hid (Dr w wr Q vd s) ∧ Hid (Good s k)) (fun iv _ => N - (intOf iv).toNat)
  case atStart => exact ⟨0, ⟨[], 20, 0⟩, _, _, Nat.zero_le _, Nat.zero_le _, rfl, HP0, HD0, good_new 0⟩
  case round =>
    clear HP0 HD0
    obtain ⟨k, s, vp, vd, hk, hk2, rfl, HP, HD, HG⟩ := hrel
    obtain ⟨cnd, hcnd⟩ : ∃ c, (decide (k < N) && decide (k < 300)) = c := ⟨_, rfl⟩
    have HC := hidK hcnd
    clear hcnd
    go_upto_region 6 with fail
    go_cut [40] (fun v X => v = .bool cnd ∧ wr = X)
    case first =>
      by_cases q1 : k < N
      · have i1 : (k : Int) < (N : Int) := by omega
        by_cases q2 : k < 300
        · have i2 : (k : Int) < 300 := by omega
          go_wp2_with fail
          go_meet
          case rel => exact ⟨by rw [← HC.out]; simp [q1, q2], rfl⟩
        · have i2 : ¬ (k : Int) < 300 := by omega
          go_wp2_with fail
          go_meet
          case rel => exact ⟨by rw [← HC.out]; simp [q2], rfl⟩
      · have i1 : ¬ (k : Int) < (N : Int) := by omega
        go_wp2_with fail
        go_meet
        case rel => exact ⟨by rw [← HC.out]; simp [q1], rfl⟩
    case rest =>
      obtain ⟨rfl, rfl⟩ := hcut
      cases cnd with
      | false =>
        go_wp2_with fail
        refine (HSu.out _ HP.out.env.old).mono ?_
        rintro e' Y ⟨rfl, hb⟩
        have HBz := hidK (HP.out.env.old.trans (hb.mono HP.out.env.old.size))
        clear hb
        go_wp2_with fail
        go_ret
        exact ⟨rfl, HBz.out⟩
      | true =>
        have hkk : k < N ∧ k < 300 := by have := HC.out; simpa using this
        have hka : k < l.length := by rw [HN.out]; exact hkk.1
        obtain ⟨g, o, rfl, hc⟩ := HCe.out (fun e => by rw [e] at hka; simp at hka)
        have hcs := hc k hka
        have hsw := HL.out _ (List.getElem_mem hka)
        obtain ⟨⟨kd, n, nm, tx⟩, hst⟩ : ∃ q, l[k] = q := ⟨_, rfl⟩
        rw [hst] at hcs hsw
        have up : ∀ (o : Nat) (v : Value), w.cell? ⟨g, o, none⟩ = some v → wr.cell? ⟨g, o, none⟩ = some v := fun o v h => (HP.out.env.old.cell (World.block_lt_of_cell? w _ h)).trans h
        have e0 : wr.cell? ⟨g, o + k * 4, none⟩ = some (.int .i64 kd) := up _ _ (hcs 0 _ rfl)
        have e1 : wr.cell? ⟨g, o + k * 4 + 1, none⟩ = some (.int .i64 n) := up _ _ (hcs 1 _ rfl)
        have e2 : wr.cell? ⟨g, o + k * 4 + 2, none⟩ = some (.string nm) := up _ _ (hcs 2 _ rfl)
        have e3 : wr.cell? ⟨g, o + k * 4 + 3, none⟩ = some (.string tx) := up _ _ (hcs 3 _ rfl)
        have i1 : (k : Int) < (N : Int) := by omega
        have i2 : (k : Int) < 300 := by omega
        have HKk : Hid (k + 1 ≤ N ∧ k + 1 ≤ 300) := by show _ ∧ _; omega
        have HSw := hidK hsw
        clear hc hcs hst hsw hka up hkk HC hk hk2 HCe
        obtain ⟨q, hq⟩ : ∃ q, wr.heap.size = q := ⟨_, rfl⟩
        obtain ⟨V, hV⟩ : ∃ W, wr.alloc (.cells #[.int .i64 kd, .int .i64 n, .string nm, .string tx] 47) = W := ⟨_, rfl⟩
        have ha5 : V.heap[q]? = some (.cells #[.int .i64 kd, .int .i64 n, .string nm, .string tx] 47 (0, 0)) := by rw [← hV, ← hq]; exact heap_alloc_new _ _
        have hb5 : Below wr.heap.size wr V := by rw [← hV]; exact (Below.refl _ _).alloc (Nat.le_refl _) _
        have HP5 := hidK (HP.out.below hb5)
        have HD5 := hidK (HD.out.below hb5)
        have HA5 := hidK ha5
        have g0 := cell_at ha5 0
        have g1 := cell_at ha5 1
        have g2 := cell_at ha5 2
        have g3 := cell_at ha5 3
        have HVe := hidK hV
        have Hqe := hidK hq
        clear ha5 hb5 hV hq
        go_upto_region 9 with fail
        rw [HVe.out, Hqe.out]
        clear e0 e1 e2 e3 HVe
        have HNm := hidK (fun e W => num_any e W)
        go_upto_region 10 with fail
        go_cut [48] (fun v X => v = .int .i64 kd ∧ V = X)
        case first =>
          go_wp2_with fail
          go_meet
          case rel => exact ⟨rfl, rfl⟩
        case rest =>
        obtain ⟨rfl, rfl⟩ := hcut
        refine ‹∀ (a : Act) (w : World), Code.wp Tryd.prog (Code.block 2 _) _ a w → _› _ _ ?_
        go_cut [11, 12, 13, 14, 15, 16, 17, 18, 19, 20, 21, 22, 23, 24, 25, 26] (fun v11 v12 v13 v14 v15 v16 v17 v18 v19 v20 v21 v22 v23 v24 v25 v26 X => v11 = .bool true ∧ ∃ (s' : St) (vp' vd' : Value), Hid (Pr w X b vp' s') ∧ Hid (Dr w X Q vd' s') ∧ Hid (Good s' (k + 1)) ∧ Hid (X.heap[q]? = some (.cells #[.int .i64 kd, .int .i64 n, .string nm, .string tx] 47 (0, 0))))
        case first =>
          by_cases c1 : kd = 1
          · subst c1
            as_aux_lemma =>
              have HC := hidK (set_any HP5.out.env HP5.out.bf HG.out (by have := HKk.out.2; omega) nm tx HSw.out.1 HSw.out.2)
              have HR : Hid (∀ W V', ItsAt W V' s.l → Calls Tryd.prog 30 #[.agg #[V', .int .i64 (s.lim : Int), .int .i64 (s.c : Int)], .string nm, .string tx] W (SetPost W (setF s nm tx))) := fun W V' hV => rSet_any hV HG.out (by have := HKk.out.2; omega) nm tx HSw.out.1
              have hg1 := good_set HG.out (by have := HKk.out.2; omega) nm tx
              obtain ⟨⟨s1, n1, x1⟩, hR⟩ : ∃ R, setF s nm tx = R := ⟨_, rfl⟩
              rw [hR] at HC HR hg1
              have HG1 : Hid (Good s1 (k + 1)) := hg1
              have HC' : Hid (Calls Tryd.prog 11 #[.pointer (some ⟨b, 0, none⟩), .string nm, .string tx] V fun e w' => e = .returned (.tuple #[.string n1, .int .i64 x1]) ∧ ∃ v', Bf w' b v' s1.l (s1.lim : Int) (s1.c : Int) ∧ Stp V w' b vp v') := HC
              have HR' : Hid (∀ W V', ItsAt W V' s.l → Calls Tryd.prog 30 #[.agg #[V', .int .i64 (s.lim : Int), .int .i64 (s.c : Int)], .string nm, .string tx] W fun e w' => ∃ v', e = .returned (.tuple #[.agg #[v', .int .i64 (s1.lim : Int), .int .i64 (s1.c : Int)], .string n1, .int .i64 x1]) ∧ ItsAt w' v' s1.l ∧ Below W.heap.size W w') := HR
              have hn1 : (n1.toList == n1.toList) = true := by simp
              clear hR hg1 HC HR
              go_wp2_with fail
              refine HC'.out.mono ?_
              rintro e w5 ⟨rfl, v5, hb5, hs5⟩
              have HP6 := hidK (HP5.out.stp hb5 hs5)
              have HD6 := hidK (HD5.out.stp HP5.out hs5)
              have hq6 := Stp.far HP5.out hs5 HA5.out (by decide) (by decide)
              have HA6 := hidK hq6
              clear g0 g1 g2 g3
              have g0 := cell_at hq6 0
              have g1 := cell_at hq6 1
              have g2 := cell_at hq6 2
              have g3 := cell_at hq6 3
              obtain ⟨d0, d1, d2, _⟩ := HD6.out.cells
              clear hb5 hs5 hq6
              go_wp2_with fail
              refine (HR'.out _ _ HD6.out.its).mono ?_
              rintro e w7 ⟨vd7, rfl, hi7, hb7⟩
              obtain ⟨a7, m7, p7, rfl⟩ := hi7.sl
              obtain ⟨Z, hZ⟩ : ∃ Z, w7.alloc (.cells #[.slice a7 m7 p7, .int .i64 (s1.lim : Int), .int .i64 (s1.c : Int)] 62) = Z := ⟨_, rfl⟩
              obtain ⟨Z2, hZ2⟩ : ∃ Z2, ((Z.setCell ⟨Q, 0, none⟩ (.slice a7 m7 p7)).setCell ⟨Q, 1, none⟩ (.int .i64 (s1.lim : Int))).setCell ⟨Q, 2, none⟩ (.int .i64 (s1.c : Int)) = Z2 := ⟨_, rfl⟩
              obtain ⟨HPz, HDz, HAz⟩ := doc_step (HP6.out.below hb7) (HD6.out.below hb7) hi7 ((hb7.block q (lt_block HA6.out)).trans HA6.out) hZ hZ2
              have hzg : Z.heap[w7.heap.size]? = some (.cells #[.slice a7 m7 p7, .int .i64 (s1.lim : Int), .int .i64 (s1.c : Int)] 62 (0, 0)) := by rw [← hZ]; exact heap_alloc_new _ _
              have t0 := cell_at hzg 0
              have t1 := cell_at hzg 1
              have t2 := cell_at hzg 2
              have hdz := (HD6.out.below hb7).below (W' := Z) (by rw [← hZ]; exact (Below.refl _ _).alloc (Nat.le_refl _) _)
              obtain ⟨y0, y1, y2, z0, z1, z2⟩ := hdz.cells
              clear hi7 hb7 hzg hdz d0 d1 d2 g0 g1 g2 g3
              go_wp2_with (go_at_call 12; refine (HNm.out _ _).mono ?_; rintro e w8 ⟨rfl, hw8⟩; subst hw8)
              go_meet
              case rel => exact ⟨by simp, s1, v5, _, HPz, HDz, HG1, HAz⟩
          · by_cases c2 : kd = 2
            · subst c2
              as_aux_lemma =>
                have HC := hidK (get_op HP5.out.bf HG.out nm)
                have HR : Hid (∀ W V', ItsAt W V' s.l → Calls Tryd.prog 31 #[.agg #[V', .int .i64 (s.lim : Int), .int .i64 (s.c : Int)], .string nm] W fun e w' => e = .returned (.tuple #[.agg #[.string (getF s nm).1, .string (getF s nm).2.1], .int .i64 (getF s nm).2.2]) ∧ Below W.heap.size W w') := fun W V' hV => rGet_any hV nm (by have := HG.out.len; omega)
                obtain ⟨gn, hgn⟩ : ∃ x, (getF s nm).1 = x := ⟨_, rfl⟩
                obtain ⟨gt, hgt⟩ : ∃ x, (getF s nm).2.1 = x := ⟨_, rfl⟩
                obtain ⟨ge, hge⟩ : ∃ x, (getF s nm).2.2 = x := ⟨_, rfl⟩
                rw [hgn, hgt, hge] at HC HR
                have hn1 : (gn.toList == gn.toList) = true := by simp
                have hn2 : (gt.toList == gt.toList) = true := by simp
                have HG1 := hidK (HG.out.more (Nat.le_succ k))
                clear hgn hgt hge
                go_wp2_with fail
                refine HC.out.mono ?_
                rintro e w5 ⟨rfl, hb5⟩
                obtain ⟨Z, hZ⟩ : ∃ Z, w5.alloc (.cells #[.string gn, .string gt] 34) = Z := ⟨_, rfl⟩
                have hbz : Below w5.heap.size w5 Z := by rw [← hZ]; exact (Below.refl _ _).alloc (Nat.le_refl _) _
                have HPz := hidK ((HP5.out.below hb5).below hbz)
                have HDz := hidK ((HD5.out.below hb5).below hbz)
                have hqz : Z.heap[q]? = _ := (hbz.block q (Nat.lt_of_lt_of_le (lt_block HA5.out) hb5.size)).trans ((hb5.block q (lt_block HA5.out)).trans HA5.out)
                have hzg : Z.heap[w5.heap.size]? = some (.cells #[.string gn, .string gt] 34 (0, 0)) := by rw [← hZ]; exact heap_alloc_new _ _
                obtain ⟨G, hG⟩ : ∃ G, w5.heap.size = G := ⟨_, rfl⟩
                rw [hG] at hzg
                have HAz := hidK hqz
                have HGz := hidK hzg
                clear g0 g1 g2 g3
                have g0 := cell_at hqz 0
                have g1 := cell_at hqz 1
                have g2 := cell_at hqz 2
                have g3 := cell_at hqz 3
                obtain ⟨d0, d1, d2, _⟩ := HDz.out.cells
                clear hb5 hbz hqz hzg
                go_wp2_with fail
                refine (HR.out _ _ HDz.out.its).mono ?_
                rintro e w7 ⟨rfl, hb7⟩
                obtain ⟨Y, hY⟩ : ∃ Y, w7.alloc (.cells #[.string gn, .string gt] 34) = Y := ⟨_, rfl⟩
                have hby : Below w7.heap.size w7 Y := by rw [← hY]; exact (Below.refl _ _).alloc (Nat.le_refl _) _
                have HPy := hidK ((HPz.out.below hb7).below hby)
                have HDy := hidK ((HDz.out.below hb7).below hby)
                have HAy : Hid (Y.heap[q]? = _) := (hby.block q (Nat.lt_of_lt_of_le (lt_block HAz.out) hb7.size)).trans ((hb7.block q (lt_block HAz.out)).trans HAz.out)
                have hgy : Y.heap[G]? = _ := (hby.block G (Nat.lt_of_lt_of_le (lt_block HGz.out) hb7.size)).trans ((hb7.block G (lt_block HGz.out)).trans HGz.out)
                have hgy2 : Y.heap[w7.heap.size]? = some (.cells #[.string gn, .string gt] 34 (0, 0)) := by rw [← hY]; exact heap_alloc_new _ _
                have t0 := cell_at hgy 0
                have t1 := cell_at hgy 1
                have t2 := cell_at hgy2 0
                have t3 := cell_at hgy2 1
                clear hb7 hby hgy hgy2 d0 d1 d2 g0 g1 g2 g3
                go_wp2_with (go_at_call 12; refine (HNm.out _ _).mono ?_; rintro e w8 ⟨rfl, hw8⟩; subst hw8)
                go_meet
                case rel => exact ⟨by simp, s, vp, vd, HPy, HDy, HG1, HAy⟩
            · by_cases c3 : kd = 3
              · subst c3
                as_aux_lemma =>
                  have HC : Hid (∀ W V', Bf W b V' s.l (s.lim : Int) (s.c : Int) → Calls Tryd.prog 18 #[.pointer (some ⟨b, 0, none⟩), .string nm] W fun e w' => e = .returned (.int .i64 (delF s nm).2) ∧ ∃ v', Bf w' b v' (delF s nm).1.l ((delF s nm).1.lim : Int) ((delF s nm).1.c : Int) ∧ Stp W w' b V' v') := fun W V' hV => delete_op hV HG.out nm
                  have HR := hidK (rDelete_any HD5.out.its nm (by have := HG.out.len; omega))
                  have hg1 := good_del HG.out nm
                  obtain ⟨⟨s1, x1⟩, hR⟩ : ∃ R, delF s nm = R := ⟨_, rfl⟩
                  rw [hR] at HC HR hg1
                  have HG1 : Hid (Good s1 (k + 1)) := hg1.more (Nat.le_succ k)
                  have HC' : Hid (∀ W V', Bf W b V' s.l (s.lim : Int) (s.c : Int) → Calls Tryd.prog 18 #[.pointer (some ⟨b, 0, none⟩), .string nm] W fun e w' => e = .returned (.int .i64 x1) ∧ ∃ v', Bf w' b v' s1.l (s1.lim : Int) (s1.c : Int) ∧ Stp W w' b V' v') := HC
                  have HR' : Hid (Calls Tryd.prog 32 #[.agg #[vd, .int .i64 (s.lim : Int), .int .i64 (s.c : Int)], .string nm] V fun e w' => ∃ v', e = .returned (.tuple #[.agg #[v', .int .i64 (s1.lim : Int), .int .i64 (s1.c : Int)], .int .i64 x1]) ∧ ItsAt w' v' s1.l ∧ Below V.heap.size V w') := HR
                  obtain ⟨d0, d1, d2, _⟩ := HD5.out.cells
                  clear hR hg1 HC HR
                  go_wp2_with fail
                  refine HR'.out.mono ?_
                  rintro e w7 ⟨vd7, rfl, hi7, hb7⟩
                  obtain ⟨a7, m7, p7, rfl⟩ := hi7.sl
                  obtain ⟨Z, hZ⟩ : ∃ Z, w7.alloc (.cells #[.slice a7 m7 p7, .int .i64 (s1.lim : Int), .int .i64 (s1.c : Int)] 62) = Z := ⟨_, rfl⟩
                  obtain ⟨Z2, hZ2⟩ : ∃ Z2, ((Z.setCell ⟨Q, 0, none⟩ (.slice a7 m7 p7)).setCell ⟨Q, 1, none⟩ (.int .i64 (s1.lim : Int))).setCell ⟨Q, 2, none⟩ (.int .i64 (s1.c : Int)) = Z2 := ⟨_, rfl⟩
                  obtain ⟨HPz, HDz, HAz⟩ := doc_step (HP5.out.below hb7) (HD5.out.below hb7) hi7 ((hb7.block q (lt_block HA5.out)).trans HA5.out) hZ hZ2
                  have hzg : Z.heap[w7.heap.size]? = some (.cells #[.slice a7 m7 p7, .int .i64 (s1.lim : Int), .int .i64 (s1.c : Int)] 62 (0, 0)) := by rw [← hZ]; exact heap_alloc_new _ _
                  have t0 := cell_at hzg 0
                  have t1 := cell_at hzg 1
                  have t2 := cell_at hzg 2
                  have hdz := (HD5.out.below hb7).below (W' := Z) (by rw [← hZ]; exact (Below.refl _ _).alloc (Nat.le_refl _) _)
                  obtain ⟨y0, y1, y2, z0, z1, z2⟩ := hdz.cells
                  clear g0 g1 g2 g3
                  have g0 := cell_at HAz.out 0
                  have g1 := cell_at HAz.out 1
                  have g2 := cell_at HAz.out 2
                  have g3 := cell_at HAz.out 3
                  clear hi7 hb7 hzg hdz d0 d1 d2
                  go_wp2_with fail
                  refine (HC'.out _ _ HPz.out.bf).mono ?_
                  rintro e w9 ⟨rfl, v9, hb9, hs9⟩
                  have HP9 : Hid (Pr w w9 b v9 s1) := HPz.out.stp hb9 hs9
                  have HD9 := hidK (HDz.out.stp HPz.out hs9)
                  have HA9 := hidK (Stp.far HPz.out hs9 HAz.out (by decide) (by decide))
                  clear hb9 hs9 g0 g1 g2 g3 t0 t1 t2 y0 y1 y2 z0 z1 z2 hZ hZ2
                  go_wp2_with (go_at_call 12; refine (HNm.out _ _).mono ?_; rintro e w8 ⟨rfl, hw8⟩; subst hw8)
                  go_meet
                  case rel => exact ⟨by simp, s1, v9, _, HP9, HD9, HG1, HA9⟩
              · by_cases c4 : kd = 4
                · subst c4
                  as_aux_lemma =>
                    have HC : Hid (∀ W V', Bf W b V' s.l (s.lim : Int) (s.c : Int) → Calls Tryd.prog 19 #[.pointer (some ⟨b, 0, none⟩), .string nm, .string tx] W fun e w' => e = .returned (.int .i64 (renF s nm tx).2) ∧ ∃ v', Bf w' b v' (renF s nm tx).1.l ((renF s nm tx).1.lim : Int) ((renF s nm tx).1.c : Int) ∧ Stp W w' b V' v') := fun W V' hV => rename_op hV HG.out nm tx HSw.out.2
                    have HR := hidK (rRename_any HD5.out.its nm tx (by have := HG.out.len; omega) HSw.out.2)
                    have hg1 := good_ren HG.out nm tx
                    obtain ⟨⟨s1, x1⟩, hR⟩ : ∃ R, renF s nm tx = R := ⟨_, rfl⟩
                    rw [hR] at HC HR hg1
                    have HG1 : Hid (Good s1 (k + 1)) := hg1.more (Nat.le_succ k)
                    have HC' : Hid (∀ W V', Bf W b V' s.l (s.lim : Int) (s.c : Int) → Calls Tryd.prog 19 #[.pointer (some ⟨b, 0, none⟩), .string nm, .string tx] W fun e w' => e = .returned (.int .i64 x1) ∧ ∃ v', Bf w' b v' s1.l (s1.lim : Int) (s1.c : Int) ∧ Stp W w' b V' v') := HC
                    have HR' : Hid (Calls Tryd.prog 33 #[.agg #[vd, .int .i64 (s.lim : Int), .int .i64 (s.c : Int)], .string nm, .string tx] V fun e w' => ∃ v', e = .returned (.tuple #[.agg #[v', .int .i64 (s1.lim : Int), .int .i64 (s1.c : Int)], .int .i64 x1]) ∧ ItsAt w' v' s1.l ∧ Below V.heap.size V w') := HR
                    obtain ⟨d0, d1, d2, _⟩ := HD5.out.cells
                    clear hR hg1 HC HR
                    go_wp2_with fail
                    refine HR'.out.mono ?_
                    rintro e w7 ⟨vd7, rfl, hi7, hb7⟩
                    obtain ⟨a7, m7, p7, rfl⟩ := hi7.sl
                    obtain ⟨Z, hZ⟩ : ∃ Z, w7.alloc (.cells #[.slice a7 m7 p7, .int .i64 (s1.lim : Int), .int .i64 (s1.c : Int)] 62) = Z := ⟨_, rfl⟩
                    obtain ⟨Z2, hZ2⟩ : ∃ Z2, ((Z.setCell ⟨Q, 0, none⟩ (.slice a7 m7 p7)).setCell ⟨Q, 1, none⟩ (.int .i64 (s1.lim : Int))).setCell ⟨Q, 2, none⟩ (.int .i64 (s1.c : Int)) = Z2 := ⟨_, rfl⟩
                    obtain ⟨HPz, HDz, HAz⟩ := doc_step (HP5.out.below hb7) (HD5.out.below hb7) hi7 ((hb7.block q (lt_block HA5.out)).trans HA5.out) hZ hZ2
                    have hzg : Z.heap[w7.heap.size]? = some (.cells #[.slice a7 m7 p7, .int .i64 (s1.lim : Int), .int .i64 (s1.c : Int)] 62 (0, 0)) := by rw [← hZ]; exact heap_alloc_new _ _
                    have t0 := cell_at hzg 0
                    have t1 := cell_at hzg 1
                    have t2 := cell_at hzg 2
                    have hdz := (HD5.out.below hb7).below (W' := Z) (by rw [← hZ]; exact (Below.refl _ _).alloc (Nat.le_refl _) _)
                    obtain ⟨y0, y1, y2, z0, z1, z2⟩ := hdz.cells
                    clear g0 g1 g2 g3
                    have g0 := cell_at HAz.out 0
                    have g1 := cell_at HAz.out 1
                    have g2 := cell_at HAz.out 2
                    have g3 := cell_at HAz.out 3
                    clear hi7 hb7 hzg hdz d0 d1 d2
                    go_wp2_with fail
                    refine (HC'.out _ _ HPz.out.bf).mono ?_
                    rintro e w9 ⟨rfl, v9, hb9, hs9⟩
                    have HP9 : Hid (Pr w w9 b v9 s1) := HPz.out.stp hb9 hs9
                    have HD9 := hidK (HDz.out.stp HPz.out hs9)
                    have HA9 := hidK (Stp.far HPz.out hs9 HAz.out (by decide) (by decide))
                    clear hb9 hs9 g0 g1 g2 g3 t0 t1 t2 y0 y1 y2 z0 z1 z2 hZ hZ2
                    go_wp2_with (go_at_call 12; refine (HNm.out _ _).mono ?_; rintro e w8 ⟨rfl, hw8⟩; subst hw8)
                    go_meet
                    case rel => exact ⟨by simp, s1, v9, _, HP9, HD9, HG1, HA9⟩
                · by_cases c6 : kd = 6
                  · subst c6
                    as_aux_lemma =>
                      have HC : Hid (∀ W V', Bf W b V' s.l (s.lim : Int) (s.c : Int) → Calls Tryd.prog 20 #[.pointer (some ⟨b, 0, none⟩), .int .i64 n] W fun e w' => e = .returned (.int .i64 (limF s n).2) ∧ ∃ v', Bf w' b v' (limF s n).1.l ((limF s n).1.lim : Int) ((limF s n).1.c : Int) ∧ Stp W w' b V' v') := fun W V' hV => limit_op hV HG.out n
                      have HR := hidK (rLimit_any HD5.out.its n (by have := HG.out.len; omega))
                      have hg1 := good_lim HG.out n
                      obtain ⟨⟨s1, x1⟩, hR⟩ : ∃ R, limF s n = R := ⟨_, rfl⟩
                      rw [hR] at HC HR hg1
                      have HG1 : Hid (Good s1 (k + 1)) := hg1.more (Nat.le_succ k)
                      have HC' : Hid (∀ W V', Bf W b V' s.l (s.lim : Int) (s.c : Int) → Calls Tryd.prog 20 #[.pointer (some ⟨b, 0, none⟩), .int .i64 n] W fun e w' => e = .returned (.int .i64 x1) ∧ ∃ v', Bf w' b v' s1.l (s1.lim : Int) (s1.c : Int) ∧ Stp W w' b V' v') := HC
                      have HR' : Hid (Calls Tryd.prog 34 #[.agg #[vd, .int .i64 (s.lim : Int), .int .i64 (s.c : Int)], .int .i64 n] V fun e w' => ∃ v', e = .returned (.tuple #[.agg #[v', .int .i64 (s1.lim : Int), .int .i64 (s1.c : Int)], .int .i64 x1]) ∧ ItsAt w' v' s1.l ∧ Below V.heap.size V w') := HR
                      obtain ⟨d0, d1, d2, _⟩ := HD5.out.cells
                      clear hR hg1 HC HR
                      go_wp2_with fail
                      refine HR'.out.mono ?_
                      rintro e w7 ⟨vd7, rfl, hi7, hb7⟩
                      obtain ⟨a7, m7, p7, rfl⟩ := hi7.sl
                      obtain ⟨Z, hZ⟩ : ∃ Z, w7.alloc (.cells #[.slice a7 m7 p7, .int .i64 (s1.lim : Int), .int .i64 (s1.c : Int)] 62) = Z := ⟨_, rfl⟩
                      obtain ⟨Z2, hZ2⟩ : ∃ Z2, ((Z.setCell ⟨Q, 0, none⟩ (.slice a7 m7 p7)).setCell ⟨Q, 1, none⟩ (.int .i64 (s1.lim : Int))).setCell ⟨Q, 2, none⟩ (.int .i64 (s1.c : Int)) = Z2 := ⟨_, rfl⟩
                      obtain ⟨HPz, HDz, HAz⟩ := doc_step (HP5.out.below hb7) (HD5.out.below hb7) hi7 ((hb7.block q (lt_block HA5.out)).trans HA5.out) hZ hZ2
                      have hzg : Z.heap[w7.heap.size]? = some (.cells #[.slice a7 m7 p7, .int .i64 (s1.lim : Int), .int .i64 (s1.c : Int)] 62 (0, 0)) := by rw [← hZ]; exact heap_alloc_new _ _
                      have t0 := cell_at hzg 0
                      have t1 := cell_at hzg 1
                      have t2 := cell_at hzg 2
                      have hdz := (HD5.out.below hb7).below (W' := Z) (by rw [← hZ]; exact (Below.refl _ _).alloc (Nat.le_refl _) _)
                      obtain ⟨y0, y1, y2, z0, z1, z2⟩ := hdz.cells
                      clear g0 g1 g2 g3
                      have g0 := cell_at HAz.out 0
                      have g1 := cell_at HAz.out 1
                      have g2 := cell_at HAz.out 2
                      have g3 := cell_at HAz.out 3
                      clear hi7 hb7 hzg hdz d0 d1 d2
                      go_wp2_with fail
                      refine (HC'.out _ _ HPz.out.bf).mono ?_
                      rintro e w9 ⟨rfl, v9, hb9, hs9⟩
                      have HP9 : Hid (Pr w w9 b v9 s1) := HPz.out.stp hb9 hs9
                      have HD9 := hidK (HDz.out.stp HPz.out hs9)
                      have HA9 := hidK (Stp.far HPz.out hs9 HAz.out (by decide) (by decide))
                      clear hb9 hs9 g0 g1 g2 g3 t0 t1 t2 y0 y1 y2 z0 z1 z2 hZ hZ2
                      go_wp2_with (go_at_call 12; refine (HNm.out _ _).mono ?_; rintro e w8 ⟨rfl, hw8⟩; subst hw8)
                      go_meet
                      case rel => exact ⟨by simp, s1, v9, _, HP9, HD9, HG1, HA9⟩
                  · have b1 : (kd == 1) = false := by simpa using c1
                    have b2 : (kd == 2) = false := by simpa using c2
                    have b3 : (kd == 3) = false := by simpa using c3
                    have b4 : (kd == 4) = false := by simpa using c4
                    have b6 : (kd == 6) = false := by simpa using c6
                    have HG1 := hidK (HG.out.more (Nat.le_succ k))
                    go_wp2_with fail
                    go_meet
                    case rel => exact ⟨rfl, s, vp, vd, HP5, HD5, HG1, HA5⟩
        case rest =>
          obtain ⟨rfl, s', vp', vd', HPc, HDc, HGc, HAc⟩ := hcut
          clear HP5 HD5 HA5 g0 g1 g2 g3 HP HD HG
          have HLi := hidK (list_op HPc.out.bf HGc.out)
          have hlen := HGc.out.len
          have hwc : w.heap.size ≤ wc.heap.size := HPc.out.env.old.size
          go_wp2_with fail
          refine HLi.out.mono ?_
          rintro e w9 ⟨v9, rfl, ht9⟩
          have HP9 := hidK (HPc.out.below ht9.below)
          have HD9 := hidK (HDc.out.below ht9.below)
          have HT9 := hidK ht9
          obtain ⟨a9, p9, rfl, hp9, hm9, hn9, _⟩ := ht9.row.shape
          have HRl := hidK (rList_any HD9.out.its (s'.lim : Int) (s'.c : Int) (by omega))
          obtain ⟨d0, d1, d2, _⟩ := HD9.out.cells
          obtain ⟨n9, hn⟩ : ∃ n9, s'.l.length = n9 := ⟨_, rfl⟩
          have HN9 := hidK hn
          rw [hn] at HT9 ⊢ hlen hp9
          have Hp9 := hidK (And.intro hp9 hm9)
          have Hn9 := hidK hn9
          clear ht9 hn9 hn hp9 hm9 HLi
          go_wp2_with fail
          refine HRl.out.mono ?_
          rintro e w10 ⟨v10, rfl, ht10⟩
          have hbf9 : BfsAt w10 (.slice a9 n9 p9) s'.l := Row.below HT9.out.row ht10.below
          have HSa := hidK (same_any hbf9 ht10.row (by have := HN9.out; omega))
          have HP10 := hidK (HP9.out.below ht10.below)
          have HD10 := hidK (HD9.out.below ht10.below)
          have HB10 := hidK hbf9
          obtain ⟨a10, m10, p10, rfl⟩ := ht10.row.sl
          clear ht10 hbf9 d0 d1 d2
          go_wp2_with fail
          refine HSa.out.mono ?_
          rintro e w11 ⟨rfl, hb11⟩
          have HP11 := hidK (HP10.out.below hb11)
          have HD11 := hidK (HD10.out.below hb11)
          have hrow : Row w11 34 2 (.slice a9 n9 p9) n9 (cellsB s'.l) := by
            have := Row.below HB10.out hb11
            rwa [HN9.out] at this
          have HR11 := hidK hrow
          clear hb11 hrow HP9 HD9 HP10 HD10 HB10 HSa HRl HPc HDc HAc
          go_wp2_with fail
          go_loopw [28] (fun iv wz => ∃ (j : Nat) (xs : List Value), j ≤ n9 ∧ iv = .int .i64 j ∧ Hid (Pr w wz b vp' s') ∧ Hid (Dr w wz Q vd' s') ∧ Hid (Row wz 34 2 (.slice a9 n9 p9) n9 xs)) (fun iv _ => n9 - (intOf iv).toNat)
          case atStart => exact ⟨0, _, Nat.zero_le _, rfl, HP11, HD11, HR11⟩
          case round =>
            clear HP11 HD11 HR11
            obtain ⟨j, xs, hj, rfl, HPj, HDj, HRj⟩ := hrel
            by_cases hlt : j < n9
            · obtain ⟨ad, cap, he, _, _, hnil, hsome⟩ := Row.shape HRj.out
              simp only [Value.slice.injEq] at he
              obtain ⟨rfl, -, rfl⟩ := he
              cases a9 with
              | none => have := (hnil rfl).1; omega
              | some a =>
                obtain ⟨g9, o9, rfl, hob, hgl, hat⟩ := hsome _ rfl
                have hxl : xs.length = n9 * 2 := HRj.out.1
                obtain ⟨u0, hu0⟩ : ∃ u, xs[j * 2]? = some u := ⟨_, List.getElem?_eq_getElem (by omega)⟩
                obtain ⟨u1, hu1⟩ : ∃ u, xs[j * 2 + 1]? = some u := ⟨_, List.getElem?_eq_getElem (by omega)⟩
                have r0 := (hat wr rfl).1 (j * 2) _ hu0
                have r1 := (hat wr rfl).1 (j * 2 + 1) _ hu1
                rw [← Nat.add_assoc] at r1
                obtain ⟨cur, hcur⟩ := Row.block HRj.out hob
                have f0 := free_at hcur (o9 + j * 2)
                have f1 := free_at hcur (o9 + j * 2 + 1)
                have hge9 : w.heap.size ≤ g9 := Nat.le_trans hwc (HT9.out.own g9 hob)
                obtain ⟨w12, hw12⟩ : ∃ W, (wr.setCell ⟨g9, o9 + j * 2, none⟩ (.string ⟨#[115, 112, 111, 105, 108, 116]⟩)).setCell ⟨g9, o9 + j * 2 + 1, none⟩ (.string ⟨#[]⟩) = W := ⟨_, rfl⟩
                have HPn : Hid (Pr w w12 b vp' s') := by
                  rw [← hw12]
                  exact (HPj.out.put hcur (by decide) (by decide) hge9 _ _).put (put_at hcur _ _) (by decide) (by decide) hge9 _ _
                have HDn : Hid (Dr w w12 Q vd' s') := by
                  rw [← hw12]
                  exact (HDj.out.put hcur (by decide) (by decide) _ _).put (put_at hcur _ _) (by decide) (by decide) _ _
                have HRn : Hid (Row w12 34 2 (.slice (some ⟨g9, o9, none⟩) n9 p9) n9 ((xs.set (j * 2) (.string ⟨#[115, 112, 111, 105, 108, 116]⟩)).set (j * 2 + 1) (.string ⟨#[]⟩))) := by
                  rw [← hw12]
                  have := Row.set (Row.set HRj.out (j := j * 2) (by omega) (.string ⟨#[115, 112, 111, 105, 108, 116]⟩)) (j := j * 2 + 1) (by omega) (.string ⟨#[]⟩)
                  rwa [← Nat.add_assoc] at this
                have hji : (j : Int) < (n9 : Int) := by omega
                clear hnil hsome hat hxl hcur hob hgl hu0 hu1
                go_wp2_with fail
                go_roundw
                case rel => exact ⟨j + 1, _, by omega, by go_num, HPn, HDn, HRn⟩
                case measure => simp [intOf]; omega
            · have hji : ¬ (j : Int) < (n9 : Int) := by omega
              go_wp2_with fail
              go_roundw
              case rel => exact ⟨k + 1, s', vp', vd', HKk.out.1, HKk.out.2, by go_num, HPj, HDj, HGc⟩
              case measure => simp [intOf]; omega
end Go.Proofs.YtgbaeajcgiaboaaDoor
