/-
  Binds: one binding's law.
-/
import Derived.Test.YtbonnjilbocldaaDoorBOnA
import Derived.Deep.DeepCutAuto
namespace Go.Proofs.YtbonnjilbocldaaDoor
open Go.RowKit
set_option linter.unusedVariables false
set_option maxRecDepth 100000

set_option maxHeartbeats 40000000 in
theorem bindsOne_walk {w : World} (hT : Tabs w) (hw : 4 < w.heap.size) (p1 p2 rep : Int) (ov : Value) (l : List Stp) (hv : SeeS w ov l) (hl : ∀ s ∈ l, s.wf) (s : Stp) (hs : s.wf) :
    Calls Tryd.prog 3 #[.agg #[.int .i64 p1, .int .i64 p2, .int .i64 rep, ov], .agg (encS s).toArray] w fun r w' => r = .returned (.bool true) ∧ Below w.heap.size w w' := by
  obtain ⟨ad, cp, rfl, hcell⟩ := hv
  obtain ⟨N, hN⟩ : ∃ N, l.length = N := ⟨_, rfl⟩
  rw [hN]
  obtain ⟨kd, tik, ⟨st, sc, sm, sr, sl⟩⟩ := s
  obtain ⟨W0, hW0⟩ : ∃ W, w.alloc (.cells #[.int .i64 p1, .int .i64 p2, .int .i64 rep, .slice ad N cp] 26) = W := ⟨_, rfl⟩
  obtain ⟨q, hq⟩ : ∃ q, w.heap.size = q := ⟨_, rfl⟩
  have ha0 : W0.heap[q]? = some (.cells #[.int .i64 p1, .int .i64 p2, .int .i64 rep, .slice ad N cp] 26 (0, 0)) := by rw [← hW0, ← hq]; exact heap_alloc_new w _
  have hb0 : Below w.heap.size w W0 := by rw [← hW0]; exact (Below.refl _ _).alloc (Nat.le_refl _) _
  obtain ⟨z, hz⟩ : ∃ z, W0.heap.size = z := ⟨_, rfl⟩
  have hqz : q + 1 = z := by rw [← hz, ← hW0, ← hq]; simp
  obtain ⟨W1, hW1⟩ : ∃ W, W0.alloc (.cells #[.int .i64 kd, .int .i64 tik, .string st, .int .i64 sc, .int .i64 sm, .bool sr, .string sl] 30) = W := ⟨_, rfl⟩
  have hl1 : W1.heap[z]? = some (.cells #[.int .i64 kd, .int .i64 tik, .string st, .int .i64 sc, .int .i64 sm, .bool sr, .string sl] 30 (0, 0)) := by rw [← hW1, ← hz]; exact heap_alloc_new W0 _
  have hb01 : Below W0.heap.size W0 W1 := by rw [← hW1]; exact (Below.refl _ _).alloc (Nat.le_refl _) _
  have hb1 := below_step hb0 hb01
  have ha1 := (hb01.block q (lt_block ha0)).trans ha0
  obtain ⟨B, hB⟩ : ∃ B, W1.heap.size = B := ⟨_, rfl⟩
  have hzB : z + 1 = B := by rw [← hB, ← hW1, ← hz]; simp
  have hNw := new_any (hT.below hb1) (by rw [hB, ← hzB, ← hqz, ← hq]; omega)
  rw [hB] at hNw
  have HSu : Hid (∀ Y, Below w.heap.size w Y → Calls Tryd.prog 9 #[] Y fun r w' => r = .returned (.bool true) ∧ Below Y.heap.size Y w') := fun Y hY => sure_any (hT.below hY) (Nat.lt_of_lt_of_le hw hY.size)
  have HCe := hidK hcell
  have HN := hidK hN
  have HL := hidK hl
  have HS := hidK hs
  have HB1 := hidK hb1
  have HA1 := hidK ha1
  have HL1 := hidK hl1
  have HQ : Hid (w.heap.size = q ∧ q + 1 = z ∧ z + 1 = B ∧ W1.heap.size = B) := ⟨hq, hqz, hzB, hB⟩
  unfold encS
  clear hT hw hcell hN hl hb1 ha1 hl1 ha0 hb0 hb01 hqz hzB hB hs
  go_enter Tryd.func3, Tryd.ntmps3
  go_wp2_with fail
  refine hNw.mono ?_
  rintro e W2 ⟨rfl, ht2, hb2⟩
  have HP : Hid (On w W2 q z B p1 p2 rep (.slice ad N cp) ⟨kd, tik, ⟨st, sc, sm, sr, sl⟩⟩ D0 60) := by
    have hx := HQ.out
    refine ⟨ht2, is_D0.ok, (hb2.block q (by omega)).trans HA1.out, (hb2.block z (by omega)).trans HL1.out, below_step2 HB1.out hb2 (by omega), by omega⟩
  clear ht2 hb2 hNw hW0 hW1 hq hz HA1 HL1 HB1
  go_wp2_with fail
  go_loopw [6] (fun i wr => ∃ (k : Nat) (D : DataW Unit), k ≤ N ∧ k ≤ 250 ∧ i = .int .i64 k ∧ Hid (On w wr q z B p1 p2 rep (.slice ad N cp) ⟨kd, tik, ⟨st, sc, sm, sr, sl⟩⟩ D (60 + k))) (fun i _ => N - (intOf i).toNat)
  case atStart => exact ⟨0, D0, Nat.zero_le _, Nat.zero_le _, rfl, HP⟩
  case round =>
    clear HP
    obtain ⟨k, D, hk, hk2, rfl, HP⟩ := hrel
    have c2 := cell_at HP.out.cse 3
    obtain ⟨cnd, hcnd⟩ : ∃ c, (decide (k < N) && decide (k < 250)) = c := ⟨_, rfl⟩
    have HC := hidK hcnd
    clear hcnd
    go_upto_region 5 with fail
    go_cut [27] (fun v X => v = .bool cnd ∧ wr = X)
    case first =>
      by_cases q1 : k < N
      · have i1 : (k : Int) < (N : Int) := by omega
        by_cases q2 : k < 250
        · have i2 : (k : Int) < 250 := by omega
          go_wp2_with fail
          go_meet
          case rel => exact ⟨by rw [← HC.out]; simp [q1, q2], rfl⟩
        · have i2 : ¬ (k : Int) < 250 := by omega
          go_wp2_with fail
          go_meet
          case rel => exact ⟨by rw [← HC.out]; simp [q2], rfl⟩
      · have i1 : ¬ (k : Int) < (N : Int) := by omega
        go_wp2_with fail
        go_meet
        case rel => exact ⟨by rw [← HC.out]; simp [q1], rfl⟩
    case rest =>
      obtain ⟨rfl, rfl⟩ := hcut
      cases cnd with
      | true =>
        have hkk : k < N ∧ k < 250 := by have := HC.out; simpa using this
        have hka : k < l.length := by rw [HN.out]; exact hkk.1
        obtain ⟨g, o, rfl, hc⟩ := HCe.out (fun e => by rw [e] at hka; simp at hka)
        have hcs := hc k hka
        have hsw := HL.out _ (List.getElem_mem hka)
        obtain ⟨⟨ad1, ad2, ⟨et, ec, em, er, el⟩⟩, hst⟩ : ∃ q, l[k] = q := ⟨_, rfl⟩
        rw [hst] at hcs hsw
        have up : ∀ (o : Nat) (v : Value), w.cell? ⟨g, o, none⟩ = some v → wr.cell? ⟨g, o, none⟩ = some v := fun o v h => (HP.out.below.cell (World.block_lt_of_cell? w _ h)).trans h
        have e0 : wr.cell? ⟨g, o + k * 7, none⟩ = some (.int .i64 ad1) := up _ _ (hcs 0 _ rfl)
        have e1 : wr.cell? ⟨g, o + k * 7 + 1, none⟩ = some (.int .i64 ad2) := up _ _ (hcs 1 _ rfl)
        have e2 : wr.cell? ⟨g, o + k * 7 + 2, none⟩ = some (.string et) := up _ _ (hcs 2 _ rfl)
        have e3 : wr.cell? ⟨g, o + k * 7 + 3, none⟩ = some (.int .i64 ec) := up _ _ (hcs 3 _ rfl)
        have e4 : wr.cell? ⟨g, o + k * 7 + 4, none⟩ = some (.int .i64 em) := up _ _ (hcs 4 _ rfl)
        have e5 : wr.cell? ⟨g, o + k * 7 + 5, none⟩ = some (.bool er) := up _ _ (hcs 5 _ rfl)
        have e6 : wr.cell? ⟨g, o + k * 7 + 6, none⟩ = some (.string el) := up _ _ (hcs 6 _ rfl)
        have i1 : (k : Int) < (N : Int) := by omega
        have HKk : Hid (k + 1 ≤ N ∧ k + 1 ≤ 250) := by show _ ∧ _; omega
        have HDo := does_any HP.out.tb (by omega) ⟨ad1, ad2, ⟨et, ec, em, er, el⟩⟩ hsw
        have HOk := hidK (do_ok HP.out.ok ⟨ad1, ad2, ⟨et, ec, em, er, el⟩⟩ hsw)
        clear hc hcs hst hsw hka up hkk
        go_wp2_with fail
        refine HDo.mono ?_
        rintro e Y1 ⟨rfl, htn⟩
        have HP6 := hidK (HP.out.step htn HOk.out)
        clear htn HDo
        go_wp2_with fail
        exact ⟨⟨k + 1, _, HKk.out.1, HKk.out.2, by simp, HP6⟩, by have := HKk.out; simp [intOf]; omega⟩
      | false =>
        have HA1 := all_any HP.out.tb HP.out.ok
        have HKk : Hid (k ≤ 250) := hk2
        clear c2 hk hk2 HC HN HCe HL
        go_wp2_with fail
        refine HA1.mono ?_
        rintro e Y1 ⟨v1, l1, rfl, hl1, hs1, hb1⟩
        have HP1 := hidK (HP.out.more hb1)
        have HL1 := hidK hl1
        have HS1 := hidK hs1
        have a0 : Y1.cell? ⟨z, 0, none⟩ = some (.int .i64 kd) := cell_at HP1.out.lst 0
        have a1 : Y1.cell? ⟨z, 1, none⟩ = some (.int .i64 tik) := cell_at HP1.out.lst 1
        have a2 : Y1.cell? ⟨z, 2, none⟩ = some (.string st) := cell_at HP1.out.lst 2
        have a3 : Y1.cell? ⟨z, 3, none⟩ = some (.int .i64 sc) := cell_at HP1.out.lst 3
        have a4 : Y1.cell? ⟨z, 4, none⟩ = some (.int .i64 sm) := cell_at HP1.out.lst 4
        have a5 : Y1.cell? ⟨z, 5, none⟩ = some (.bool sr) := cell_at HP1.out.lst 5
        have a6 : Y1.cell? ⟨z, 6, none⟩ = some (.string sl) := cell_at HP1.out.lst 6
        obtain ⟨tb, htb⟩ : ∃ b, tookB D ⟨kd, tik, ⟨st, sc, sm, sr, sl⟩⟩ = b := ⟨_, rfl⟩
        obtain ⟨D2, hD2⟩ : ∃ x, doD D ⟨kd, tik, ⟨st, sc, sm, sr, sl⟩⟩ = x := ⟨_, rfl⟩
        have HDo := does_any HP1.out.tb (by have := HKk.out; omega) ⟨kd, tik, ⟨st, sc, sm, sr, sl⟩⟩ HS.out
        rw [htb, hD2] at HDo
        have HOk := hidK (do_ok HP1.out.ok ⟨kd, tik, ⟨st, sc, sm, sr, sl⟩⟩ HS.out)
        rw [hD2] at HOk
        have HTb := hidK htb
        have HD2 := hidK hD2
        clear hl1 hs1 hb1 HA1 htb hD2 HP
        go_wp2_with fail
        refine HDo.mono ?_
        rintro e Y2 ⟨rfl, htn⟩
        have HP2 := hidK (HP1.out.step htn HOk.out)
        have HS2 := hidK (HS1.out.but HP1.out.tb htn.but)
        have HA2 := all_any HP2.out.tb HP2.out.ok
        clear htn HDo a0 a1 a2 a3 a4 a5 a6 HS1
        go_wp2_with fail
        refine HA2.mono ?_
        rintro e Y3 ⟨v2, l2, rfl, hl2, hs2, hb2⟩
        have HP3 := hidK (HP2.out.more hb2)
        have HS3 := hidK (HS2.out.below hb2)
        have HT3 := hidK hs2
        have HL2 := hidK hl2
        have HLa : Hid (l1.length ≤ 200) := HL1.out.len HP1.out.ok
        have HLb : Hid (l2.length ≤ 200) := HL2.out.len HP3.out.ok
        obtain ⟨n1, hn1⟩ : ∃ n, l1.length = n := ⟨_, rfl⟩
        obtain ⟨n2, hn2⟩ : ∃ n, l2.length = n := ⟨_, rfl⟩
        have HN1 := hidK hn1
        have HN2 := hidK hn2
        obtain ⟨ad1, cp1, rfl⟩ := HS3.out.shape
        obtain ⟨ad2, cp2, rfl⟩ := HT3.out.shape
        rw [hn1] at HS3
        rw [hn2] at HT3
        rw [hn1, hn2]
        have i2 : ¬ (200 : Int) < (n2 : Int) := by have := HLb.out; omega
        clear hl2 hs2 hb2 HA2 hn1 hn2 HS2
        have a0 : Y3.cell? ⟨z, 0, none⟩ = some (.int .i64 kd) := cell_at HP3.out.lst 0
        obtain ⟨cA, hcA⟩ : ∃ c, decide (tb = false ∨ ¬ kd = 1 ∧ ¬ kd = 2) = c := ⟨_, rfl⟩
        have HCA := hidK hcA
        clear hcA
        go_upto_region 13 with fail
        go_cut [58] (fun v X => v = .bool cA ∧ Y3 = X)
        case first =>
          cases tb with
          | false =>
            go_wp2_with fail
            go_meet
            case rel => exact ⟨by rw [← HCA.out]; simp, rfl⟩
          | true =>
            by_cases k1 : kd = 1
            · subst k1
              go_wp2_with fail
              go_meet
              case rel => exact ⟨by rw [← HCA.out]; simp, rfl⟩
            · have j1 : (kd != 1) = true := by simpa using k1
              by_cases k2 : kd = 2
              · subst k2
                go_wp2_with fail
                go_meet
                case rel => exact ⟨by rw [← HCA.out]; simp, rfl⟩
              · have j2 : (kd != 2) = true := by simpa using k2
                go_wp2_with fail
                go_meet
                case rel => exact ⟨by rw [← HCA.out]; simp [k1, k2], rfl⟩
        case rest =>
          obtain ⟨rfl, rfl⟩ := hcut
          cases cA with
          | true =>
            have hno := HCA.out
            simp only [decide_eq_true_eq] at hno
            rw [← HTb.out] at hno
            have hll : l1 = l2 := by
              have h2 := HL2.out
              rw [← HD2.out, took_no hno] at h2
              exact HL1.out.one h2
            subst hll
            have HSm := same_any (va := .slice ad1 n1 cp1) (vb := .slice ad2 n2 cp2) HS3.out HT3.out (by have := HLa.out; omega) (by have := HLa.out; omega)
            clear hno a0 i2
            go_wp2_with fail
            refine HSm.mono ?_
            rintro e Y5 ⟨⟨zz, rfl, hzz⟩, hb5⟩
            have hz1 : zz = true := by first | exact hzz.2 rfl | exact hzz.2 trivial
            subst hz1
            have HBy := hidK (below_step HP3.out.below hb5)
            clear hzz hb5 HSm
            go_wp2_with fail
            refine (HSu.out _ HBy.out).mono ?_
            rintro e Y6 ⟨rfl, hb6⟩
            have HBz := hidK (below_step HBy.out hb6)
            clear hb6
            go_wp2_with fail
            go_ret
            exact ⟨rfl, HBz.out⟩
          | false =>
            have hno := HCA.out
            simp only [decide_eq_false_iff_not, not_or, Bool.not_eq_false] at hno
            obtain ⟨rfl, hno2⟩ := hno
            have hkk : kd = 1 ∨ kd = 2 := by omega
            have HKk2 := hidK hkk
            have HEq := hidK (took_off HS.out.1 HTb.out hkk HL1.out (by rw [HD2.out]; exact HL2.out))
            obtain ⟨hs, hhs⟩ : ∃ q, Maps.has D2 (slotK st.data.toList sc sm) = q := ⟨_, rfl⟩
            obtain ⟨lf, hlf⟩ : ∃ q, fndL D2 st sc sm = q := ⟨_, rfl⟩
            have HF := find_is HP3.out.tb st sc sm HS.out.1.1 HS.out.1.2.1 HS.out.1.2.2
            rw [hhs, hlf] at HF
            have HHs := hidK hhs
            have HLf := hidK hlf
            clear hhs hlf hkk hno2 i2
            have a2 : Y3.cell? ⟨z, 2, none⟩ = some (.string st) := cell_at HP3.out.lst 2
            have a3 : Y3.cell? ⟨z, 3, none⟩ = some (.int .i64 sc) := cell_at HP3.out.lst 3
            have a4 : Y3.cell? ⟨z, 4, none⟩ = some (.int .i64 sm) := cell_at HP3.out.lst 4
            go_wp2_with fail
            refine HF.mono ?_
            rintro e Y4 ⟨⟨ft, fc, fm, fr, rfl, hff⟩, hb4⟩
            have HFf := hidK hff
            clear hff HF a0 a2 a3 a4
            obtain ⟨qb, hqb⟩ : ∃ q, Y4.heap.size = q := ⟨_, rfl⟩
            obtain ⟨YA, hYA⟩ : ∃ W, Y4.alloc (.cells #[.string ft, .int .i64 fc, .int .i64 fm, .bool fr, .string lf] 28) = W := ⟨_, rfl⟩
            have hba : Below Y4.heap.size Y4 YA := by rw [← hYA]; exact (Below.refl _ _).alloc (Nat.le_refl _) _
            have hma : YA.heap[qb]? = some (.cells #[.string ft, .int .i64 fc, .int .i64 fm, .bool fr, .string lf] 28 (0, 0)) := by rw [← hYA, ← hqb]; exact heap_alloc_new _ _
            have hbb := below_step hb4 hba
            have HP5 := hidK (HP3.out.more hbb)
            have HSa : Hid (SeeE YA (.slice ad1 n1 cp1) l1 ∧ l1.length = n1) := ⟨HS3.out.below hbb, HN1.out⟩
            have HSb0 : Hid (SeeE YA (.slice ad2 n2 cp2) l2 ∧ l2.length = n2) := ⟨HT3.out.below hbb, HN2.out⟩
            have b0 := cell_at hma 0
            have b1 := cell_at hma 1
            have b2 := cell_at hma 2
            have b3 := cell_at hma 3
            have b4 := cell_at hma 4
            have a0 : YA.cell? ⟨z, 0, none⟩ = some (.int .i64 kd) := cell_at HP5.out.lst 0
            have a2 : YA.cell? ⟨z, 2, none⟩ = some (.string st) := cell_at HP5.out.lst 2
            have a3 : YA.cell? ⟨z, 3, none⟩ = some (.int .i64 sc) := cell_at HP5.out.lst 3
            have a4 : YA.cell? ⟨z, 4, none⟩ = some (.int .i64 sm) := cell_at HP5.out.lst 4
            have a5 : YA.cell? ⟨z, 5, none⟩ = some (.bool sr) := cell_at HP5.out.lst 5
            have a6 : YA.cell? ⟨z, 6, none⟩ = some (.string sl) := cell_at HP5.out.lst 6
            clear hb4 hba hbb hma HS3 HT3
            go_upto_region 16 with fail
            go_cut [96] (fun v X => v = .bool false ∧ YA = X)
            case first =>
              rcases HKk2.out with k1 | k1
              · subst k1
                have hd := HD2.out
                rw [took_put HTb.out rfl] at hd
                have key := Ent.key (e := ⟨st, sc, sm, sr, sl⟩) HS.out.1
                have h1 : hs = true := by
                  rw [← HHs.out, ← hd]
                  exact Maps.has_put_same HP1.out.ok.tidy.isMap key _
                obtain ⟨rfl, rfl, rfl, h5⟩ := HFf.out h1
                have h6 : lf = sl ∧ fr = sr := by
                  rw [← hd] at h5
                  have h7 := Maps.atKey_put_same HP1.out.ok.tidy.isMap key (meanD sl sr) zeroD
                  exact meanD_inj (h5.symm.trans h7)
                obtain ⟨rfl, rfl⟩ := h6
                subst h1
                clear hd key h5
                go_wp2_with fail
                go_meet
                case rel => exact ⟨by first | rfl | simp, rfl⟩
              · subst k1
                have hd := HD2.out
                rw [took_del HTb.out rfl] at hd
                have h1 : hs = false := by
                  rw [← HHs.out, ← hd]
                  exact Maps.has_del_same
                subst h1
                clear hd
                go_wp2_with fail
                go_meet
                case rel => exact ⟨by first | rfl | simp, rfl⟩
            case rest =>
              obtain ⟨rfl, rfl⟩ := hcut
              have H2a := HLa
              clear b0 b1 b2 b3 b4 a0 a2 a3 a4 a5 a6 hYA hqb HFf HHs HLf HD2 HTb HOk HCA HQ
              go_wp2_with fail
              go_loopw [12, 14] (fun xv iv wr => ∃ k : Nat, k ≤ n1 ∧ iv = .int .i64 k ∧ Hid (EntsAt wr YA.heap.size xv ((l1.take k).filter (offB st sc sm)) ∧ Below YA.heap.size YA wr)) (fun _ iv _ => n1 - (intOf iv).toNat)
              case atStart => exact ⟨0, Nat.zero_le _, rfl, hidK ⟨EntsAt.nil _ _, Below.refl _ _⟩⟩
              case round =>
                obtain ⟨k, hk, rfl, HR⟩ := hrel
                by_cases hlt : k < n1
                · have hka : k < l1.length := by rw [HSa.out.2]; exact hlt
                  obtain ⟨g, o, rfl, hc⟩ := HSa.out.1.cells (fun e => by rw [e] at hka; simp at hka)
                  have hcs := hc k hka
                  obtain ⟨⟨et, ec, em, er, el⟩, hst⟩ : ∃ q, l1[k] = q := ⟨_, rfl⟩
                  rw [hst] at hcs
                  have HX : Hid (l1[k]? = some ⟨et, ec, em, er, el⟩) := by show _ = _; rw [List.getElem?_eq_getElem hka, hst]
                  have H2C : Hid (l1.length ≤ 200) := H2a
                  have up : ∀ (o : Nat) (v : Value), YA.cell? ⟨g, o, none⟩ = some v → wr.cell? ⟨g, o, none⟩ = some v := fun o v h => (HR.out.2.cell (World.block_lt_of_cell? _ _ h)).trans h
                  have e0 : wr.cell? ⟨g, o + k * 5, none⟩ = some (.string et) := up _ _ (hcs 0 _ rfl)
                  have e1 : wr.cell? ⟨g, o + k * 5 + 1, none⟩ = some (.int .i64 ec) := up _ _ (hcs 1 _ rfl)
                  have e2 : wr.cell? ⟨g, o + k * 5 + 2, none⟩ = some (.int .i64 em) := up _ _ (hcs 2 _ rfl)
                  have e3 : wr.cell? ⟨g, o + k * 5 + 3, none⟩ = some (.bool er) := up _ _ (hcs 3 _ rfl)
                  have e4 : wr.cell? ⟨g, o + k * 5 + 4, none⟩ = some (.string el) := up _ _ (hcs 4 _ rfl)
                  have hz := (HR.out.2.block z (lt_block HP5.out.lst)).trans HP5.out.lst
                  have z2 : wr.cell? ⟨z, 2, none⟩ = some (.string st) := cell_at hz 2
                  have z3 : wr.cell? ⟨z, 3, none⟩ = some (.int .i64 sc) := cell_at hz 3
                  have z4 : wr.cell? ⟨z, 4, none⟩ = some (.int .i64 sm) := cell_at hz 4
                  have hi1 : (k : Int) < (n1 : Int) := by omega
                  have hi2 : (k : Int) < 200 := by have h1 := H2C.out; have h2 := HSa.out.2; omega
                  clear hc hcs hst hka up hz
                  by_cases q0 : et = st
                  · subst q0
                    by_cases q1 : ec = sc
                    · subst q1
                      by_cases q2 : em = sm
                      · subst q2
                        have HF := hidK (filt_no HX.out (off_no (e := ⟨et, ec, em, er, el⟩) ⟨rfl, rfl, rfl⟩))
                        go_wp2_with fail
                        go_quiet (fail)
                        rename_i nq
                        have HR6 : Hid (EntsAt (wr.drewN nq) YA.heap.size u12 ((l1.take (k + 1)).filter (offB et ec em)) ∧ Below YA.heap.size YA (wr.drewN nq)) := ⟨by rw [HF.out]; exact HR.out.1.below (below_drewN _ _), below_step HR.out.2 (below_drewN _ _)⟩
                        go_wp2_with fail
                        go_roundw
                        case rel => exact ⟨k + 1, by omega, by first | rfl | go_num, HR6⟩
                        case measure => simp [intOf]; omega
                      · have NEG : Hid (¬ ((Ent.mk et ec em er el).t = et ∧ (Ent.mk et ec em er el).c = ec ∧ (Ent.mk et ec em er el).m = sm)) := fun q => q2 q.2.2
                        have y2 : (em == sm) = false := by simpa using q2
                        clear q2
                        have HF := hidK (filt_yes HX.out (off_yes NEG.out))
                        have HLn := hidK (filt_len l1 k (offB et ec sm))
                        go_wp2_with fail
                        go_quiet (fail)
                        rename_i nq
                        obtain ⟨Y, hY⟩ : ∃ Y, wr.drewN nq = Y := ⟨_, rfl⟩
                        rw [hY]
                        have HOy : Hid (EntsAt Y YA.heap.size u12 ((l1.take k).filter (offB et ec sm))) := by rw [← hY] <;> first | exact HR.out.1.below (below_drewN _ _) | exact (HR.out.1.below (below_drewN _ _))
                        have HBy : Hid (Below YA.heap.size YA Y) := by show Below _ _ _; rw [← hY]; exact below_step HR.out.2 (below_drewN _ _)
                        have f0 : Y.cell? ⟨g, o + k * 5, none⟩ = some (.string et) := by rw [← hY]; exact e0
                        have f1 : Y.cell? ⟨g, o + k * 5 + 1, none⟩ = some (.int .i64 ec) := by rw [← hY]; exact e1
                        have f2 : Y.cell? ⟨g, o + k * 5 + 2, none⟩ = some (.int .i64 em) := by rw [← hY]; exact e2
                        have f3 : Y.cell? ⟨g, o + k * 5 + 3, none⟩ = some (.bool er) := by rw [← hY]; exact e3
                        have f4 : Y.cell? ⟨g, o + k * 5 + 4, none⟩ = some (.string el) := by rw [← hY]; exact e4
                        have HSz : Hid (YA.heap.size ≤ Y.heap.size) := HBy.out.size
                        clear hY e0 e1 e2 e3 e4
                        go_wp2_with (at_builtin; refine wpList_append_ent _ rfl (.tmp 123) (.tmp 128) rfl YA.heap.size _ ((l1.take k).filter (offB et ec sm)) rfl (HOy.out.below ((Below.refl _ _).alloc (Nat.le_refl _) _)) Y.heap.size ⟨et, ec, em, er, el⟩ rfl (heap_alloc_new Y _) ?xa11 ?xa12 ?_; (case xa11 => have h1 := HLn.out; have h2 := H2C.out; omega); (case xa12 => have h1 := HSz.out; simp; omega); intro v6 w6 ho6 hg6; have HR6 : Hid (EntsAt w6 YA.heap.size v6 ((l1.take (k + 1)).filter (offB et ec sm)) ∧ Below YA.heap.size YA w6) := ⟨by rw [HF.out]; exact ho6, ((HBy.out.alloc HSz.out _).grown hg6 (by have h1 := HSz.out; simp; omega) (fun j hj => (HOy.out.blk hj).1))⟩; clear ho6 hg6)
                        go_roundw
                        case rel => exact ⟨k + 1, by omega, by first | rfl | go_num, HR6⟩
                        case measure => simp [intOf]; omega
                    · have NEG : Hid (¬ ((Ent.mk et ec em er el).t = et ∧ (Ent.mk et ec em er el).c = sc ∧ (Ent.mk et ec em er el).m = sm)) := fun q => q1 q.2.1
                      have y1 : (ec == sc) = false := by simpa using q1
                      clear q1
                      have HF := hidK (filt_yes HX.out (off_yes NEG.out))
                      have HLn := hidK (filt_len l1 k (offB et sc sm))
                      go_wp2_with fail
                      go_quiet (fail)
                      rename_i nq
                      obtain ⟨Y, hY⟩ : ∃ Y, wr.drewN nq = Y := ⟨_, rfl⟩
                      rw [hY]
                      have HOy : Hid (EntsAt Y YA.heap.size u12 ((l1.take k).filter (offB et sc sm))) := by rw [← hY] <;> first | exact HR.out.1.below (below_drewN _ _) | exact (HR.out.1.below (below_drewN _ _))
                      have HBy : Hid (Below YA.heap.size YA Y) := by show Below _ _ _; rw [← hY]; exact below_step HR.out.2 (below_drewN _ _)
                      have f0 : Y.cell? ⟨g, o + k * 5, none⟩ = some (.string et) := by rw [← hY]; exact e0
                      have f1 : Y.cell? ⟨g, o + k * 5 + 1, none⟩ = some (.int .i64 ec) := by rw [← hY]; exact e1
                      have f2 : Y.cell? ⟨g, o + k * 5 + 2, none⟩ = some (.int .i64 em) := by rw [← hY]; exact e2
                      have f3 : Y.cell? ⟨g, o + k * 5 + 3, none⟩ = some (.bool er) := by rw [← hY]; exact e3
                      have f4 : Y.cell? ⟨g, o + k * 5 + 4, none⟩ = some (.string el) := by rw [← hY]; exact e4
                      have HSz : Hid (YA.heap.size ≤ Y.heap.size) := HBy.out.size
                      clear hY e0 e1 e2 e3 e4
                      go_wp2_with (at_builtin; refine wpList_append_ent _ rfl (.tmp 123) (.tmp 128) rfl YA.heap.size _ ((l1.take k).filter (offB et sc sm)) rfl (HOy.out.below ((Below.refl _ _).alloc (Nat.le_refl _) _)) Y.heap.size ⟨et, ec, em, er, el⟩ rfl (heap_alloc_new Y _) ?xa21 ?xa22 ?_; (case xa21 => have h1 := HLn.out; have h2 := H2C.out; omega); (case xa22 => have h1 := HSz.out; simp; omega); intro v6 w6 ho6 hg6; have HR6 : Hid (EntsAt w6 YA.heap.size v6 ((l1.take (k + 1)).filter (offB et sc sm)) ∧ Below YA.heap.size YA w6) := ⟨by rw [HF.out]; exact ho6, ((HBy.out.alloc HSz.out _).grown hg6 (by have h1 := HSz.out; simp; omega) (fun j hj => (HOy.out.blk hj).1))⟩; clear ho6 hg6)
                      go_roundw
                      case rel => exact ⟨k + 1, by omega, by first | rfl | go_num, HR6⟩
                      case measure => simp [intOf]; omega
                  · have NEG : Hid (¬ ((Ent.mk et ec em er el).t = st ∧ (Ent.mk et ec em er el).c = sc ∧ (Ent.mk et ec em er el).m = sm)) := fun q => q0 q.1
                    have y0 := bytes_ne q0
                    clear q0
                    have HF := hidK (filt_yes HX.out (off_yes NEG.out))
                    have HLn := hidK (filt_len l1 k (offB st sc sm))
                    go_wp2_with fail
                    go_quiet (fail)
                    rename_i nq
                    obtain ⟨Y, hY⟩ : ∃ Y, wr.drewN nq = Y := ⟨_, rfl⟩
                    rw [hY]
                    have HOy : Hid (EntsAt Y YA.heap.size u12 ((l1.take k).filter (offB st sc sm))) := by rw [← hY] <;> first | exact HR.out.1.below (below_drewN _ _) | exact (HR.out.1.below (below_drewN _ _))
                    have HBy : Hid (Below YA.heap.size YA Y) := by show Below _ _ _; rw [← hY]; exact below_step HR.out.2 (below_drewN _ _)
                    have f0 : Y.cell? ⟨g, o + k * 5, none⟩ = some (.string et) := by rw [← hY]; exact e0
                    have f1 : Y.cell? ⟨g, o + k * 5 + 1, none⟩ = some (.int .i64 ec) := by rw [← hY]; exact e1
                    have f2 : Y.cell? ⟨g, o + k * 5 + 2, none⟩ = some (.int .i64 em) := by rw [← hY]; exact e2
                    have f3 : Y.cell? ⟨g, o + k * 5 + 3, none⟩ = some (.bool er) := by rw [← hY]; exact e3
                    have f4 : Y.cell? ⟨g, o + k * 5 + 4, none⟩ = some (.string el) := by rw [← hY]; exact e4
                    have HSz : Hid (YA.heap.size ≤ Y.heap.size) := HBy.out.size
                    clear hY e0 e1 e2 e3 e4
                    go_wp2_with (at_builtin; refine wpList_append_ent _ rfl (.tmp 123) (.tmp 128) rfl YA.heap.size _ ((l1.take k).filter (offB st sc sm)) rfl (HOy.out.below ((Below.refl _ _).alloc (Nat.le_refl _) _)) Y.heap.size ⟨et, ec, em, er, el⟩ rfl (heap_alloc_new Y _) ?xa31 ?xa32 ?_; (case xa31 => have h1 := HLn.out; have h2 := H2C.out; omega); (case xa32 => have h1 := HSz.out; simp; omega); intro v6 w6 ho6 hg6; have HR6 : Hid (EntsAt w6 YA.heap.size v6 ((l1.take (k + 1)).filter (offB st sc sm)) ∧ Below YA.heap.size YA w6) := ⟨by rw [HF.out]; exact ho6, ((HBy.out.alloc HSz.out _).grown hg6 (by have h1 := HSz.out; simp; omega) (fun j hj => (HOy.out.blk hj).1))⟩; clear ho6 hg6)
                    go_roundw
                    case rel => exact ⟨k + 1, by omega, by first | rfl | go_num, HR6⟩
                    case measure => simp [intOf]; omega
                · obtain rfl : k = n1 := by omega
                  obtain ⟨V, hV⟩ : ∃ V, V = wr := ⟨_, rfl⟩
                  subst hV
                  have HP6 := hidK (HP5.out.more (HR.out.2))
                  have HSb : Hid (SeeE V (.slice ad2 n2 cp2) l2 ∧ l2.length = n2) := ⟨HSb0.out.1.below HR.out.2, HSb0.out.2⟩
                  have H2b := HLb
                  have HX1 : Hid (EntsAt V YA.heap.size u12 (l1.filter (offB st sc sm))) := by
                    have h := HR.out.1
                    rw [List.take_of_length_le (by rw [HSa.out.2]; exact Nat.le_refl _)] at h
                    exact h
                  clear HR hk hlt
                  go_wp2_with fail
                  go_loopw [13, 15] (fun xv iv wr => ∃ k : Nat, k ≤ n2 ∧ iv = .int .i64 k ∧ Hid (EntsAt wr V.heap.size xv ((l2.take k).filter (offB st sc sm)) ∧ Below V.heap.size V wr)) (fun _ iv _ => n2 - (intOf iv).toNat)
                  case atStart => exact ⟨0, Nat.zero_le _, rfl, hidK ⟨EntsAt.nil _ _, Below.refl _ _⟩⟩
                  case round =>
                    obtain ⟨k, hk, rfl, HR⟩ := hrel
                    by_cases hlt : k < n2
                    · have hka : k < l2.length := by rw [HSb.out.2]; exact hlt
                      obtain ⟨g, o, rfl, hc⟩ := HSb.out.1.cells (fun e => by rw [e] at hka; simp at hka)
                      have hcs := hc k hka
                      obtain ⟨⟨et, ec, em, er, el⟩, hst⟩ : ∃ q, l2[k] = q := ⟨_, rfl⟩
                      rw [hst] at hcs
                      have HX : Hid (l2[k]? = some ⟨et, ec, em, er, el⟩) := by show _ = _; rw [List.getElem?_eq_getElem hka, hst]
                      have H2C : Hid (l2.length ≤ 200) := H2b
                      have up : ∀ (o : Nat) (v : Value), V.cell? ⟨g, o, none⟩ = some v → wr.cell? ⟨g, o, none⟩ = some v := fun o v h => (HR.out.2.cell (World.block_lt_of_cell? _ _ h)).trans h
                      have e0 : wr.cell? ⟨g, o + k * 5, none⟩ = some (.string et) := up _ _ (hcs 0 _ rfl)
                      have e1 : wr.cell? ⟨g, o + k * 5 + 1, none⟩ = some (.int .i64 ec) := up _ _ (hcs 1 _ rfl)
                      have e2 : wr.cell? ⟨g, o + k * 5 + 2, none⟩ = some (.int .i64 em) := up _ _ (hcs 2 _ rfl)
                      have e3 : wr.cell? ⟨g, o + k * 5 + 3, none⟩ = some (.bool er) := up _ _ (hcs 3 _ rfl)
                      have e4 : wr.cell? ⟨g, o + k * 5 + 4, none⟩ = some (.string el) := up _ _ (hcs 4 _ rfl)
                      have hz := (HR.out.2.block z (lt_block HP6.out.lst)).trans HP6.out.lst
                      have z2 : wr.cell? ⟨z, 2, none⟩ = some (.string st) := cell_at hz 2
                      have z3 : wr.cell? ⟨z, 3, none⟩ = some (.int .i64 sc) := cell_at hz 3
                      have z4 : wr.cell? ⟨z, 4, none⟩ = some (.int .i64 sm) := cell_at hz 4
                      have hi1 : (k : Int) < (n2 : Int) := by omega
                      have hi2 : (k : Int) < 200 := by have h1 := H2C.out; have h2 := HSb.out.2; omega
                      clear hc hcs hst hka up hz
                      by_cases q0 : et = st
                      · subst q0
                        by_cases q1 : ec = sc
                        · subst q1
                          by_cases q2 : em = sm
                          · subst q2
                            have HF := hidK (filt_no HX.out (off_no (e := ⟨et, ec, em, er, el⟩) ⟨rfl, rfl, rfl⟩))
                            go_wp2_with fail
                            go_quiet (fail)
                            rename_i nq
                            have HR6 : Hid (EntsAt (wr.drewN nq) V.heap.size u13 ((l2.take (k + 1)).filter (offB et ec em)) ∧ Below V.heap.size V (wr.drewN nq)) := ⟨by rw [HF.out]; exact HR.out.1.below (below_drewN _ _), below_step HR.out.2 (below_drewN _ _)⟩
                            go_wp2_with fail
                            go_roundw
                            case rel => exact ⟨k + 1, by omega, by first | rfl | go_num, HR6⟩
                            case measure => simp [intOf]; omega
                          · have NEG : Hid (¬ ((Ent.mk et ec em er el).t = et ∧ (Ent.mk et ec em er el).c = ec ∧ (Ent.mk et ec em er el).m = sm)) := fun q => q2 q.2.2
                            have y2 : (em == sm) = false := by simpa using q2
                            clear q2
                            have HF := hidK (filt_yes HX.out (off_yes NEG.out))
                            have HLn := hidK (filt_len l2 k (offB et ec sm))
                            go_wp2_with fail
                            go_quiet (fail)
                            rename_i nq
                            obtain ⟨Y, hY⟩ : ∃ Y, wr.drewN nq = Y := ⟨_, rfl⟩
                            rw [hY]
                            have HOy : Hid (EntsAt Y V.heap.size u13 ((l2.take k).filter (offB et ec sm))) := by rw [← hY] <;> first | exact HR.out.1.below (below_drewN _ _) | exact (HR.out.1.below (below_drewN _ _))
                            have HBy : Hid (Below V.heap.size V Y) := by show Below _ _ _; rw [← hY]; exact below_step HR.out.2 (below_drewN _ _)
                            have f0 : Y.cell? ⟨g, o + k * 5, none⟩ = some (.string et) := by rw [← hY]; exact e0
                            have f1 : Y.cell? ⟨g, o + k * 5 + 1, none⟩ = some (.int .i64 ec) := by rw [← hY]; exact e1
                            have f2 : Y.cell? ⟨g, o + k * 5 + 2, none⟩ = some (.int .i64 em) := by rw [← hY]; exact e2
                            have f3 : Y.cell? ⟨g, o + k * 5 + 3, none⟩ = some (.bool er) := by rw [← hY]; exact e3
                            have f4 : Y.cell? ⟨g, o + k * 5 + 4, none⟩ = some (.string el) := by rw [← hY]; exact e4
                            have HSz : Hid (V.heap.size ≤ Y.heap.size) := HBy.out.size
                            clear hY e0 e1 e2 e3 e4
                            go_wp2_with (at_builtin; refine wpList_append_ent _ rfl (.tmp 156) (.tmp 161) rfl V.heap.size _ ((l2.take k).filter (offB et ec sm)) rfl (HOy.out.below ((Below.refl _ _).alloc (Nat.le_refl _) _)) Y.heap.size ⟨et, ec, em, er, el⟩ rfl (heap_alloc_new Y _) ?xb11 ?xb12 ?_; (case xb11 => have h1 := HLn.out; have h2 := H2C.out; omega); (case xb12 => have h1 := HSz.out; simp; omega); intro v6 w6 ho6 hg6; have HR6 : Hid (EntsAt w6 V.heap.size v6 ((l2.take (k + 1)).filter (offB et ec sm)) ∧ Below V.heap.size V w6) := ⟨by rw [HF.out]; exact ho6, ((HBy.out.alloc HSz.out _).grown hg6 (by have h1 := HSz.out; simp; omega) (fun j hj => (HOy.out.blk hj).1))⟩; clear ho6 hg6)
                            go_roundw
                            case rel => exact ⟨k + 1, by omega, by first | rfl | go_num, HR6⟩
                            case measure => simp [intOf]; omega
                        · have NEG : Hid (¬ ((Ent.mk et ec em er el).t = et ∧ (Ent.mk et ec em er el).c = sc ∧ (Ent.mk et ec em er el).m = sm)) := fun q => q1 q.2.1
                          have y1 : (ec == sc) = false := by simpa using q1
                          clear q1
                          have HF := hidK (filt_yes HX.out (off_yes NEG.out))
                          have HLn := hidK (filt_len l2 k (offB et sc sm))
                          go_wp2_with fail
                          go_quiet (fail)
                          rename_i nq
                          obtain ⟨Y, hY⟩ : ∃ Y, wr.drewN nq = Y := ⟨_, rfl⟩
                          rw [hY]
                          have HOy : Hid (EntsAt Y V.heap.size u13 ((l2.take k).filter (offB et sc sm))) := by rw [← hY] <;> first | exact HR.out.1.below (below_drewN _ _) | exact (HR.out.1.below (below_drewN _ _))
                          have HBy : Hid (Below V.heap.size V Y) := by show Below _ _ _; rw [← hY]; exact below_step HR.out.2 (below_drewN _ _)
                          have f0 : Y.cell? ⟨g, o + k * 5, none⟩ = some (.string et) := by rw [← hY]; exact e0
                          have f1 : Y.cell? ⟨g, o + k * 5 + 1, none⟩ = some (.int .i64 ec) := by rw [← hY]; exact e1
                          have f2 : Y.cell? ⟨g, o + k * 5 + 2, none⟩ = some (.int .i64 em) := by rw [← hY]; exact e2
                          have f3 : Y.cell? ⟨g, o + k * 5 + 3, none⟩ = some (.bool er) := by rw [← hY]; exact e3
                          have f4 : Y.cell? ⟨g, o + k * 5 + 4, none⟩ = some (.string el) := by rw [← hY]; exact e4
                          have HSz : Hid (V.heap.size ≤ Y.heap.size) := HBy.out.size
                          clear hY e0 e1 e2 e3 e4
                          go_wp2_with (at_builtin; refine wpList_append_ent _ rfl (.tmp 156) (.tmp 161) rfl V.heap.size _ ((l2.take k).filter (offB et sc sm)) rfl (HOy.out.below ((Below.refl _ _).alloc (Nat.le_refl _) _)) Y.heap.size ⟨et, ec, em, er, el⟩ rfl (heap_alloc_new Y _) ?xb21 ?xb22 ?_; (case xb21 => have h1 := HLn.out; have h2 := H2C.out; omega); (case xb22 => have h1 := HSz.out; simp; omega); intro v6 w6 ho6 hg6; have HR6 : Hid (EntsAt w6 V.heap.size v6 ((l2.take (k + 1)).filter (offB et sc sm)) ∧ Below V.heap.size V w6) := ⟨by rw [HF.out]; exact ho6, ((HBy.out.alloc HSz.out _).grown hg6 (by have h1 := HSz.out; simp; omega) (fun j hj => (HOy.out.blk hj).1))⟩; clear ho6 hg6)
                          go_roundw
                          case rel => exact ⟨k + 1, by omega, by first | rfl | go_num, HR6⟩
                          case measure => simp [intOf]; omega
                      · have NEG : Hid (¬ ((Ent.mk et ec em er el).t = st ∧ (Ent.mk et ec em er el).c = sc ∧ (Ent.mk et ec em er el).m = sm)) := fun q => q0 q.1
                        have y0 := bytes_ne q0
                        clear q0
                        have HF := hidK (filt_yes HX.out (off_yes NEG.out))
                        have HLn := hidK (filt_len l2 k (offB st sc sm))
                        go_wp2_with fail
                        go_quiet (fail)
                        rename_i nq
                        obtain ⟨Y, hY⟩ : ∃ Y, wr.drewN nq = Y := ⟨_, rfl⟩
                        rw [hY]
                        have HOy : Hid (EntsAt Y V.heap.size u13 ((l2.take k).filter (offB st sc sm))) := by rw [← hY] <;> first | exact HR.out.1.below (below_drewN _ _) | exact (HR.out.1.below (below_drewN _ _))
                        have HBy : Hid (Below V.heap.size V Y) := by show Below _ _ _; rw [← hY]; exact below_step HR.out.2 (below_drewN _ _)
                        have f0 : Y.cell? ⟨g, o + k * 5, none⟩ = some (.string et) := by rw [← hY]; exact e0
                        have f1 : Y.cell? ⟨g, o + k * 5 + 1, none⟩ = some (.int .i64 ec) := by rw [← hY]; exact e1
                        have f2 : Y.cell? ⟨g, o + k * 5 + 2, none⟩ = some (.int .i64 em) := by rw [← hY]; exact e2
                        have f3 : Y.cell? ⟨g, o + k * 5 + 3, none⟩ = some (.bool er) := by rw [← hY]; exact e3
                        have f4 : Y.cell? ⟨g, o + k * 5 + 4, none⟩ = some (.string el) := by rw [← hY]; exact e4
                        have HSz : Hid (V.heap.size ≤ Y.heap.size) := HBy.out.size
                        clear hY e0 e1 e2 e3 e4
                        go_wp2_with (at_builtin; refine wpList_append_ent _ rfl (.tmp 156) (.tmp 161) rfl V.heap.size _ ((l2.take k).filter (offB st sc sm)) rfl (HOy.out.below ((Below.refl _ _).alloc (Nat.le_refl _) _)) Y.heap.size ⟨et, ec, em, er, el⟩ rfl (heap_alloc_new Y _) ?xb31 ?xb32 ?_; (case xb31 => have h1 := HLn.out; have h2 := H2C.out; omega); (case xb32 => have h1 := HSz.out; simp; omega); intro v6 w6 ho6 hg6; have HR6 : Hid (EntsAt w6 V.heap.size v6 ((l2.take (k + 1)).filter (offB st sc sm)) ∧ Below V.heap.size V w6) := ⟨by rw [HF.out]; exact ho6, ((HBy.out.alloc HSz.out _).grown hg6 (by have h1 := HSz.out; simp; omega) (fun j hj => (HOy.out.blk hj).1))⟩; clear ho6 hg6)
                        go_roundw
                        case rel => exact ⟨k + 1, by omega, by first | rfl | go_num, HR6⟩
                        case measure => simp [intOf]; omega
                    · obtain rfl : k = n2 := by omega
                      have HX2 : Hid (EntsAt wr V.heap.size u13 (l2.filter (offB st sc sm))) := by
                        have h := HR.out.1
                        rw [List.take_of_length_le (by rw [HSb.out.2]; exact Nat.le_refl _)] at h
                        exact h
                      have HS9 : Hid (SeeE wr u12 (l1.filter (offB st sc sm))) := (HX1.out.below HR.out.2).see
                      have hl9 := List.length_filter_le (offB st sc sm) l1
                      have hl8 := List.length_filter_le (offB st sc sm) l2
                      have HSm := same_any HS9.out HX2.out.see (by have := HLa.out; omega) (by have := HLb.out; omega)
                      have HB9 := hidK (below_step HP6.out.below HR.out.2)
                      clear hl9 hl8 hk hlt HR
                      go_wp2_with fail
                      refine HSm.mono ?_
                      rintro e Y7 ⟨⟨zz, rfl, hzz⟩, hb7⟩
                      have hz1 : zz = true := hzz.2 HEq.out
                      subst hz1
                      have HBy := hidK (below_step HB9.out hb7)
                      clear hzz hb7 HSm
                      go_wp2_with fail
                      refine (HSu.out _ HBy.out).mono ?_
                      rintro e Y8 ⟨rfl, hb8⟩
                      have HBz := hidK (below_step HBy.out hb8)
                      clear hb8
                      go_wp2_with fail
                      go_ret
                      exact ⟨rfl, HBz.out⟩
end Go.Proofs.YtbonnjilbocldaaDoor
