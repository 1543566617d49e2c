/-
  Buffers: the program's buffers behind any steps but those that are passed by.
-/
import Derived.Test.YtgbaeajcgiaboaaDoorUGam
import Derived.Test.YtgbaeajcgiaboaaDoorUKpu
import Derived.Deep.DeepCutAuto
namespace Go.Proofs.YtgbaeajcgiaboaaDoor
open Go.RowKit
set_option linter.unusedVariables false
set_option maxRecDepth 100000

set_option maxHeartbeats 40000000 in
theorem steps_any {w0 w : World} {b : Nat} {v0 : Value} {s0 : St} {j0 : Nat} (hP : Pr w0 w b v0 s0) (hG : Good s0 j0) (hj0 : j0 ≤ 1000) (T : Option ByteArray) (hF : Fit T s0.l) (bt : ByteArray) (hbt : T = none ∨ bt = keepB) (v : Value) (l : List Ps) (hv : SeeP w0 v l) (hl : ∀ s ∈ l, s.wf) :
    Calls Tryd.prog 9 #[.pointer (some ⟨b, 0, none⟩), v, .string bt] w fun r w' => r = .returned (.tuple #[]) ∧ ∃ (s' : St) (v' : Value), Pr w0 w' b v' s' ∧ Good s' (j0 + 300) ∧ Fit T s'.l := by
  obtain ⟨ad, cp, rfl, hcell⟩ := hv
  obtain ⟨N, hN⟩ : ∃ N, l.length = N := ⟨_, rfl⟩
  rw [hN]
  have HP0 := hidK hP
  have HG0 : Hid (Good s0 (j0 + 0)) := hidK hG
  have HF0 := hidK hF
  have HBt := hidK hbt
  have HCe := hidK hcell
  have HN := hidK hN
  have HL := hidK hl
  have HJ := hidK hj0
  clear hP hG hF hbt hcell hN hl hj0
  go_enter Tryd.func9, Tryd.ntmps9
  go_wp2_with fail
  go_loopw [6] (fun iv wr => ∃ (k : Nat) (s : St) (vp : Value), k ≤ N ∧ k ≤ 300 ∧ iv = .int .i64 k ∧ Hid (Pr w0 wr b vp s) ∧ Hid (Good s (j0 + k)) ∧ Hid (Fit T s.l)) (fun iv _ => N - (intOf iv).toNat)
  case atStart => exact ⟨0, s0, v0, Nat.zero_le _, Nat.zero_le _, rfl, HP0, HG0, HF0⟩
  case round =>
    clear HP0 HG0 HF0
    obtain ⟨k, s, vp, hk, hk2, rfl, HP, HG, HF⟩ := hrel
    obtain ⟨cnd, hcnd⟩ : ∃ c, (decide (k < N) && decide (k < 300)) = c := ⟨_, rfl⟩
    have HC := hidK hcnd
    clear hcnd
    go_upto_region 1 with fail
    go_cut [15] (fun v X => v = .bool cnd ∧ wr = X)
    case first =>
      by_cases q1 : k < N
      · have i1 : (k : Int) < (N : Int) := by omega
        by_cases q2 : k < 300
        · have i2 : (k : Int) < 300 := by omega
          go_wp2_with fail
          go_meet
          case rel => exact ⟨by rw [← HC.out]; simp [q1, q2], rfl⟩
        · have i2 : ¬ (k : Int) < 300 := by omega
          go_wp2_with fail
          go_meet
          case rel => exact ⟨by rw [← HC.out]; simp [q2], rfl⟩
      · have i1 : ¬ (k : Int) < (N : Int) := by omega
        go_wp2_with fail
        go_meet
        case rel => exact ⟨by rw [← HC.out]; simp [q1], rfl⟩
    case rest =>
      obtain ⟨rfl, rfl⟩ := hcut
      cases cnd with
      | false =>
        go_wp2_with fail
        go_end0
        exact ⟨rfl, s, vp, HP.out, HG.out.more (by omega), HF.out⟩
      | true =>
        have hkk : k < N ∧ k < 300 := by have := HC.out; simpa using this
        have hka : k < l.length := by rw [HN.out]; exact hkk.1
        obtain ⟨g, o, rfl, hc⟩ := HCe.out (fun e => by rw [e] at hka; simp at hka)
        have hcs := hc k hka
        have hsw := HL.out _ (List.getElem_mem hka)
        obtain ⟨⟨kd, n, nm, tx⟩, hst⟩ : ∃ q, l[k] = q := ⟨_, rfl⟩
        rw [hst] at hcs hsw
        have up : ∀ (o : Nat) (v : Value), w0.cell? ⟨g, o, none⟩ = some v → wr.cell? ⟨g, o, none⟩ = some v := fun o v h => (HP.out.env.old.cell (World.block_lt_of_cell? w0 _ h)).trans h
        have e0 : wr.cell? ⟨g, o + k * 4, none⟩ = some (.int .i64 kd) := up _ _ (hcs 0 _ rfl)
        have e1 : wr.cell? ⟨g, o + k * 4 + 1, none⟩ = some (.int .i64 n) := up _ _ (hcs 1 _ rfl)
        have e2 : wr.cell? ⟨g, o + k * 4 + 2, none⟩ = some (.string nm) := up _ _ (hcs 2 _ rfl)
        have e3 : wr.cell? ⟨g, o + k * 4 + 3, none⟩ = some (.string tx) := up _ _ (hcs 3 _ rfl)
        have i1 : (k : Int) < (N : Int) := by omega
        have i2 : (k : Int) < 300 := by omega
        have HKk : Hid (k + 1 ≤ N ∧ k + 1 ≤ 300) := by show _ ∧ _; omega
        have HSw := hidK hsw
        clear hc hcs hst hsw hka up hkk HC hk hk2 HCe
        obtain ⟨q, hq⟩ : ∃ q, wr.heap.size = q := ⟨_, rfl⟩
        obtain ⟨V, hV⟩ : ∃ W, wr.alloc (.cells #[.int .i64 kd, .int .i64 n, .string nm, .string tx] 47) = W := ⟨_, rfl⟩
        have ha5 : V.heap[q]? = some (.cells #[.int .i64 kd, .int .i64 n, .string nm, .string tx] 47 (0, 0)) := by rw [← hV, ← hq]; exact heap_alloc_new _ _
        have hb5 : Below wr.heap.size wr V := by rw [← hV]; exact (Below.refl _ _).alloc (Nat.le_refl _) _
        have HP5 := hidK (HP.out.below hb5)
        have g0 := cell_at ha5 0
        have g1 := cell_at ha5 1
        have g2 := cell_at ha5 2
        have g3 := cell_at ha5 3
        have HVe := hidK hV
        have Hqe := hidK hq
        clear ha5 hb5 hV hq HP
        go_upto_region 4 with fail
        rw [HVe.out, Hqe.out]
        clear e0 e1 e2 e3 HVe
        obtain ⟨sk, hsk⟩ : ∃ c, skp bt kd nm tx = c := ⟨_, rfl⟩
        have HSk := hidK hsk
        clear hsk
        go_cut [50] (fun v X => v = .bool sk ∧ V = X)
        case first =>
          by_cases z1 : bt.toList = []
          · have y1 : bt.toList.isEmpty = true := by rw [z1]; rfl
            go_wp2_with fail
            go_meet
            case rel => exact ⟨by rw [← HSk.out]; simp [skp, z1], rfl⟩
          · have y1 : bt.toList.isEmpty = false := by simpa using z1
            by_cases z2 : nm.toList = bt.toList
            · have y2 : (nm.toList == bt.toList) = true := by simpa using z2
              go_wp2_with fail
              go_meet
              case rel => exact ⟨by rw [← HSk.out]; unfold skp; simp only [y1, y2, Bool.not_false, Bool.true_and, Bool.true_or], rfl⟩
            · have y2 : (nm.toList == bt.toList) = false := by simpa using z2
              by_cases z34 : nm.toList = [] ∧ ¬ kd = 1
              · obtain ⟨z3, z4⟩ := z34
                have y3 : nm.toList.isEmpty = true := by rw [z3]; rfl
                have y4 : (kd == 1) = false := by simpa using z4
                have y4' : (kd != 1) = true := by simpa using z4
                go_wp2_with fail
                go_meet
                case rel => exact ⟨by rw [← HSk.out]; unfold skp; simp only [y1, y2, y3, y4, Bool.not_false, Bool.true_and, Bool.true_or, Bool.false_or], rfl⟩
              · have hm : (nm.toList.isEmpty && !(kd == 1)) = false := by
                  rw [Bool.and_eq_false_iff]
                  by_cases z3 : nm.toList = []
                  · exact .inr (by simpa using fun h4 => z34 ⟨z3, h4⟩)
                  · exact .inl (by simpa using z3)
                have HMm := hidK hm
                clear hm
                by_cases z5 : kd = 4
                · subst z5
                  have z3 : ¬ nm.toList = [] := fun e => z34 ⟨e, by decide⟩
                  have y3 : nm.toList.isEmpty = false := by simpa using z3
                  clear z34
                  by_cases z6 : tx.toList = bt.toList
                  · have y6 : (tx.toList == bt.toList) = true := by simpa using z6
                    go_wp2_with fail
                    go_meet
                    case rel => exact ⟨by rw [← HSk.out]; unfold skp; rw [HMm.out]; simp [y1, y2, y6], rfl⟩
                  · have y6 : (tx.toList == bt.toList) = false := by simpa using z6
                    go_wp2_with fail
                    go_meet
                    case rel => exact ⟨by rw [← HSk.out]; unfold skp; rw [HMm.out]; simp [y1, y2, y6], rfl⟩
                · have y5 : (kd == 4) = false := by simpa using z5
                  by_cases z3 : nm.toList = []
                  · have y3 : nm.toList.isEmpty = true := by rw [z3]; rfl
                    have z4 : kd = 1 := by
                      by_cases e : kd = 1
                      · exact e
                      · exact absurd ⟨z3, e⟩ z34
                    subst z4
                    clear z34
                    go_wp2_with fail
                    go_meet
                    case rel => exact ⟨by rw [← HSk.out]; unfold skp; rw [HMm.out]; simp [y1, y2], rfl⟩
                  · have y3 : nm.toList.isEmpty = false := by simpa using z3
                    clear z34
                    go_wp2_with fail
                    go_meet
                    case rel => exact ⟨by rw [← HSk.out]; unfold skp; rw [HMm.out]; simp [y1, y2, y5], rfl⟩
        case rest =>
        obtain ⟨rfl, rfl⟩ := hcut
        cases sk with
        | true =>
          have HG1 := hidK (HG.out.more (Nat.le_succ (j0 + k)))
          go_wp2_with fail
          go_roundw
          case rel => exact ⟨k + 1, s, vp, HKk.out.1, HKk.out.2, by go_num, HP5, HG1, HF⟩
          case measure => have := HKk.out.1; simp [intOf]; omega
        | false =>
          have HKe : Hid (T ≠ none → nm ≠ keepB ∧ (kd = 4 → tx ≠ keepB)) := fun hT => by
            rcases HBt.out with h | h
            · exact absurd h hT
            · have := HSk.out
              rw [h] at this
              exact skp_keep this
          by_cases c1 : kd = 1
          · subst c1
            have HG1 := hidK (good_set HG.out (by have := HJ.out; have := HKk.out.2; omega) nm tx)
            have HF1 := hidK (fit_set HF.out nm tx fun h => (HKe.out h).1)
            have HCc := hidK (set_any HP5.out.env HP5.out.bf HG.out (by have := HJ.out; have := HKk.out.2; omega) nm tx HSw.out.1 HSw.out.2)
            go_wp2_with fail
            refine HCc.out.mono ?_
            rintro e w5 ⟨rfl, v5, hb5, hs5⟩
            have HP6 := hidK (HP5.out.stp hb5 hs5)
            clear hb5 hs5 g0 g1 g2 g3
            go_wp2_with fail
            go_roundw
            case rel => exact ⟨k + 1, _, v5, HKk.out.1, HKk.out.2, by go_num, HP6, HG1, HF1⟩
            case measure => have := HKk.out.1; simp [intOf]; omega
          · have b1 : (kd == 1) = false := by simpa using c1
            by_cases c3 : kd = 3
            · subst c3
              have HG1 := hidK ((good_del HG.out nm).more (Nat.le_succ (j0 + k)))
              have HF1 := hidK (fit_del HF.out nm)
              have HCc := hidK (delete_op HP5.out.bf HG.out nm)
              go_wp2_with fail
              refine HCc.out.mono ?_
              rintro e w5 ⟨rfl, v5, hb5, hs5⟩
              have HP6 := hidK (HP5.out.stp hb5 hs5)
              clear hb5 hs5 g0 g1 g2 g3
              go_wp2_with fail
              go_roundw
              case rel => exact ⟨k + 1, _, v5, HKk.out.1, HKk.out.2, by go_num, HP6, HG1, HF1⟩
              case measure => have := HKk.out.1; simp [intOf]; omega
            · have b3 : (kd == 3) = false := by simpa using c3
              by_cases c4 : kd = 4
              · subst c4
                have HG1 := hidK ((good_ren HG.out nm tx).more (Nat.le_succ (j0 + k)))
                have HF1 := hidK (fit_ren HF.out nm tx fun h => (HKe.out h).2 rfl)
                have HCc := hidK (rename_op HP5.out.bf HG.out nm tx HSw.out.2)
                go_wp2_with fail
                refine HCc.out.mono ?_
                rintro e w5 ⟨rfl, v5, hb5, hs5⟩
                have HP6 := hidK (HP5.out.stp hb5 hs5)
                clear hb5 hs5 g0 g1 g2 g3
                go_wp2_with fail
                go_roundw
                case rel => exact ⟨k + 1, _, v5, HKk.out.1, HKk.out.2, by go_num, HP6, HG1, HF1⟩
                case measure => have := HKk.out.1; simp [intOf]; omega
              · have b4 : (kd == 4) = false := by simpa using c4
                by_cases c6 : kd = 6
                · subst c6
                  have HG1 := hidK ((good_lim HG.out n).more (Nat.le_succ (j0 + k)))
                  have HF1 := hidK (fit_lim HF.out n)
                  have HCc := hidK (limit_op HP5.out.bf HG.out n)
                  go_wp2_with fail
                  refine HCc.out.mono ?_
                  rintro e w5 ⟨rfl, v5, hb5, hs5⟩
                  have HP6 := hidK (HP5.out.stp hb5 hs5)
                  clear hb5 hs5 g0 g1 g2 g3
                  go_wp2_with fail
                  go_roundw
                  case rel => exact ⟨k + 1, _, v5, HKk.out.1, HKk.out.2, by go_num, HP6, HG1, HF1⟩
                  case measure => have := HKk.out.1; simp [intOf]; omega
                · have b6 : (kd == 6) = false := by simpa using c6
                  have HG1 := hidK (HG.out.more (Nat.le_succ (j0 + k)))
                  go_wp2_with fail
                  go_roundw
                  case rel => exact ⟨k + 1, s, vp, HKk.out.1, HKk.out.2, by go_num, HP5, HG1, HF⟩
                  case measure => have := HKk.out.1; simp [intOf]; omega
end Go.Proofs.YtgbaeajcgiaboaaDoor
