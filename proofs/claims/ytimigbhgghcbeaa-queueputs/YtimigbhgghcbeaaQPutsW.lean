/-
  The walk of QueuePuts.
-/
import Derived.Test.YtimigbhgghcbeaaQPutP
import Derived.WalkKit
import Derived.Deep.RegionLaw
import Derived.Deep.RegionHeld3
namespace Go.Proofs.Ytimigbhgghcbeaa
open Go.RowKit
set_option linter.unusedVariables false
set_option maxRecDepth 100000

set_option maxHeartbeats 4000000 in
theorem queuePuts_walk (lim : Int) (sv : Value) (ops : List OpD) (o : OpD) (w : World) (hops : OpsArg w sv ops) (ho : o.Ok w) :
    Calls Try.prog 5 #[.int .i64 lim, sv, .agg o.vals] w fun x w' => x = .returned (.bool true) ∧ Below w.heap.size w w' := by
  obtain ⟨W1, hW1⟩ : ∃ W1, w.alloc (boxO o) = W1 := ⟨_, rfl⟩
  obtain ⟨N0, hN0⟩ : ∃ N0, w.heap.size = N0 := ⟨_, rfl⟩
  have hb0 : Below w.heap.size w W1 := by rw [← hW1]; exact (Below.refl _ _).alloc (Nat.le_refl _) _
  have hO : W1.heap[w.heap.size]? = some (boxO o) := by rw [← hW1]; exact heap_alloc_new w _
  have hops1 : OpsArg W1 sv ops := hops.below hb0
  have HM := hidK (behind_any lim sv ops W1 hops1)
  obtain ⟨ao, no, co, rfl, -, -, -, -⟩ := hops.open_
  have HOk := hidK ho
  have HB0 := hidK hb0
  have HO := hidK hO
  have HN0 := hidK hN0
  obtain ⟨k, line, lv, lines, pane, tick, n⟩ := o
  have HW1 : Hid (w.alloc (.cells #[.int .i64 k, .string (str line), lv, .int .i64 pane, .int .i64 tick, .int .i64 n] 35) = W1) := hW1
  unfold OpD.vals
  simp only
  obtain ⟨z, hz⟩ : ∃ z, str line = z := ⟨_, rfl⟩
  have HZ := hidK hz
  rw [hz] at HW1 ⊢
  clear hops hops1 ho hb0 hO hN0 hW1 hz
  go_enter Try.func5, Try.ntmps5
  go_wp2_with fail
  rw [HW1.out]
  refine HM.out.mono ?_
  rintro x w1 ⟨hb1, rfl | ⟨F, b, a, m, c, q, rfl, hs⟩⟩
  · have HB1 := hidK (HB0.out.trans (hb1.mono HB0.out.size))
    clear hb1
    go_wp2_with fail
    all_goals go_ret
    all_goals exact ⟨rfl, by have h2 := HB1.out.size; repeat (first | exact HB1.out | apply Below.drew | refine Below.setCell ?_ (by first | omega | (simp <;> omega)) _ | refine Below.alloc ?_ (by first | omega | (simp <;> omega)) _)⟩
  · have HG := hidK (GameO.start HB0.out HO.out hs)
    rw [HN0.out] at HG
    obtain ⟨R, hR⟩ : ∃ R, w1.heap.size = R := ⟨_, rfl⟩
    rw [hR] at HG
    obtain ⟨X1, hX1⟩ : ∃ X1, w1.alloc (.cells #[.int .i64 (q.lim : Int), .slice a m c, .bool q.cl] 26) = X1 := ⟨_, rfl⟩
    rw [hX1] at HG
    have HX1 := hidK hX1
    have HR := hidK hR
    have hop1 : w1.heap[w.heap.size]? = some (boxO ⟨k, line, lv, lines, pane, tick, n⟩) := (hs.play.below.block _ (Array.getElem?_eq_some_iff.1 HO.out).1).trans HO.out
    have u0 : w1.cell? ⟨w.heap.size, 0, none⟩ = some (.int .i64 k) := cell_atT hop1 0
    have u1 : w1.cell? ⟨w.heap.size, 1, none⟩ = some (.string z) := by rw [← HZ.out]; exact cell_atT hop1 1
    have u2 : w1.cell? ⟨w.heap.size, 2, none⟩ = some lv := cell_atT hop1 2
    have u3 : w1.cell? ⟨w.heap.size, 3, none⟩ = some (.int .i64 pane) := cell_atT hop1 3
    have u4 : w1.cell? ⟨w.heap.size, 4, none⟩ = some (.int .i64 tick) := cell_atT hop1 4
    have u5 : w1.cell? ⟨w.heap.size, 5, none⟩ = some (.int .i64 n) := cell_atT hop1 5
    have uf : w1.frozen? ⟨w.heap.size, 0, none⟩ = false := free_atT hop1 0
    have ult : w.heap.size < w1.heap.size := (Array.getElem?_eq_some_iff.1 hop1).1
    have une : w.heap.size ≠ w1.heap.size := by omega
    have une2 : w1.heap.size ≠ w.heap.size := by omega
    clear hs hb1 hX1 hR HO HM hop1
    have HX1b : Hid (w1.alloc (.cells #[.int .i64 (q.lim : Int), .slice a m c, .bool q.cl] 26) = X1) := HX1.out
    by_cases hk0 : k = 0
    · subst hk0
      obtain ⟨X2, hX2⟩ : ∃ X2, X1 = X2 := ⟨_, rfl⟩
      subst hX2
      have hG2 := HG.out
      have hkk : -9223372036854775808 ≤ (0 : Int) ∧ (0 : Int) ≤ 9223372036854775807 := by decide
      have HG2 : Hid (GameO w X1 R N0 F b (.slice a m c) q ⟨0, line, lv, lines, pane, tick, n⟩) := hG2
      have HS := hidK (step_gameO HG2.out ({ HOk.out with k := hkk } : OpD.Ok w ⟨0, line, lv, lines, pane, tick, n⟩))
      unfold OpD.vals at HS
      simp only [HZ.out] at HS
      obtain ⟨Q2, hQ2⟩ : ∃ Q2, stepQ q ⟨0, line, lv, lines, pane, tick, n⟩ = Q2 := ⟨_, rfl⟩
      rw [hQ2] at HS
      clear hG2 hQ2 hkk
      go_wp2_with fail
      rw [HX1.out]
      rw [HN0.out]
      rw [HR.out]
      refine HS.out.mono ?_
      rintro x w2 ⟨F', a3, n3, c3, rfl, hR2, hg2⟩
      have HG3 := hidK hg2
      have p0 : w2.cell? ⟨R, 0, none⟩ = some (.int .i64 (q.lim : Int)) := cell_atT hR2 0
      have p1 : w2.cell? ⟨R, 1, none⟩ = some (.slice a m c) := cell_atT hR2 1
      have p2 : w2.cell? ⟨R, 2, none⟩ = some (.bool q.cl) := cell_atT hR2 2
      have pf := free_atT hR2
      obtain ⟨X, hX⟩ : ∃ X, (((w2.setCell ⟨R, 0, none⟩ (.int .i64 (Q2.lim : Int))).setCell ⟨R, 1, none⟩ (.slice a3 n3 c3)).setCell ⟨R, 2, none⟩ (.bool Q2.cl)) = X := ⟨_, rfl⟩
      have HX := hidK hX
      rw [hX] at HG3
      have HRd := hidK (gameO_ref HG3.out)
      obtain ⟨tx, htx⟩ : ∃ tx, str Q2.bs = tx := ⟨_, rfl⟩
      have HTX := hidK htx
      rw [htx] at HRd
      clear hR2 hg2 hX htx HS u0 u1 u2 u3 u4 u5 uf
      go_wp2_with fail
      rw [HX.out]
      refine HRd.out.mono ?_
      rintro x w4 ⟨a4, m4, c4, rfl, hg4⟩
      have HG4 := hidK hg4
      obtain ⟨x0, x1, x2, xf⟩ := hg4.game.cells
      have o3 : w4.cell? ⟨N0, 3, none⟩ = some (.int .i64 pane) := cell_atT hg4.op 3
      have rlt : R < w4.heap.size := lt_of_block hg4.game.ref
      have rne : R ≠ w4.heap.size := by omega
      have nlt : N0 < w4.heap.size := (Array.getElem?_eq_some_iff.1 hg4.op).1
      have nne : N0 ≠ w4.heap.size := by omega
      have HA4 : Hid (∀ ob, GameO w (w4.alloc ob) R N0 F' b (.slice a3 n3 c3) Q2 ⟨0, line, lv, lines, pane, tick, n⟩) := fun ob => HG4.out.more ((Below.refl _ _).alloc (Nat.le_refl _) _)
      clear hg4 p0 p1 p2 pf HRd
      have HD := hidK (gameO_drain (HA4.out (.cells #[.int .i64 (Q2.lim : Int), .slice a4 m4 c4, .bool Q2.cl] 26)))
      rw [HTX.out] at HD
      go_wp2_with fail
      refine HD.out.mono ?_
      rintro x w6 ⟨rfl, hb6⟩
      have HB6 := hidK hb6
      clear hb6
      go_wp2_with fail
      all_goals go_ret
      all_goals exact ⟨rfl, HB6.out⟩
    · by_cases hk1 : k = 1
      · subst hk1
        have hG2 := HG.out
        have hkk : -9223372036854775808 ≤ (1 : Int) ∧ (1 : Int) ≤ 9223372036854775807 := by decide
        have HG2 : Hid (GameO w X1 R N0 F b (.slice a m c) q ⟨1, line, lv, lines, pane, tick, n⟩) := hG2
        have HS := hidK (step_gameO HG2.out ({ HOk.out with k := hkk } : OpD.Ok w ⟨1, line, lv, lines, pane, tick, n⟩))
        unfold OpD.vals at HS
        simp only [HZ.out] at HS
        obtain ⟨Q2, hQ2⟩ : ∃ Q2, stepQ q ⟨1, line, lv, lines, pane, tick, n⟩ = Q2 := ⟨_, rfl⟩
        rw [hQ2] at HS
        clear hG2 hQ2 hkk
        go_wp2_with fail
        rw [HX1.out]
        rw [HN0.out]
        rw [HR.out]
        refine HS.out.mono ?_
        rintro x w2 ⟨F', a3, n3, c3, rfl, hR2, hg2⟩
        have HG3 := hidK hg2
        have p0 : w2.cell? ⟨R, 0, none⟩ = some (.int .i64 (q.lim : Int)) := cell_atT hR2 0
        have p1 : w2.cell? ⟨R, 1, none⟩ = some (.slice a m c) := cell_atT hR2 1
        have p2 : w2.cell? ⟨R, 2, none⟩ = some (.bool q.cl) := cell_atT hR2 2
        have pf := free_atT hR2
        obtain ⟨X, hX⟩ : ∃ X, (((w2.setCell ⟨R, 0, none⟩ (.int .i64 (Q2.lim : Int))).setCell ⟨R, 1, none⟩ (.slice a3 n3 c3)).setCell ⟨R, 2, none⟩ (.bool Q2.cl)) = X := ⟨_, rfl⟩
        have HX := hidK hX
        rw [hX] at HG3
        have HRd := hidK (gameO_ref HG3.out)
        obtain ⟨tx, htx⟩ : ∃ tx, str Q2.bs = tx := ⟨_, rfl⟩
        have HTX := hidK htx
        rw [htx] at HRd
        clear hR2 hg2 hX htx HS u0 u1 u2 u3 u4 u5 uf
        go_wp2_with fail
        rw [HX.out]
        refine HRd.out.mono ?_
        rintro x w4 ⟨a4, m4, c4, rfl, hg4⟩
        have HG4 := hidK hg4
        obtain ⟨x0, x1, x2, xf⟩ := hg4.game.cells
        have o3 : w4.cell? ⟨N0, 3, none⟩ = some (.int .i64 pane) := cell_atT hg4.op 3
        have rlt : R < w4.heap.size := lt_of_block hg4.game.ref
        have rne : R ≠ w4.heap.size := by omega
        have nlt : N0 < w4.heap.size := (Array.getElem?_eq_some_iff.1 hg4.op).1
        have nne : N0 ≠ w4.heap.size := by omega
        have HA4 : Hid (∀ ob, GameO w (w4.alloc ob) R N0 F' b (.slice a3 n3 c3) Q2 ⟨1, line, lv, lines, pane, tick, n⟩) := fun ob => HG4.out.more ((Below.refl _ _).alloc (Nat.le_refl _) _)
        clear hg4 p0 p1 p2 pf HRd
        have HD := hidK (gameO_drain (HA4.out (.cells #[.int .i64 (Q2.lim : Int), .slice a4 m4 c4, .bool Q2.cl] 26)))
        rw [HTX.out] at HD
        go_wp2_with fail
        refine HD.out.mono ?_
        rintro x w6 ⟨rfl, hb6⟩
        have HB6 := hidK hb6
        clear hb6
        go_wp2_with fail
        all_goals go_ret
        all_goals exact ⟨rfl, HB6.out⟩
      · obtain ⟨X2, hX2⟩ : ∃ X2, X1.setCell ⟨N0, 0, none⟩ (.int .i64 3) = X2 := ⟨_, rfl⟩
        have hG2 := HG.out.kind (by have := HN0.out; omega) 3
        rw [hX2] at hG2
        have HX2 : Hid ((w1.setCell ⟨w.heap.size, 0, none⟩ (.int .i64 3)).alloc (.cells #[.int .i64 (q.lim : Int), .slice a m c, .bool q.cl] 26) = X2) := by
          show _ = _
          rw [← hX2, ← HX1.out, ← HN0.out]
          exact (World.setCell_alloc_past (w := w1) _ _ _ _ ult).symm
        have hkk : -9223372036854775808 ≤ (3 : Int) ∧ (3 : Int) ≤ 9223372036854775807 := by decide
        have hd0 : decide (k = 0) = false := decide_eq_false hk0
        have hd1 : decide (k = 1) = false := decide_eq_false hk1
        have hb0 : (k == 0) = false := by simpa using hk0
        have hb1' : (k == 1) = false := by simpa using hk1
        have hn0 : (k != 0) = true := by simpa using hk0
        have hn1 : (k != 1) = true := by simpa using hk1
        clear hX2
        have HG2 : Hid (GameO w X2 R N0 F b (.slice a m c) q ⟨3, line, lv, lines, pane, tick, n⟩) := hG2
        have HS := hidK (step_gameO HG2.out ({ HOk.out with k := hkk } : OpD.Ok w ⟨3, line, lv, lines, pane, tick, n⟩))
        unfold OpD.vals at HS
        simp only [HZ.out] at HS
        obtain ⟨Q2, hQ2⟩ : ∃ Q2, stepQ q ⟨3, line, lv, lines, pane, tick, n⟩ = Q2 := ⟨_, rfl⟩
        rw [hQ2] at HS
        clear hG2 hQ2 hkk
        go_wp2_with fail
        rw [HX2.out]
        rw [HN0.out]
        rw [HR.out]
        refine HS.out.mono ?_
        rintro x w2 ⟨F', a3, n3, c3, rfl, hR2, hg2⟩
        have HG3 := hidK hg2
        have p0 : w2.cell? ⟨R, 0, none⟩ = some (.int .i64 (q.lim : Int)) := cell_atT hR2 0
        have p1 : w2.cell? ⟨R, 1, none⟩ = some (.slice a m c) := cell_atT hR2 1
        have p2 : w2.cell? ⟨R, 2, none⟩ = some (.bool q.cl) := cell_atT hR2 2
        have pf := free_atT hR2
        obtain ⟨X, hX⟩ : ∃ X, (((w2.setCell ⟨R, 0, none⟩ (.int .i64 (Q2.lim : Int))).setCell ⟨R, 1, none⟩ (.slice a3 n3 c3)).setCell ⟨R, 2, none⟩ (.bool Q2.cl)) = X := ⟨_, rfl⟩
        have HX := hidK hX
        rw [hX] at HG3
        have HRd := hidK (gameO_ref HG3.out)
        obtain ⟨tx, htx⟩ : ∃ tx, str Q2.bs = tx := ⟨_, rfl⟩
        have HTX := hidK htx
        rw [htx] at HRd
        clear hR2 hg2 hX htx HS u0 u1 u2 u3 u4 u5 uf
        go_wp2_with fail
        rw [HX.out]
        refine HRd.out.mono ?_
        rintro x w4 ⟨a4, m4, c4, rfl, hg4⟩
        have HG4 := hidK hg4
        obtain ⟨x0, x1, x2, xf⟩ := hg4.game.cells
        have o3 : w4.cell? ⟨N0, 3, none⟩ = some (.int .i64 pane) := cell_atT hg4.op 3
        have rlt : R < w4.heap.size := lt_of_block hg4.game.ref
        have rne : R ≠ w4.heap.size := by omega
        have nlt : N0 < w4.heap.size := (Array.getElem?_eq_some_iff.1 hg4.op).1
        have nne : N0 ≠ w4.heap.size := by omega
        have HA4 : Hid (∀ ob, GameO w (w4.alloc ob) R N0 F' b (.slice a3 n3 c3) Q2 ⟨3, line, lv, lines, pane, tick, n⟩) := fun ob => HG4.out.more ((Below.refl _ _).alloc (Nat.le_refl _) _)
        clear hg4 p0 p1 p2 pf HRd
        have HD := hidK (gameO_drain (HA4.out (.cells #[.int .i64 (Q2.lim : Int), .slice a4 m4 c4, .bool Q2.cl] 26)))
        rw [HTX.out] at HD
        go_wp2_with fail
        refine HD.out.mono ?_
        rintro x w6 ⟨rfl, hb6⟩
        have HB6 := hidK hb6
        clear hb6
        go_wp2_with fail
        all_goals go_ret
        all_goals exact ⟨rfl, HB6.out⟩

end Go.Proofs.Ytimigbhgghcbeaa
