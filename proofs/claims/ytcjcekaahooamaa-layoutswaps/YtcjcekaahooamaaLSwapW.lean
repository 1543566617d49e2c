/-
  Layouts: the program's Swap, walked.
-/
import Derived.Test.YtcjcekaahooamaaLSwap
namespace Go.Proofs.Ytcjcekaahooamaa
open Go.RowKit
set_option linter.unusedVariables false
set_option maxRecDepth 100000

set_option maxHeartbeats 2000000 in
theorem swap_prog (v : Value) (l : List CellV) (a b : Int) (w : World) (h : CellsIn w v l) : Calls Try.prog 5 #[v, .int .i64 a, .int .i64 b] w fun e w' => ∃ u, e = .returned (.tuple #[u, .int .i64 (swapE l a b)]) ∧ CeOwns w' w.heap.size u (swapL l a b) ∧ Below w.heap.size w w' := by
  have HR : Hid (Calls Try.prog 10 #[v] w (ReadGood l w)) := read_any v l w h
  clear h
  go_enter Try.func5, Try.ntmps5
  go_wp2_with fail
  refine HR.out.mono ?_
  rintro e w1 (⟨hF, rfl, hb1⟩ | ⟨t, T, g, fp, hF, rfl, hAt, hnd, hge, hb1⟩)
  · have HE : Hid (swapE l a b = 40 ∧ swapL l a b = []) := swap_none a b hF
    have HB : Hid (Below w.heap.size w w1) := hb1
    unfold nilPart
    clear hF hb1
    go_wp2
    go_ret2
    exact ⟨_, by rw [HE.out.1]; rfl, by rw [HE.out.2]; exact World.ownsRow_nil _ _ _ _, HB.out⟩
  · have hl := readF_lay hF
    have hz : t.size ≤ 63 := by
      have h1 := t.tell_length 0
      rw [hl.tell] at h1
      have h2 := (read_lenS (by rw [hF]; rfl : (readF l).isSome = true)).1
      omega
    have hids := idl_told t 0 hl.kinds
    rw [hl.tell] at hids
    obtain ⟨T', gi, Fw, hP⟩ := hAt.partW hl.sound (by omega)
    have hval := hP.val
    cases hval
    have m1 := hP.mW
    have m2 := hP.fW
    have HcA : Hid (Calls Try.prog Fw #[.pointer (some ⟨g, 0, none⟩), .int .i64 a] w1 (WayGood w1 (.iface T (.pointer (some ⟨g, 0, none⟩))) t a w1)) := hP.cW a w1 (Below.refl _ _)
    have HcB : Hid (∀ X, Below w1.heap.size w1 X → Calls Try.prog Fw #[.pointer (some ⟨g, 0, none⟩), .int .i64 b] X (WayGood w1 (.iface T (.pointer (some ⟨g, 0, none⟩))) t b X)) := fun X hX => hP.cW b X hX
    have HMa : Hid (t.path a = none → swapE l a b = 42 ∧ swapL l a b = []) := fun e => swap_miss a b hF fun k => (path_mem t a).1 e (hids ▸ k.1)
    have HMb : Hid (t.path b = none → swapE l a b = 42 ∧ swapL l a b = []) := fun e => swap_miss a b hF fun k => (path_mem t b).1 e (hids ▸ k.2)
    have HEnd : Hid (∀ W gl1 gl2 ps1 ps2 s1 s2, Below w1.heap.size w1 W → t.path a = some ps1 → Reach w1 (.iface T (.pointer (some ⟨g, 0, none⟩))) ps1 (leafI gl1) s1 → t.path b = some ps2 → Reach w1 (.iface T (.pointer (some ⟨g, 0, none⟩))) ps2 (leafI gl2) s2 → (∃ p, W.cell? ⟨gl1, 4, none⟩ = some (.int .i64 p)) ∧ W.frozen? ⟨gl1, 4, none⟩ = false ∧ (∃ p, (W.setCell ⟨gl1, 4, none⟩ (.int .i64 b)).cell? ⟨gl2, 4, none⟩ = some (.int .i64 p)) ∧ W.frozen? ⟨gl2, 4, none⟩ = false ∧ Calls Try.prog 11 #[.iface T (.pointer (some ⟨g, 0, none⟩))] ((W.setCell ⟨gl1, 4, none⟩ (.int .i64 b)).setCell ⟨gl2, 4, none⟩ (.int .i64 a)) fun e w' => ∃ u, e = .returned u ∧ CeOwns w' w.heap.size u (swapL l a b) ∧ Below w.heap.size w w') := fun W gl1 gl2 ps1 ps2 s1 s2 hW p1 r1 p2 r2 => swap_end hF hAt hnd hge hb1 hW p1 r1 p2 r2
    have HZ : Hid (t.path a ≠ none → t.path b ≠ none → swapE l a b = 0) := fun k1 k2 => (swap_both a b hF (hids ▸ Classical.byContradiction fun e => k1 ((path_mem t a).2 e)) (hids ▸ Classical.byContradiction fun e => k2 ((path_mem t b).2 e))).1
    have HB1 : Hid (Below w.heap.size w w1) := hb1
    clear hF hAt hnd hge hb1 hl hz hids hP
    go_wp2_with fail
    refine HcA.out.mono ?_
    rintro e w2 ⟨hb2, ⟨hp, rfl⟩ | ⟨ps1, gl1, s1, sa, sn, sc, hp1, hr1, rfl, hst1⟩⟩
    · have HE : Hid (swapE l a b = 42 ∧ swapL l a b = []) := HMa.out hp
      have HB2 : Hid (Below w1.heap.size w1 w2) := hb2
      clear hb2 hp HMa HMb HEnd HcA HZ
      go_wp2_with fail
      refine (HcB.out _ HB2.out).mono ?_
      rintro e w3 ⟨hb3, ⟨hp, rfl⟩ | ⟨ps2, gl2, s2, sa', sn', sc', hp2, hr2, rfl, hst2⟩⟩
      · have HB3 : Hid (Below w.heap.size w w3) := below_step (below_step HB1.out HB2.out) hb3
        clear hb3 hp
        go_wp2
        go_ret2
        exact ⟨_, by rw [HE.out.1]; rfl, by rw [HE.out.2]; exact World.ownsRow_nil _ _ _ _, HB3.out⟩
      · have HB3 : Hid (Below w.heap.size w w3) := below_step (below_step HB1.out HB2.out) hb3
        clear hb3 hp2 hr2 hst2
        go_wp2
        go_ret2
        exact ⟨_, by rw [HE.out.1]; rfl, by rw [HE.out.2]; exact World.ownsRow_nil _ _ _ _, HB3.out⟩
    · have HB2 : Hid (Below w1.heap.size w1 w2) := hb2
      have HP1 : Hid (t.path a = some ps1 ∧ Reach w1 (.iface T (.pointer (some ⟨g, 0, none⟩))) ps1 (leafI gl1) s1) := ⟨hp1, hr1⟩
      clear hb2 hp1 hr1 hst1 HMa HcA
      go_wp2_with fail
      refine (HcB.out _ HB2.out).mono ?_
      rintro e w3 ⟨hb3, ⟨hp, rfl⟩ | ⟨ps2, gl2, s2, sa', sn', sc', hp2, hr2, rfl, hst2⟩⟩
      · have HB3 : Hid (Below w.heap.size w w3) := below_step (below_step HB1.out HB2.out) hb3
        have HE : Hid (swapE l a b = 42 ∧ swapL l a b = []) := HMb.out hp
        clear hb3 hp HEnd HZ HMb
        go_wp2
        go_ret2
        exact ⟨_, by rw [HE.out.1]; rfl, by rw [HE.out.2]; exact World.ownsRow_nil _ _ _ _, HB3.out⟩
      · have HB3 : Hid (Below w1.heap.size w1 w3) := below_step HB2.out hb3
        obtain ⟨⟨p, c1⟩, f1, ⟨p', c2⟩, f2, hlay⟩ := HEnd.out w3 gl1 gl2 ps1 ps2 s1 s2 HB3.out HP1.out.1 HP1.out.2 hp2 hr2
        have HL : Hid (Calls Try.prog 11 #[.iface T (.pointer (some ⟨g, 0, none⟩))] ((w3.setCell ⟨gl1, 4, none⟩ (.int .i64 b)).setCell ⟨gl2, 4, none⟩ (.int .i64 a)) fun e w' => ∃ u, e = .returned u ∧ CeOwns w' w.heap.size u (swapL l a b) ∧ Below w.heap.size w w') := hlay
        have HE : Hid (swapE l a b = 0) := HZ.out (by rw [HP1.out.1]; simp) (by rw [hp2]; simp)
        have f2' : (w3.setCell ⟨gl1, 4, none⟩ (.int .i64 b)).frozen? ⟨gl2, 4, none⟩ = false := by rw [frozen_set]; exact f2
        clear hb3 hp2 hr2 hst2 hlay HEnd HZ HMb HP1 HcB HB2 HB3 f2
        go_wp2_with fail
        refine HL.out.mono ?_
        rintro e w4 ⟨u, rfl, hu, hb4⟩
        have HU : Hid (CeOwns w4 w.heap.size u (swapL l a b)) := hu
        clear hu c1 c2 f1 f2' HL
        go_wp2
        go_ret2
        exact ⟨u, by rw [HE.out]; rfl, HU.out, hb4⟩

end Go.Proofs.Ytcjcekaahooamaa
