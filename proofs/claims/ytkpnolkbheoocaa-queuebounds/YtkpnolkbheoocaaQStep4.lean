/-
  The law's own functions: step, Drain.
-/
import Derived.Test.YtkpnolkbheoocaaQStepM
import Derived.WalkKit
import Derived.Deep.RegionLaw
import Derived.Deep.RegionHeld3
namespace Go.Proofs.Ytkpnolkbheoocaa
open Go.RowKit
set_option linter.unusedVariables false
set_option maxRecDepth 100000

set_option maxHeartbeats 4000000 in
theorem step_4 {w W : World} {F : List Nat} {b : Nat} {vi : Value} {q : Qs} (o : OpD) (h : Side w W F b vi q) (ho : o.Ok W) (hlow : o.lines ≠ [] → ∀ g, o.lv.ownBlock = some g → g < w.heap.size) (hk : ¬ o.k = 0 ∧ ¬ o.k = 1 ∧ ¬ o.k = 2 ∧ ¬ o.k = 3) :
    Calls Try.prog 26 #[.pointer (some ⟨b, 0, none⟩), refV q vi, .agg o.vals] W fun x w' => Stepped w W w' F b (stepQ q o) x := by
  obtain ⟨its, hr⟩ := h.ref
  have hok := h.play.at_.ok
  obtain ⟨ai, ni, ci, hvi, -, -⟩ := hr.shape
  subst hvi
  obtain ⟨al, nl, cl, hlv, hnl, hnl1, -⟩ := ho.strs.shape
  obtain ⟨k, line, lv, lines, pane, tick, n⟩ := o
  simp only at hk hlv hnl hlow ho
  subst hlv
  obtain ⟨o0, ho0⟩ : ∃ o0 : OpD, o0 = ⟨k, line, .slice al nl cl, lines, pane, tick, n⟩ := ⟨_, rfl⟩
  have HQ2 : Hid (stepQ q ⟨k, line, .slice al nl cl, lines, pane, tick, n⟩ = drainQ q n.toNat) := by show _ = _; unfold stepQ; rw [if_neg hk.1, if_neg hk.2.1, if_neg hk.2.2.1, if_neg hk.2.2.2]
  rw [HQ2.out]
  obtain ⟨Q2, hQ2⟩ : ∃ Q2, drainQ q n.toNat = Q2 := ⟨_, rfl⟩
  obtain ⟨tx, htx⟩ : ∃ tx, str (q.bs.take n.toNat) = tx := ⟨_, rfl⟩
  obtain ⟨z, hz⟩ : ∃ z, str line = z := ⟨_, rfl⟩
  rw [hQ2]
  have HB : Hid ((((W.alloc (.cells #[.int .i64 (q.lim : Int), .slice ai ni ci, .bool q.cl] 26)).alloc (.cells #[.int .i64 k, .string z, .slice al nl cl, .int .i64 pane, .int .i64 tick, .int .i64 n] 35)).alloc (.cells #[.int .i64 0, .slice none 0 0, .bool false] 26)) = ((W.alloc (boxR q (.slice ai ni ci))).alloc (boxO o0)).alloc boxZ) := by
    show _ = _
    rw [ho0, ← hz]
    rfl
  obtain ⟨N, hN⟩ : ∃ N, W.heap.size = N := ⟨_, rfl⟩
  have HN : Hid (W.heap.size = N) := hN
  have HLs : Hid (Calls Try.prog 22 #[.slice al nl cl] (((W.alloc (boxR q (.slice ai ni ci))).alloc (boxO o0)).alloc boxZ) fun e w1 => ∃ ac cc, e = .returned (.slice ac nl cc) ∧ S1 w W w1 N F b (.slice ai ni ci) q o0 (.slice ac nl cc)) := by
    have h5 := (heap_three W (boxR q (.slice ai ni ci)) (boxO o0) boxZ).2.2.2.2
    refine (lists_any (ho.strs.below h5)).mono ?_
    rintro e w1 ⟨v', rfl, hm⟩
    obtain ⟨ac, cc, hv, -⟩ := hm.row.shape
    simp only [hnl] at hv
    subst hv
    refine ⟨ac, cc, rfl, ?_⟩
    rw [← hN]
    exact S1.start h (by rw [ho0]; exact ho.strs) (by rw [ho0]; exact hlow) (by rw [ho0] at hm ⊢; exact hm)
  have HPc : Hid (∀ w1 ac cc, S1 w W w1 N F b (.slice ai ni ci) q o0 (.slice ac nl cc) → Calls Try.prog 11 #[.pointer (some ⟨b, 0, none⟩), .int .i64 n] w1 fun x w2 => x = .returned (.string tx) ∧ S2 w W w2 N F b (.slice ai ni ci) q Q2 o0 (.slice ac nl cc)) := fun w1 ac cc hS1 => by
    rw [ho0] at hS1 ⊢
    skip
    refine (drain_any n hS1.side.play.at_ ho.n.1 ho.n.2).mono ?_
    rintro x w2 ⟨rfl, hw⟩
    rw [hQ2] at hw
    exact ⟨by rw [htx], hS1.went hw⟩
  have HRc : Hid (∀ w2 ac cc, S2 w W w2 N F b (.slice ai ni ci) q Q2 o0 (.slice ac nl cc) → Calls Try.prog 39 #[.agg #[.int .i64 (q.lim : Int), .slice ai ni ci, .bool q.cl], .int .i64 n] w2 fun x w3 => ∃ vi', x = .returned (.tuple #[.string tx, .agg #[.int .i64 (Q2.lim : Int), vi', .bool Q2.cl]]) ∧ RWent w2 w3 (.slice ai ni ci) vi' Q2) := fun w2 ac cc hs2 => by
    rw [ho0] at hs2
    skip
    obtain ⟨its2, hr2⟩ := hs2.ref
    refine (refDrain_any n hr2 hok ho.n.1 ho.n.2).mono ?_
    rintro x w3 ⟨vi', rfl, hw⟩
    rw [hQ2] at hw ⊢
    exact ⟨vi', by rw [htx]; rfl, hw⟩
  have HO0 : Hid (o0 = ⟨k, line, .slice al nl cl, lines, pane, tick, n⟩) := ho0
  have HNl : Hid (lines.length = nl) := hnl
  have HZz : Hid (str line = z) := hz
  have HOc : Hid (∀ X : World, X.heap[N + 1]? = some (boxO o0) → X.cell? ⟨N + 1, 0, none⟩ = some (.int .i64 k) ∧ X.cell? ⟨N + 1, 1, none⟩ = some (.string z) ∧ X.cell? ⟨N + 1, 2, none⟩ = some (.slice al nl cl) ∧ X.cell? ⟨N + 1, 3, none⟩ = some (.int .i64 pane) ∧ X.cell? ⟨N + 1, 4, none⟩ = some (.int .i64 tick) ∧ X.cell? ⟨N + 1, 5, none⟩ = some (.int .i64 n)) := fun X hX => by
    have h9 := op_cells hX
    rw [HO0.out] at h9
    simp only [HZz.out] at h9
    exact h9
  unfold refV OpD.vals
  simp only
  rw [hz]
  clear hr hok ho hQ2 hz hN ho0 h hlow htx hnl HQ2
  go_enter Try.func26, Try.ntmps26
  go_wp2_with fail
  rw [HB.out, HN.out]
  refine HLs.out.mono ?_
  rintro x w1 ⟨ac, cc, rfl, hs1⟩
  have HS1 := hidK hs1
  obtain ⟨r0, r1, r2⟩ := hs1.r
  obtain ⟨o0c, o1c, o2c, o3c, o4c, o5c⟩ := HOc.out w1 hs1.own.o
  clear hs1 HLs
  go_wp2_with fail
  refine (HPc.out w1 ac cc HS1.out).mono ?_
  rintro x w2 ⟨rfl, hs2⟩
  have HS2 := hidK hs2
  clear r0 r1 r2 o0c o1c o2c o3c o4c o5c
  obtain ⟨r0, r1, r2⟩ := hs2.rc
  obtain ⟨o0c, o1c, o2c, o3c, o4c, o5c⟩ := HOc.out w2 hs2.op
  clear hs2 HPc HS1
  go_wp2_with fail
  refine (HRc.out w2 ac cc HS2.out).mono ?_
  rintro x w3 ⟨vi', rfl, hrw⟩
  obtain ⟨hr3, ho3, F', hmid⟩ := HS2.out.mid hrw
  obtain ⟨a3, n3, c3, hv3, -, -⟩ := hmid.side.ref.choose_spec.shape
  subst hv3
  have HM := hidK hmid
  clear r0 r1 r2 o0c o1c o2c o3c o4c o5c
  have r0 : w3.cell? ⟨N, 0, none⟩ = some (.int .i64 (q.lim : Int)) := cell_atT hr3 0
  have r1 : w3.cell? ⟨N, 1, none⟩ = some (.slice ai ni ci) := cell_atT hr3 1
  have r2 : w3.cell? ⟨N, 2, none⟩ = some (.bool q.cl) := cell_atT hr3 2
  have rf := free_atT hr3
  obtain ⟨o0c, o1c, o2c, o3c, o4c, o5c⟩ := HOc.out w3 ho3
  obtain ⟨w4, hw4⟩ : ∃ w4, (((w3.setCell ⟨N, 0, none⟩ (.int .i64 (Q2.lim : Int))).setCell ⟨N, 1, none⟩ (.slice a3 n3 c3)).setCell ⟨N, 2, none⟩ (.bool Q2.cl)) = w4 := ⟨_, rfl⟩
  have HW4 := hidK hw4
  have HM4 : Hid (Mid w W w4 N F F' b (.slice a3 n3 c3) Q2 (.slice ac nl cc) (.slice al nl cl) lines (boxO o0) boxZ) := by
    have h9 := hmid
    rw [hw4] at h9
    show Mid _ _ _ _ _ _ _ _ _ _ _ _ _ _
    rw [HO0.out] at h9 ⊢
    exact h9
  clear hr3 ho3 hmid hrw HRc HS2 HM hw4
  go_wp2_with fail
  rw [HW4.out]
  clear r0 r1 r2 rf o0c o1c o2c o3c o4c o5c
  go_loopw [13] (fun s13 wr => ∃ i : Nat, i ≤ nl ∧ s13 = .int .i64 i ∧ Hid (Over w4 wr (.slice ac nl cc) lines i)) (fun v _ => nl - (intOf v).toNat)
  case atStart => exact ⟨0, Nat.zero_le _, rfl, Over.start HM4.out.row⟩
  case round =>
    obtain ⟨i, hi, rfl, HOv⟩ := hrel
    obtain ⟨hside, hr5, hop5, hz5, hstrs, hbut5⟩ := HM4.out.over HOv.out
    obtain ⟨o0c, o1c, o2c, o3c, o4c, o5c⟩ := HOc.out wr hop5
    by_cases hlt : i < nl
    · obtain ⟨l, hl⟩ : ∃ l, lines[i]? = some l := ⟨_, List.getElem?_eq_getElem (by rw [HNl.out]; exact hlt)⟩
      obtain ⟨g1, p1, rfl, q1, q1f⟩ := HOv.out.cell HNl.out hl
      obtain ⟨a4, n4, c4, e4, -, -, hc4⟩ := hstrs.shape
      cases e4
      obtain ⟨g2, p2, rfl, -, -, q2⟩ := hc4 wr (fun _ _ _ => rfl) i l hl
      obtain ⟨y, hy⟩ : ∃ y, str l = y := ⟨_, rfl⟩
      rw [hy] at q1 q2
      have HNx : Hid (∀ u, Over w4 (wr.drew.setCell ⟨g1, p1 + i, none⟩ u) (.slice (some ⟨g1, p1, none⟩) nl cc) lines (i + 1)) := fun u => HOv.out.drew.next HNl.out hlt u
      clear hl hy hc4 hstrs hz5 hop5 hr5 hside hbut5
      go_wp2_with fail
      go_region
      all_goals (
        go_wp2_with fail
        go_roundw
        case rel => exact ⟨i + 1, by omega, by go_num, HNx.out _⟩
        case measure => simp [intOf]; omega)
    · obtain rfl : i = nl := by omega
      have r0 : wr.cell? ⟨N, 0, none⟩ = some (.int .i64 (Q2.lim : Int)) := cell_atT hr5 0
      have r1 : wr.cell? ⟨N, 1, none⟩ = some (.slice a3 n3 c3) := cell_atT hr5 1
      have r2 : wr.cell? ⟨N, 2, none⟩ = some (.bool Q2.cl) := cell_atT hr5 2
      obtain ⟨z0, z1, z2, zf⟩ := res_cells hz5
      have hne : N ≠ N + 2 := by omega
      have hne2 : N + 2 ≠ N := by omega
      have HFin : Hid (∀ X, Below wr.heap.size wr X → X.heap[N + 2]? = some (.cells #[.int .i64 0, .slice none 0 0, .bool false] 26 (0, 0)) ∧ (∀ Y, (∀ k, k ≠ N + 2 → Y.heap[k]? = X.heap[k]?) → Below w.heap.size X Y → Side w Y F' b (.slice a3 n3 c3) Q2 ∧ But F W Y)) := fun X hX => by
        have hz6 := (hX.block (N + 2) (Array.getElem?_eq_some_iff.1 hz5).1).trans hz5
        refine ⟨hz6, fun Y hY hbY => ?_⟩
        have hs := hside.more hX
        obtain ⟨its6, hr6⟩ := hs.ref
        have hbX := hbut5.trans (.of hX)
        refine ⟨⟨⟨hs.play.at_.keep fun g hg => hY g (fun e => ?_), hs.play.below.trans hbY, hs.play.young⟩, ⟨its6, hr6.keep fun g hg => hY g (fun e => ?_)⟩, hs.off⟩, ⟨hbY.os.trans hbX.os, hbY.tape.trans hbX.tape, hbY.output.trans hbX.output, Nat.le_trans hbX.size hbY.size, fun k hk hn => (hY k (by have := HM4.out.hN; omega)).trans (hbX.block k hk hn)⟩⟩
        · subst e
          exact hs.play.at_.not_mem hz6 ⟨by decide, by decide, by decide⟩ hg
        · obtain ⟨cur, hc⟩ := hr6.row.block hg
          rw [e] at hc
          exact absurd (hc.symm.trans hz6) (by simp [boxZ])
      have HNw := hidK HM4.out.n
      clear hstrs hz5 hop5 hr5 hside hbut5
      go_wp2_with fail
      have hfin := HFin.out wr (Below.refl _ _)
      have SF := stored3 (w := wr) (R := N + 1 + 1) (x := .int .i64 (Q2.lim : Int)) (y := .slice a3 n3 c3) (z := .bool Q2.cl) hfin.1
      have t0 := cell_atT SF.1 0
      have t1 := cell_atT SF.1 1
      have t2 := cell_atT SF.1 2
      refine bodyPost_ret (v := .tuple #[.agg #[.int .i64 (Q2.lim : Int), .slice a3 n3 c3, .bool Q2.cl], .bool true]) (by simp [results, Try.results26, go_sem, t0, t1, t2]) rfl ?_
      have hf2 := hfin.2 _ SF.2.1 (SF.2.2 _ (by have := HNw.out; omega))
      exact ⟨F', _, rfl, hf2.1, hf2.2, HM4.out.new⟩

end Go.Proofs.Ytkpnolkbheoocaa
