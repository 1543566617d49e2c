/-
  Binds: two lists of bindings compared.
-/
import Derived.Test.YtbonnjilbocldaaGreatDoorHI
namespace Go.Proofs.YtbonnjilbocldaaGreatDoor
open Go.RowKit
set_option linter.unusedVariables false
set_option maxRecDepth 100000

theorem bytes_ne {a b : ByteArray} (h : ¬ a = b) : (a.toList == b.toList) = false := by
  cases e : (a.toList == b.toList)
  · rfl
  · exact absurd (toList_inj (by simpa using e)) h
set_option maxHeartbeats 8000000 in
theorem same_any {w : World} {va vb : Value} {a b : List Ent} (ha : SeeE w va a) (hb : SeeE w vb b) (hl : a.length ≤ 4000000) (hl2 : b.length ≤ 4000000) : Calls Tryz.prog 17 #[va, vb] w fun r w' => (∃ z, r = .returned (.bool z) ∧ (z = true ↔ a = b)) ∧ Below w.heap.size w w' := by
  obtain ⟨aa, ca, rfl, ha⟩ := ha
  obtain ⟨ab, cb, rfl, hb⟩ := hb
  obtain ⟨n, hn⟩ : ∃ n, a.length = n := ⟨_, rfl⟩
  obtain ⟨m, hm⟩ : ∃ m, b.length = m := ⟨_, rfl⟩
  have HA := hidK ha
  have HB := hidK hb
  have HL := hidK (And.intro hn hm)
  rw [hn, hm]
  clear ha hb
  by_cases hnm : n = m
  · subst hnm
    rw [hn] at hl
    clear hn hm hl2
    go_enter Tryz.func17, Tryz.ntmps17
    go_wp2_with fail
    go_loopw [5] (fun i wr => ∃ k : Nat, k ≤ n ∧ i = .int .i64 k ∧ Hid (Below w.heap.size w wr) ∧ Hid (a.take k = b.take k)) (fun i _ => n - (intOf i).toNat)
    case atStart => exact ⟨0, Nat.zero_le _, rfl, Below.refl _ _, rfl⟩
    case round =>
      obtain ⟨k, hk, rfl, HW, HT⟩ := hrel
      by_cases hlt : k < n
      · have hka : k < a.length := by rw [HL.out.1]; exact hlt
        have hkb : k < b.length := by rw [HL.out.2]; exact hlt
        obtain ⟨g, o, rfl, h1⟩ := HA.out (fun e => by rw [e] at hka; simp at hka)
        obtain ⟨g', o', rfl, h2⟩ := HB.out (fun e => by rw [e] at hkb; simp at hkb)
        have p1 := h1 k hka
        have p2 := h2 k hkb
        obtain ⟨⟨xt, xc, xm, xrp, xln⟩, hxy⟩ : ∃ q, a[k] = q := ⟨_, rfl⟩
        obtain ⟨⟨yt, yc, ym, yrp, yln⟩, hxy2⟩ : ∃ q, b[k] = q := ⟨_, rfl⟩
        rw [hxy] at p1
        rw [hxy2] at p2
        have hi1 : (k : Int) < (n : Int) := by omega
        have HX : Hid (a[k]? = some ⟨xt, xc, xm, xrp, xln⟩ ∧ b[k]? = some ⟨yt, yc, ym, yrp, yln⟩) := ⟨by rw [List.getElem?_eq_getElem hka, hxy], by rw [List.getElem?_eq_getElem hkb, hxy2]⟩
        have ex0 : wr.cell? ⟨g, o + k * 5, none⟩ = some (.string xt) := (HW.out.cell (World.block_lt_of_cell? w _ (p1 0 _ rfl))).trans (p1 0 _ rfl)
        have ex1 : wr.cell? ⟨g, o + k * 5 + 1, none⟩ = some (.int .i64 xc) := (HW.out.cell (World.block_lt_of_cell? w _ (p1 1 _ rfl))).trans (p1 1 _ rfl)
        have ex2 : wr.cell? ⟨g, o + k * 5 + 2, none⟩ = some (.int .i64 xm) := (HW.out.cell (World.block_lt_of_cell? w _ (p1 2 _ rfl))).trans (p1 2 _ rfl)
        have ex3 : wr.cell? ⟨g, o + k * 5 + 3, none⟩ = some (.bool xrp) := (HW.out.cell (World.block_lt_of_cell? w _ (p1 3 _ rfl))).trans (p1 3 _ rfl)
        have ex4 : wr.cell? ⟨g, o + k * 5 + 4, none⟩ = some (.string xln) := (HW.out.cell (World.block_lt_of_cell? w _ (p1 4 _ rfl))).trans (p1 4 _ rfl)
        have ey0 : wr.cell? ⟨g', o' + k * 5, none⟩ = some (.string yt) := (HW.out.cell (World.block_lt_of_cell? w _ (p2 0 _ rfl))).trans (p2 0 _ rfl)
        have ey1 : wr.cell? ⟨g', o' + k * 5 + 1, none⟩ = some (.int .i64 yc) := (HW.out.cell (World.block_lt_of_cell? w _ (p2 1 _ rfl))).trans (p2 1 _ rfl)
        have ey2 : wr.cell? ⟨g', o' + k * 5 + 2, none⟩ = some (.int .i64 ym) := (HW.out.cell (World.block_lt_of_cell? w _ (p2 2 _ rfl))).trans (p2 2 _ rfl)
        have ey3 : wr.cell? ⟨g', o' + k * 5 + 3, none⟩ = some (.bool yrp) := (HW.out.cell (World.block_lt_of_cell? w _ (p2 3 _ rfl))).trans (p2 3 _ rfl)
        have ey4 : wr.cell? ⟨g', o' + k * 5 + 4, none⟩ = some (.string yln) := (HW.out.cell (World.block_lt_of_cell? w _ (p2 4 _ rfl))).trans (p2 4 _ rfl)
        clear h1 h2 hxy hxy2 hka hkb p1 p2
        by_cases q0 : xt = yt
        case neg =>
          have z0 := bytes_ne q0
          have HY := hidK q0
          clear q0
          have HZ2 : Hid (¬ a = b) := fun e => by
            have h1 := HX.out.1
            rw [e, HX.out.2] at h1
            simp only [Option.some.injEq, Ent.mk.injEq] at h1
            exact HY.out h1.1.symm
          go_wp2_with fail
          go_quiet (fail)
          rename_i nq
          go_wp2_with fail
          go_ret
          exact ⟨⟨false, rfl, by simp [HZ2.out]⟩, below_step HW.out (below_drewN _ _)⟩
        subst q0
        by_cases q1 : xc = yc
        case neg =>
          have z1 : (xc == yc) = false := by simpa using q1
          have HY := hidK q1
          clear q1
          have HZ2 : Hid (¬ a = b) := fun e => by
            have h1 := HX.out.1
            rw [e, HX.out.2] at h1
            simp only [Option.some.injEq, Ent.mk.injEq] at h1
            exact HY.out h1.2.1.symm
          go_wp2_with fail
          go_quiet (fail)
          rename_i nq
          go_wp2_with fail
          go_ret
          exact ⟨⟨false, rfl, by simp [HZ2.out]⟩, below_step HW.out (below_drewN _ _)⟩
        subst q1
        by_cases q2 : xm = ym
        case neg =>
          have z2 : (xm == ym) = false := by simpa using q2
          have HY := hidK q2
          clear q2
          have HZ2 : Hid (¬ a = b) := fun e => by
            have h1 := HX.out.1
            rw [e, HX.out.2] at h1
            simp only [Option.some.injEq, Ent.mk.injEq] at h1
            exact HY.out h1.2.2.1.symm
          go_wp2_with fail
          go_quiet (fail)
          rename_i nq
          go_wp2_with fail
          go_ret
          exact ⟨⟨false, rfl, by simp [HZ2.out]⟩, below_step HW.out (below_drewN _ _)⟩
        subst q2
        by_cases q3 : xrp = yrp
        case neg =>
          have z3 : (xrp == yrp) = false := by simpa using q3
          have HY := hidK q3
          clear q3
          have HZ2 : Hid (¬ a = b) := fun e => by
            have h1 := HX.out.1
            rw [e, HX.out.2] at h1
            simp only [Option.some.injEq, Ent.mk.injEq] at h1
            exact HY.out h1.2.2.2.1.symm
          go_wp2_with fail
          go_quiet (fail)
          rename_i nq
          go_wp2_with fail
          go_ret
          exact ⟨⟨false, rfl, by simp [HZ2.out]⟩, below_step HW.out (below_drewN _ _)⟩
        subst q3
        by_cases q4 : xln = yln
        case neg =>
          have z4 := bytes_ne q4
          have HY := hidK q4
          clear q4
          have HZ2 : Hid (¬ a = b) := fun e => by
            have h1 := HX.out.1
            rw [e, HX.out.2] at h1
            simp only [Option.some.injEq, Ent.mk.injEq] at h1
            exact HY.out h1.2.2.2.2.symm
          go_wp2_with fail
          go_quiet (fail)
          rename_i nq
          go_wp2_with fail
          go_ret
          exact ⟨⟨false, rfl, by simp [HZ2.out]⟩, below_step HW.out (below_drewN _ _)⟩
        subst q4
        have HT2 : Hid (a.take (k + 1) = b.take (k + 1)) := by
          show _ = _
          rw [List.take_add_one, List.take_add_one, HT.out, HX.out.1, HX.out.2]
        go_wp2_with fail
        go_quiet (fail)
        rename_i nq
        go_wp2_with fail
        go_roundw
        case rel => exact ⟨k + 1, by omega, by first | rfl | go_num, below_step HW.out (below_drewN _ _), HT2⟩
        case measure => simp [intOf]; omega
      · obtain rfl : k = n := by omega
        have HZ2 : Hid (a = b) := by
          show _ = _
          have h1 := HT.out
          rw [List.take_of_length_le (by rw [HL.out.1]; exact Nat.le_refl _), List.take_of_length_le (by rw [HL.out.2]; exact Nat.le_refl _)] at h1
          exact h1
        go_wp2_with fail
        go_ret
        exact ⟨⟨true, rfl, by simp [HZ2.out]⟩, HW.out⟩
  · have HZ2 : Hid (¬ a = b) := fun e => by
      subst e
      exact hnm (hn.symm.trans hm)
    have i1 : ((n : Int) == (m : Int)) = false := by simp; omega
    have i2 : ¬ (n : Int) = (m : Int) := by omega
    clear hn hm hl hl2 hnm
    go_enter Tryz.func17, Tryz.ntmps17
    go_wp2_with fail
    go_ret
    exact ⟨⟨false, rfl, by simp [HZ2.out]⟩, Below.refl _ _⟩
end Go.Proofs.YtbonnjilbocldaaGreatDoor
