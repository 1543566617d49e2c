/-
  The law's own functions: as.
-/
import Derived.Test.YtkpnolkbheoocaaQAsA
import Derived.WalkKit
import Derived.Deep.RegionLaw
import Derived.Deep.RegionHeld3
namespace Go.Proofs.Ytkpnolkbheoocaa
open Go.RowKit
set_option linter.unusedVariables false
set_option maxRecDepth 100000

set_option maxHeartbeats 4000000 in
theorem as_any {w : World} {F : List Nat} {b : Nat} {q : Qs} {vi : Value} {its : List Item} (hq : QAt w F b q) (hr : RIn w vi its q) (pane : Int) :
    Calls Try.prog 16 #[.pointer (some ⟨b, 0, none⟩), refV q vi, .int .i64 pane] w fun e w' => e = .returned (.bool true) ∧ Below w.heap.size w w' := by
  have hok := hq.ok
  obtain ⟨ai, ni, ci, hvi, -, -⟩ := hr.shape
  subst hvi
  obtain ⟨W0, hW0⟩ : ∃ W0, w.alloc (.cells #[.int .i64 (q.lim : Int), .slice ai ni ci, .bool q.cl] 26) = W0 := ⟨_, rfl⟩
  obtain ⟨N0, hN0⟩ : ∃ N0, w.heap.size = N0 := ⟨_, rfl⟩
  have HW0 : Hid (w.alloc (.cells #[.int .i64 (q.lim : Int), .slice ai ni ci, .bool q.cl] 26) = W0) := hW0
  have HN0 : Hid (w.heap.size = N0) := hN0
  have hb0 : Below w.heap.size w W0 := by rw [← hW0]; exact (Below.refl _ _).alloc (Nat.le_refl _) _
  have hpar : W0.heap[N0]? = some (.cells #[.int .i64 (q.lim : Int), .slice ai ni ci, .bool q.cl] 26 (0, 0)) := by rw [← hW0, ← hN0]; exact heap_alloc_new w _
  have hN1 : N0 < W0.heap.size := lt_of_block hpar
  have HFi : Hid (∀ W, Below W0.heap.size W0 W → Below w.heap.size w W) := fun W hW => hb0.trans (hW.mono (by omega))
  have HP : Hid (∀ W, Below W0.heap.size W0 W → W.cell? ⟨N0, 0, none⟩ = some (.int .i64 (q.lim : Int)) ∧ W.cell? ⟨N0, 1, none⟩ = some (.slice ai ni ci) ∧ W.cell? ⟨N0, 2, none⟩ = some (.bool q.cl)) := fun W hW => by
    have h2 := (hW.block N0 hN1).trans hpar
    exact ⟨cell_atT h2 0, cell_atT h2 1, cell_atT h2 2⟩
  have HQ : Hid (∀ W, Below W0.heap.size W0 W → QAt W F b q ∧ RIn W (.slice ai ni ci) its q) := fun W hW => ⟨hq.below (HFi.out W hW), hr.below (HFi.out W hW)⟩
  have HSi : Hid (∀ W, Below W0.heap.size W0 W → Calls Try.prog 7 #[.pointer (some ⟨b, 0, none⟩)] W fun x w' => x = .returned (.int .i64 (q.bs.length : Int)) ∧ W = w') := fun W hW => size_any (HQ.out W hW).1
  have HLi : Hid (∀ W, Below W0.heap.size W0 W → Calls Try.prog 31 #[.pointer (some ⟨b, 0, none⟩)] W fun x w' => x = .returned (.int .i64 (q.lim : Int)) ∧ W = w') := fun W hW => limit_any (HQ.out W hW).1
  have HCl : Hid (∀ W, Below W0.heap.size W0 W → Calls Try.prog 10 #[.pointer (some ⟨b, 0, none⟩)] W fun x w' => x = .returned (.bool q.cl) ∧ W = w') := fun W hW => closed_any (HQ.out W hW).1
  have HRs : Hid (∀ W, Below W0.heap.size W0 W → Calls Try.prog 30 #[.agg #[.int .i64 (q.lim : Int), .slice ai ni ci, .bool q.cl]] W fun x w' => x = .returned (.int .i64 (q.bs.length : Int)) ∧ Below W0.heap.size W0 w') := fun W hW => (refSize_any (HQ.out W hW).2 hok).mono fun x w' h => ⟨h.1, hW.trans (h.2.mono hW.size)⟩
  have HPa : Hid (∀ W, Below W0.heap.size W0 W → Calls Try.prog 13 #[.pointer (some ⟨b, 0, none⟩)] W fun e w' => ∃ v, e = .returned v ∧ Told W w' q.os v) := fun W hW => panes_any (HQ.out W hW).1
  have HRp : Hid (∀ W, Below W0.heap.size W0 W → Calls Try.prog 14 #[.agg #[.int .i64 (q.lim : Int), .slice ai ni ci, .bool q.cl]] W fun e w' => ∃ v, e = .returned v ∧ Told W w' q.os v) := fun W hW => refPanes_any (HQ.out W hW).2 hok
  have HOl : Hid (∀ x W, Below W0.heap.size W0 W → Calls Try.prog 32 #[.pointer (some ⟨b, 0, none⟩), .int .i64 x] W fun e w' => e = .returned (.tuple #[.int .i64 (oldV q.os x).1, .bool (oldV q.os x).2]) ∧ Below W0.heap.size W0 w') := fun x W hW => (oldest_any (HQ.out W hW).1 x).mono fun y w' h => ⟨h.1, hW.trans (h.2.mono hW.size)⟩
  have HRo : Hid (∀ x W, Below W0.heap.size W0 W → Calls Try.prog 33 #[.agg #[.int .i64 (q.lim : Int), .slice ai ni ci, .bool q.cl], .int .i64 x] W fun e w' => e = .returned (.tuple #[.int .i64 (oldV q.os x).1, .bool (oldV q.os x).2]) ∧ Below W0.heap.size W0 w') := fun x W hW => (refOldest_any (HQ.out W hW).2 hok x).mono fun y w' h => ⟨h.1, hW.trans (h.2.mono hW.size)⟩
  have HSa : Hid (∀ w1 w2 w3 va vb, Told w1 w2 q.os va → Told w2 w3 q.os vb → Calls Try.prog 15 #[va, vb] w3 fun e w' => e = .returned (.bool true) ∧ Below w3.heap.size w3 w') := fun w1 w2 w3 va vb h1 h2 => by
    obtain ⟨zs, k1, k2, k3⟩ := h1.same h2
    exact same_any k1 k2 k3
  have HTb : Hid (∀ W w' v, Below W0.heap.size W0 W → Told W w' q.os v → Below W0.heap.size W0 w') := fun W w' v hW ⟨_, _, _, _, h, _⟩ => hW.trans (h.mono hW.size)
  obtain ⟨p0, p1, p2⟩ := HP.out W0 (Below.refl _ _)
  unfold refV
  clear hq hr hok hpar hW0 hN0 hb0
  go_enter Try.func16, Try.ntmps16
  go_wp2_with fail
  rw [HW0.out, HN0.out]
  have HBX : Hid (Below W0.heap.size W0 W0.drew) := (Below.refl _ _).drew
  go_region_held3 (fun X => X.cell? ⟨N0, 0, none⟩ = some (.int .i64 (q.lim : Int)) ∧ X.cell? ⟨N0, 1, none⟩ = some (.slice ai ni ci) ∧ X.cell? ⟨N0, 2, none⟩ = some (.bool q.cl)) (go_keep) (first
    | (go_at_call 7; refine (HSi.out _ HBX.out).mono ?_; rintro x w1 ⟨rfl, rfl⟩)
    | (go_at_call 31; refine (HLi.out _ HBX.out).mono ?_; rintro x w1 ⟨rfl, rfl⟩)
    | (go_at_call 10; refine (HCl.out _ HBX.out).mono ?_; rintro x w1 ⟨rfl, rfl⟩)
    | (go_at_call 30; refine (HRs.out _ HBX.out).mono ?_; rintro x w1 ⟨rfl, hb1⟩; obtain ⟨p0, p1, p2⟩ := HP.out w1 hb1; have HBX : Hid (Below W0.heap.size W0 w1) := hb1; clear hb1)
    | (go_at_call 13; refine (HPa.out _ HBX.out).mono ?_; rintro x w2 ⟨va, rfl, hT⟩; have hb1 := HTb.out _ _ _ HBX.out hT; have HTA := hidK hT; obtain ⟨p0, p1, p2⟩ := HP.out w2 hb1; have HBX : Hid (Below W0.heap.size W0 w2) := hb1; clear hb1 hT)
    | (go_at_call 14; refine (HRp.out _ HBX.out).mono ?_; rintro x w3 ⟨vb, rfl, hT⟩; have hb1 := HTb.out _ _ _ HBX.out hT; have HTB := hidK hT; obtain ⟨p0, p1, p2⟩ := HP.out w3 hb1; have HBX : Hid (Below W0.heap.size W0 w3) := hb1; clear hb1 hT)
    | (go_at_call 15; refine (HSa.out _ _ _ _ _ HTA.out HTB.out).mono ?_; rintro x w4 ⟨rfl, hb4⟩; have HBY : Hid (Below W0.heap.size W0 w4) := HBX.out.trans (hb4.mono HBX.out.size); obtain ⟨p0, p1, p2⟩ := HP.out w4 HBY.out; clear hb4))
  all_goals (
    clear p0 p1 p2
    go_wp2_with fail
    go_loopw [7] (fun s7 wr => ∃ p : Int, -1 ≤ p ∧ p ≤ 7 ∧ s7 = .int .i64 p ∧ Hid (Below W0.heap.size W0 wr)) (fun v _ => (7 - intOf v).toNat)
    case atStart => exact ⟨-1, by decide, by decide, rfl, HBY⟩
    case round =>
      obtain ⟨p, hp1, hp7, rfl, HB⟩ := hrel
      by_cases hlt : p ≤ 6
      · obtain ⟨x, hx⟩ : ∃ x, (if p < 0 then pane else p) = x := ⟨_, rfl⟩
        obtain ⟨⟨A, O⟩, hAO⟩ : ∃ s, oldV q.os x = s := ⟨_, rfl⟩
        have HA : Hid (∀ W, Below W0.heap.size W0 W → Calls Try.prog 32 #[.pointer (some ⟨b, 0, none⟩), .int .i64 x] W fun e w' => e = .returned (.tuple #[.int .i64 A, .bool O]) ∧ Below W0.heap.size W0 w') := fun W hW => by
          have h9 := HOl.out x W hW
          rw [hAO] at h9
          exact h9
        have HA2 : Hid (∀ W, Below W0.heap.size W0 W → Calls Try.prog 33 #[.agg #[.int .i64 (q.lim : Int), .slice ai ni ci, .bool q.cl], .int .i64 x] W fun e w' => e = .returned (.tuple #[.int .i64 A, .bool O]) ∧ Below W0.heap.size W0 w') := fun W hW => by
          have h9 := HRo.out x W hW
          rw [hAO] at h9
          exact h9
        clear hAO
        by_cases hneg : p < 0
        · rw [if_pos hneg] at hx
          subst hx
          go_wp2_with fail
          refine (HA.out _ HB.out).mono ?_
          rintro y w5 ⟨rfl, hb5⟩
          obtain ⟨p0, p1, p2⟩ := HP.out w5 hb5
          have HB5 : Hid (Below W0.heap.size W0 w5) := hb5
          clear hb5
          go_wp2_with fail
          refine (HA2.out _ HB5.out).mono ?_
          rintro y w6 ⟨rfl, hb6⟩
          have HB6 : Hid (Below W0.heap.size W0 w6) := hb6
          clear hb6
          go_wp2_with fail
          go_roundw
          case rel => exact ⟨p + 1, by omega, by omega, by go_num, HB6⟩
          case measure => simp [intOf]; omega
        · rw [if_neg hneg] at hx
          subst hx
          go_wp2_with fail
          refine (HA.out _ HB.out).mono ?_
          rintro y w5 ⟨rfl, hb5⟩
          obtain ⟨p0, p1, p2⟩ := HP.out w5 hb5
          have HB5 : Hid (Below W0.heap.size W0 w5) := hb5
          clear hb5
          go_wp2_with fail
          refine (HA2.out _ HB5.out).mono ?_
          rintro y w6 ⟨rfl, hb6⟩
          have HB6 : Hid (Below W0.heap.size W0 w6) := hb6
          clear hb6
          go_wp2_with fail
          go_roundw
          case rel => exact ⟨p + 1, by omega, by omega, by go_num, HB6⟩
          case measure => simp [intOf]; omega
      · go_wp2_with fail
        all_goals go_ret
        all_goals exact ⟨rfl, HFi.out _ HB.out⟩)

end Go.Proofs.Ytkpnolkbheoocaa
