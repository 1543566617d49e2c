/-
  The document's rows, one below the other; its tab stops.
-/
import Derived.Test.YtklonlgmifgckaaGreatDoorVRef
namespace Go.Proofs.YtklonlgmifgckaaGreatDoor
open Go.RowKit
set_option linter.unusedVariables false
set_option maxRecDepth 100000

theorem infoSl : (Tryz.prog.info? 28).map (fun i => (i.zero, i.size, i.bytes)) = some (some (.slice none 0 0), 1, 24) := by kernel_rfl
theorem underSls : Tryz.prog.underlying 51 = some (.slice 28) := by kernel_rfl
/-- Rows of blanks. -/
structure RRs (w wr : World) (v : Value) (vs : List Value) (n : Nat) : Prop where
  mine : Mine w wr 28 1 v vs.length vs
  each : ∀ r ∈ vs, Row wr 49 5 r n (tgsV (blks n)) ∧ ∀ g, r.ownBlock = some g → w.heap.size ≤ g
theorem RRs.more {w wr w' : World} {v : Value} {vs : List Value} {n : Nat} (h : RRs w wr v vs n) (hb : Below wr.heap.size wr w') : RRs w w' v vs n := ⟨h.mine.more hb, fun r hr => ⟨(h.each r hr).1.below hb, (h.each r hr).2⟩⟩
theorem RRs.add {w wr X w' : World} {v v' r : Value} {vs : List Value} {n : Nat} (h : RRs w wr v vs n) (hX : Below wr.heap.size wr X) (hr1 : Row X 49 5 r n (tgsV (blks n))) (hr2 : ∀ g, r.ownBlock = some g → w.heap.size ≤ g) (hr : Row w' 28 1 v' (vs.length + 1) (vs ++ [r])) (hg : Grown X w' v v' v.ownBlock.toList) : RRs w w' v' (vs ++ [r]) n := by
  have hk : ∀ q, Row X 49 5 q n (tgsV (blks n)) → Row w' 49 5 q n (tgsV (blks n)) := fun q hq => hq.but hg.but (fun g hgq hm => by
    obtain ⟨cur, hc⟩ := hq.block hgq
    obtain ⟨cur2, hc2⟩ := ((h.more hX).mine.row).block (by simpa using hm : v.ownBlock = some g)
    rw [hc] at hc2
    simp at hc2)
  refine ⟨(h.mine.grown hX hr hg).cast (by simp) rfl, fun q hq => ?_⟩
  rcases List.mem_append.1 hq with hq | hq
  · exact ⟨hk q ((h.more hX).each q hq).1, (h.each q hq).2⟩
  · obtain rfl : q = r := by simpa using hq
    exact ⟨hk q hr1, hr2⟩
set_option maxHeartbeats 2000000 in
theorem refRows_any (n m : Nat) (hn : n ≤ 1000) (hm : m ≤ 1000) (w : World) : Calls Tryz.prog 35 #[.int .i64 (n : Int), .int .i64 (m : Int), .agg #[.int .i64 0, .int .i64 0, .int .i64 0]] w fun r w' => ∃ v vs, r = .returned v ∧ vs.length = m ∧ RRs w w' v vs n := by
  obtain ⟨W, hW⟩ : ∃ W, w.alloc (.cells #[.int .i64 0, .int .i64 0, .int .i64 0] 47) = W := ⟨_, rfl⟩
  have HW := hidK hW
  obtain ⟨B, hB⟩ : ∃ B, w.heap.size = B := ⟨_, rfl⟩
  have HB := hidK hB
  have hX : W.heap[B]? = some (.cells #[.int .i64 0, .int .i64 0, .int .i64 0] 47 (0, 0)) := by rw [← hB, ← hW]; exact heap_alloc_new w _
  have HX := hidK hX
  have HBW : Hid (Below w.heap.size w W) := by rw [← hW]; exact (Below.refl _ _).alloc (Nat.le_refl _) _
  have HR : Hid (∀ W, Calls Tryz.prog 43 #[.int .i64 (n : Int), .agg #[.int .i64 0, .int .i64 0, .int .i64 0]] W fun r w' => ∃ v, r = .returned v ∧ Mine W w' 49 5 v n (tgsV (blks n))) := refRow_any n hn
  clear hW hB hX
  go_enter Tryz.func35, Tryz.ntmps35
  go_wp2_with fail
  rw [HW.out, HB.out]
  go_loopw [7, 8] (fun v i wr => ∃ vs : List Value, vs.length ≤ m ∧ i = .int .i64 (vs.length : Int) ∧ Hid (RRs W wr v vs n)) (fun _ i _ => m - (intOf i).toNat)
  case atStart => exact ⟨[], Nat.zero_le _, rfl, Mine.nil (Below.refl _ _), fun r hr => by cases hr⟩
  case round =>
    obtain ⟨vs, hk, rfl, HM⟩ := hrel
    by_cases hlt : vs.length < m
    · have hbx := (HM.out.mine.below.block B (lt_of_block HX.out)).trans HX.out
      have x0 := cell_atT hbx 0
      have x1 := cell_atT hbx 1
      have x2 := cell_atT hbx 2
      simp at x0 x1 x2
      clear hbx
      go_wp2_with fail
      refine (HR.out _).mono ?_
      rintro e w1 ⟨r, rfl, hr1⟩
      have HR1 := hidK hr1
      obtain ⟨ra, rc, hre, _, _, _, _⟩ := hr1.row.shape
      clear hr1 x0 x1 x2
      subst hre
      go_wp2_with (refine wpList_append_row (w1.alloc (.cells #[.slice ra n rc] 28)) rfl _ _ 51 51 rfl underSls infoSl rfl (v := u7) (by simp [Act.eval]) (u := .slice (some ⟨w1.heap.size, 0, none⟩) 1 1) (by simp [Act.eval]) ((HM.out.mine.more HR1.out.below).more ((Below.refl _ _).alloc (Nat.le_refl _) _)).row (Src.block underSls _ _ [.slice ra n rc] 28 1 (heap_alloc_new w1 _) rfl rfl) ?x1 ?x2 ?x3)
      case x1 => omega
      case x2 => unfold maxLen; omega
      intro v2 w2 hr2 hg2
      go_wp2_with fail
      go_roundw
      case rel =>
        have ha : Below w1.heap.size w1 (w1.alloc (.cells #[.slice ra n rc] 28)) := (Below.refl _ _).alloc (Nat.le_refl _) _
        refine ⟨vs ++ [.slice ra n rc], by simp; omega, by simp, (HM.out.more HR1.out.below).add ha (HR1.out.row.below ha) (fun g hg => ?_) hr2.out hg2.out⟩
        exact Nat.le_trans HM.out.mine.below.size (HR1.out.young g hg)
      case measure => simp [intOf]; omega
    · go_wp2_with fail
      go_ret
      have h1 := HBW.out.size
      refine ⟨u7, vs, rfl, by omega, ⟨HM.out.mine.row, HBW.out.trans (HM.out.mine.below.mono h1), fun g hg => Nat.le_trans h1 (HM.out.mine.young g hg)⟩, fun r hr => ⟨(HM.out.each r hr).1, fun g hg => Nat.le_trans h1 ((HM.out.each r hr).2 g hg)⟩⟩
end Go.Proofs.YtklonlgmifgckaaGreatDoor
