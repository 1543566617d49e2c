/-
  The document's rows.
-/
import Derived.Test.YtooahffclghcjaaGreatDoorMD
import Derived.Test.YtooahffclghcjaaGreatDoorVFeed
namespace Go.Proofs.YtooahffclghcjaaGreatDoor
open Go.RowKit
set_option linter.unusedVariables false
set_option maxRecDepth 100000

/-- A row of one's own. -/
structure Mine (w wr : World) (T : TypeId) (k : Nat) (v : Value) (n : Nat) (xs : List Value) : Prop where
  row : Row wr T k v n xs
  below : Below w.heap.size w wr
  young : ∀ g, v.ownBlock = some g → w.heap.size ≤ g
theorem Mine.nil {w wr : World} {T : TypeId} {k : Nat} (h : Below w.heap.size w wr) : Mine w wr T k (.slice none 0 0) 0 [] := ⟨Row.nil _ _ _, h, fun g hg => by cases hg⟩
theorem Mine.more {w wr w' : World} {T : TypeId} {k : Nat} {v : Value} {n : Nat} {xs : List Value} (h : Mine w wr T k v n xs) (hb : Below wr.heap.size wr w') : Mine w w' T k v n xs := ⟨h.row.below hb, h.below.trans (hb.mono h.below.size), h.young⟩
theorem Mine.grown {w wr X w' : World} {T : TypeId} {k : Nat} {v v' : Value} {n n' : Nat} {xs xs' : List Value} (h : Mine w wr T k v n xs) (hX : Below wr.heap.size wr X) (hr : Row w' T k v' n' xs') (hg : Grown X w' v v' v.ownBlock.toList) : Mine w w' T k v' n' xs' := by
  refine ⟨hr, hg.but.under (h.more hX).below (h.more hX).below.size (fun g hh => h.young g (by simpa using hh)), fun g hh => ?_⟩
  rcases hg.own with e | e
  · exact h.young g (e ▸ hh)
  · rw [e] at hh
    cases hh
    exact (h.more hX).below.size
theorem Mine.cast {w wr : World} {T : TypeId} {k : Nat} {v : Value} {n n' : Nat} {xs xs' : List Value} (h : Mine w wr T k v n xs) (hn : n = n') (hx : xs = xs') : Mine w wr T k v n' xs' := by subst hn hx; exact h

set_option maxHeartbeats 1000000 in
theorem refBlank_any (w : World) : Calls Tryz.prog 73 #[.agg #[.int .i64 0, .int .i64 0, .int .i64 0]] w fun x w' => x = .returned (.agg #[.string ⟨#[32]⟩, .int .i64 1, .int .i64 0, .int .i64 0, .int .i64 0]) ∧ Below w.heap.size w w' := by
  go_enter Tryz.func73, Tryz.ntmps73
  go_wp2
  exact bodyPost_ret (v := .agg #[.string ⟨#[32]⟩, .int .i64 1, .int .i64 0, .int .i64 0, .int .i64 0]) (by simp [results, Tryz.results73, go_sem]) rfl ⟨rfl, ((Below.refl _ _).alloc (Nat.le_refl _) _).alloc (by simp) _⟩
def blks (n : Nat) : List Gl := List.replicate n blk0
theorem blks_snoc (n : Nat) : tgsV (blks (n + 1)) = tgsV (blks n) ++ [.string ⟨#[32]⟩, .int .i64 1, .int .i64 0, .int .i64 0, .int .i64 0] := by
  unfold blks
  rw [List.replicate_succ', tgs_snoc]
  rfl
set_option maxHeartbeats 2000000 in
theorem refRow_any (n : Nat) (hn : n ≤ 1000) (w : World) : Calls Tryz.prog 48 #[.int .i64 (n : Int), .agg #[.int .i64 0, .int .i64 0, .int .i64 0]] w fun r w' => ∃ v, r = .returned v ∧ Mine w w' 76 5 v n (tgsV (blks n)) := by
  obtain ⟨W, hW⟩ : ∃ W, w.alloc (.cells #[.int .i64 0, .int .i64 0, .int .i64 0] 42) = W := ⟨_, rfl⟩
  have HW := hidK hW
  obtain ⟨B, hB⟩ : ∃ B, w.heap.size = B := ⟨_, rfl⟩
  have HB := hidK hB
  have hX : W.heap[B]? = some (.cells #[.int .i64 0, .int .i64 0, .int .i64 0] 42 (0, 0)) := by rw [← hB, ← hW]; exact heap_alloc_new w _
  have HX := hidK hX
  have HBW : Hid (Below w.heap.size w W) := by rw [← hW]; exact (Below.refl _ _).alloc (Nat.le_refl _) _
  have HBl : Hid (∀ W, Calls Tryz.prog 73 #[.agg #[.int .i64 0, .int .i64 0, .int .i64 0]] W fun x w' => x = .returned (.agg #[.string ⟨#[32]⟩, .int .i64 1, .int .i64 0, .int .i64 0, .int .i64 0]) ∧ Below W.heap.size W w') := refBlank_any
  clear hW hB hX
  go_enter Tryz.func48, Tryz.ntmps48
  go_wp2_with fail
  rw [HW.out, HB.out]
  go_loopw [5, 6] (fun v i wr => ∃ k : Nat, k ≤ n ∧ i = .int .i64 (k : Int) ∧ Hid (Mine W wr 76 5 v k (tgsV (blks k)))) (fun _ i _ => n - (intOf i).toNat)
  case atStart => exact ⟨0, Nat.zero_le _, rfl, Mine.nil (Below.refl _ _)⟩
  case round =>
    obtain ⟨k, hk, rfl, HM⟩ := hrel
    by_cases hlt : k < n
    · have hbx := (HM.out.below.block B (lt_of_block HX.out)).trans HX.out
      have x0 := cell_atT hbx 0
      have x1 := cell_atT hbx 1
      have x2 := cell_atT hbx 2
      simp at x0 x1 x2
      clear hbx
      go_wp2_with fail
      refine (HBl.out _).mono ?_
      rintro e w1 ⟨rfl, hb1⟩
      have HB1 := hidK hb1
      clear hb1 x0 x1 x2
      go_wp2_with (refine wpList_append_row (w1.alloc (.cells #[.string ⟨#[32]⟩, .int .i64 1, .int .i64 0, .int .i64 0, .int .i64 0] 76)) rfl _ _ 71 71 rfl underGys infoGyV rfl (v := u5) (by simp [Act.eval]) (u := .slice (some ⟨w1.heap.size, 0, none⟩) 1 1) (by simp [Act.eval]) ((HM.out.more HB1.out).more ((Below.refl _ _).alloc (Nat.le_refl _) _)).row (Src.block underGys _ _ [.string ⟨#[32]⟩, .int .i64 1, .int .i64 0, .int .i64 0, .int .i64 0] 76 5 (heap_alloc_new w1 _) rfl rfl) ?x1 ?x2 ?x3)
      case x1 => omega
      case x2 => unfold maxLen; omega
      intro v2 w2 hr2 hg2
      go_wp2_with fail
      go_roundw
      case rel => exact ⟨k + 1, by omega, by go_num, ((HM.out.more HB1.out).grown ((Below.refl _ _).alloc (Nat.le_refl _) _) hr2.out hg2.out).cast rfl (blks_snoc k).symm⟩
      case measure => simp [intOf]; omega
    · obtain rfl : k = n := by omega
      go_wp2_with fail
      go_ret
      have h1 := HBW.out.size
      exact ⟨u5, rfl, HM.out.row, HBW.out.trans (HM.out.below.mono h1), fun g hg => Nat.le_trans h1 (HM.out.young g hg)⟩
end Go.Proofs.YtooahffclghcjaaGreatDoor
