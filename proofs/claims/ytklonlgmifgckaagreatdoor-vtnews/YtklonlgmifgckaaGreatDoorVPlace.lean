/-
  A letter laid onto its place.
-/
import Derived.Test.YtklonlgmifgckaaGreatDoorVNewB
import Derived.BigQuiet
import Derived.Deep.RegionHeld3
import Derived.Deep.RegionWith
namespace Go.Proofs.YtklonlgmifgckaaGreatDoor
open Go.RowKit
set_option linter.unusedVariables false
set_option maxRecDepth 100000

theorem box_cells {W : World} {B : Nat} {x : Gl} {T : TypeId} (h : W.heap[B]? = some (.cells #[.int .i32 x.l, .int .i64 x.n, .int .i64 x.fo, .int .i64 x.ba, .int .i64 x.ma] T (0, 0))) : W.cell? ⟨B, 0, none⟩ = some (.int .i32 x.l) ∧ W.cell? ⟨B, 1, none⟩ = some (.int .i64 x.n) ∧ W.cell? ⟨B, 2, none⟩ = some (.int .i64 x.fo) ∧ W.cell? ⟨B, 3, none⟩ = some (.int .i64 x.ba) ∧ W.cell? ⟨B, 4, none⟩ = some (.int .i64 x.ma) :=
  ⟨cell_atT h 0, cell_atT h 1, cell_atT h 2, cell_atT h 3, cell_atT h 4⟩
set_option maxHeartbeats 1000000 in
/-- A glyph that is no right one. -/
theorem isRight_no (x : Gl) (hx : x.l ≠ 0) (w : World) : Calls Tryz.prog 40 #[.agg #[.int .i32 x.l, .int .i64 x.n, .int .i64 x.fo, .int .i64 x.ba, .int .i64 x.ma]] w fun r w' => r = .returned (.bool false) ∧ Below w.heap.size w w' := by
  have HR : Hid (∀ W, Calls Tryz.prog 50 #[.agg #[.int .i64 x.fo, .int .i64 x.ba, .int .i64 x.ma]] W fun e w' => e = .returned (.agg #[.int .i32 0, .int .i64 0, .int .i64 x.fo, .int .i64 x.ba, .int .i64 x.ma]) ∧ Below W.heap.size W w') := right_any _ _ _
  obtain ⟨W, hW⟩ : ∃ W, w.alloc (.cells #[.int .i32 x.l, .int .i64 x.n, .int .i64 x.fo, .int .i64 x.ba, .int .i64 x.ma] 87) = W := ⟨_, rfl⟩
  have HW := hidK hW
  obtain ⟨B, hB⟩ : ∃ B, w.heap.size = B := ⟨_, rfl⟩
  have HB := hidK hB
  have hX : W.heap[B]? = some (.cells #[.int .i32 x.l, .int .i64 x.n, .int .i64 x.fo, .int .i64 x.ba, .int .i64 x.ma] 87 (0, 0)) := by rw [← hB, ← hW]; exact heap_alloc_new w _
  have HBW : Hid (Below w.heap.size w W) := by rw [← hW]; exact (Below.refl _ _).alloc (Nat.le_refl _) _
  have HCell : Hid (∀ W', Below W.heap.size W W' → W'.cell? ⟨B, 0, none⟩ = some (.int .i32 x.l) ∧ W'.cell? ⟨B, 1, none⟩ = some (.int .i64 x.n) ∧ W'.cell? ⟨B, 2, none⟩ = some (.int .i64 x.fo) ∧ W'.cell? ⟨B, 3, none⟩ = some (.int .i64 x.ba) ∧ W'.cell? ⟨B, 4, none⟩ = some (.int .i64 x.ma)) := fun W' h => box_cells ((h.block B (lt_of_block hX)).trans hX)
  obtain ⟨k0, k1, k2, k3, k4⟩ := box_cells hX
  have HBx : Hid (Below W.heap.size W W) := Below.refl _ _
  clear hW hB hX
  go_enter Tryz.func40, Tryz.ntmps40
  go_wp2_with fail
  rw [HW.out, HB.out]
  go_region_held3 (fun X => X.cell? ⟨B, 0, none⟩ = some (.int .i32 x.l) ∧ X.cell? ⟨B, 1, none⟩ = some (.int .i64 x.n) ∧ X.cell? ⟨B, 2, none⟩ = some (.int .i64 x.fo) ∧ X.cell? ⟨B, 3, none⟩ = some (.int .i64 x.ba) ∧ X.cell? ⟨B, 4, none⟩ = some (.int .i64 x.ma)) (go_keep) ((go_at_call 50; refine (HR.out _).mono ?_; rintro e w1 ⟨rfl, hb⟩; have HBn : Hid (Below W.heap.size W w1) := (by first | exact hb | exact (Below.drew (Below.refl _ _)).trans hb); clear hb; clear HBx; have HBx := hidK HBn.out; clear HBn; obtain ⟨m0, m1, m2, m3, m4⟩ := HCell.out w1 HBx.out))
  go_wp2_with fail
  go_ret
  exact ⟨rfl, HBW.out.trans (HBx.out.mono HBW.out.size)⟩
set_option maxHeartbeats 1000000 in
/-- A glyph that is no blank. -/
theorem isBlank_no (x : Gl) (hx : x.l ≠ 32) (w : World) : Calls Tryz.prog 39 #[.agg #[.int .i32 x.l, .int .i64 x.n, .int .i64 x.fo, .int .i64 x.ba, .int .i64 x.ma]] w fun r w' => r = .returned (.bool false) ∧ Below w.heap.size w w' := by
  have HR : Hid (∀ W, Calls Tryz.prog 32 #[.agg #[.int .i64 x.fo, .int .i64 x.ba, .int .i64 x.ma]] W fun e w' => e = .returned (.agg #[.int .i32 32, .int .i64 1, .int .i64 x.fo, .int .i64 x.ba, .int .i64 x.ma]) ∧ Below W.heap.size W w') := blank_any _ _ _
  obtain ⟨W, hW⟩ : ∃ W, w.alloc (.cells #[.int .i32 x.l, .int .i64 x.n, .int .i64 x.fo, .int .i64 x.ba, .int .i64 x.ma] 87) = W := ⟨_, rfl⟩
  have HW := hidK hW
  obtain ⟨B, hB⟩ : ∃ B, w.heap.size = B := ⟨_, rfl⟩
  have HB := hidK hB
  have hX : W.heap[B]? = some (.cells #[.int .i32 x.l, .int .i64 x.n, .int .i64 x.fo, .int .i64 x.ba, .int .i64 x.ma] 87 (0, 0)) := by rw [← hB, ← hW]; exact heap_alloc_new w _
  have HBW : Hid (Below w.heap.size w W) := by rw [← hW]; exact (Below.refl _ _).alloc (Nat.le_refl _) _
  have HCell : Hid (∀ W', Below W.heap.size W W' → W'.cell? ⟨B, 0, none⟩ = some (.int .i32 x.l) ∧ W'.cell? ⟨B, 1, none⟩ = some (.int .i64 x.n) ∧ W'.cell? ⟨B, 2, none⟩ = some (.int .i64 x.fo) ∧ W'.cell? ⟨B, 3, none⟩ = some (.int .i64 x.ba) ∧ W'.cell? ⟨B, 4, none⟩ = some (.int .i64 x.ma)) := fun W' h => box_cells ((h.block B (lt_of_block hX)).trans hX)
  obtain ⟨k0, k1, k2, k3, k4⟩ := box_cells hX
  have HBx : Hid (Below W.heap.size W W) := Below.refl _ _
  clear hW hB hX
  go_enter Tryz.func39, Tryz.ntmps39
  go_wp2_with fail
  rw [HW.out, HB.out]
  go_region_held3 (fun X => X.cell? ⟨B, 0, none⟩ = some (.int .i32 x.l) ∧ X.cell? ⟨B, 1, none⟩ = some (.int .i64 x.n) ∧ X.cell? ⟨B, 2, none⟩ = some (.int .i64 x.fo) ∧ X.cell? ⟨B, 3, none⟩ = some (.int .i64 x.ba) ∧ X.cell? ⟨B, 4, none⟩ = some (.int .i64 x.ma)) (go_keep) ((go_at_call 32; refine (HR.out _).mono ?_; rintro e w1 ⟨rfl, hb⟩; have HBn : Hid (Below W.heap.size W w1) := (by first | exact hb | exact (Below.drew (Below.refl _ _)).trans hb); clear hb; clear HBx; have HBx := hidK HBn.out; clear HBn; obtain ⟨m0, m1, m2, m3, m4⟩ := HCell.out w1 HBx.out))
  go_wp2_with fail
  go_ret
  exact ⟨rfl, HBW.out.trans (HBx.out.mono HBW.out.size)⟩
set_option maxHeartbeats 1000000 in
/-- A blank. -/
theorem isBlank_yes (x : Gl) (hx : x.l = 32) (hn : x.n = 1) (w : World) : Calls Tryz.prog 39 #[.agg #[.int .i32 x.l, .int .i64 x.n, .int .i64 x.fo, .int .i64 x.ba, .int .i64 x.ma]] w fun r w' => r = .returned (.bool true) ∧ Below w.heap.size w w' := by
  have HR : Hid (∀ W, Calls Tryz.prog 32 #[.agg #[.int .i64 x.fo, .int .i64 x.ba, .int .i64 x.ma]] W fun e w' => e = .returned (.agg #[.int .i32 32, .int .i64 1, .int .i64 x.fo, .int .i64 x.ba, .int .i64 x.ma]) ∧ Below W.heap.size W w') := blank_any _ _ _
  obtain ⟨W, hW⟩ : ∃ W, w.alloc (.cells #[.int .i32 x.l, .int .i64 x.n, .int .i64 x.fo, .int .i64 x.ba, .int .i64 x.ma] 87) = W := ⟨_, rfl⟩
  have HW := hidK hW
  obtain ⟨B, hB⟩ : ∃ B, w.heap.size = B := ⟨_, rfl⟩
  have HB := hidK hB
  have hX : W.heap[B]? = some (.cells #[.int .i32 x.l, .int .i64 x.n, .int .i64 x.fo, .int .i64 x.ba, .int .i64 x.ma] 87 (0, 0)) := by rw [← hB, ← hW]; exact heap_alloc_new w _
  have HBW : Hid (Below w.heap.size w W) := by rw [← hW]; exact (Below.refl _ _).alloc (Nat.le_refl _) _
  have HCell : Hid (∀ W', Below W.heap.size W W' → W'.cell? ⟨B, 0, none⟩ = some (.int .i32 x.l) ∧ W'.cell? ⟨B, 1, none⟩ = some (.int .i64 x.n) ∧ W'.cell? ⟨B, 2, none⟩ = some (.int .i64 x.fo) ∧ W'.cell? ⟨B, 3, none⟩ = some (.int .i64 x.ba) ∧ W'.cell? ⟨B, 4, none⟩ = some (.int .i64 x.ma)) := fun W' h => box_cells ((h.block B (lt_of_block hX)).trans hX)
  obtain ⟨k0, k1, k2, k3, k4⟩ := box_cells hX
  have HBx : Hid (Below W.heap.size W W) := Below.refl _ _
  clear hW hB hX
  rw [hx] at k0 HCell HW
  rw [hn] at k1 HCell HW
  rw [hx, hn]
  go_enter Tryz.func39, Tryz.ntmps39
  go_wp2_with fail
  rw [HW.out, HB.out]
  go_region_held3 (fun X => X.cell? ⟨B, 0, none⟩ = some (.int .i32 32) ∧ X.cell? ⟨B, 1, none⟩ = some (.int .i64 1) ∧ X.cell? ⟨B, 2, none⟩ = some (.int .i64 x.fo) ∧ X.cell? ⟨B, 3, none⟩ = some (.int .i64 x.ba) ∧ X.cell? ⟨B, 4, none⟩ = some (.int .i64 x.ma)) (go_keep) ((go_at_call 32; refine (HR.out _).mono ?_; rintro e w1 ⟨rfl, hb⟩; have HBn : Hid (Below W.heap.size W w1) := (by first | exact hb | exact (Below.drew (Below.refl _ _)).trans hb); clear hb; clear HBx; have HBx := hidK HBn.out; clear HBn; obtain ⟨m0, m1, m2, m3, m4⟩ := HCell.out w1 HBx.out))
  go_wp2_with fail
  go_ret
  exact ⟨rfl, HBW.out.trans (HBx.out.mono HBW.out.size)⟩
end Go.Proofs.YtklonlgmifgckaaGreatDoor
