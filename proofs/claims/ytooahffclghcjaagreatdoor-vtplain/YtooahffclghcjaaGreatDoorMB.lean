/-
  A letter laid onto its place.
  A letter laid onto its place.
  A letter laid onto its place, and written.
-/
import Derived.Test.YtooahffclghcjaaGreatDoorMA
import Derived.BigQuiet
import Derived.Deep.RegionHeld3
import Derived.Deep.RegionWith
import Derived.BigRegion
import Derived.Deep.QuietTactic
namespace Go.Proofs.YtooahffclghcjaaGreatDoor
open Go.RowKit
set_option linter.unusedVariables false
set_option maxRecDepth 100000

theorem box_cells {W : World} {B : Nat} {x : Gl} {T : TypeId} (h : W.heap[B]? = some (.cells #[.int .i32 x.l, .int .i64 x.n, .int .i64 x.fo, .int .i64 x.ba, .int .i64 x.ma] T (0, 0))) : W.cell? ⟨B, 0, none⟩ = some (.int .i32 x.l) ∧ W.cell? ⟨B, 1, none⟩ = some (.int .i64 x.n) ∧ W.cell? ⟨B, 2, none⟩ = some (.int .i64 x.fo) ∧ W.cell? ⟨B, 3, none⟩ = some (.int .i64 x.ba) ∧ W.cell? ⟨B, 4, none⟩ = some (.int .i64 x.ma) :=
  ⟨cell_atT h 0, cell_atT h 1, cell_atT h 2, cell_atT h 3, cell_atT h 4⟩
set_option maxHeartbeats 1000000 in
/-- A glyph that is no right one. -/
theorem isRight_no (x : Gl) (hx : x.l ≠ 0) (w : World) : Calls Tryz.prog 43 #[.agg #[.int .i32 x.l, .int .i64 x.n, .int .i64 x.fo, .int .i64 x.ba, .int .i64 x.ma]] w fun r w' => r = .returned (.bool false) ∧ Below w.heap.size w w' := by
  have HR : Hid (∀ W, Calls Tryz.prog 57 #[.agg #[.int .i64 x.fo, .int .i64 x.ba, .int .i64 x.ma]] W fun e w' => e = .returned (.agg #[.int .i32 0, .int .i64 0, .int .i64 x.fo, .int .i64 x.ba, .int .i64 x.ma]) ∧ Below W.heap.size W w') := right_any _ _ _
  obtain ⟨W, hW⟩ : ∃ W, w.alloc (.cells #[.int .i32 x.l, .int .i64 x.n, .int .i64 x.fo, .int .i64 x.ba, .int .i64 x.ma] 85) = W := ⟨_, rfl⟩
  have HW := hidK hW
  obtain ⟨B, hB⟩ : ∃ B, w.heap.size = B := ⟨_, rfl⟩
  have HB := hidK hB
  have hX : W.heap[B]? = some (.cells #[.int .i32 x.l, .int .i64 x.n, .int .i64 x.fo, .int .i64 x.ba, .int .i64 x.ma] 85 (0, 0)) := by rw [← hB, ← hW]; exact heap_alloc_new w _
  have HBW : Hid (Below w.heap.size w W) := by rw [← hW]; exact (Below.refl _ _).alloc (Nat.le_refl _) _
  have HCell : Hid (∀ W', Below W.heap.size W W' → W'.cell? ⟨B, 0, none⟩ = some (.int .i32 x.l) ∧ W'.cell? ⟨B, 1, none⟩ = some (.int .i64 x.n) ∧ W'.cell? ⟨B, 2, none⟩ = some (.int .i64 x.fo) ∧ W'.cell? ⟨B, 3, none⟩ = some (.int .i64 x.ba) ∧ W'.cell? ⟨B, 4, none⟩ = some (.int .i64 x.ma)) := fun W' h => box_cells ((h.block B (lt_of_block hX)).trans hX)
  obtain ⟨k0, k1, k2, k3, k4⟩ := box_cells hX
  have HBx : Hid (Below W.heap.size W W) := Below.refl _ _
  clear hW hB hX
  go_enter Tryz.func43, Tryz.ntmps43
  go_wp2_with fail
  rw [HW.out, HB.out]
  go_region_held3 (fun X => X.cell? ⟨B, 0, none⟩ = some (.int .i32 x.l) ∧ X.cell? ⟨B, 1, none⟩ = some (.int .i64 x.n) ∧ X.cell? ⟨B, 2, none⟩ = some (.int .i64 x.fo) ∧ X.cell? ⟨B, 3, none⟩ = some (.int .i64 x.ba) ∧ X.cell? ⟨B, 4, none⟩ = some (.int .i64 x.ma)) (go_keep) ((go_at_call 57; refine (HR.out _).mono ?_; rintro e w1 ⟨rfl, hb⟩; have HBn : Hid (Below W.heap.size W w1) := (by first | exact hb | exact (Below.drew (Below.refl _ _)).trans hb); clear hb; clear HBx; have HBx := hidK HBn.out; clear HBn; obtain ⟨m0, m1, m2, m3, m4⟩ := HCell.out w1 HBx.out))
  go_wp2_with fail
  go_ret
  exact ⟨rfl, HBW.out.trans (HBx.out.mono HBW.out.size)⟩
set_option maxHeartbeats 1000000 in
/-- A glyph that is no blank. -/
theorem isBlank_no (x : Gl) (hx : x.l ≠ 32) (w : World) : Calls Tryz.prog 50 #[.agg #[.int .i32 x.l, .int .i64 x.n, .int .i64 x.fo, .int .i64 x.ba, .int .i64 x.ma]] w fun r w' => r = .returned (.bool false) ∧ Below w.heap.size w w' := by
  have HR : Hid (∀ W, Calls Tryz.prog 25 #[.agg #[.int .i64 x.fo, .int .i64 x.ba, .int .i64 x.ma]] W fun e w' => e = .returned (.agg #[.int .i32 32, .int .i64 1, .int .i64 x.fo, .int .i64 x.ba, .int .i64 x.ma]) ∧ Below W.heap.size W w') := blank_any _ _ _
  obtain ⟨W, hW⟩ : ∃ W, w.alloc (.cells #[.int .i32 x.l, .int .i64 x.n, .int .i64 x.fo, .int .i64 x.ba, .int .i64 x.ma] 85) = W := ⟨_, rfl⟩
  have HW := hidK hW
  obtain ⟨B, hB⟩ : ∃ B, w.heap.size = B := ⟨_, rfl⟩
  have HB := hidK hB
  have hX : W.heap[B]? = some (.cells #[.int .i32 x.l, .int .i64 x.n, .int .i64 x.fo, .int .i64 x.ba, .int .i64 x.ma] 85 (0, 0)) := by rw [← hB, ← hW]; exact heap_alloc_new w _
  have HBW : Hid (Below w.heap.size w W) := by rw [← hW]; exact (Below.refl _ _).alloc (Nat.le_refl _) _
  have HCell : Hid (∀ W', Below W.heap.size W W' → W'.cell? ⟨B, 0, none⟩ = some (.int .i32 x.l) ∧ W'.cell? ⟨B, 1, none⟩ = some (.int .i64 x.n) ∧ W'.cell? ⟨B, 2, none⟩ = some (.int .i64 x.fo) ∧ W'.cell? ⟨B, 3, none⟩ = some (.int .i64 x.ba) ∧ W'.cell? ⟨B, 4, none⟩ = some (.int .i64 x.ma)) := fun W' h => box_cells ((h.block B (lt_of_block hX)).trans hX)
  obtain ⟨k0, k1, k2, k3, k4⟩ := box_cells hX
  have HBx : Hid (Below W.heap.size W W) := Below.refl _ _
  clear hW hB hX
  go_enter Tryz.func50, Tryz.ntmps50
  go_wp2_with fail
  rw [HW.out, HB.out]
  go_region_held3 (fun X => X.cell? ⟨B, 0, none⟩ = some (.int .i32 x.l) ∧ X.cell? ⟨B, 1, none⟩ = some (.int .i64 x.n) ∧ X.cell? ⟨B, 2, none⟩ = some (.int .i64 x.fo) ∧ X.cell? ⟨B, 3, none⟩ = some (.int .i64 x.ba) ∧ X.cell? ⟨B, 4, none⟩ = some (.int .i64 x.ma)) (go_keep) ((go_at_call 25; refine (HR.out _).mono ?_; rintro e w1 ⟨rfl, hb⟩; have HBn : Hid (Below W.heap.size W w1) := (by first | exact hb | exact (Below.drew (Below.refl _ _)).trans hb); clear hb; clear HBx; have HBx := hidK HBn.out; clear HBn; obtain ⟨m0, m1, m2, m3, m4⟩ := HCell.out w1 HBx.out))
  go_wp2_with fail
  go_ret
  exact ⟨rfl, HBW.out.trans (HBx.out.mono HBW.out.size)⟩
set_option maxHeartbeats 1000000 in
/-- A blank. -/
theorem isBlank_yes (x : Gl) (hx : x.l = 32) (hn : x.n = 1) (w : World) : Calls Tryz.prog 50 #[.agg #[.int .i32 x.l, .int .i64 x.n, .int .i64 x.fo, .int .i64 x.ba, .int .i64 x.ma]] w fun r w' => r = .returned (.bool true) ∧ Below w.heap.size w w' := by
  have HR : Hid (∀ W, Calls Tryz.prog 25 #[.agg #[.int .i64 x.fo, .int .i64 x.ba, .int .i64 x.ma]] W fun e w' => e = .returned (.agg #[.int .i32 32, .int .i64 1, .int .i64 x.fo, .int .i64 x.ba, .int .i64 x.ma]) ∧ Below W.heap.size W w') := blank_any _ _ _
  obtain ⟨W, hW⟩ : ∃ W, w.alloc (.cells #[.int .i32 x.l, .int .i64 x.n, .int .i64 x.fo, .int .i64 x.ba, .int .i64 x.ma] 85) = W := ⟨_, rfl⟩
  have HW := hidK hW
  obtain ⟨B, hB⟩ : ∃ B, w.heap.size = B := ⟨_, rfl⟩
  have HB := hidK hB
  have hX : W.heap[B]? = some (.cells #[.int .i32 x.l, .int .i64 x.n, .int .i64 x.fo, .int .i64 x.ba, .int .i64 x.ma] 85 (0, 0)) := by rw [← hB, ← hW]; exact heap_alloc_new w _
  have HBW : Hid (Below w.heap.size w W) := by rw [← hW]; exact (Below.refl _ _).alloc (Nat.le_refl _) _
  have HCell : Hid (∀ W', Below W.heap.size W W' → W'.cell? ⟨B, 0, none⟩ = some (.int .i32 x.l) ∧ W'.cell? ⟨B, 1, none⟩ = some (.int .i64 x.n) ∧ W'.cell? ⟨B, 2, none⟩ = some (.int .i64 x.fo) ∧ W'.cell? ⟨B, 3, none⟩ = some (.int .i64 x.ba) ∧ W'.cell? ⟨B, 4, none⟩ = some (.int .i64 x.ma)) := fun W' h => box_cells ((h.block B (lt_of_block hX)).trans hX)
  obtain ⟨k0, k1, k2, k3, k4⟩ := box_cells hX
  have HBx : Hid (Below W.heap.size W W) := Below.refl _ _
  clear hW hB hX
  rw [hx] at k0 HCell HW
  rw [hn] at k1 HCell HW
  rw [hx, hn]
  go_enter Tryz.func50, Tryz.ntmps50
  go_wp2_with fail
  rw [HW.out, HB.out]
  go_region_held3 (fun X => X.cell? ⟨B, 0, none⟩ = some (.int .i32 32) ∧ X.cell? ⟨B, 1, none⟩ = some (.int .i64 1) ∧ X.cell? ⟨B, 2, none⟩ = some (.int .i64 x.fo) ∧ X.cell? ⟨B, 3, none⟩ = some (.int .i64 x.ba) ∧ X.cell? ⟨B, 4, none⟩ = some (.int .i64 x.ma)) (go_keep) ((go_at_call 25; refine (HR.out _).mono ?_; rintro e w1 ⟨rfl, hb⟩; have HBn : Hid (Below W.heap.size W w1) := (by first | exact hb | exact (Below.drew (Below.refl _ _)).trans hb); clear hb; clear HBx; have HBx := hidK HBn.out; clear HBn; obtain ⟨m0, m1, m2, m3, m4⟩ := HCell.out w1 HBx.out))
  go_wp2_with fail
  go_ret
  exact ⟨rfl, HBW.out.trans (HBx.out.mono HBW.out.size)⟩
end Go.Proofs.YtooahffclghcjaaGreatDoor
namespace Go.Proofs.YtooahffclghcjaaGreatDoor
open Go.RowKit
set_option linter.unusedVariables false
set_option maxRecDepth 100000

/-- No place is a right one. -/
def Whole (gs : List Gl) : Prop := ∀ y ∈ gs, y.l ≠ 0
set_option maxHeartbeats 1000000 in
theorem cut_no {w : World} {g : Nat} {gs : List Gl} (h : GAt w g gs) (hw : Whole gs) (hl : gs.length ≤ 1000) (k : Nat) : Calls Tryz.prog 75 #[.slice (some ⟨g, 0, none⟩) gs.length gs.length, .int .i64 (k : Int)] w fun r w' => r = .returned (.tuple #[]) ∧ Below w.heap.size w w' := by
  by_cases h0 : k = 0
  · subst h0
    clear h hw
    go_enter Tryz.func75, Tryz.ntmps75
    go_wp2_with fail
    go_end0
    exact ⟨rfl, Below.refl _ _⟩
  by_cases hk : k < gs.length
  · obtain ⟨x, hx⟩ : ∃ x, gs[k]? = some x := ⟨_, List.getElem?_eq_getElem hk⟩
    obtain ⟨c0, c1, c2, c3, c4⟩ := h.c hx
    have HI : Hid (∀ W, Calls Tryz.prog 43 #[.agg #[.int .i32 x.l, .int .i64 x.n, .int .i64 x.fo, .int .i64 x.ba, .int .i64 x.ma]] W fun r w' => r = .returned (.bool false) ∧ Below W.heap.size W w') := isRight_no x (hw x (List.mem_of_getElem? hx))
    clear h hw hx
    have hk2 : (0 : Int) < (k : Int) := by omega
    have hk3 : (k : Int) < (gs.length : Int) := by omega
    go_enter Tryz.func75, Tryz.ntmps75
    go_wp2_with (go_at_call 43; refine (HI.out _).mono ?_; rintro e w1 ⟨rfl, hb⟩; have HB := hidK hb; clear hb)
    go_end0
    exact ⟨rfl, HB.out⟩
  · have hk2 : (0 : Int) < (k : Int) := by omega
    have hk3 : ¬ (k : Int) < (gs.length : Int) := by omega
    clear h hw
    go_enter Tryz.func75, Tryz.ntmps75
    go_wp2_with fail
    go_end0
    exact ⟨rfl, Below.refl _ _⟩
set_option maxHeartbeats 1000000 in
theorem span_any {w : World} {g : Nat} {gs : List Gl} (h : GAt w g gs) (hw : Whole gs) (hl : gs.length ≤ 1000) (i j : Nat) (hij : i ≤ j) (hi : i < gs.length) (hj : j ≤ gs.length) : Calls Tryz.prog 55 #[.slice (some ⟨g, 0, none⟩) gs.length gs.length, .int .i64 (i : Int), .int .i64 (j : Int)] w fun r w' => r = .returned (.slice (some ⟨g, i * 5, none⟩) (j - i) (gs.length - i)) ∧ Below w.heap.size w w' := by
  have H1 : Hid (Calls Tryz.prog 75 #[.slice (some ⟨g, 0, none⟩) gs.length gs.length, .int .i64 (i : Int)] w fun r w' => r = .returned (.tuple #[]) ∧ Below w.heap.size w w') := cut_no h hw hl i
  have H2 : Hid (∀ W, Below w.heap.size w W → Calls Tryz.prog 75 #[.slice (some ⟨g, 0, none⟩) gs.length gs.length, .int .i64 (j : Int)] W fun r w' => r = .returned (.tuple #[]) ∧ Below W.heap.size W w') := fun W hW => cut_no (h.keep (hW.block g h.lt)) hw hl j
  have hn1 : ¬ ((gs.length : Int) < (j : Int)) := by omega
  have hn2 : ¬ ((j : Int) < (i : Int)) := by omega
  have hn3 : gs.length ≠ i := by omega
  clear h hw
  go_enter Tryz.func55, Tryz.ntmps55
  go_wp2_with fail
  refine H1.out.mono ?_
  rintro e w1 ⟨rfl, hb1⟩
  have HB1 := hidK hb1
  clear hb1
  go_wp2_with fail
  refine (H2.out _ HB1.out).mono ?_
  rintro e w2 ⟨rfl, hb2⟩
  have HB2 := hidK hb2
  clear hb2
  go_wp2_with fail
  go_ret
  have hB := HB1.out.trans (HB2.out.mono HB1.out.size)
  refine ⟨?_, hB⟩
  simp
end Go.Proofs.YtooahffclghcjaaGreatDoor
namespace Go.Proofs.YtooahffclghcjaaGreatDoor
open Go.RowKit
set_option linter.unusedVariables false
set_option maxRecDepth 100000

theorem fil_put {gs : List Gl} {x : Nat} (a b : Gl) (h : x < gs.length) : (fil gs x 1 a).set x b = gs.set x b := by
  have h1 := fil_step (gs := gs) (o := x) (k := 0) a (by omega)
  rw [fil_zero, Nat.add_zero] at h1
  rw [← h1, List.set_set]
set_option maxHeartbeats 2000000 in
theorem place_any {w : World} {b : Nat} {s : Sc} (h : ScAt w b s) {G : Nat} {rs : List (Nat × List Gl)} (hr : RowsAt w G rs 0) (cap : Nat) (hv : s.rows = .slice (some ⟨G, 0, none⟩) rs.length cap) (hn : rs.length ≤ 1000)
    {y x : Nat} (hy : s.cur.y = (y : Int)) (hx : s.cur.x = (x : Int)) {g : Nat} {gs : List Gl} (hg : rs[y]? = some (g, gs)) (hw : Whole gs) (hl : gs.length ≤ 1000) (hxl : x < gs.length) (hi : s.ins = false) (hbG : b ≠ g) (l : Gl) (hl1 : l.n = 1) :
    Calls Tryz.prog 36 #[.pointer (some ⟨b, 0, none⟩), .agg #[.int .i32 l.l, .int .i64 l.n, .int .i64 l.fo, .int .i64 l.ba, .int .i64 l.ma]] w fun r w' => r = .returned (.tuple #[]) ∧ GAt w' g (gs.set x l) ∧ But [g] w w' := by
  have hyl := (List.getElem?_eq_some_iff.1 hg).1
  have hga : GAt w g gs := hr.row _ (List.mem_of_getElem? hg)
  obtain ⟨W, hW⟩ : ∃ W, w.alloc (.cells #[.int .i32 l.l, .int .i64 l.n, .int .i64 l.fo, .int .i64 l.ba, .int .i64 l.ma] 85) = W := ⟨_, rfl⟩
  have HW := hidK hW
  obtain ⟨B, hB⟩ : ∃ B, w.heap.size = B := ⟨_, rfl⟩
  have HB := hidK hB
  have hX : W.heap[B]? = some (.cells #[.int .i32 l.l, .int .i64 l.n, .int .i64 l.fo, .int .i64 l.ba, .int .i64 l.ma] 85 (0, 0)) := by rw [← hB, ← hW]; exact heap_alloc_new w _
  have HBW : Hid (Below w.heap.size w W) := by rw [← hW]; exact (Below.refl _ _).alloc (Nat.le_refl _) _
  have HgB : Hid (g ≠ B) := fun e => by have := hga.lt; omega
  have HgA : Hid (∀ W', Below W.heap.size W W' → GAt W' g gs) := fun W' hW' => hga.keep ((HBW.out.trans (hW'.mono HBW.out.size)).block g hga.lt)
  have HCell : Hid (∀ W', Below W.heap.size W W' → W'.cell? ⟨b, 13, none⟩ = some (.int .i64 (x : Int)) ∧ W'.cell? ⟨B, 1, none⟩ = some (.int .i64 1)) := fun W' h2 => by
    have h3 : ScAt W' b s := h.below (HBW.out.trans (h2.mono HBW.out.size))
    exact ⟨by rw [← hx]; exact h3.c13, by rw [← hl1]; exact cell_atT ((h2.block B (lt_of_block hX)).trans hX) 1⟩
  have HBox : Hid (∀ W', But [g] W W' → W'.cell? ⟨B, 0, none⟩ = some (.int .i32 l.l) ∧ W'.cell? ⟨B, 1, none⟩ = some (.int .i64 1) ∧ W'.cell? ⟨B, 2, none⟩ = some (.int .i64 l.fo) ∧ W'.cell? ⟨B, 3, none⟩ = some (.int .i64 l.ba) ∧ W'.cell? ⟨B, 4, none⟩ = some (.int .i64 l.ma)) := fun W' h2 => by
    have h3 := box_cells ((h2.block B (lt_of_block hX) (by simpa using fun e => HgB.out e.symm)).trans hX)
    rw [hl1] at h3
    exact h3
  have hS : ScAt W b s := h.below HBW.out
  have HSa : Hid (∀ W', Below W.heap.size W W' → W'.cell? ⟨b, 23, none⟩ = some (.bool false)) := fun W' h2 => by
    have h3 : ScAt W' b s := hS.below h2
    rw [← hi]; exact h3.c23
  have c2 := hS.c2
  rw [hv] at c2
  have c14 := hS.c14
  rw [hy] at c14
  have c23 := hS.c23
  rw [hi] at c23
  obtain ⟨c13, b1⟩ := HCell.out W (Below.refl _ _)
  have cG := (hr.below HBW.out).cell hg
  have hyi : (y : Int) < (rs.length : Int) := by omega
  have HSp : Hid (∀ W', Below W.heap.size W W' → Calls Tryz.prog 55 #[.slice (some ⟨g, 0, none⟩) gs.length gs.length, .int .i64 (x : Int), .int .i64 (IntKind.i64.wrap ((x : Int) + 1))] W' fun r w' => r = .returned (.slice (some ⟨g, x * 5, none⟩) 1 (gs.length - x)) ∧ Below W'.heap.size W' w') := fun W' hW' => by
    have h9 := span_any (HgA.out W' hW') hw hl x (x + 1) (by omega) hxl (by omega)
    rw [show x + 1 - x = 1 by omega] at h9
    rw [show IntKind.i64.wrap ((x : Int) + 1) = ((x + 1 : Nat) : Int) by rw [IntKind.wrap_i64]; omega]
    exact h9
  have HRi : Hid (∀ W, Calls Tryz.prog 57 #[.agg #[.int .i64 l.fo, .int .i64 l.ba, .int .i64 l.ma]] W fun e w' => e = .returned (.agg #[.int .i32 0, .int .i64 0, .int .i64 l.fo, .int .i64 l.ba, .int .i64 l.ma]) ∧ Below W.heap.size W w') := right_any _ _ _
  have HFi : Hid (∀ W', GAt W' g gs → Calls Tryz.prog 56 #[.slice (some ⟨g, x * 5, none⟩) 1 (gs.length - x), .agg #[.int .i32 0, .int .i64 0, .int .i64 l.fo, .int .i64 l.ba, .int .i64 l.ma]] W' fun r w' => r = .returned (.tuple #[]) ∧ GAt w' g (fil gs x 1 ⟨0, 0, l.fo, l.ba, l.ma⟩) ∧ But [g] W' w') := fun W' hg' => fill_any hg' x 1 _ ⟨0, 0, l.fo, l.ba, l.ma⟩ (by omega) hl
  have HBx : Hid (Below W.heap.size W W) := Below.refl _ _
  rw [hl1] at HW ⊢
  have HL1 := hidK hl1
  clear hW hB hX h hr hv hy hx hg hw hi hga hS hl1
  go_enter Tryz.func36, Tryz.ntmps36
  go_wp2_with fail
  rw [HW.out, HB.out]
  go_quiet (fail)
  clear c2 c14 c23 c13 b1 cG
  refine gen_exit (fun X => Below W.heap.size W X) (below_drewN _ _) ?_
  intro Y hY
  clear HBx
  have HBx := hidK hY
  have c23 := (HSa.out Y hY)
  obtain ⟨c13, b1⟩ := HCell.out Y hY
  clear hY
  go_wp2_with fail
  go_region_held3 (fun X => X.cell? ⟨b, 13, none⟩ = some (.int .i64 (x : Int)) ∧ X.cell? ⟨B, 1, none⟩ = some (.int .i64 1)) (go_keep) ((go_at_call 55; refine (HSp.out _ (by first | exact HBx.out | exact HBx.out.drew)).mono ?_; rintro e w1 ⟨rfl, hb⟩; have HBn : Hid (Below W.heap.size W w1) := (by first | exact HBx.out.trans (hb.mono HBx.out.size) | exact HBx.out.drew.trans (hb.mono HBx.out.size)); clear hb; clear HBx; have HBx := hidK HBn.out; clear HBn; obtain ⟨m0, m1⟩ := HCell.out w1 HBx.out))
  clear c23 c13 b1
  obtain ⟨k0, k1, k2, k3, k4⟩ := HBox.out w1 (But.of HBx.out)
  go_wp2_with fail
  refine (HRi.out _).mono ?_
  rintro e w2 ⟨rfl, hb⟩
  have HB2 : Hid (Below W.heap.size W w2) := HBx.out.trans (hb.mono HBx.out.size)
  clear hb
  go_wp2_with fail
  refine (HFi.out _ (HgA.out _ HB2.out)).mono ?_
  rintro e w3 ⟨rfl, hg3, hb3⟩
  have HB3 : Hid (But [g] W w3) := (But.of HB2.out).trans hb3
  have HG3 := hidK hg3
  obtain ⟨n0, n1, n2, n3, n4⟩ := HBox.out w3 HB3.out
  obtain ⟨d0, d1, d2, d3, d4⟩ := hg3.c (i := x) (List.getElem?_eq_getElem (by rw [fil_len _ (by omega)]; omega))
  have f0 := hg3.free (x * 5)
  have f1 := hg3.free (x * 5 + 1)
  have f2 := hg3.free (x * 5 + 2)
  have f3 := hg3.free (x * 5 + 3)
  have f4 := hg3.free (x * 5 + 4)
  clear hg3 hb3
  go_wp2_with fail
  go_end0
  refine ⟨rfl, ?_, ?_⟩
  · have h9 := HG3.out.put x l (by rw [fil_len _ (by omega)]; omega)
    rw [fil_put _ _ hxl, HL1.out] at h9
    exact h9
  · exact (((((But.of HBW.out).trans HB3.out).next _ _).next _ _).next _ _ |>.next _ _).next _ _
end Go.Proofs.YtooahffclghcjaaGreatDoor
