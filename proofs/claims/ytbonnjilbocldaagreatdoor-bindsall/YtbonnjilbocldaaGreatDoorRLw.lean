/-
  Binds: the laws that are one play of both sides.
-/
import Derived.Test.YtbonnjilbocldaaGreatDoorRPl
namespace Go.Proofs.YtbonnjilbocldaaGreatDoor
open Go.RowKit
set_option linter.unusedVariables false
set_option maxRecDepth 100000

theorem SeeS.below {w w' : World} {v : Value} {l : List Stp} (h : SeeS w v l) (hb : Below w.heap.size w w') : SeeS w' v l := by
  obtain ⟨a, c, rfl, hc⟩ := h
  refine ⟨a, c, rfl, fun hne => ?_⟩
  obtain ⟨g, o, rfl, hcell⟩ := hc hne
  refine ⟨g, o, rfl, fun j hj c u hu => ?_⟩
  have h1 := hcell j hj c u hu
  exact (hb.cell (World.block_lt_of_cell? w _ h1)).trans h1
theorem bindsSets_walk {w : World} (hT : Tabs w) (hw : 5 < w.heap.size) (p1 p2 rep : Int) (ov : Value) (l : List Stp) (hv : SeeS w ov l) (hl : ∀ s ∈ l, s.wf) (hp1 : (Lit.int .i64 p1).wf = true) (hp2 : (Lit.int .i64 p2).wf = true) (hrep : (Lit.int .i64 rep).wf = true) :
    Calls Tryz.prog 3 #[.agg #[.int .i64 p1, .int .i64 p2, .int .i64 rep, ov]] w fun r w' => r = .returned (.bool true) ∧ Below w.heap.size w w' := by
  obtain ⟨W1, hW1⟩ : ∃ W, w.alloc (.cells #[.int .i64 p1, .int .i64 p2, .int .i64 rep, ov] 26) = W := ⟨_, rfl⟩
  obtain ⟨q, hq⟩ : ∃ q, w.heap.size = q := ⟨_, rfl⟩
  have ha1 : W1.heap[q]? = some (.cells #[.int .i64 p1, .int .i64 p2, .int .i64 rep, ov] 26 (0, 0)) := by rw [← hW1, ← hq]; exact heap_alloc_new w _
  have hb1 : Below w.heap.size w W1 := by rw [← hW1]; exact (Below.refl _ _).alloc (Nat.le_refl _) _
  have HP := fun (lo hi : Int) => play_any (hT.below hb1) (Nat.lt_of_lt_of_le hw hb1.size) p1 p2 rep ov l (hv.below hb1) hl hp1 hp2 hrep lo hi
  have HB := hidK hb1
  have c0 := cell_at ha1 0
  have c1 := cell_at ha1 1
  have c2 := cell_at ha1 2
  have c3 := cell_at ha1 3
  clear hT hw hv hl hp1 hp2 hrep hb1
  go_enter Tryz.func3, Tryz.ntmps3
  go_wp2_with fail
  refine (HP _ _).mono ?_
  rintro e W2 ⟨rfl, hb2⟩
  have HB2 := hidK (below_step HB.out hb2)
  go_wp2_with fail
  go_ret
  exact ⟨rfl, HB2.out⟩
theorem bindsPresses_walk {w : World} (hT : Tabs w) (hw : 5 < w.heap.size) (p1 p2 rep : Int) (ov : Value) (l : List Stp) (hv : SeeS w ov l) (hl : ∀ s ∈ l, s.wf) (hp1 : (Lit.int .i64 p1).wf = true) (hp2 : (Lit.int .i64 p2).wf = true) (hrep : (Lit.int .i64 rep).wf = true) :
    Calls Tryz.prog 4 #[.agg #[.int .i64 p1, .int .i64 p2, .int .i64 rep, ov]] w fun r w' => r = .returned (.bool true) ∧ Below w.heap.size w w' := by
  obtain ⟨W1, hW1⟩ : ∃ W, w.alloc (.cells #[.int .i64 p1, .int .i64 p2, .int .i64 rep, ov] 26) = W := ⟨_, rfl⟩
  obtain ⟨q, hq⟩ : ∃ q, w.heap.size = q := ⟨_, rfl⟩
  have ha1 : W1.heap[q]? = some (.cells #[.int .i64 p1, .int .i64 p2, .int .i64 rep, ov] 26 (0, 0)) := by rw [← hW1, ← hq]; exact heap_alloc_new w _
  have hb1 : Below w.heap.size w W1 := by rw [← hW1]; exact (Below.refl _ _).alloc (Nat.le_refl _) _
  have HP := fun (lo hi : Int) => play_any (hT.below hb1) (Nat.lt_of_lt_of_le hw hb1.size) p1 p2 rep ov l (hv.below hb1) hl hp1 hp2 hrep lo hi
  have HB := hidK hb1
  have c0 := cell_at ha1 0
  have c1 := cell_at ha1 1
  have c2 := cell_at ha1 2
  have c3 := cell_at ha1 3
  clear hT hw hv hl hp1 hp2 hrep hb1
  go_enter Tryz.func4, Tryz.ntmps4
  go_wp2_with fail
  refine (HP _ _).mono ?_
  rintro e W2 ⟨rfl, hb2⟩
  have HB2 := hidK (below_step HB.out hb2)
  go_wp2_with fail
  go_ret
  exact ⟨rfl, HB2.out⟩
theorem bindsAll_walk {w : World} (hT : Tabs w) (hw : 5 < w.heap.size) (p1 p2 rep : Int) (ov : Value) (l : List Stp) (hv : SeeS w ov l) (hl : ∀ s ∈ l, s.wf) (hp1 : (Lit.int .i64 p1).wf = true) (hp2 : (Lit.int .i64 p2).wf = true) (hrep : (Lit.int .i64 rep).wf = true) :
    Calls Tryz.prog 5 #[.agg #[.int .i64 p1, .int .i64 p2, .int .i64 rep, ov]] w fun r w' => r = .returned (.bool true) ∧ Below w.heap.size w w' := by
  obtain ⟨W1, hW1⟩ : ∃ W, w.alloc (.cells #[.int .i64 p1, .int .i64 p2, .int .i64 rep, ov] 26) = W := ⟨_, rfl⟩
  obtain ⟨q, hq⟩ : ∃ q, w.heap.size = q := ⟨_, rfl⟩
  have ha1 : W1.heap[q]? = some (.cells #[.int .i64 p1, .int .i64 p2, .int .i64 rep, ov] 26 (0, 0)) := by rw [← hW1, ← hq]; exact heap_alloc_new w _
  have hb1 : Below w.heap.size w W1 := by rw [← hW1]; exact (Below.refl _ _).alloc (Nat.le_refl _) _
  have HP := fun (lo hi : Int) => play_any (hT.below hb1) (Nat.lt_of_lt_of_le hw hb1.size) p1 p2 rep ov l (hv.below hb1) hl hp1 hp2 hrep lo hi
  have HB := hidK hb1
  have c0 := cell_at ha1 0
  have c1 := cell_at ha1 1
  have c2 := cell_at ha1 2
  have c3 := cell_at ha1 3
  clear hT hw hv hl hp1 hp2 hrep hb1
  go_enter Tryz.func5, Tryz.ntmps5
  go_wp2_with fail
  refine (HP _ _).mono ?_
  rintro e W2 ⟨rfl, hb2⟩
  have HB2 := hidK (below_step HB.out hb2)
  go_wp2_with fail
  go_ret
  exact ⟨rfl, HB2.out⟩
end Go.Proofs.YtbonnjilbocldaaGreatDoor
