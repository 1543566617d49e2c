/-
  The order ESC [ 31 m.
-/
import Derived.Test.YtooahffclghcjaaGreatDoorVWriteB
import Derived.Deep.MidRow
namespace Go.Proofs.YtooahffclghcjaaGreatDoor
open Go.RowKit
set_option linter.unusedVariables false
set_option maxRecDepth 100000

theorem ord_cells {W : World} {B : Nat} (h : W.heap[B]? = some (.cells #[.int .u8 0, .int .i64 31, .int .i64 0, .int .i64 0, .int .i64 0, .int .i64 0, .int .i64 0, .int .i64 0, .int .i64 0, .int .i64 0, .int .i64 0, .int .i64 0, .int .i64 0, .int .i64 0, .int .i64 0, .int .i64 0, .int .i64 0, .int .i64 1, .string ⟨#[]⟩, .int .u8 109] 120 (0, 0))) : W.cell? ⟨B, 0, none⟩ = some (.int .u8 0) ∧ W.cell? ⟨B, 1, none⟩ = some (.int .i64 31) ∧ W.cell? ⟨B, 2, none⟩ = some (.int .i64 0) ∧ W.cell? ⟨B, 3, none⟩ = some (.int .i64 0) ∧ W.cell? ⟨B, 4, none⟩ = some (.int .i64 0) ∧ W.cell? ⟨B, 5, none⟩ = some (.int .i64 0) ∧ W.cell? ⟨B, 6, none⟩ = some (.int .i64 0) ∧ W.cell? ⟨B, 7, none⟩ = some (.int .i64 0) ∧ W.cell? ⟨B, 8, none⟩ = some (.int .i64 0) ∧ W.cell? ⟨B, 9, none⟩ = some (.int .i64 0) ∧ W.cell? ⟨B, 10, none⟩ = some (.int .i64 0) ∧ W.cell? ⟨B, 11, none⟩ = some (.int .i64 0) ∧ W.cell? ⟨B, 12, none⟩ = some (.int .i64 0) ∧ W.cell? ⟨B, 13, none⟩ = some (.int .i64 0) ∧ W.cell? ⟨B, 14, none⟩ = some (.int .i64 0) ∧ W.cell? ⟨B, 15, none⟩ = some (.int .i64 0) ∧ W.cell? ⟨B, 16, none⟩ = some (.int .i64 0) ∧ W.cell? ⟨B, 17, none⟩ = some (.int .i64 1) ∧ W.cell? ⟨B, 18, none⟩ = some (.string ⟨#[]⟩) ∧ W.cell? ⟨B, 19, none⟩ = some (.int .u8 109) := ⟨cell_atT h 0, cell_atT h 1, cell_atT h 2, cell_atT h 3, cell_atT h 4, cell_atT h 5, cell_atT h 6, cell_atT h 7, cell_atT h 8, cell_atT h 9, cell_atT h 10, cell_atT h 11, cell_atT h 12, cell_atT h 13, cell_atT h 14, cell_atT h 15, cell_atT h 16, cell_atT h 17, cell_atT h 18, cell_atT h 19⟩
theorem infoOrd : (Tryz.prog.info? 120).map (·.size) = some 20 := by kernel_rfl
theorem open_loadAt {P : Program} (t : TypeId) (p : Value) (w : World) : (Instr.loadAt t p).run P w = (do loadVar t (← Instr.sureAddr p) : Sem Value).run P w := rfl
attribute [-go_sem] Instr.loadAt
attribute [local go_sem low] open_loadAt
theorem ord_load {W : World} {B : Nat} (h : W.heap[B]? = some (.cells #[.int .u8 0, .int .i64 31, .int .i64 0, .int .i64 0, .int .i64 0, .int .i64 0, .int .i64 0, .int .i64 0, .int .i64 0, .int .i64 0, .int .i64 0, .int .i64 0, .int .i64 0, .int .i64 0, .int .i64 0, .int .i64 0, .int .i64 0, .int .i64 1, .string ⟨#[]⟩, .int .u8 109] 120 (0, 0))) : (Instr.loadAt 120 (.pointer (some ⟨B, 0, none⟩))).run Tryz.prog W = .ok (.agg #[.int .u8 0, .int .i64 31, .int .i64 0, .int .i64 0, .int .i64 0, .int .i64 0, .int .i64 0, .int .i64 0, .int .i64 0, .int .i64 0, .int .i64 0, .int .i64 0, .int .i64 0, .int .i64 0, .int .i64 0, .int .i64 0, .int .i64 0, .int .i64 1, .string ⟨#[]⟩, .int .u8 109]) W :=
  run_loadAt_mid W B 0 _ [.int .u8 0, .int .i64 31, .int .i64 0, .int .i64 0, .int .i64 0, .int .i64 0, .int .i64 0, .int .i64 0, .int .i64 0, .int .i64 0, .int .i64 0, .int .i64 0, .int .i64 0, .int .i64 0, .int .i64 0, .int .i64 0, .int .i64 0, .int .i64 1, .string ⟨#[]⟩, .int .u8 109] _ (fun j v hv => by rw [Nat.zero_add, cell_atT h]; show (List.toArray (α := Value) [.int .u8 0, .int .i64 31, .int .i64 0, .int .i64 0, .int .i64 0, .int .i64 0, .int .i64 0, .int .i64 0, .int .i64 0, .int .i64 0, .int .i64 0, .int .i64 0, .int .i64 0, .int .i64 0, .int .i64 0, .int .i64 0, .int .i64 0, .int .i64 1, .string ⟨#[]⟩, .int .u8 109])[j]? = _; rw [List.getElem?_toArray]; exact hv) Tryz.underlying120 rfl infoOrd
theorem ord_after {W W' : World} {B : Nat} (h : W.heap[B]? = some (.cells #[.int .u8 0, .int .i64 31, .int .i64 0, .int .i64 0, .int .i64 0, .int .i64 0, .int .i64 0, .int .i64 0, .int .i64 0, .int .i64 0, .int .i64 0, .int .i64 0, .int .i64 0, .int .i64 0, .int .i64 0, .int .i64 0, .int .i64 0, .int .i64 1, .string ⟨#[]⟩, .int .u8 109] 120 (0, 0))) (hb : Below W.heap.size W W') : W'.heap[B]? = some (.cells #[.int .u8 0, .int .i64 31, .int .i64 0, .int .i64 0, .int .i64 0, .int .i64 0, .int .i64 0, .int .i64 0, .int .i64 0, .int .i64 0, .int .i64 0, .int .i64 0, .int .i64 0, .int .i64 0, .int .i64 0, .int .i64 0, .int .i64 0, .int .i64 1, .string ⟨#[]⟩, .int .u8 109] 120 (0, 0)) := (hb.block B (lt_of_block h)).trans h
set_option maxHeartbeats 1000000 in
theorem atLeastOne_ord (w : World) : Calls Tryz.prog 112 #[.agg #[.int .u8 0, .int .i64 31, .int .i64 0, .int .i64 0, .int .i64 0, .int .i64 0, .int .i64 0, .int .i64 0, .int .i64 0, .int .i64 0, .int .i64 0, .int .i64 0, .int .i64 0, .int .i64 0, .int .i64 0, .int .i64 0, .int .i64 0, .int .i64 1, .string ⟨#[]⟩, .int .u8 109], .int .i64 0] w fun r w' => r = .returned (.int .i64 31) ∧ Below w.heap.size w w' := by
  obtain ⟨W, hW⟩ : ∃ W, w.alloc (.cells #[.int .u8 0, .int .i64 31, .int .i64 0, .int .i64 0, .int .i64 0, .int .i64 0, .int .i64 0, .int .i64 0, .int .i64 0, .int .i64 0, .int .i64 0, .int .i64 0, .int .i64 0, .int .i64 0, .int .i64 0, .int .i64 0, .int .i64 0, .int .i64 1, .string ⟨#[]⟩, .int .u8 109] 120) = W := ⟨_, rfl⟩
  have HW := hidK hW
  obtain ⟨B, hB⟩ : ∃ B, w.heap.size = B := ⟨_, rfl⟩
  have HB := hidK hB
  have hX : W.heap[B]? = some (.cells #[.int .u8 0, .int .i64 31, .int .i64 0, .int .i64 0, .int .i64 0, .int .i64 0, .int .i64 0, .int .i64 0, .int .i64 0, .int .i64 0, .int .i64 0, .int .i64 0, .int .i64 0, .int .i64 0, .int .i64 0, .int .i64 0, .int .i64 0, .int .i64 1, .string ⟨#[]⟩, .int .u8 109] 120 (0, 0)) := by rw [← hB, ← hW]; exact heap_alloc_new w _
  have HX := hidK hX
  have HBW : Hid (Below w.heap.size w W) := by rw [← hW]; exact (Below.refl _ _).alloc (Nat.le_refl _) _
  have hld : (Instr.loadAt 120 (.pointer (some ⟨w.heap.size, 0, none⟩))).run Tryz.prog (w.alloc (.cells #[.int .u8 0, .int .i64 31, .int .i64 0, .int .i64 0, .int .i64 0, .int .i64 0, .int .i64 0, .int .i64 0, .int .i64 0, .int .i64 0, .int .i64 0, .int .i64 0, .int .i64 0, .int .i64 0, .int .i64 0, .int .i64 0, .int .i64 0, .int .i64 1, .string ⟨#[]⟩, .int .u8 109] 120)) = .ok (.agg #[.int .u8 0, .int .i64 31, .int .i64 0, .int .i64 0, .int .i64 0, .int .i64 0, .int .i64 0, .int .i64 0, .int .i64 0, .int .i64 0, .int .i64 0, .int .i64 0, .int .i64 0, .int .i64 0, .int .i64 0, .int .i64 0, .int .i64 0, .int .i64 1, .string ⟨#[]⟩, .int .u8 109]) (w.alloc (.cells #[.int .u8 0, .int .i64 31, .int .i64 0, .int .i64 0, .int .i64 0, .int .i64 0, .int .i64 0, .int .i64 0, .int .i64 0, .int .i64 0, .int .i64 0, .int .i64 0, .int .i64 0, .int .i64 0, .int .i64 0, .int .i64 0, .int .i64 0, .int .i64 1, .string ⟨#[]⟩, .int .u8 109] 120)) := ord_load (heap_alloc_new w _)
  have o1 := cell_atT hX 1
  have o19 := cell_atT hX 19
  simp at o1 o19
  clear hW hB hX
  go_enter Tryz.func112, Tryz.ntmps112
  go_wp2_with fail
  go_ret
  rw [HW.out]
  exact ⟨rfl, HBW.out⟩
set_option maxHeartbeats 4000000 in
theorem move_ord (b : Nat) (w : World) : Calls Tryz.prog 101 #[.pointer (some ⟨b, 0, none⟩), .agg #[.int .u8 0, .int .i64 31, .int .i64 0, .int .i64 0, .int .i64 0, .int .i64 0, .int .i64 0, .int .i64 0, .int .i64 0, .int .i64 0, .int .i64 0, .int .i64 0, .int .i64 0, .int .i64 0, .int .i64 0, .int .i64 0, .int .i64 0, .int .i64 1, .string ⟨#[]⟩, .int .u8 109]] w fun r w' => r = .returned (.bool false) ∧ Below w.heap.size w w' := by
  obtain ⟨W, hW⟩ : ∃ W, w.alloc (.cells #[.int .u8 0, .int .i64 31, .int .i64 0, .int .i64 0, .int .i64 0, .int .i64 0, .int .i64 0, .int .i64 0, .int .i64 0, .int .i64 0, .int .i64 0, .int .i64 0, .int .i64 0, .int .i64 0, .int .i64 0, .int .i64 0, .int .i64 0, .int .i64 1, .string ⟨#[]⟩, .int .u8 109] 120) = W := ⟨_, rfl⟩
  have HW := hidK hW
  obtain ⟨B, hB⟩ : ∃ B, w.heap.size = B := ⟨_, rfl⟩
  have HB := hidK hB
  have hX : W.heap[B]? = some (.cells #[.int .u8 0, .int .i64 31, .int .i64 0, .int .i64 0, .int .i64 0, .int .i64 0, .int .i64 0, .int .i64 0, .int .i64 0, .int .i64 0, .int .i64 0, .int .i64 0, .int .i64 0, .int .i64 0, .int .i64 0, .int .i64 0, .int .i64 0, .int .i64 1, .string ⟨#[]⟩, .int .u8 109] 120 (0, 0)) := by rw [← hB, ← hW]; exact heap_alloc_new w _
  have HX := hidK hX
  have HBW : Hid (Below w.heap.size w W) := by rw [← hW]; exact (Below.refl _ _).alloc (Nat.le_refl _) _
  have hld : (Instr.loadAt 120 (.pointer (some ⟨w.heap.size, 0, none⟩))).run Tryz.prog (w.alloc (.cells #[.int .u8 0, .int .i64 31, .int .i64 0, .int .i64 0, .int .i64 0, .int .i64 0, .int .i64 0, .int .i64 0, .int .i64 0, .int .i64 0, .int .i64 0, .int .i64 0, .int .i64 0, .int .i64 0, .int .i64 0, .int .i64 0, .int .i64 0, .int .i64 1, .string ⟨#[]⟩, .int .u8 109] 120)) = .ok (.agg #[.int .u8 0, .int .i64 31, .int .i64 0, .int .i64 0, .int .i64 0, .int .i64 0, .int .i64 0, .int .i64 0, .int .i64 0, .int .i64 0, .int .i64 0, .int .i64 0, .int .i64 0, .int .i64 0, .int .i64 0, .int .i64 0, .int .i64 0, .int .i64 1, .string ⟨#[]⟩, .int .u8 109]) (w.alloc (.cells #[.int .u8 0, .int .i64 31, .int .i64 0, .int .i64 0, .int .i64 0, .int .i64 0, .int .i64 0, .int .i64 0, .int .i64 0, .int .i64 0, .int .i64 0, .int .i64 0, .int .i64 0, .int .i64 0, .int .i64 0, .int .i64 0, .int .i64 0, .int .i64 1, .string ⟨#[]⟩, .int .u8 109] 120)) := ord_load (heap_alloc_new w _)
  have o1 := cell_atT hX 1
  have o19 := cell_atT hX 19
  simp at o1 o19
  clear hW hB hX
  have HA : Hid (∀ W, Calls Tryz.prog 112 #[.agg #[.int .u8 0, .int .i64 31, .int .i64 0, .int .i64 0, .int .i64 0, .int .i64 0, .int .i64 0, .int .i64 0, .int .i64 0, .int .i64 0, .int .i64 0, .int .i64 0, .int .i64 0, .int .i64 0, .int .i64 0, .int .i64 0, .int .i64 0, .int .i64 1, .string ⟨#[]⟩, .int .u8 109], .int .i64 0] W fun r w' => r = .returned (.int .i64 31) ∧ Below W.heap.size W w') := atLeastOne_ord
  go_enter Tryz.func101, Tryz.ntmps101
  go_wp2_with fail
  rw [HW.out, HB.out]
  clear hld o1 o19
  refine (HA.out _).mono ?_
  rintro e w1 ⟨rfl, hb⟩
  have HB1 := hidK hb
  have o19 := cell_atT (ord_after HX.out hb) 19
  simp at o19
  clear hb
  go_wp2_with fail
  go_ret
  exact ⟨rfl, HBW.out.trans (HB1.out.mono HBW.out.size)⟩
set_option maxHeartbeats 4000000 in
theorem change_ord {w : World} {b : Nat} {s : Sc} {G : Nat} {rs : List (Nat × List Gl)} (h : Scn w b s G rs) {y x n : Nat} (hy : s.cur.y = (y : Int)) (hx : s.cur.x = (x : Int)) (hw : s.w = (n : Int)) (hn : n ≤ 1000) (hx2 : x ≤ 1000) {g : Nat} {gs : List Gl} (hg : rs[y]? = some (g, gs)) : Calls Tryz.prog 102 #[.pointer (some ⟨b, 0, none⟩), .agg #[.int .u8 0, .int .i64 31, .int .i64 0, .int .i64 0, .int .i64 0, .int .i64 0, .int .i64 0, .int .i64 0, .int .i64 0, .int .i64 0, .int .i64 0, .int .i64 0, .int .i64 0, .int .i64 0, .int .i64 0, .int .i64 0, .int .i64 0, .int .i64 1, .string ⟨#[]⟩, .int .u8 109]] w fun r w' => r = .returned (.bool false) ∧ Below w.heap.size w w' := by
  obtain ⟨W, hW⟩ : ∃ W, w.alloc (.cells #[.int .u8 0, .int .i64 31, .int .i64 0, .int .i64 0, .int .i64 0, .int .i64 0, .int .i64 0, .int .i64 0, .int .i64 0, .int .i64 0, .int .i64 0, .int .i64 0, .int .i64 0, .int .i64 0, .int .i64 0, .int .i64 0, .int .i64 0, .int .i64 1, .string ⟨#[]⟩, .int .u8 109] 120) = W := ⟨_, rfl⟩
  have HW := hidK hW
  obtain ⟨B, hB⟩ : ∃ B, w.heap.size = B := ⟨_, rfl⟩
  have HB := hidK hB
  have hX : W.heap[B]? = some (.cells #[.int .u8 0, .int .i64 31, .int .i64 0, .int .i64 0, .int .i64 0, .int .i64 0, .int .i64 0, .int .i64 0, .int .i64 0, .int .i64 0, .int .i64 0, .int .i64 0, .int .i64 0, .int .i64 0, .int .i64 0, .int .i64 0, .int .i64 0, .int .i64 1, .string ⟨#[]⟩, .int .u8 109] 120 (0, 0)) := by rw [← hB, ← hW]; exact heap_alloc_new w _
  have HX := hidK hX
  have HBW : Hid (Below w.heap.size w W) := by rw [← hW]; exact (Below.refl _ _).alloc (Nat.le_refl _) _
  have hld : (Instr.loadAt 120 (.pointer (some ⟨w.heap.size, 0, none⟩))).run Tryz.prog (w.alloc (.cells #[.int .u8 0, .int .i64 31, .int .i64 0, .int .i64 0, .int .i64 0, .int .i64 0, .int .i64 0, .int .i64 0, .int .i64 0, .int .i64 0, .int .i64 0, .int .i64 0, .int .i64 0, .int .i64 0, .int .i64 0, .int .i64 0, .int .i64 0, .int .i64 1, .string ⟨#[]⟩, .int .u8 109] 120)) = .ok (.agg #[.int .u8 0, .int .i64 31, .int .i64 0, .int .i64 0, .int .i64 0, .int .i64 0, .int .i64 0, .int .i64 0, .int .i64 0, .int .i64 0, .int .i64 0, .int .i64 0, .int .i64 0, .int .i64 0, .int .i64 0, .int .i64 0, .int .i64 0, .int .i64 1, .string ⟨#[]⟩, .int .u8 109]) (w.alloc (.cells #[.int .u8 0, .int .i64 31, .int .i64 0, .int .i64 0, .int .i64 0, .int .i64 0, .int .i64 0, .int .i64 0, .int .i64 0, .int .i64 0, .int .i64 0, .int .i64 0, .int .i64 0, .int .i64 0, .int .i64 0, .int .i64 0, .int .i64 0, .int .i64 1, .string ⟨#[]⟩, .int .u8 109] 120)) := ord_load (heap_alloc_new w _)
  have o1 := cell_atT hX 1
  have o19 := cell_atT hX 19
  simp at o1 o19
  clear hW hB hX
  have HA : Hid (∀ W, Calls Tryz.prog 112 #[.agg #[.int .u8 0, .int .i64 31, .int .i64 0, .int .i64 0, .int .i64 0, .int .i64 0, .int .i64 0, .int .i64 0, .int .i64 0, .int .i64 0, .int .i64 0, .int .i64 0, .int .i64 0, .int .i64 0, .int .i64 0, .int .i64 0, .int .i64 0, .int .i64 1, .string ⟨#[]⟩, .int .u8 109], .int .i64 0] W fun r w' => r = .returned (.int .i64 31) ∧ Below W.heap.size W w') := atLeastOne_ord
  have HS := hidK h
  have hyl := (List.getElem?_eq_some_iff.1 hg).1
  have HXY := hidK (And.intro hy (And.intro hx (And.intro hw hg)))
  have hyi : (y : Int) < (rs.length : Int) := by omega
  clear h hy hx hw hg
  go_enter Tryz.func102, Tryz.ntmps102
  go_wp2_with fail
  rw [HW.out, HB.out]
  clear hld o1 o19
  refine (HA.out _).mono ?_
  rintro e w1 ⟨rfl, hb⟩
  have HB1 := hidK hb
  have o19 := cell_atT (ord_after HX.out hb) 19
  simp at o19
  have hS := HS.out.below (HBW.out.trans (hb.mono HBW.out.size))
  have c2 := hS.at_.c2
  rw [hS.val] at c2
  have c14 := hS.at_.c14
  rw [HXY.out.1] at c14
  have c13 := hS.at_.c13
  rw [HXY.out.2.1] at c13
  have c0 := hS.at_.c0
  rw [HXY.out.2.2.1] at c0
  have cG := hS.rows.cell HXY.out.2.2.2
  clear hb hS
  go_wp2_with fail
  go_quiet (fail)
  go_wp2_with fail
  go_ret
  exact ⟨rfl, (HBW.out.trans (HB1.out.mono HBW.out.size)).trans ((below_drewN _ _).mono (by have := HBW.out.size; have := HB1.out.size; omega))⟩
end Go.Proofs.YtooahffclghcjaaGreatDoor
