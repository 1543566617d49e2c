/-
  Layouts: a pane is moved, told as a cell, laid down; the layout of one pane.
-/
import Derived.Test.YtcjcekaahooamaaLBox
import Derived.RegionTactic
import Derived.Deep.RegionWith
import Derived.Deep.DrawnRows
import Derived.Deep.RegionHeld3
import Derived.Laws.AppendOwn
namespace Go.Proofs.Ytcjcekaahooamaa
open Go.RowKit
set_option linter.unusedVariables false
set_option maxRecDepth 20000

theorem l_move (g : Nat) (W : World) : (method 241 38 (.pointer (some ⟨g, 0, none⟩)) "mullion/layout.move").run Try.prog W = .ok (91, .pointer (some ⟨g, 0, none⟩)) W := by kernel_rfl
theorem l_tell (g : Nat) (W : World) : (method 241 38 (.pointer (some ⟨g, 0, none⟩)) "mullion/layout.tell").run Try.prog W = .ok (94, .pointer (some ⟨g, 0, none⟩)) W := by kernel_rfl

theorem LeafAt.set {W : World} {g : Nat} {b b' : Box} {p : Int} (h : LeafAt W g b p) (o : Nat) (v : Value) (hv : (leafV b p).setIfInBounds o v = leafV b' p) : LeafAt (W.setCell ⟨g, o, none⟩ v) g b' p := by
  have hlt : g < W.heap.size := lt_of_block h
  have h' : W.heap[g] = .cells (leafV b p) 44 (0, 0) := by unfold LeafAt at h; simpa [Array.getElem?_eq_getElem hlt] using h
  show (W.heap.modify g _)[g]? = _
  rw [Array.getElem?_eq_getElem (by simpa using hlt), Array.getElem_modify_self, h', ← hv]
  rfl

theorem leaf_moves (g : Nat) (b : Box) (p : Int) (x y : Int) (w : World) (h : LeafAt w g b p) :
    Calls Try.prog 91 #[.pointer (some ⟨g, 0, none⟩), .int .i64 x, .int .i64 y] w fun e w' => e = .returned (.tuple #[]) ∧ LeafAt w' g { b with x := x, y := y } p ∧ w.grownBy w' (some g) := by
  obtain ⟨q0, q1, q2, q3, hf⟩ := h.box
  have f0 := hf 0 (by omega)
  have f1 := hf 1 (by omega)
  have HL : Hid (LeafAt w g b p) := h
  clear h hf
  go_enter Try.func91, Try.ntmps91
  go_wp2
  refine ⟨rfl, .tuple #[], (by simp [results, Try.results91, go_sem]), rfl, (HL.out.set 0 (.int .i64 x) (b' := { b with x := x }) rfl).set 1 (.int .i64 y) (b' := { b with x := x, y := y }) rfl, ⟨rfl, rfl, rfl, by simp [World.setCell], fun k _ hr => ?_⟩⟩
  exact (Below.heap_setCell _ _ _ _ (fun e => hr (by simp [e]))).trans (Below.heap_setCell _ _ _ _ (fun e => hr (by simp [e])))

theorem box_cell (g : Nat) (b : Box) (d k p : Int) (w : World) (h : BoxAt w g b) (hlt : g < w.heap.size) :
    Calls Try.prog 96 #[.pointer (some ⟨g, 0, none⟩), .int .i64 d, .int .i64 k, .int .i64 p] w fun e w' => e = .returned (.agg #[.int .i64 d, .int .i64 k, .int .i64 b.x, .int .i64 b.y, .int .i64 b.w, .int .i64 b.h, .int .i64 p]) ∧ Below w.heap.size w w' := by
  obtain ⟨q0, q1, q2, q3, _⟩ := h
  go_enter Try.func96, Try.ntmps96
  go_wp2_with fail
  go_region_held3 (fun W' => W'.cell? ⟨g, 0, none⟩ = some (.int .i64 b.x) ∧ W'.cell? ⟨g, 1, none⟩ = some (.int .i64 b.y) ∧ W'.cell? ⟨g, 2, none⟩ = some (.int .i64 b.w) ∧ W'.cell? ⟨g, 3, none⟩ = some (.int .i64 b.h)) (go_keep) (fail)
  all_goals go_wp2
  all_goals refine bodyPost_ret (v := .agg #[.int .i64 d, .int .i64 k, .int .i64 b.x, .int .i64 b.y, .int .i64 b.w, .int .i64 b.h, .int .i64 p]) (by simp [results, Try.results96, go_sem]) rfl ?_
  all_goals exact ⟨rfl, ((Below.refl _ _).alloc (Nat.le_refl _) _).drew⟩

end Go.Proofs.Ytcjcekaahooamaa
