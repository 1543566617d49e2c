/-
  Layouts: a list of calls, read.
  Layouts: how many calls can come in.
-/
import Derived.Test.YtnepemlagnnngaaCOo
namespace Go.Proofs.Ytnepemlagnnngaa
open Go.RowKit
set_option linter.unusedVariables false
set_option maxRecDepth 100000

theorem opCells_get : ∀ (l : List OpV) (i : Nat) (o : OpV), l[i]? = some o → ∀ j, j < 8 → (opCells l)[i * 8 + j]? = o.vals[j]?
  | [], i, o, h, j, hj => by simp at h
  | a :: l, 0, o, h, j, hj => by
    have e : a = o := by simpa using h
    subst e
    show (a.vals.toList ++ opCells l)[0 * 8 + j]? = _
    rw [Nat.zero_mul, Nat.zero_add, List.getElem?_append_left (by show j < 8; exact hj)]
    simp
  | a :: l, i + 1, o, h, j, hj => by
    show (a.vals.toList ++ opCells l)[(i + 1) * 8 + j]? = _
    rw [List.getElem?_append_right (by show 8 ≤ (i + 1) * 8 + j; omega)]
    have := opCells_get l i o (by simpa using h) j hj
    rw [show (i + 1) * 8 + j - a.vals.toList.length = i * 8 + j by show (i + 1) * 8 + j - 8 = _; omega]
    exact this
/-- One call of a list of them. -/
structure OpAt (X : World) (g b : Nat) (o : OpV) : Prop where
  c0 : X.cell? ⟨g, b, none⟩ = some (.int .i64 o.k)
  c1 : X.cell? ⟨g, b + 1, none⟩ = some (.int .i64 o.pane)
  c2 : X.cell? ⟨g, b + 2, none⟩ = some (.int .i64 o.kind)
  c3 : X.cell? ⟨g, b + 3, none⟩ = some (.int .i64 o.size)
  c4 : X.cell? ⟨g, b + 4, none⟩ = some (.bool o.bf)
  c5 : X.cell? ⟨g, b + 5, none⟩ = some (.int .i64 o.id)
  c6 : X.cell? ⟨g, b + 6, none⟩ = some (.int .i64 o.a)
  c7 : X.cell? ⟨g, b + 7, none⟩ = some (.int .i64 o.b)
theorem OpsIn.row {w : World} {v : Value} {l : List OpV} (h : OpsIn w v l) : ∃ ad cap, v = .slice ad l.length cap ∧ ∀ (i : Nat) (o : OpV), l[i]? = some o → ∃ g off, ad = some ⟨g, off, none⟩ ∧ ∀ X, Below w.heap.size w X → OpAt X g (off + i * 8) o := by
  obtain ⟨ad, cap, rfl, _, h2⟩ := h
  refine ⟨ad, cap, rfl, fun i o hi => ?_⟩
  rcases h2 with rfl | ⟨g, off, rfl, h3⟩
  · simp at hi
  · refine ⟨g, off, rfl, fun X hX => ?_⟩
    have hc : ∀ j u, j < 8 → o.vals[j]? = some u → X.cell? ⟨g, off + i * 8 + j, none⟩ = some u := fun j u hj hu => by
      have h5 := h3 (i * 8 + j) u ((opCells_get l i o hi j hj).trans hu)
      rw [← Nat.add_assoc] at h5
      exact (hX.cell (p := ⟨g, off + i * 8 + j, none⟩) (World.block_lt_of_cell? w _ h5)).trans h5
    exact ⟨hc 0 _ (by decide) rfl, hc 1 _ (by decide) rfl, hc 2 _ (by decide) rfl, hc 3 _ (by decide) rfl, hc 4 _ (by decide) rfl, hc 5 _ (by decide) rfl, hc 6 _ (by decide) rfl, hc 7 _ (by decide) rfl⟩

end Go.Proofs.Ytnepemlagnnngaa

namespace Go.Proofs.Ytnepemlagnnngaa
open Go.RowKit Go.ChangeShapes Go.WideShapes
set_option linter.unusedVariables false

theorem bytesOpL : Try.prog.bytesOf 40 = 64 := by kernel_rfl
theorem ops_short {H : Type} {ts : List TypeId} {ds : List (DataW H)} (h : (DataW.weightsEach Try.prog ts ds).all (· ≤ reachBytes) = true) {l : List OpV} {d : DataW H} {j : Nat} (ht : ts[j]? = some 34) (hd : ds[j]? = some d) (hl : l = [] ∨ ∃ es sp, d = .slice es sp ∧ es.length = l.length) : l.length ≤ 140737488351232 := by
  rcases hl with rfl | ⟨es, sp, rfl, he⟩
  · simp
  · have := sized_slice h ht hd underOpsL
    rw [bytesOpL] at this
    simp only [reachBytes] at this
    have h2 : l.length * 64 ≤ (es.length + sp.length) * 64 := Nat.mul_le_mul_right _ (by omega)
    omega

end Go.Proofs.Ytnepemlagnnngaa
