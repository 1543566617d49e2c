/-
  Layouts: what a cut that comes in is.
-/
import Derived.Test.YtnepemlagnnngaaCOp
import Derived.WideShapes
namespace Go.Proofs.Ytnepemlagnnngaa
open Go.RowKit Go.ChangeShapes Go.WideShapes
set_option linter.unusedVariables false

theorem cellsCutL : Try.prog.cellsOf 24 = 5 := by kernel_rfl
theorem cells4L : Try.prog.cellsOf 4 = 1 := by kernel_rfl
theorem fieldsCutL : Try.prog.underlying 24 = some (.struct #[⟨"Pane", 3, 0, false, "", "", 0⟩, ⟨"Kind", 3, 1, false, "", "", 8⟩, ⟨"Size", 3, 2, false, "", "", 16⟩, ⟨"Before", 4, 3, false, "", "", 24⟩, ⟨"Id", 3, 4, false, "", "", 32⟩]) := by kernel_rfl
theorem array5L {α : Type} {cs : Array α} (h : cs.size = 5) : ∃ a b c d e, cs = #[a, b, c, d, e] := by
  obtain ⟨l⟩ := cs
  match l, h with
  | [a, b, c, d, e], _ => exact ⟨a, b, c, d, e, rfl⟩
set_option maxRecDepth 100000 in
theorem open_cutL {H : Type} {enc : TypeId × Value → H} {W : World} {r : Reach} {b0 base : Nat} {spare : Nat → Bool} {held : Bool} {v : Value} {d : DataW H} {p : List MemPlace} (hv : Value.okWide Try.prog W r b0 24 v) (h : DataW.Trod enc Try.prog W base spare held 24 v d p) :
    ∃ x k z i : Int, ∃ bf : Bool, v = .agg #[.int .i64 x, .int .i64 k, .int .i64 z, .bool bf, .int .i64 i] ∧ p = [] ∧ In64 x ∧ In64 k ∧ In64 z ∧ In64 i := by
  obtain ⟨cs, rfl, hsz⟩ := okWide_struct fieldsCutL hv
  obtain ⟨c0, c1, c2, c3, c4, rfl⟩ := array5L (hsz.trans cellsCutL)
  obtain ⟨fuel, hf⟩ := h
  obtain ⟨xs, n, _, hx, hl, hlen, hfs⟩ := DataW.trod_struct fieldsCutL hf
  match xs, hlen with
  | [y0, y1, y2, y3, y4], _ =>
    have t0 : DataW.trod enc Try.prog W base spare held n 3 [c0] = some y0 := by have h := hfs 0 _ rfl; simpa [Value.cells, cells3L, cells4L] using h
    have t1 : DataW.trod enc Try.prog W base spare held n 3 [c1] = some y1 := by have h := hfs 1 _ rfl; simpa [Value.cells, cells3L, cells4L] using h
    have t2 : DataW.trod enc Try.prog W base spare held n 3 [c2] = some y2 := by have h := hfs 2 _ rfl; simpa [Value.cells, cells3L, cells4L] using h
    have t3 : DataW.trod enc Try.prog W base spare held n 4 [c3] = some y3 := by have h := hfs 3 _ rfl; simpa [Value.cells, cells3L, cells4L] using h
    have t4 : DataW.trod enc Try.prog W base spare held n 3 [c4] = some y4 := by have h := hfs 4 _ rfl; simpa [Value.cells, cells3L, cells4L] using h
    obtain ⟨z0, e0, rfl, w0⟩ := DataW.trod_int Try.underlying3 t0
    obtain ⟨z1, e1, rfl, w1⟩ := DataW.trod_int Try.underlying3 t1
    obtain ⟨z2, e2, rfl, w2⟩ := DataW.trod_int Try.underlying3 t2
    obtain ⟨z3, e3, rfl⟩ := DataW.trod_bool Try.underlying4 t3
    obtain ⟨z4, e4, rfl, w4⟩ := DataW.trod_int Try.underlying3 t4
    obtain rfl := (List.cons.inj e0).1
    obtain rfl := (List.cons.inj e1).1
    obtain rfl := (List.cons.inj e2).1
    obtain rfl := (List.cons.inj e3).1
    obtain rfl := (List.cons.inj e4).1
    simp only [Prod.mk.injEq] at hx
    exact ⟨z0, z1, z2, z4, z3, rfl, by simpa using hx.2, int_wfL w0, int_wfL w1, int_wfL w2, int_wfL w4⟩

end Go.Proofs.Ytnepemlagnnngaa
