/-
  What a screen's setup that comes in is.
-/
import Derived.Test.YtooahffclghcjaaGreatDoorRows
import Derived.Test.YtooahffclghcjaaGreatDoorProg
import Derived.OpenShut
import Derived.WideShapes
import Derived.Deep.Slices
namespace Go.Proofs.YtooahffclghcjaaGreatDoor
open Go.RowKit Go.ChangeShapes Go.WideShapes
set_option linter.unusedVariables false
set_option maxRecDepth 100000

theorem laidOutV : laidOutB Tryz.prog = true := by kernel_rfl
theorem cellsSetup : Tryz.prog.cellsOf 23 = 3 := by kernel_rfl
theorem cells3U : Tryz.prog.cellsOf 3 = 1 := by kernel_rfl
theorem fieldsSetup : Tryz.prog.underlying 23 = some (.struct #[⟨"W", 3, 0, false, "", "", 0⟩, ⟨"H", 3, 1, false, "", "", 8⟩, ⟨"History", 3, 2, false, "", "", 16⟩]) := by kernel_rfl
theorem array3V {α : Type} {cs : Array α} (h : cs.size = 3) : ∃ a b c, cs = #[a, b, c] := by
  obtain ⟨l⟩ := cs
  match l, h with
  | [a, b, c], _ => exact ⟨a, b, c, rfl⟩
theorem open_setup {H : Type} {enc : TypeId × Value → H} {W : World} {r : Reach} {b0 base : Nat} {spare : Nat → Bool} {held : Bool} {v : Value} {d : DataW H} {p : List MemPlace} (hv : Value.okWide Tryz.prog W r b0 23 v) (h : DataW.Trod enc Tryz.prog W base spare held 23 v d p) :
    ∃ x y z : Int, v = .agg #[.int .i64 x, .int .i64 y, .int .i64 z] ∧ p = [] := by
  obtain ⟨cs, rfl, hsz⟩ := okWide_struct fieldsSetup hv
  obtain ⟨c0, c1, c2, rfl⟩ := array3V (hsz.trans cellsSetup)
  obtain ⟨fuel, hf⟩ := h
  obtain ⟨xs, n, _, hx, hl, hlen, hfs⟩ := DataW.trod_struct fieldsSetup hf
  match xs, hlen with
  | [y0, y1, y2], _ =>
    have t0 : DataW.trod enc Tryz.prog W base spare held n 3 [c0] = some y0 := by have h := hfs 0 _ rfl; simpa [Value.cells, cells3U] using h
    have t1 : DataW.trod enc Tryz.prog W base spare held n 3 [c1] = some y1 := by have h := hfs 1 _ rfl; simpa [Value.cells, cells3U] using h
    have t2 : DataW.trod enc Tryz.prog W base spare held n 3 [c2] = some y2 := by have h := hfs 2 _ rfl; simpa [Value.cells, cells3U] using h
    obtain ⟨z0, e0, rfl, w0⟩ := DataW.trod_int Tryz.underlying3 t0
    obtain ⟨z1, e1, rfl, w1⟩ := DataW.trod_int Tryz.underlying3 t1
    obtain ⟨z2, e2, rfl, w2⟩ := DataW.trod_int Tryz.underlying3 t2
    obtain rfl := (List.cons.inj e0).1
    obtain rfl := (List.cons.inj e1).1
    obtain rfl := (List.cons.inj e2).1
    simp only [Prod.mk.injEq] at hx
    exact ⟨z0, z1, z2, rfl, by simpa using hx.2⟩
end Go.Proofs.YtooahffclghcjaaGreatDoor
