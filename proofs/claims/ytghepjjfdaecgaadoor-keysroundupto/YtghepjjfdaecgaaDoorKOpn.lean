/-
  What a key that comes in is.
-/
import Derived.Test.YtghepjjfdaecgaaDoorRows
import Derived.Test.YtghepjjfdaecgaaDoorProg
import Derived.OpenShut
import Derived.WideShapes
import Derived.Deep.Slices
namespace Go.Proofs.YtghepjjfdaecgaaDoor
open Go.RowKit Go.ChangeShapes Go.WideShapes
set_option linter.unusedVariables false
set_option maxRecDepth 100000

theorem laidOutV : laidOutB Tryd.prog = true := by kernel_rfl
theorem cellsKeyU : Tryd.prog.cellsOf 30 = 2 := by kernel_rfl
theorem cells3U : Tryd.prog.cellsOf 3 = 1 := by kernel_rfl
theorem fieldsKey : Tryd.prog.underlying 30 = some (.struct #[⟨"Code", 3, 0, false, "", "", 0⟩, ⟨"Mods", 3, 1, false, "", "", 8⟩]) := by kernel_rfl
theorem array2V {α : Type} {cs : Array α} (h : cs.size = 2) : ∃ a b, cs = #[a, b] := by
  obtain ⟨l⟩ := cs
  match l, h with
  | [a, b], _ => exact ⟨a, b, rfl⟩
theorem open_key {H : Type} {enc : TypeId × Value → H} {W : World} {r : Reach} {b0 base : Nat} {spare : Nat → Bool} {held : Bool} {v : Value} {d : DataW H} {p : List MemPlace} (hv : Value.okWide Tryd.prog W r b0 30 v) (h : DataW.Trod enc Tryd.prog W base spare held 30 v d p) :
    ∃ x y : Int, v = .agg #[.int .i64 x, .int .i64 y] ∧ p = [] := by
  obtain ⟨cs, rfl, hsz⟩ := okWide_struct fieldsKey hv
  obtain ⟨c0, c1, rfl⟩ := array2V (hsz.trans cellsKeyU)
  obtain ⟨fuel, hf⟩ := h
  obtain ⟨xs, n, _, hx, hl, hlen, hfs⟩ := DataW.trod_struct fieldsKey hf
  match xs, hlen with
  | [y0, y1], _ =>
    have t0 : DataW.trod enc Tryd.prog W base spare held n 3 [c0] = some y0 := by have h := hfs 0 _ rfl; simpa [Value.cells, cells3U] using h
    have t1 : DataW.trod enc Tryd.prog W base spare held n 3 [c1] = some y1 := by have h := hfs 1 _ rfl; simpa [Value.cells, cells3U] using h
    obtain ⟨z0, e0, rfl, w0⟩ := DataW.trod_int Tryd.underlying3 t0
    obtain ⟨z1, e1, rfl, w1⟩ := DataW.trod_int Tryd.underlying3 t1
    obtain rfl := (List.cons.inj e0).1
    obtain rfl := (List.cons.inj e1).1
    simp only [Prod.mk.injEq] at hx
    exact ⟨z0, z1, rfl, by simpa using hx.2⟩
end Go.Proofs.YtghepjjfdaecgaaDoor
