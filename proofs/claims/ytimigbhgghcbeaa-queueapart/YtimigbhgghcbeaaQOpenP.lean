/-
  Two numbers, opened.
-/
import Derived.Test.YtimigbhgghcbeaaQOpen
import Derived.OpenShut
namespace Go.Proofs.Ytimigbhgghcbeaa
open Go.RowKit Go.ChangeShapes Go.WideShapes
set_option linter.unusedVariables false

theorem underPair : Try.prog.underlying 48 = some (.array 2 3) := by kernel_rfl
theorem cellsPair : Try.prog.cellsOf 48 = 2 := by kernel_rfl
theorem array2 {α : Type} {cs : Array α} (h : cs.size = 2) : ∃ a b, cs = #[a, b] := by
  obtain ⟨l⟩ := cs
  match l, h with
  | [a, b], _ => exact ⟨a, b, rfl⟩
set_option maxRecDepth 100000 in
theorem open_pair {H : Type} {enc : TypeId × Value → H} {W : World} {r : Reach} {b0 base : Nat} {spare : Nat → Bool} {held : Bool} {v : Value} {d : DataW H} {p : List MemPlace} (hv : Value.okWide Try.prog W r b0 48 v) (h : DataW.Trod enc Try.prog W base spare held 48 v d p) :
    ∃ x y, v = .agg #[.int .i64 x, .int .i64 y] ∧ p = [] ∧ (-9223372036854775808 ≤ x ∧ x ≤ 9223372036854775807) ∧ (-9223372036854775808 ≤ y ∧ y ≤ 9223372036854775807) := by
  have hag : ∃ cs, v = .agg cs ∧ cs.size = Try.prog.cellsOf 48 := by
    simp only [Value.okWide, underPair] at hv
    obtain ⟨cs, h1, h2, _⟩ := hv
    exact ⟨cs, h1, h2⟩
  obtain ⟨cs, rfl, hsz⟩ := hag
  obtain ⟨c0, c1, rfl⟩ := array2 (hsz.trans cellsPair)
  obtain ⟨fuel, hf⟩ := h
  obtain ⟨xs, n, _, hx, hl, hlen, hfs⟩ := DataW.trod_array underPair hf
  match xs, hlen with
  | [y0, y1], _ =>
    have t0 : DataW.trod enc Try.prog W base spare held n 3 [c0] = some y0 := by have h := hfs 0 (by decide); simpa [Value.cells, cells3Q] using h
    have t1 : DataW.trod enc Try.prog W base spare held n 3 [c1] = some y1 := by have h := hfs 1 (by decide); simpa [Value.cells, cells3Q] using h
    obtain ⟨z0, e0, rfl, w0⟩ := DataW.trod_int Try.underlying3 t0
    obtain ⟨z1, e1, rfl, w1⟩ := DataW.trod_int Try.underlying3 t1
    obtain rfl := (List.cons.inj e0).1
    obtain rfl := (List.cons.inj e1).1
    simp only [Prod.mk.injEq] at hx
    exact ⟨z0, z1, rfl, by simpa using hx.2, int_wfQ w0, int_wfQ w1⟩

end Go.Proofs.Ytimigbhgghcbeaa
