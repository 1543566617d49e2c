/-
  A list of numbers that came in, opened.
-/
import Derived.Test.YtglncninkocgaabGreatDoorCZD
import Derived.Test.YtglncninkocgaabGreatDoorDE
import Derived.ChangeSlices
namespace Go.Proofs.YtglncninkocgaabGreatDoor
open Go.RowKit Go.ChangeShapes Go.WideShapes
set_option linter.unusedVariables false
set_option maxRecDepth 100000

theorem underInts : Tryz.prog.underlying 23 = some (.slice 3) := by kernel_rfl
theorem underI3 : Tryz.prog.underlying 3 = some (.int .i64) := by kernel_rfl
theorem cellsI3 : Tryz.prog.cellsOf 3 = 1 := by kernel_rfl
theorem bytesI3 : Tryz.prog.bytesOf 3 = 8 := by kernel_rfl
theorem open_intsN {H : Type} {enc : TypeId × Value → H} {W : World} {r : Reach} {b0 base : Nat} {spare : Nat → Bool} {held : Bool} {v : Value} {d : DataW H} {p : List MemPlace} (hv : Value.okWide Tryz.prog W r b0 23 v) (h : DataW.Trod enc Tryz.prog W base spare held 23 v d p) :
    ∃ zs : List Int, IntsIn W v zs ∧ (v = .slice none 0 0 ∨ ∃ a n c, v = .slice (some a) n c) ∧ True ∧ (zs = [] ∨ ∃ es sp, d = .slice es sp ∧ es.length = zs.length) ∧ ∀ x ∈ p, x.block < W.heap.size := by
  obtain ⟨ad, len, cap, rfl⟩ := okWide_slice underInts hv
  obtain ⟨fuel, hf⟩ := h
  rcases Go.ChangeShapes.open_ints underInts underI3 cellsI3 hf with ⟨h0, hx⟩ | ⟨a, len', cap', zs, h0, hb, hl, hm, hmm, hx, hall, hwf⟩
  · simp [Value.cells] at h0
    obtain ⟨rfl, rfl, rfl⟩ := h0
    simp only [Prod.mk.injEq] at hx
    obtain ⟨rfl, rfl⟩ := hx
    exact ⟨[], ⟨_, _, rfl, .inl rfl⟩, .inl rfl, trivial, .inl rfl, (fun x hx => absurd hx List.not_mem_nil)⟩
  · simp [Value.cells] at h0
    obtain ⟨rfl, rfl, rfl⟩ := h0
    simp only [Prod.mk.injEq] at hx
    obtain ⟨rfl, rfl⟩ := hx
    have hlm : len ≤ zs.length := by rw [hmm]; split <;> omega
    have hlen : (zs.take len).length = len := by rw [List.length_take]; omega
    refine ⟨zs.take len, ?_, .inr ⟨_, _, _, rfl⟩, trivial, .inr ⟨_, _, rfl, by simp [Go.ChangeShapes.lits]⟩, ?_⟩
    · by_cases hz : len = 0
      · subst hz
        exact ⟨_, _, rfl, .inl rfl⟩
      · obtain ⟨b, off, spot⟩ := a
        have g0 := hall 0 (by omega)
        have hspot : spot = none := by
          have := World.cell?_spot g0
          simpa [Addr.add] using this
        subst hspot
        refine ⟨_, _, by rw [hlen], .inr ⟨b, off, rfl, fun j x hx => ?_⟩⟩
        have hj : j < len := by have := (List.getElem?_eq_some_iff.1 hx).1; omega
        have h2 := hall j (by omega)
        rw [add_plainL] at h2
        rw [List.getElem?_take, if_pos hj] at hx
        rw [h2, List.getD_eq_getElem?_getD, hx]
        rfl
    · intro x hx
      obtain ⟨i, hi, rfl⟩ := MemPlace.mem_row.1 hx
      have h0 := cell_blockL (hall i hi)
      show a.block < W.heap.size
      have e : (a.add i).block = a.block := by unfold Addr.add; split <;> rfl
      rw [← e]
      exact h0
theorem ints_short {H : Type} {ts : List TypeId} {ds : List (DataW H)} (h : (DataW.weightsEach Tryz.prog ts ds).all (· ≤ reachBytes) = true) {j : Nat} {l : List Int} {d : DataW H} (ht : ts[j]? = some 23) (hd : ds[j]? = some d) (hl : l = [] ∨ ∃ es sp, d = .slice es sp ∧ es.length = l.length) : l.length * 8 ≤ 140737488351232 := by
  rcases hl with rfl | ⟨es, sp, rfl, he⟩
  · simp
  · have := sized_slice h ht hd underInts
    rw [bytesI3] at this
    simp only [reachBytes] at this
    have h2 : l.length * 8 ≤ (es.length + sp.length) * 8 := Nat.mul_le_mul_right _ (by omega)
    omega
end Go.Proofs.YtglncninkocgaabGreatDoor
