/-
  The tail's arguments, opened: a list of texts, two numbers.
-/
import Derived.Test.YteeakldeimhjjaaTOpen
import Derived.OpenShut
namespace Go.Proofs.Yteeakldeimhjjaa
open Go.RowKit Go.ChangeShapes Go.WideShapes
set_option linter.unusedVariables false

/-! A list of texts; two numbers. -/
theorem underStrs : Try.prog.underlying 51 = some (.slice 9) := by kernel_rfl
theorem underPair : Try.prog.underlying 52 = some (.array 2 3) := by kernel_rfl
theorem cellsPair : Try.prog.cellsOf 52 = 2 := by kernel_rfl
def StrsArg (w : World) (v : Value) (l : List ByteArray) : Prop :=
  (∃ a c, v = .slice a 0 c ∧ l = []) ∨ ∃ b off cap, v = .slice (some ⟨b, off, none⟩) l.length cap ∧ b < w.heap.size ∧ l.length ≤ 9223372036854775807 ∧ ∀ i (hi : i < l.length), w.cell? ⟨b, off + i, none⟩ = some (.string l[i])
theorem open_strs {H : Type} {enc : TypeId × Value → H} {W : World} {r : Reach} {b0 base : Nat} {spare : Nat → Bool} {held : Bool} {v : Value} {d : DataW H} {p : List MemPlace} (hv : Value.okWide Try.prog W r b0 51 v) (h : DataW.Trod enc Try.prog W base spare held 51 v d p) :
    ∃ l : List ByteArray, StrsArg W v l ∧ (∀ o ∈ l, o.size ≤ 9223372036854775807) ∧ True ∧ ∀ x ∈ p, x.block < W.heap.size := by
  obtain ⟨ad, len, cap, rfl⟩ := okWide_slice underStrs hv
  obtain ⟨fuel, hf⟩ := h
  rcases Deep.open_slice1 underStrs cells9 hf with ⟨h0, hx⟩ | ⟨a, len', cap', m, n, V, D, Pl, h0, hb, hl, hm, hmm, hx, hall⟩
  · simp [Value.cells] at h0
    obtain ⟨rfl, rfl, rfl⟩ := h0
    simp only [Prod.mk.injEq] at hx
    obtain ⟨rfl, rfl⟩ := hx
    exact ⟨[], .inl ⟨_, _, rfl, rfl⟩, (fun e he => absurd he List.not_mem_nil), trivial, (fun x hx => absurd hx List.not_mem_nil)⟩
  · simp [Value.cells] at h0
    obtain ⟨rfl, rfl, rfl⟩ := h0
    simp only [Prod.mk.injEq] at hx
    obtain ⟨rfl, rfl⟩ := hx
    have hlm : len ≤ m := by rw [hmm]; split <;> omega
    have each : ∀ i, i < m → ∃ o : ByteArray, Pl i = [] ∧ o.size ≤ 9223372036854775807 ∧ W.cell? (a.add i) = some (.string o) := fun i hi => by
      obtain ⟨h1, h2⟩ := hall i hi
      obtain ⟨z, e1, e2, w1⟩ := DataW.trod_string Try.underlying9 h2
      simp only [Prod.mk.injEq] at e2
      refine ⟨z, e2.2, w1, ?_⟩
      rw [h1, (List.cons.inj e1).1]
    have hplaces : ∀ x ∈ MemPlace.row a m ++ (List.range m).flatMap Pl, x.block < W.heap.size := fun x hx => by
      rcases List.mem_append.1 hx with hx | hx
      · obtain ⟨i, hi, rfl⟩ := MemPlace.mem_row.1 hx
        obtain ⟨ev, _, _, hc⟩ := each 0 (by omega)
        have h0 := cell_block hc
        show a.block < W.heap.size
        simpa [Addr.add] using h0
      · obtain ⟨i, hi, hx⟩ := List.mem_flatMap.1 hx
        obtain ⟨ev, hp, _⟩ := each i (List.mem_range.1 hi)
        rw [hp] at hx
        cases hx
    haveI : Inhabited ByteArray := ⟨⟨#[]⟩⟩
    obtain ⟨E, hEv⟩ := Deep.choose_lt each
    have hlen : ((List.range len).map E).length = len := by rw [List.length_map, List.length_range]
    refine ⟨(List.range len).map E, ?_, ?_, trivial, hplaces⟩
    · by_cases hz : len = 0
      · subst hz
        exact .inl ⟨_, _, rfl, rfl⟩
      · obtain ⟨b, off, spot⟩ := a
        have g0 := (hEv 0 (by omega)).2.2
        have hspot : spot = none := by
          have := World.cell?_spot g0
          simpa [Addr.add] using this
        subst hspot
        refine .inr ⟨b, off, cap, by rw [hlen], ?_, ?_, fun i hi => ?_⟩
        · have := cell_block g0
          simpa [Addr.add] using this
        · rw [hlen]
          exact Nat.le_trans hl hm
        · rw [hlen] at hi
          have h2 := (hEv i (by omega)).2.2
          rw [add_plain] at h2
          rw [h2]
          simp
    · intro e he
      obtain ⟨i, hi, rfl⟩ := List.mem_map.1 he
      exact (hEv i (by have := List.mem_range.1 hi; omega)).2.1

theorem array2 {α : Type} {cs : Array α} (h : cs.size = 2) : ∃ a b, cs = #[a, b] := by
  obtain ⟨l⟩ := cs
  match l, h with
  | [a, b], _ => exact ⟨a, b, rfl⟩
set_option maxRecDepth 100000 in
theorem open_pair {H : Type} {enc : TypeId × Value → H} {W : World} {r : Reach} {b0 base : Nat} {spare : Nat → Bool} {held : Bool} {v : Value} {d : DataW H} {p : List MemPlace} (hv : Value.okWide Try.prog W r b0 52 v) (h : DataW.Trod enc Try.prog W base spare held 52 v d p) :
    ∃ x y, v = .agg #[.int .i64 x, .int .i64 y] ∧ p = [] ∧ In64 x ∧ In64 y := by
  have hag : ∃ cs, v = .agg cs ∧ cs.size = Try.prog.cellsOf 52 := by
    simp only [Value.okWide, underPair] at hv
    obtain ⟨cs, h1, h2, _⟩ := hv
    exact ⟨cs, h1, h2⟩
  obtain ⟨cs, rfl, hsz⟩ := hag
  obtain ⟨c0, c1, rfl⟩ := array2 (hsz.trans cellsPair)
  obtain ⟨fuel, hf⟩ := h
  obtain ⟨xs, n, _, hx, hl, hlen, hfs⟩ := DataW.trod_array underPair hf
  match xs, hlen with
  | [y0, y1], _ =>
    have t0 : DataW.trod enc Try.prog W base spare held n 3 [c0] = some y0 := by have h := hfs 0 (by decide); simpa [Value.cells, cells3] using h
    have t1 : DataW.trod enc Try.prog W base spare held n 3 [c1] = some y1 := by have h := hfs 1 (by decide); simpa [Value.cells, cells3] using h
    obtain ⟨z0, e0, rfl, w0⟩ := DataW.trod_int Try.underlying3 t0
    obtain ⟨z1, e1, rfl, w1⟩ := DataW.trod_int Try.underlying3 t1
    obtain rfl := (List.cons.inj e0).1
    obtain rfl := (List.cons.inj e1).1
    simp only [Prod.mk.injEq] at hx
    exact ⟨z0, z1, rfl, by simpa using hx.2, int_wf w0, int_wf w1⟩

end Go.Proofs.Yteeakldeimhjjaa
