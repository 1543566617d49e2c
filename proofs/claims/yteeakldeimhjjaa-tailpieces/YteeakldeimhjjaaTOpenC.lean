/-
  The tail's arguments, opened: two lists of numbers.
-/
import Derived.Test.YteeakldeimhjjaaTOpenB
import Derived.Test.YteeakldeimhjjaaTPiecesW
import Derived.OpenShut
namespace Go.Proofs.Yteeakldeimhjjaa
open Go.RowKit Go.ChangeShapes Go.WideShapes
set_option linter.unusedVariables false

theorem underInts : Try.prog.underlying 34 = some (.slice 3) := by kernel_rfl
theorem underCuts : Try.prog.underlying 35 = some (.array 2 34) := by kernel_rfl
theorem cellsCuts : Try.prog.cellsOf 35 = 2 := by kernel_rfl
theorem cellsInts : Try.prog.cellsOf 34 = 1 := by kernel_rfl

theorem open_list {H : Type} {enc : TypeId × Value → H} {W : World} {base : Nat} {spare : Nat → Bool} {held : Bool} {fuel : Nat} {c : Value} {x : DataW H × List MemPlace} (hf : DataW.trod enc Try.prog W base spare held fuel 34 [c] = some x) :
    ∃ ao n cp cs, c = .slice ao n cp ∧ Cuts W ao n cs ∧ ∀ y ∈ x.2, y.block < W.heap.size := by
  rcases Deep.open_slice1 underInts cells3 hf with ⟨h0, hx⟩ | ⟨a, len, cap, m, n, V, D, Pl, h0, hb, hl, hm, hmm, hx, hall⟩
  · subst hx
    refine ⟨none, 0, 0, [], (List.cons.inj h0).1, ⟨rfl, by decide, (fun e he => absurd he List.not_mem_nil), fun h => absurd h (Nat.lt_irrefl _)⟩, (fun x hx => absurd hx List.not_mem_nil)⟩
  · subst hx
    have hlm : len ≤ m := by rw [hmm]; split <;> omega
    have each : ∀ i, i < m → ∃ o : Int, Pl i = [] ∧ In64 o ∧ W.cell? (a.add i) = some (.int .i64 o) := fun i hi => by
      obtain ⟨h1, h2⟩ := hall i hi
      obtain ⟨z, e1, e2, w1⟩ := DataW.trod_int Try.underlying3 h2
      simp only [Prod.mk.injEq] at e2
      refine ⟨z, e2.2, int_wf w1, ?_⟩
      rw [h1, (List.cons.inj e1).1]
    have hplaces : ∀ x ∈ MemPlace.row a m ++ (List.range m).flatMap Pl, x.block < W.heap.size := fun x hx => by
      rcases List.mem_append.1 hx with hx | hx
      · obtain ⟨i, hi, rfl⟩ := MemPlace.mem_row.1 hx
        obtain ⟨ev, _, _, hc⟩ := each 0 (by omega)
        have h0 := cell_block hc
        show a.block < W.heap.size
        simpa [Addr.add] using h0
      · obtain ⟨i, hi, hx⟩ := List.mem_flatMap.1 hx
        obtain ⟨ev, hp, _⟩ := each i (List.mem_range.1 hi)
        rw [hp] at hx
        cases hx
    obtain ⟨E, hEv⟩ := Deep.choose_lt each
    have hlen : ((List.range len).map E).length = len := by rw [List.length_map, List.length_range]
    refine ⟨some a, len, cap, (List.range len).map E, (List.cons.inj h0).1, ⟨hlen, Nat.le_trans hl hm, ?_, fun hn => ?_⟩, hplaces⟩
    · intro e he
      obtain ⟨i, hi, rfl⟩ := List.mem_map.1 he
      exact (hEv i (by have := List.mem_range.1 hi; omega)).2.1
    · obtain ⟨b, off, spot⟩ := a
      have g0 := (hEv 0 (by omega)).2.2
      have hspot : spot = none := by
        have := World.cell?_spot g0
        simpa [Addr.add] using this
      subst hspot
      have hb0 : b < W.heap.size := by
        have := cell_block g0
        simpa [Addr.add] using this
      refine ⟨b, off, rfl, fun X hX i hi => ?_⟩
      rw [hlen] at hi
      have h2 := (hEv i (by omega)).2.2
      rw [add_plain] at h2
      rw [hX.cell (p := ⟨b, off + i, none⟩) hb0, h2]
      simp

set_option maxRecDepth 100000 in
theorem open_cuts {H : Type} {enc : TypeId × Value → H} {W : World} {r : Reach} {b0 base : Nat} {spare : Nat → Bool} {held : Bool} {v : Value} {d : DataW H} {p : List MemPlace} (hv : Value.okWide Try.prog W r b0 35 v) (h : DataW.Trod enc Try.prog W base spare held 35 v d p) :
    ∃ ao n cp cs ao' n' cp' cs', v = .agg #[.slice ao n cp, .slice ao' n' cp'] ∧ Cuts W ao n cs ∧ Cuts W ao' n' cs' ∧ ∀ x ∈ p, x.block < W.heap.size := by
  have hag : ∃ cs, v = .agg cs ∧ cs.size = Try.prog.cellsOf 35 := by
    simp only [Value.okWide, underCuts] at hv
    obtain ⟨cs, h1, h2, _⟩ := hv
    exact ⟨cs, h1, h2⟩
  obtain ⟨cs, rfl, hsz⟩ := hag
  obtain ⟨c0, c1, rfl⟩ := array2 (hsz.trans cellsCuts)
  obtain ⟨fuel, hf⟩ := h
  obtain ⟨xs, n, _, hx, hl, hlen, hfs⟩ := DataW.trod_array underCuts hf
  match xs, hlen with
  | [y0, y1], _ =>
    have t0 : DataW.trod enc Try.prog W base spare held n 34 [c0] = some y0 := by have h := hfs 0 (by decide); simpa [Value.cells, cellsInts] using h
    have t1 : DataW.trod enc Try.prog W base spare held n 34 [c1] = some y1 := by have h := hfs 1 (by decide); simpa [Value.cells, cellsInts] using h
    obtain ⟨a0, n0, p0, l0, rfl, k0, q0⟩ := open_list t0
    obtain ⟨a1, n1, p1, l1, rfl, k1, q1⟩ := open_list t1
    simp only [Prod.mk.injEq] at hx
    refine ⟨a0, n0, p0, l0, a1, n1, p1, l1, rfl, k0, k1, fun z hz => ?_⟩
    rw [hx.2] at hz
    simp only [List.flatMap_cons, List.flatMap_nil, List.append_nil, List.mem_append] at hz
    rcases hz with hz | hz
    · exact q0 z hz
    · exact q1 z hz

end Go.Proofs.Yteeakldeimhjjaa
