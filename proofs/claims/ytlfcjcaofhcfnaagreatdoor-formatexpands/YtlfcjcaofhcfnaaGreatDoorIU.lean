/-
  Formats: a list of variables that is handed in, opened.
-/
import Derived.Test.YtlfcjcaofhcfnaaGreatDoorRows
import Derived.Test.YtlfcjcaofhcfnaaGreatDoorGD
import Derived.Deep.Slices
import Derived.ChangeArms
import Derived.WideShapes
import Derived.Carry
import Derived.OpenShut
namespace Go.Proofs.YtlfcjcaofhcfnaaGreatDoor
open Go.RowKit Go.ChangeShapes Go.WideShapes
set_option linter.unusedVariables false
set_option maxRecDepth 100000

theorem cell_blockF {w : World} {a : Addr} {v : Value} (h : w.cell? a = some v) : a.block < w.heap.size := by
  rcases Nat.lt_or_ge a.block w.heap.size with h1 | h1
  · exact h1
  · simp [World.cell?, Array.getElem?_eq_none h1] at h
theorem laidOutF : laidOutB Tryz.prog = true := by kernel_rfl
theorem cellsVar : Tryz.prog.cellsOf 44 = 2 := by kernel_rfl
theorem cells9F : Tryz.prog.cellsOf 9 = 1 := by kernel_rfl
theorem fieldsVar : Tryz.prog.underlying 44 = some (.struct #[⟨"Name", 9, 0, false, "", "", 0⟩, ⟨"Value", 9, 1, false, "", "", 16⟩]) := by kernel_rfl
theorem underVars : Tryz.prog.underlying 22 = some (.slice 44) := by kernel_rfl
theorem add_plainF (b o j : Nat) : (⟨b, o, none⟩ : Addr).add j = ⟨b, o + j, none⟩ := by unfold Addr.add; split <;> simp_all
theorem range_getF {α : Type} {n i : Nat} {f : Nat → α} {x : α} (h : ((List.range n).map f)[i]? = some x) : i < n ∧ f i = x := by
  have hi := (List.getElem?_eq_some_iff.1 h).1
  rw [List.length_map, List.length_range] at hi
  refine ⟨hi, ?_⟩
  simpa [hi] using h
theorem bulk_mem {H : Type} (D : Nat → DataW H) : ∀ (L : List Nat) (i : Nat), i ∈ L → Rows.uptoBulk (D i) ≤ Rows.uptoBulkAll (L.map D)
  | [], i, h => by cases h
  | j :: L, i, h => by
    simp only [List.map_cons, Rows.uptoBulkAll]
    rcases List.mem_cons.1 h with rfl | h
    · omega
    · have := bulk_mem D L i h
      omega
theorem bulk_len {H : Type} (D : Nat → DataW H) : ∀ (L : List Nat), (∀ i ∈ L, 1 ≤ Rows.uptoBulk (D i)) → L.length ≤ Rows.uptoBulkAll (L.map D)
  | [], _ => Nat.zero_le _
  | j :: L, h => by
    have h1 := h j List.mem_cons_self
    have := bulk_len D L fun i hi => h i (List.mem_cons_of_mem _ hi)
    simp only [List.map_cons, Rows.uptoBulkAll, List.length_cons]
    omega
theorem open_var {H : Type} {enc : TypeId × Value → H} {W : World} {base : Nat} {spare : Nat → Bool} {held : Bool} {fuel : Nat} {cs : List Value} {x : DataW H × List MemPlace} (h : DataW.trod enc Tryz.prog W base spare held fuel 44 cs = some x) :
    ∃ p : List UInt8 × List UInt8, cs = [.string (str p.1), .string (str p.2)] ∧ x.2 = [] ∧ p.1.length + p.2.length + 1 ≤ Rows.uptoBulk x.1 := by
  obtain ⟨xs, n, _, hx, hl, hlen, hfs⟩ := DataW.trod_struct fieldsVar h
  rw [cellsVar] at hl
  match cs, hl, xs, hlen with
  | [c0, c1], _, [y0, y1], _ =>
    have t0 : DataW.trod enc Tryz.prog W base spare held n 9 [c0] = some y0 := by have h := hfs 0 _ rfl; simpa [cells9F] using h
    have t1 : DataW.trod enc Tryz.prog W base spare held n 9 [c1] = some y1 := by have h := hfs 1 _ rfl; simpa [cells9F] using h
    obtain ⟨z0, e0, rfl, w0⟩ := DataW.trod_string Tryz.underlying9 t0
    obtain ⟨z1, e1, rfl, w1⟩ := DataW.trod_string Tryz.underlying9 t1
    obtain rfl := (List.cons.inj e0).1
    obtain rfl := (List.cons.inj e1).1
    refine ⟨(z0.data.toList, z1.data.toList), rfl, by rw [hx]; rfl, ?_⟩
    rw [hx]
    simp [Rows.uptoBulk, Rows.uptoBulkAll]
    omega
/-- The variables, and how much they weigh. -/
theorem open_vars {H : Type} {enc : TypeId × Value → H} {W : World} {r : Reach} {b0 base : Nat} {spare : Nat → Bool} {held : Bool} {v : Value} {d : DataW H} {p : List MemPlace} (hv : Value.okWide Tryz.prog W r b0 22 v) (h : DataW.Trod enc Tryz.prog W base spare held 22 v d p) :
    ∃ vs : Vars, (Rows.uptoBulk d ≤ 1048576 → VarsIn W v vs) ∧ (∀ q ∈ vs, q.1.length + q.2.length ≤ Rows.uptoBulk d) ∧ vs.length ≤ Rows.uptoBulk d ∧ ∀ x ∈ p, x.block < W.heap.size := by
  obtain ⟨ad, len, cap, rfl⟩ := okWide_slice underVars hv
  obtain ⟨fuel, hf⟩ := h
  rcases Deep.open_slice underVars hf with ⟨h0, hx⟩ | ⟨a, len', cap', m, n, D, Pl, h0, hb, hl, hm, hmm, hx, hall⟩
  · simp [Value.cells] at h0
    obtain ⟨rfl, rfl, rfl⟩ := h0
    simp only [Prod.mk.injEq] at hx
    obtain ⟨rfl, rfl⟩ := hx
    exact ⟨[], fun _ => ⟨none, 0, rfl, by decide, fun i q hq => by simp at hq⟩, fun q hq => absurd hq List.not_mem_nil, Nat.zero_le _, fun x hx => absurd hx List.not_mem_nil⟩
  · simp [Value.cells] at h0
    obtain ⟨rfl, rfl, rfl⟩ := h0
    simp only [Prod.mk.injEq] at hx
    obtain ⟨rfl, rfl⟩ := hx
    have hlm : len ≤ m := by rw [hmm]; split <;> omega
    rw [cellsVar] at hall ⊢
    have each : ∀ i, i < m → ∃ q : List UInt8 × List UInt8, Pl i = [] ∧ W.cell? ((a.add (i * 2)).add 0) = some (.string (str q.1)) ∧ W.cell? ((a.add (i * 2)).add 1) = some (.string (str q.2)) ∧ q.1.length + q.2.length + 1 ≤ Rows.uptoBulk (D i) := fun i hi => by
      obtain ⟨cs', h1, h2⟩ := hall i hi
      obtain ⟨_, _, hcell⟩ := World.cells?_some h1
      obtain ⟨q, rfl, hx, hr⟩ := open_var h2
      exact ⟨q, hx, by rw [hcell 0 (by decide)]; rfl, by rw [hcell 1 (by decide)]; rfl, hr⟩
    have hplaces : ∀ x ∈ MemPlace.row a (m * 2) ++ (List.range m).flatMap Pl, x.block < W.heap.size := fun x hx => by
      rcases List.mem_append.1 hx with hx | hx
      · obtain ⟨i, hi, rfl⟩ := MemPlace.mem_row.1 hx
        obtain ⟨q, _, hc, _⟩ := each 0 (by omega)
        have h0 := cell_blockF hc
        rw [Deep.add_add] at h0
        show a.block < W.heap.size
        simpa [Addr.add] using h0
      · obtain ⟨i, hi, hx⟩ := List.mem_flatMap.1 hx
        obtain ⟨q, hp, _⟩ := each i (List.mem_range.1 hi)
        rw [hp] at hx
        cases hx
    obtain ⟨E, hEv⟩ := Deep.choose_lt each
    have hlen : ((List.range len).map E).length = len := by rw [List.length_map, List.length_range]
    have hbl := bulk_len D (List.range len) fun i hi => by have := (hEv i (by have := List.mem_range.1 hi; omega)).2.2.2; omega
    rw [List.length_range] at hbl
    refine ⟨(List.range len).map E, fun hk => ?_, fun q hq => ?_, ?_, hplaces⟩
    · refine ⟨some a, cap, by rw [hlen], ?_, fun i q hq => ?_⟩
      · rw [hlen]
        simp only [Rows.uptoBulk] at hk
        omega
      · obtain ⟨hi, e⟩ := range_getF hq
        obtain ⟨b, off, spot⟩ := a
        obtain ⟨_, g0, g1, _⟩ := hEv i (by omega)
        obtain ⟨_, z0, _, _⟩ := hEv 0 (by omega)
        have hspot : spot = none := by
          have := World.cell?_spot z0
          simpa [Addr.add] using this
        subst hspot
        rw [add_plainF, add_plainF] at g0 g1
        subst e
        exact ⟨b, off, rfl, cell_blockF g0, g0, g1⟩
    · obtain ⟨i, hi⟩ := List.getElem?_of_mem hq
      obtain ⟨hi, e⟩ := range_getF hi
      have h1 := (hEv i (by omega)).2.2.2
      have h2 := bulk_mem D (List.range len) i (List.mem_range.2 hi)
      simp only [Rows.uptoBulk]
      rw [← e]
      omega
    · rw [hlen]
      simp only [Rows.uptoBulk]
      omega
end Go.Proofs.YtlfcjcaofhcfnaaGreatDoor
