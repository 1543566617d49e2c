/-
  The layouts' arguments, opened: a list of cells, a pair of numbers.
-/
import Derived.Test.YtglncninkocgaabGreatDoorRows
import Derived.Test.YtglncninkocgaabGreatDoorCF
import Derived.Deep.Slices
import Derived.ChangeArms
import Derived.WideShapes
import Derived.Carry
import Derived.SizedLaws
namespace Go.Proofs.YtglncninkocgaabGreatDoor
open Go.RowKit Go.ChangeShapes Go.WideShapes
set_option linter.unusedVariables false

theorem cell_blockL {w : World} {a : Addr} {v : Value} (h : w.cell? a = some v) : a.block < w.heap.size := by
  rcases Nat.lt_or_ge a.block w.heap.size with h1 | h1
  · exact h1
  · simp [World.cell?, Array.getElem?_eq_none h1] at h
theorem laidOutL : laidOutB Tryz.prog = true := by kernel_rfl
theorem cellsCell : Tryz.prog.cellsOf 36 = 7 := by kernel_rfl
theorem bytesCell : Tryz.prog.bytesOf 36 = 56 := by kernel_rfl
theorem cells3L : Tryz.prog.cellsOf 3 = 1 := by kernel_rfl
theorem fieldsCell : Tryz.prog.underlying 36 = some (.struct #[⟨"Depth", 3, 0, false, "", "", 0⟩, ⟨"Kind", 3, 1, false, "", "", 8⟩, ⟨"X", 3, 2, false, "", "", 16⟩, ⟨"Y", 3, 3, false, "", "", 24⟩, ⟨"W", 3, 4, false, "", "", 32⟩, ⟨"H", 3, 5, false, "", "", 40⟩, ⟨"Pane", 3, 6, false, "", "", 48⟩]) := by kernel_rfl
theorem underCells : Tryz.prog.underlying 22 = some (.slice 36) := by kernel_rfl
theorem int_wfL {n : Int} (h : (Lit.int .i64 n).wf = true) : -9223372036854775808 ≤ n ∧ n ≤ 9223372036854775807 := by
  simp only [Lit.wf, Bool.and_eq_true, decide_eq_true_eq] at h
  have h1 : IntKind.i64.min = -9223372036854775808 := by decide
  have h2 : IntKind.i64.max = 9223372036854775807 := by decide
  omega
/-- A number that fits. -/
def In64 (n : Int) : Prop := -9223372036854775808 ≤ n ∧ n ≤ 9223372036854775807
structure CellV.Ok (c : CellV) : Prop where
  depth : In64 c.depth
  kind : In64 c.kind
  x : In64 c.x
  y : In64 c.y
  w : In64 c.w
  h : In64 c.h
  p : In64 c.p

set_option maxRecDepth 100000 in
theorem open_cell {H : Type} {enc : TypeId × Value → H} {W : World} {base : Nat} {spare : Nat → Bool} {held : Bool} {fuel : Nat} {cs : List Value} {x : DataW H × List MemPlace} (h : DataW.trod enc Tryz.prog W base spare held fuel 36 cs = some x) :
    ∃ o : CellV, cs = o.vals.toList ∧ x.2 = [] ∧ o.Ok := by
  obtain ⟨xs, n, _, hx, hl, hlen, hfs⟩ := DataW.trod_struct fieldsCell h
  rw [cellsCell] at hl
  match cs, hl, xs, hlen with
  | [c0, c1, c2, c3, c4, c5, c6], _, [y0, y1, y2, y3, y4, y5, y6], _ =>
    have t0 : DataW.trod enc Tryz.prog W base spare held n 3 [c0] = some y0 := by have h := hfs 0 _ rfl; simpa [cells3L] using h
    have t1 : DataW.trod enc Tryz.prog W base spare held n 3 [c1] = some y1 := by have h := hfs 1 _ rfl; simpa [cells3L] using h
    have t2 : DataW.trod enc Tryz.prog W base spare held n 3 [c2] = some y2 := by have h := hfs 2 _ rfl; simpa [cells3L] using h
    have t3 : DataW.trod enc Tryz.prog W base spare held n 3 [c3] = some y3 := by have h := hfs 3 _ rfl; simpa [cells3L] using h
    have t4 : DataW.trod enc Tryz.prog W base spare held n 3 [c4] = some y4 := by have h := hfs 4 _ rfl; simpa [cells3L] using h
    have t5 : DataW.trod enc Tryz.prog W base spare held n 3 [c5] = some y5 := by have h := hfs 5 _ rfl; simpa [cells3L] using h
    have t6 : DataW.trod enc Tryz.prog W base spare held n 3 [c6] = some y6 := by have h := hfs 6 _ rfl; simpa [cells3L] using h
    obtain ⟨z0, e0, rfl, w0⟩ := DataW.trod_int Tryz.underlying3 t0
    obtain ⟨z1, e1, rfl, w1⟩ := DataW.trod_int Tryz.underlying3 t1
    obtain ⟨z2, e2, rfl, w2⟩ := DataW.trod_int Tryz.underlying3 t2
    obtain ⟨z3, e3, rfl, w3⟩ := DataW.trod_int Tryz.underlying3 t3
    obtain ⟨z4, e4, rfl, w4⟩ := DataW.trod_int Tryz.underlying3 t4
    obtain ⟨z5, e5, rfl, w5⟩ := DataW.trod_int Tryz.underlying3 t5
    obtain ⟨z6, e6, rfl, w6⟩ := DataW.trod_int Tryz.underlying3 t6
    obtain rfl := (List.cons.inj e0).1
    obtain rfl := (List.cons.inj e1).1
    obtain rfl := (List.cons.inj e2).1
    obtain rfl := (List.cons.inj e3).1
    obtain rfl := (List.cons.inj e4).1
    obtain rfl := (List.cons.inj e5).1
    obtain rfl := (List.cons.inj e6).1
    exact ⟨⟨z0, z1, z2, z3, z4, z5, z6⟩, rfl, by rw [hx]; rfl, ⟨int_wfL w0, int_wfL w1, int_wfL w2, int_wfL w3, int_wfL w4, int_wfL w5, int_wfL w6⟩⟩

theorem add_plainL (b o j : Nat) : (⟨b, o, none⟩ : Addr).add j = ⟨b, o + j, none⟩ := by unfold Addr.add; split <;> simp_all

theorem ceCells_split (l : List CellV) : ∀ (j : Nat) (u : Value), (ceCells l)[j]? = some u → ∃ (i : Nat) (c : CellV) (o : Nat), l[i]? = some c ∧ o < 7 ∧ j = i * 7 + o ∧ c.vals[o]? = some u := by
  induction l with
  | nil => intro j u h; simp [ceCells] at h
  | cons a l ih =>
    intro j u h
    have hc : ceCells (a :: l) = a.vals.toList ++ ceCells l := rfl
    rw [hc] at h
    by_cases hj : j < 7
    · rw [List.getElem?_append_left (by show j < 7; exact hj)] at h
      exact ⟨0, a, j, rfl, hj, by omega, by simpa using h⟩
    · rw [List.getElem?_append_right (by show 7 ≤ j; omega)] at h
      obtain ⟨i, c, o, h1, h2, h3, h4⟩ := ih (j - 7) u h
      exact ⟨i + 1, c, o, by simpa using h1, h2, by omega, h4⟩

set_option maxRecDepth 100000 in
theorem open_cells {H : Type} {enc : TypeId × Value → H} {W : World} {r : Reach} {b0 base : Nat} {spare : Nat → Bool} {held : Bool} {v : Value} {d : DataW H} {p : List MemPlace} (hv : Value.okWide Tryz.prog W r b0 22 v) (h : DataW.Trod enc Tryz.prog W base spare held 22 v d p) :
    ∃ l : List CellV, CellsIn W v l ∧ (v = .slice none 0 0 ∨ ∃ a n c, v = .slice (some a) n c) ∧ (∀ o ∈ l, o.Ok) ∧ (l = [] ∨ ∃ es sp, d = .slice es sp ∧ es.length = l.length) ∧ ∀ x ∈ p, x.block < W.heap.size := by
  obtain ⟨ad, len, cap, rfl⟩ := okWide_slice underCells hv
  obtain ⟨fuel, hf⟩ := h
  rcases Deep.open_slice underCells hf with ⟨h0, hx⟩ | ⟨a, len', cap', m, n, D, Pl, h0, hb, hl, hm, hmm, hx, hall⟩
  · simp [Value.cells] at h0
    obtain ⟨rfl, rfl, rfl⟩ := h0
    simp only [Prod.mk.injEq] at hx
    obtain ⟨rfl, rfl⟩ := hx
    exact ⟨[], ⟨_, _, rfl, Nat.le_refl _, .inl rfl⟩, .inl rfl, (fun e he => absurd he List.not_mem_nil), .inl rfl, (fun x hx => absurd hx List.not_mem_nil)⟩
  · simp [Value.cells] at h0
    obtain ⟨rfl, rfl, rfl⟩ := h0
    simp only [Prod.mk.injEq] at hx
    obtain ⟨rfl, rfl⟩ := hx
    have hlm : len ≤ m := by rw [hmm]; split <;> omega
    rw [cellsCell] at hall ⊢
    have each : ∀ i, i < m → ∃ o : CellV, Pl i = [] ∧ o.Ok ∧ ∀ j, j < 7 → W.cell? ((a.add (i * 7)).add j) = o.vals[j]? := fun i hi => by
      obtain ⟨cs', h1, h2⟩ := hall i hi
      obtain ⟨_, _, hcell⟩ := World.cells?_some h1
      obtain ⟨ev, rfl, hx, hr⟩ := open_cell h2
      exact ⟨ev, hx, hr, fun j hj => by rw [hcell j hj, Array.getElem?_toList]⟩
    have hplaces : ∀ x ∈ MemPlace.row a (m * 7) ++ (List.range m).flatMap Pl, x.block < W.heap.size := fun x hx => by
      rcases List.mem_append.1 hx with hx | hx
      · obtain ⟨i, hi, rfl⟩ := MemPlace.mem_row.1 hx
        obtain ⟨ev, _, _, hc⟩ := each 0 (by omega)
        have h0 := cell_blockL ((hc 0 (by decide)).trans rfl)
        rw [Deep.add_add] at h0
        show a.block < W.heap.size
        simpa [Addr.add] using h0
      · obtain ⟨i, hi, hx⟩ := List.mem_flatMap.1 hx
        obtain ⟨ev, hp, _⟩ := each i (List.mem_range.1 hi)
        rw [hp] at hx
        cases hx
    haveI : Inhabited CellV := ⟨⟨0, 0, 0, 0, 0, 0, 0⟩⟩
    obtain ⟨E, hEv⟩ := Deep.choose_lt each
    have hlen : ((List.range len).map E).length = len := by rw [List.length_map, List.length_range]
    refine ⟨(List.range len).map E, ?_, .inr ⟨_, _, _, rfl⟩, ?_, .inr ⟨_, _, rfl, by simp⟩, hplaces⟩
    · by_cases hz : len = 0
      · subst hz
        exact ⟨_, _, rfl, Nat.zero_le _, .inl rfl⟩
      · obtain ⟨b, off, spot⟩ := a
        have g0 := (hEv 0 (by omega)).2.2 0 (by decide)
        have hspot : spot = none := by
          have := World.cell?_spot (g0.trans rfl)
          simpa [Addr.add] using this
        subst hspot
        refine ⟨_, _, by rw [hlen], by rw [hlen]; omega, .inr ⟨b, off, rfl, fun j u hu => ?_⟩⟩
        obtain ⟨i, c, o, e1, e2, e3, e4⟩ := ceCells_split _ j u hu
        have hi : i < len := by
          have := (List.getElem?_eq_some_iff.1 e1).1
          rwa [hlen] at this
        have h2 := (hEv i (by omega)).2.2 o e2
        rw [add_plainL, add_plainL] at h2
        have hc : c = E i := by
          have : ((List.range len).map E)[i]? = some (E i) := by simp [hi]
          rw [this] at e1
          exact (Option.some.inj e1).symm
        subst hc
        rw [e3, ← Nat.add_assoc, h2, e4]
    · intro e he
      obtain ⟨i, hi, rfl⟩ := List.mem_map.1 he
      exact (hEv i (by have := List.mem_range.1 hi; omega)).2.1

theorem cells_short {H : Type} {ts : List TypeId} {ds : List (DataW H)} (h : (DataW.weightsEach Tryz.prog ts ds).all (· ≤ reachBytes) = true) {l : List CellV} {d : DataW H} (ht : ts[0]? = some 22) (hd : ds[0]? = some d) (hl : l = [] ∨ ∃ es sp, d = .slice es sp ∧ es.length = l.length) : l.length * 56 ≤ 140737488351232 := by
  rcases hl with rfl | ⟨es, sp, rfl, he⟩
  · simp
  · have := sized_slice h ht hd underCells
    rw [bytesCell] at this
    simp only [reachBytes] at this
    have h2 : l.length * 56 ≤ (es.length + sp.length) * 56 := Nat.mul_le_mul_right _ (by omega)
    omega

theorem array2L {α : Type} {cs : Array α} (h : cs.size = 2) : ∃ a b, cs = #[a, b] := by
  obtain ⟨l⟩ := cs
  match l, h with
  | [a, b], _ => exact ⟨a, b, rfl⟩
end Go.Proofs.YtglncninkocgaabGreatDoor
