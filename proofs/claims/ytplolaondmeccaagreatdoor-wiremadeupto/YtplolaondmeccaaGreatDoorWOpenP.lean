/-
  An argument of type []Part, opened: how it reads, and what the bound gives.
-/
import Derived.Test.YtplolaondmeccaaGreatDoorRows
import Derived.Test.YtplolaondmeccaaGreatDoorWMadeB
import Derived.Deep.Slices
import Derived.ChangeArms
import Derived.WideShapes
import Derived.Carry
namespace Go.Proofs.YtplolaondmeccaaGreatDoor
open Go.RowKit Go.ChangeShapes Go.WideShapes
set_option linter.unusedVariables false

theorem cell_block {w : World} {a : Addr} {v : Value} (h : w.cell? a = some v) : a.block < w.heap.size := by
  rcases Nat.lt_or_ge a.block w.heap.size with h1 | h1
  · exact h1
  · simp [World.cell?, Array.getElem?_eq_none h1] at h

/-- How an event reads. -/
def evData {H : Type} (ev : Ev) : DataW H := .agg [.lit (.int .i64 ev.kind), .lit (.int .i64 ev.session), .lit (.int .i64 ev.window), .lit (.int .i64 ev.pane), .lit (.int .i64 ev.index), .lit (.int .i64 ev.offset), .lit (.int .i64 ev.tick), .lit (.int .i64 ev.number), .lit (.int .i64 ev.flag), .lit (.string ev.name.data.toList), .lit (.string ev.text.data.toList), .lit (.string ev.layout.data.toList), .lit (.string ev.visible.data.toList), .lit (.bool ev.zoom)]
theorem laidOut : laidOutB Tryz.prog = true := by kernel_rfl
theorem cellsEv : Tryz.prog.cellsOf 27 = 14 := by kernel_rfl
theorem cells3 : Tryz.prog.cellsOf 3 = 1 := by kernel_rfl
theorem cells4 : Tryz.prog.cellsOf 4 = 1 := by kernel_rfl
theorem cells9 : Tryz.prog.cellsOf 9 = 1 := by kernel_rfl
theorem fieldsEv : Tryz.prog.underlying 27 = some (.struct #[⟨"Kind", 3, 0, false, "", "", 0⟩, ⟨"Session", 3, 1, false, "", "", 8⟩, ⟨"Window", 3, 2, false, "", "", 16⟩, ⟨"Pane", 3, 3, false, "", "", 24⟩, ⟨"Index", 3, 4, false, "", "", 32⟩, ⟨"Offset", 3, 5, false, "", "", 40⟩, ⟨"Tick", 3, 6, false, "", "", 48⟩, ⟨"Number", 3, 7, false, "", "", 56⟩, ⟨"Flag", 3, 8, false, "", "", 64⟩, ⟨"Name", 9, 9, false, "", "", 72⟩, ⟨"Text", 9, 10, false, "", "", 88⟩, ⟨"Layout", 9, 11, false, "", "", 104⟩, ⟨"Visible", 9, 12, false, "", "", 120⟩, ⟨"Zoom", 4, 13, false, "", "", 136⟩]) := by kernel_rfl
theorem int_wf {n : Int} (h : (Lit.int .i64 n).wf = true) : -9223372036854775808 ≤ n ∧ n ≤ 9223372036854775807 := by
  simp only [Lit.wf, Bool.and_eq_true, decide_eq_true_eq] at h
  have h1 : IntKind.i64.min = -9223372036854775808 := by decide
  have h2 : IntKind.i64.max = 9223372036854775807 := by decide
  omega
/-- The numbers of an event are in their range. -/
def Ev.InRange (ev : Ev) : Prop := ∀ f : NF, -9223372036854775808 ≤ f.get ev ∧ f.get ev ≤ 9223372036854775807
set_option maxRecDepth 100000 in
theorem open_cells {H : Type} {enc : TypeId × Value → H} {W : World} {base : Nat} {spare : Nat → Bool} {held : Bool} {fuel : Nat} {cs : List Value} {x : DataW H × List MemPlace} (h : DataW.trod enc Tryz.prog W base spare held fuel 27 cs = some x) :
    ∃ ev : Ev, cs = ev.vals.toList ∧ x = (evData ev, []) ∧ ev.InRange := by
  obtain ⟨xs, n, _, hx, hl, hlen, hfs⟩ := DataW.trod_struct fieldsEv h
  rw [cellsEv] at hl
  match cs, hl, xs, hlen with
  | [c0, c1, c2, c3, c4, c5, c6, c7, c8, c9, c10, c11, c12, c13], _, [y0, y1, y2, y3, y4, y5, y6, y7, y8, y9, y10, y11, y12, y13], _ =>
    have t0 : DataW.trod enc Tryz.prog W base spare held n 3 [c0] = some y0 := by have h := hfs 0 _ rfl; simpa [cells3, cells4, cells9] using h
    have t1 : DataW.trod enc Tryz.prog W base spare held n 3 [c1] = some y1 := by have h := hfs 1 _ rfl; simpa [cells3, cells4, cells9] using h
    have t2 : DataW.trod enc Tryz.prog W base spare held n 3 [c2] = some y2 := by have h := hfs 2 _ rfl; simpa [cells3, cells4, cells9] using h
    have t3 : DataW.trod enc Tryz.prog W base spare held n 3 [c3] = some y3 := by have h := hfs 3 _ rfl; simpa [cells3, cells4, cells9] using h
    have t4 : DataW.trod enc Tryz.prog W base spare held n 3 [c4] = some y4 := by have h := hfs 4 _ rfl; simpa [cells3, cells4, cells9] using h
    have t5 : DataW.trod enc Tryz.prog W base spare held n 3 [c5] = some y5 := by have h := hfs 5 _ rfl; simpa [cells3, cells4, cells9] using h
    have t6 : DataW.trod enc Tryz.prog W base spare held n 3 [c6] = some y6 := by have h := hfs 6 _ rfl; simpa [cells3, cells4, cells9] using h
    have t7 : DataW.trod enc Tryz.prog W base spare held n 3 [c7] = some y7 := by have h := hfs 7 _ rfl; simpa [cells3, cells4, cells9] using h
    have t8 : DataW.trod enc Tryz.prog W base spare held n 3 [c8] = some y8 := by have h := hfs 8 _ rfl; simpa [cells3, cells4, cells9] using h
    have t9 : DataW.trod enc Tryz.prog W base spare held n 9 [c9] = some y9 := by have h := hfs 9 _ rfl; simpa [cells3, cells4, cells9] using h
    have t10 : DataW.trod enc Tryz.prog W base spare held n 9 [c10] = some y10 := by have h := hfs 10 _ rfl; simpa [cells3, cells4, cells9] using h
    have t11 : DataW.trod enc Tryz.prog W base spare held n 9 [c11] = some y11 := by have h := hfs 11 _ rfl; simpa [cells3, cells4, cells9] using h
    have t12 : DataW.trod enc Tryz.prog W base spare held n 9 [c12] = some y12 := by have h := hfs 12 _ rfl; simpa [cells3, cells4, cells9] using h
    have t13 : DataW.trod enc Tryz.prog W base spare held n 4 [c13] = some y13 := by have h := hfs 13 _ rfl; simpa [cells3, cells4, cells9] using h
    obtain ⟨z0, e0, rfl, w0⟩ := DataW.trod_int Tryz.underlying3 t0
    obtain ⟨z1, e1, rfl, w1⟩ := DataW.trod_int Tryz.underlying3 t1
    obtain ⟨z2, e2, rfl, w2⟩ := DataW.trod_int Tryz.underlying3 t2
    obtain ⟨z3, e3, rfl, w3⟩ := DataW.trod_int Tryz.underlying3 t3
    obtain ⟨z4, e4, rfl, w4⟩ := DataW.trod_int Tryz.underlying3 t4
    obtain ⟨z5, e5, rfl, w5⟩ := DataW.trod_int Tryz.underlying3 t5
    obtain ⟨z6, e6, rfl, w6⟩ := DataW.trod_int Tryz.underlying3 t6
    obtain ⟨z7, e7, rfl, w7⟩ := DataW.trod_int Tryz.underlying3 t7
    obtain ⟨z8, e8, rfl, w8⟩ := DataW.trod_int Tryz.underlying3 t8
    obtain ⟨z9, e9, rfl, w9⟩ := DataW.trod_string Tryz.underlying9 t9
    obtain ⟨z10, e10, rfl, w10⟩ := DataW.trod_string Tryz.underlying9 t10
    obtain ⟨z11, e11, rfl, w11⟩ := DataW.trod_string Tryz.underlying9 t11
    obtain ⟨z12, e12, rfl, w12⟩ := DataW.trod_string Tryz.underlying9 t12
    obtain ⟨z13, e13, rfl⟩ := DataW.trod_bool Tryz.underlying4 t13
    obtain rfl := (List.cons.inj e0).1
    obtain rfl := (List.cons.inj e1).1
    obtain rfl := (List.cons.inj e2).1
    obtain rfl := (List.cons.inj e3).1
    obtain rfl := (List.cons.inj e4).1
    obtain rfl := (List.cons.inj e5).1
    obtain rfl := (List.cons.inj e6).1
    obtain rfl := (List.cons.inj e7).1
    obtain rfl := (List.cons.inj e8).1
    obtain rfl := (List.cons.inj e9).1
    obtain rfl := (List.cons.inj e10).1
    obtain rfl := (List.cons.inj e11).1
    obtain rfl := (List.cons.inj e12).1
    obtain rfl := (List.cons.inj e13).1
    refine ⟨⟨z0, z1, z2, z3, z4, z5, z6, z7, z8, z9, z10, z11, z12, z13⟩, rfl, hx, fun f => ?_⟩
    cases f
    · exact int_wf w1
    · exact int_wf w2
    · exact int_wf w3
    · exact int_wf w4
    · exact int_wf w5
    · exact int_wf w6
    · exact int_wf w7
    · exact int_wf w8

theorem bulk_ev {H : Type} (ev : Ev) : Rows.uptoBulk (evData (H := H) ev) = ev.name.size + ev.text.size + ev.layout.size + ev.visible.size + 15 := by
  have e1 : ev.name.data.toList.length = ev.name.size := by rw [Array.length_toList]; rfl
  have e2 : ev.text.data.toList.length = ev.text.size := by rw [Array.length_toList]; rfl
  have e3 : ev.layout.data.toList.length = ev.layout.size := by rw [Array.length_toList]; rfl
  have e4 : ev.visible.data.toList.length = ev.visible.size := by rw [Array.length_toList]; rfl
  simp only [evData, Rows.uptoBulkAll, Rows.uptoBulk]
  omega

theorem cellsPart : Tryz.prog.cellsOf 30 = 17 := by kernel_rfl
theorem fieldsPart : Tryz.prog.underlying 30 = some (.struct #[⟨"Told", 27, 0, false, "", "", 0⟩, ⟨"Block", 4, 14, false, "", "", 144⟩, ⟨"Good", 4, 15, false, "", "", 145⟩, ⟨"Lines", 28, 16, false, "", "", 152⟩]) := by kernel_rfl
theorem cellsStrs : Tryz.prog.cellsOf 28 = 1 := by kernel_rfl
theorem add_flat (b o j : Nat) : (⟨b, o, none⟩ : Addr).add j = ⟨b, o + j, none⟩ := by unfold Addr.add; split <;> simp_all

/-- The lines of a block, opened. -/
theorem open_lines {H : Type} {enc : TypeId × Value → H} {W : World} {base : Nat} {spare : Nat → Bool} {held : Bool} {fuel : Nat} {c : Value} {y : DataW H × List MemPlace} (h : DataW.trod enc Tryz.prog W base spare held fuel 28 [c] = some y) :
    ∃ ls : List ByteArray, LinesAt W c ls ∧ textAll ls ≤ Rows.uptoBulk y.1 ∧ ∀ x ∈ y.2, x.block < W.heap.size := by
  rcases Deep.open_slice1 Tryz.underlying28 cells9 h with ⟨h0, hx⟩ | ⟨a, len, cap, m, n, V, D, Pl, h0, hb, hl, hm, hmm, hx, hall⟩
  · have hc : c = .slice none 0 0 := by simpa using h0
    subst hc
    subst hx
    exact ⟨[], .inl ⟨⟨_, _, rfl⟩, rfl⟩, Nat.zero_le _, (fun x hx => absurd hx List.not_mem_nil)⟩
  · have hc : c = .slice (some a) len cap := by simpa using h0
    subst hc
    subst hx
    have hlm : len ≤ m := by rw [hmm]; split <;> omega
    have each : ∀ i, i < m → ∃ t : ByteArray, W.cell? (a.add i) = some (.string t) ∧ D i = .lit (.string t.data.toList) ∧ Pl i = [] := fun i hi => by
      obtain ⟨h1, h2⟩ := hall i hi
      obtain ⟨t, ht, hd, _⟩ := DataW.trod_string Tryz.underlying9 h2
      have hv : V i = .string t := by simpa using ht
      simp only [Prod.mk.injEq] at hd
      exact ⟨t, by rw [h1, hv], hd.1, hd.2⟩
    haveI : Inhabited ByteArray := ⟨ByteArray.empty⟩
    obtain ⟨E, hEv⟩ := Deep.choose_lt each
    have hmap : (List.range len).map D = (List.range len).map fun i => (DataW.lit (.string (E i).data.toList) : DataW H) := List.map_congr_left fun i hi => (hEv i (by have := List.mem_range.1 hi; omega)).2.1
    refine ⟨(List.range len).map E, ?_, ?_, ?_⟩
    · by_cases hz : len = 0
      · subst hz
        exact .inl ⟨⟨_, _, rfl⟩, rfl⟩
      · obtain ⟨b, off, spot⟩ := a
        have hspot : spot = none := by
          have := World.cell?_spot ((hEv 0 (by omega)).1)
          simpa [Addr.add] using this
        subst hspot
        refine .inr ⟨b, off, cap, by rw [List.length_map, List.length_range], fun i t hi => ?_⟩
        have hil : i < len := by
          have := (List.getElem?_eq_some_iff.1 hi).1
          simpa using this
        rw [List.getElem?_map, List.getElem?_range hil] at hi
        have ht : E i = t := by simpa using hi
        have h1 := (hEv i (by omega)).1
        rw [add_flat, ht] at h1
        exact h1
    · have key : ∀ l : List Nat, textAll (l.map E) ≤ Rows.uptoBulkAll (l.map fun i => (DataW.lit (.string (E i).data.toList) : DataW H)) := fun l => by
        induction l with
        | nil => exact Nat.le_refl _
        | cons i l ih =>
          have e1 : (E i).data.toList.length = (E i).size := by rw [Array.length_toList]; rfl
          show (E i).size + 1 + textAll (l.map E) ≤ _
          simp only [List.map_cons, Rows.uptoBulkAll, Rows.uptoBulk]
          omega
      have := key (List.range len)
      rw [← hmap] at this
      simp only [Rows.uptoBulk]
      omega
    · intro x hx
      rcases List.mem_append.1 hx with hx | hx
      · obtain ⟨i, hi, rfl⟩ := MemPlace.mem_row.1 hx
        have h0 := cell_block ((hEv 0 (by omega)).1)
        show a.block < W.heap.size
        simpa [Addr.add] using h0
      · obtain ⟨i, hi, hx⟩ := List.mem_flatMap.1 hx
        rw [(hEv i (List.mem_range.1 hi)).2.2] at hx
        cases hx

set_option maxRecDepth 100000 in
/-- A part, opened. -/
theorem open_part {H : Type} {enc : TypeId × Value → H} {W : World} {base : Nat} {spare : Nat → Bool} {held : Bool} {fuel : Nat} {cs : List Value} {x : DataW H × List MemPlace} (h : DataW.trod enc Tryz.prog W base spare held fuel 30 cs = some x) :
    ∃ p : PartV, cs = p.vals.toList ∧ p.ev.InRange ∧ LinesAt W p.lv p.lines ∧ p.bulk ≤ Rows.uptoBulk x.1 ∧ ∀ q ∈ x.2, q.block < W.heap.size := by
  obtain ⟨xs, n, _, hx, hl, hlen, hfs⟩ := DataW.trod_struct fieldsPart h
  rw [cellsPart] at hl
  match cs, hl, xs, hlen with
  | [c0, c1, c2, c3, c4, c5, c6, c7, c8, c9, c10, c11, c12, c13, c14, c15, c16], _, [y0, y1, y2, y3], _ =>
    have t0 : DataW.trod enc Tryz.prog W base spare held n 27 [c0, c1, c2, c3, c4, c5, c6, c7, c8, c9, c10, c11, c12, c13] = some y0 := by have h := hfs 0 _ rfl; simpa [cellsEv] using h
    have t1 : DataW.trod enc Tryz.prog W base spare held n 4 [c14] = some y1 := by have h := hfs 1 _ rfl; simpa [cells4] using h
    have t2 : DataW.trod enc Tryz.prog W base spare held n 4 [c15] = some y2 := by have h := hfs 2 _ rfl; simpa [cells4] using h
    have t3 : DataW.trod enc Tryz.prog W base spare held n 28 [c16] = some y3 := by have h := hfs 3 _ rfl; simpa [cellsStrs] using h
    obtain ⟨ev, e0, rfl, hr⟩ := open_cells t0
    obtain ⟨z1, e1, rfl⟩ := DataW.trod_bool Tryz.underlying4 t1
    obtain ⟨z2, e2, rfl⟩ := DataW.trod_bool Tryz.underlying4 t2
    obtain ⟨ls, hls, hbl, hpl⟩ := open_lines t3
    obtain rfl := (List.cons.inj e1).1
    obtain rfl := (List.cons.inj e2).1
    subst hx
    refine ⟨⟨ev, z1, z2, c16, ls⟩, ?_, hr, hls, ?_, ?_⟩
    · have e3 : [c0, c1, c2, c3, c4, c5, c6, c7, c8, c9, c10, c11, c12, c13] ++ [.bool z1, .bool z2, c16] = ev.vals.toList ++ [.bool z1, .bool z2, c16] := by rw [e0]
      exact e3
    · have hb := bulk_ev (H := H) ev
      show ev.bulk + 15 + textAll ls ≤ _
      simp only [List.map_cons, List.map_nil, Rows.uptoBulk, Rows.uptoBulkAll]
      unfold Ev.bulk
      omega
    · intro q hq
      have hq' : q ∈ y3.2 := by simpa using hq
      exact hpl q hq'

set_option maxRecDepth 100000 in
theorem open_parts {H : Type} {enc : TypeId × Value → H} {W : World} {r : Reach} {b0 base : Nat} {spare : Nat → Bool} {held : Bool} {v : Value} {d : DataW H} {p : List MemPlace} (hv : Value.okWide Tryz.prog W r b0 25 v) (h : DataW.Trod enc Tryz.prog W base spare held 25 v d p) :
    ∃ l : List PartV, PartArg W v l ∧ (∀ e ∈ l, e.ev.InRange) ∧ bulkAll l ≤ Rows.uptoBulk d ∧ ∀ x ∈ p, x.block < W.heap.size := by
  obtain ⟨ad, len, cap, rfl⟩ := okWide_slice Tryz.underlying25 hv
  obtain ⟨fuel, hf⟩ := h
  rcases Deep.open_slice Tryz.underlying25 hf with ⟨h0, hx⟩ | ⟨a, len', cap', m, n, D, Pl, h0, hb, hl, hm, hmm, hx, hall⟩
  · simp [Value.cells] at h0
    obtain ⟨rfl, rfl, rfl⟩ := h0
    simp only [Prod.mk.injEq] at hx
    obtain ⟨rfl, rfl⟩ := hx
    exact ⟨[], .inl ⟨⟨_, _, rfl⟩, rfl⟩, (fun e he => absurd he List.not_mem_nil), Nat.zero_le _, (fun x hx => absurd hx List.not_mem_nil)⟩
  · simp [Value.cells] at h0
    obtain ⟨rfl, rfl, rfl⟩ := h0
    simp only [Prod.mk.injEq] at hx
    obtain ⟨rfl, rfl⟩ := hx
    have hlm : len ≤ m := by rw [hmm]; split <;> omega
    rw [cellsPart] at hall ⊢
    have each : ∀ i, i < m → ∃ q : PartV, q.ev.InRange ∧ LinesAt W q.lv q.lines ∧ q.bulk ≤ Rows.uptoBulk (D i) ∧ (∀ z ∈ Pl i, z.block < W.heap.size) ∧ ∀ j, j < 17 → W.cell? ((a.add (i * 17)).add j) = q.vals[j]? := fun i hi => by
      obtain ⟨cs', h1, h2⟩ := hall i hi
      obtain ⟨_, _, hcell⟩ := World.cells?_some h1
      obtain ⟨q, rfl, hr, hla, hbk, hpl⟩ := open_part h2
      exact ⟨q, hr, hla, hbk, hpl, fun j hj => by rw [hcell j hj, Array.getElem?_toList]⟩
    have hplaces : ∀ x ∈ MemPlace.row a (m * 17) ++ (List.range m).flatMap Pl, x.block < W.heap.size := fun x hx => by
      rcases List.mem_append.1 hx with hx | hx
      · obtain ⟨i, hi, rfl⟩ := MemPlace.mem_row.1 hx
        obtain ⟨q, _, _, _, _, hc⟩ := each 0 (by omega)
        have h0 := cell_block ((hc 0 (by decide)).trans rfl)
        rw [Deep.add_add] at h0
        show a.block < W.heap.size
        simpa [Addr.add] using h0
      · obtain ⟨i, hi, hx⟩ := List.mem_flatMap.1 hx
        obtain ⟨q, _, _, _, hp, _⟩ := each i (List.mem_range.1 hi)
        exact hp x hx
    haveI : Inhabited PartV := ⟨⟨Ev.zero 0, false, false, .slice none 0 0, []⟩⟩
    obtain ⟨E, hEv⟩ := Deep.choose_lt each
    refine ⟨(List.range len).map E, ?_, ?_, ?_, hplaces⟩
    · by_cases hz : len = 0
      · subst hz
        exact .inl ⟨⟨_, _, rfl⟩, rfl⟩
      · obtain ⟨b, off, spot⟩ := a
        have g0 := (hEv 0 (by omega)).2.2.2.2 0 (by decide)
        have hspot : spot = none := by
          have := World.cell?_spot (g0.trans rfl)
          simpa [Addr.add] using this
        subst hspot
        refine .inr ⟨b, off, cap, by rw [List.length_map, List.length_range], fun i q hi => ?_⟩
        have hil : i < len := by
          have := (List.getElem?_eq_some_iff.1 hi).1
          simpa using this
        rw [List.getElem?_map, List.getElem?_range hil] at hi
        have hq : E i = q := by simpa using hi
        subst hq
        refine ⟨fun j hj => ?_, (hEv i (by omega)).2.1⟩
        have h1 := (hEv i (by omega)).2.2.2.2 j hj
        rw [add_flat, add_flat] at h1
        exact h1
    · intro e he
      obtain ⟨i, hi, rfl⟩ := List.mem_map.1 he
      exact (hEv i (by have := List.mem_range.1 hi; omega)).1
    · have key : ∀ l : List Nat, (∀ i ∈ l, i < m) → bulkAll (l.map E) ≤ Rows.uptoBulkAll (l.map D) := fun l hl => by
        induction l with
        | nil => exact Nat.le_refl _
        | cons i l ih =>
          have h1 := (hEv i (hl i (by simp))).2.2.1
          have h2 := ih (fun j hj => hl j (List.mem_cons_of_mem _ hj))
          show (E i).bulk + bulkAll (l.map E) ≤ _
          simp only [List.map_cons, Rows.uptoBulkAll]
          omega
      have := key (List.range len) (fun i hi => by have := List.mem_range.1 hi; omega)
      simp only [Rows.uptoBulk]
      omega

end Go.Proofs.YtplolaondmeccaaGreatDoor
