/-
  The layouts' arguments, opened: a list of cells, a pair of numbers.
  Layouts: the statements' twin and kept.
  Layouts: Panes, Next, on both sides.
-/
import Derived.Test.YtlaelkcmeaiajaaRows
import Derived.Test.YtlaelkcmeaiajaaCTk
import Derived.Test.YtlaelkcmeaiajaaCRy
import Derived.Test.YtlaelkcmeaiajaaCTr
import Derived.Deep.Slices
import Derived.ChangeArms
import Derived.WideShapes
import Derived.Carry
import Derived.SizedLaws
namespace Go.Proofs.Ytlaelkcmeaiajaa
open Go.RowKit Go.ChangeShapes Go.WideShapes
set_option linter.unusedVariables false

theorem cell_blockL {w : World} {a : Addr} {v : Value} (h : w.cell? a = some v) : a.block < w.heap.size := by
  rcases Nat.lt_or_ge a.block w.heap.size with h1 | h1
  · exact h1
  · simp [World.cell?, Array.getElem?_eq_none h1] at h
theorem laidOutL : laidOutB Try.prog = true := by kernel_rfl
theorem cellsCell : Try.prog.cellsOf 35 = 7 := by kernel_rfl
theorem bytesCell : Try.prog.bytesOf 35 = 56 := by kernel_rfl
theorem cells3L : Try.prog.cellsOf 3 = 1 := by kernel_rfl
theorem fieldsCell : Try.prog.underlying 35 = some (.struct #[⟨"Depth", 3, 0, false, "", "", 0⟩, ⟨"Kind", 3, 1, false, "", "", 8⟩, ⟨"X", 3, 2, false, "", "", 16⟩, ⟨"Y", 3, 3, false, "", "", 24⟩, ⟨"W", 3, 4, false, "", "", 32⟩, ⟨"H", 3, 5, false, "", "", 40⟩, ⟨"Pane", 3, 6, false, "", "", 48⟩]) := by kernel_rfl
theorem underCells : Try.prog.underlying 22 = some (.slice 35) := by kernel_rfl
theorem int_wfL {n : Int} (h : (Lit.int .i64 n).wf = true) : -9223372036854775808 ≤ n ∧ n ≤ 9223372036854775807 := by
  simp only [Lit.wf, Bool.and_eq_true, decide_eq_true_eq] at h
  have h1 : IntKind.i64.min = -9223372036854775808 := by decide
  have h2 : IntKind.i64.max = 9223372036854775807 := by decide
  omega
/-- A number that fits. -/
def In64 (n : Int) : Prop := -9223372036854775808 ≤ n ∧ n ≤ 9223372036854775807
structure CellV.Ok (c : CellV) : Prop where
  depth : In64 c.depth
  kind : In64 c.kind
  x : In64 c.x
  y : In64 c.y
  w : In64 c.w
  h : In64 c.h
  p : In64 c.p

set_option maxRecDepth 100000 in
theorem open_cell {H : Type} {enc : TypeId × Value → H} {W : World} {base : Nat} {spare : Nat → Bool} {held : Bool} {fuel : Nat} {cs : List Value} {x : DataW H × List MemPlace} (h : DataW.trod enc Try.prog W base spare held fuel 35 cs = some x) :
    ∃ o : CellV, cs = o.vals.toList ∧ x.2 = [] ∧ o.Ok := by
  obtain ⟨xs, n, _, hx, hl, hlen, hfs⟩ := DataW.trod_struct fieldsCell h
  rw [cellsCell] at hl
  match cs, hl, xs, hlen with
  | [c0, c1, c2, c3, c4, c5, c6], _, [y0, y1, y2, y3, y4, y5, y6], _ =>
    have t0 : DataW.trod enc Try.prog W base spare held n 3 [c0] = some y0 := by have h := hfs 0 _ rfl; simpa [cells3L] using h
    have t1 : DataW.trod enc Try.prog W base spare held n 3 [c1] = some y1 := by have h := hfs 1 _ rfl; simpa [cells3L] using h
    have t2 : DataW.trod enc Try.prog W base spare held n 3 [c2] = some y2 := by have h := hfs 2 _ rfl; simpa [cells3L] using h
    have t3 : DataW.trod enc Try.prog W base spare held n 3 [c3] = some y3 := by have h := hfs 3 _ rfl; simpa [cells3L] using h
    have t4 : DataW.trod enc Try.prog W base spare held n 3 [c4] = some y4 := by have h := hfs 4 _ rfl; simpa [cells3L] using h
    have t5 : DataW.trod enc Try.prog W base spare held n 3 [c5] = some y5 := by have h := hfs 5 _ rfl; simpa [cells3L] using h
    have t6 : DataW.trod enc Try.prog W base spare held n 3 [c6] = some y6 := by have h := hfs 6 _ rfl; simpa [cells3L] using h
    obtain ⟨z0, e0, rfl, w0⟩ := DataW.trod_int Try.underlying3 t0
    obtain ⟨z1, e1, rfl, w1⟩ := DataW.trod_int Try.underlying3 t1
    obtain ⟨z2, e2, rfl, w2⟩ := DataW.trod_int Try.underlying3 t2
    obtain ⟨z3, e3, rfl, w3⟩ := DataW.trod_int Try.underlying3 t3
    obtain ⟨z4, e4, rfl, w4⟩ := DataW.trod_int Try.underlying3 t4
    obtain ⟨z5, e5, rfl, w5⟩ := DataW.trod_int Try.underlying3 t5
    obtain ⟨z6, e6, rfl, w6⟩ := DataW.trod_int Try.underlying3 t6
    obtain rfl := (List.cons.inj e0).1
    obtain rfl := (List.cons.inj e1).1
    obtain rfl := (List.cons.inj e2).1
    obtain rfl := (List.cons.inj e3).1
    obtain rfl := (List.cons.inj e4).1
    obtain rfl := (List.cons.inj e5).1
    obtain rfl := (List.cons.inj e6).1
    exact ⟨⟨z0, z1, z2, z3, z4, z5, z6⟩, rfl, by rw [hx]; rfl, ⟨int_wfL w0, int_wfL w1, int_wfL w2, int_wfL w3, int_wfL w4, int_wfL w5, int_wfL w6⟩⟩

theorem add_plainL (b o j : Nat) : (⟨b, o, none⟩ : Addr).add j = ⟨b, o + j, none⟩ := by unfold Addr.add; split <;> simp_all

theorem ceCells_split (l : List CellV) : ∀ (j : Nat) (u : Value), (ceCells l)[j]? = some u → ∃ (i : Nat) (c : CellV) (o : Nat), l[i]? = some c ∧ o < 7 ∧ j = i * 7 + o ∧ c.vals[o]? = some u := by
  induction l with
  | nil => intro j u h; simp [ceCells] at h
  | cons a l ih =>
    intro j u h
    have hc : ceCells (a :: l) = a.vals.toList ++ ceCells l := rfl
    rw [hc] at h
    by_cases hj : j < 7
    · rw [List.getElem?_append_left (by show j < 7; exact hj)] at h
      exact ⟨0, a, j, rfl, hj, by omega, by simpa using h⟩
    · rw [List.getElem?_append_right (by show 7 ≤ j; omega)] at h
      obtain ⟨i, c, o, h1, h2, h3, h4⟩ := ih (j - 7) u h
      exact ⟨i + 1, c, o, by simpa using h1, h2, by omega, h4⟩

set_option maxRecDepth 100000 in
theorem open_cells {H : Type} {enc : TypeId × Value → H} {W : World} {r : Reach} {b0 base : Nat} {spare : Nat → Bool} {held : Bool} {v : Value} {d : DataW H} {p : List MemPlace} (hv : Value.okWide Try.prog W r b0 22 v) (h : DataW.Trod enc Try.prog W base spare held 22 v d p) :
    ∃ l : List CellV, CellsIn W v l ∧ (v = .slice none 0 0 ∨ ∃ a n c, v = .slice (some a) n c) ∧ (∀ o ∈ l, o.Ok) ∧ (l = [] ∨ ∃ es sp, d = .slice es sp ∧ es.length = l.length) ∧ ∀ x ∈ p, x.block < W.heap.size := by
  obtain ⟨ad, len, cap, rfl⟩ := okWide_slice underCells hv
  obtain ⟨fuel, hf⟩ := h
  rcases Deep.open_slice underCells hf with ⟨h0, hx⟩ | ⟨a, len', cap', m, n, D, Pl, h0, hb, hl, hm, hmm, hx, hall⟩
  · simp [Value.cells] at h0
    obtain ⟨rfl, rfl, rfl⟩ := h0
    simp only [Prod.mk.injEq] at hx
    obtain ⟨rfl, rfl⟩ := hx
    exact ⟨[], ⟨_, _, rfl, Nat.le_refl _, .inl rfl⟩, .inl rfl, (fun e he => absurd he List.not_mem_nil), .inl rfl, (fun x hx => absurd hx List.not_mem_nil)⟩
  · simp [Value.cells] at h0
    obtain ⟨rfl, rfl, rfl⟩ := h0
    simp only [Prod.mk.injEq] at hx
    obtain ⟨rfl, rfl⟩ := hx
    have hlm : len ≤ m := by rw [hmm]; split <;> omega
    rw [cellsCell] at hall ⊢
    have each : ∀ i, i < m → ∃ o : CellV, Pl i = [] ∧ o.Ok ∧ ∀ j, j < 7 → W.cell? ((a.add (i * 7)).add j) = o.vals[j]? := fun i hi => by
      obtain ⟨cs', h1, h2⟩ := hall i hi
      obtain ⟨_, _, hcell⟩ := World.cells?_some h1
      obtain ⟨ev, rfl, hx, hr⟩ := open_cell h2
      exact ⟨ev, hx, hr, fun j hj => by rw [hcell j hj, Array.getElem?_toList]⟩
    have hplaces : ∀ x ∈ MemPlace.row a (m * 7) ++ (List.range m).flatMap Pl, x.block < W.heap.size := fun x hx => by
      rcases List.mem_append.1 hx with hx | hx
      · obtain ⟨i, hi, rfl⟩ := MemPlace.mem_row.1 hx
        obtain ⟨ev, _, _, hc⟩ := each 0 (by omega)
        have h0 := cell_blockL ((hc 0 (by decide)).trans rfl)
        rw [Deep.add_add] at h0
        show a.block < W.heap.size
        simpa [Addr.add] using h0
      · obtain ⟨i, hi, hx⟩ := List.mem_flatMap.1 hx
        obtain ⟨ev, hp, _⟩ := each i (List.mem_range.1 hi)
        rw [hp] at hx
        cases hx
    haveI : Inhabited CellV := ⟨⟨0, 0, 0, 0, 0, 0, 0⟩⟩
    obtain ⟨E, hEv⟩ := Deep.choose_lt each
    have hlen : ((List.range len).map E).length = len := by rw [List.length_map, List.length_range]
    refine ⟨(List.range len).map E, ?_, .inr ⟨_, _, _, rfl⟩, ?_, .inr ⟨_, _, rfl, by simp⟩, hplaces⟩
    · by_cases hz : len = 0
      · subst hz
        exact ⟨_, _, rfl, Nat.zero_le _, .inl rfl⟩
      · obtain ⟨b, off, spot⟩ := a
        have g0 := (hEv 0 (by omega)).2.2 0 (by decide)
        have hspot : spot = none := by
          have := World.cell?_spot (g0.trans rfl)
          simpa [Addr.add] using this
        subst hspot
        refine ⟨_, _, by rw [hlen], by rw [hlen]; omega, .inr ⟨b, off, rfl, fun j u hu => ?_⟩⟩
        obtain ⟨i, c, o, e1, e2, e3, e4⟩ := ceCells_split _ j u hu
        have hi : i < len := by
          have := (List.getElem?_eq_some_iff.1 e1).1
          rwa [hlen] at this
        have h2 := (hEv i (by omega)).2.2 o e2
        rw [add_plainL, add_plainL] at h2
        have hc : c = E i := by
          have : ((List.range len).map E)[i]? = some (E i) := by simp [hi]
          rw [this] at e1
          exact (Option.some.inj e1).symm
        subst hc
        rw [e3, ← Nat.add_assoc, h2, e4]
    · intro e he
      obtain ⟨i, hi, rfl⟩ := List.mem_map.1 he
      exact (hEv i (by have := List.mem_range.1 hi; omega)).2.1

theorem cells_short {H : Type} {ts : List TypeId} {ds : List (DataW H)} (h : (DataW.weightsEach Try.prog ts ds).all (· ≤ reachBytes) = true) {l : List CellV} {d : DataW H} (ht : ts[0]? = some 22) (hd : ds[0]? = some d) (hl : l = [] ∨ ∃ es sp, d = .slice es sp ∧ es.length = l.length) : l.length * 56 ≤ 140737488351232 := by
  rcases hl with rfl | ⟨es, sp, rfl, he⟩
  · simp
  · have := sized_slice h ht hd underCells
    rw [bytesCell] at this
    simp only [reachBytes] at this
    have h2 : l.length * 56 ≤ (es.length + sp.length) * 56 := Nat.mul_le_mul_right _ (by omega)
    omega

theorem array2L {α : Type} {cs : Array α} (h : cs.size = 2) : ∃ a b, cs = #[a, b] := by
  obtain ⟨l⟩ := cs
  match l, h with
  | [a, b], _ => exact ⟨a, b, rfl⟩
end Go.Proofs.Ytlaelkcmeaiajaa

namespace Go.Proofs.Ytlaelkcmeaiajaa
open Go.RowKit
set_option linter.unusedVariables false
set_option maxRecDepth 100000

def mark (n : Int) : CellV := ⟨0, 0, 0, 0, 0, 0, n⟩
def marks : List CellV := [mark 201, mark 202, mark 203]

/-- A list that came in, appended to nothing. -/
theorem wpList_append_first {ops : Array Oper} {rest : List Oper} {o : Oper} {a : Act} {Q : Exit → Act → World → Prop} (w : World) (hgd : o.guard = none) (s x : Operand)
    (ho : o.op = .call { callee := .builtin .append, args := #[s, x], argTypes := #[22, 22] })
    (v : Value) (l : List CellV) (hs : a.eval s = .slice none 0 0) (hx : a.eval x = v) (hv : CellsIn w v l) (hn : v = .slice none 0 0 ∨ ∃ a n c, v = .slice (some a) n c) (hlen : l.length * 56 ≤ 140737488351232)
    (h : ∀ v' w', CeOwns w' w.heap.size v' l → w.grownBy w' none → wpList Try.prog ops Q rest (a.put o.dst v') w') : wpList Try.prog ops Q (o :: rest) a w := by
  obtain ⟨i0, hi, hz0, hz1, hz2⟩ := info_partsL infoCe
  obtain ⟨ad, cap, h1, h2, h3⟩ := hv.shape
  rcases hn with rfl | ⟨a', n', c', hv'⟩
  · have hl : l = [] := List.length_eq_zero_iff.1 (by injection h1 with _ e _; exact e.symm)
    subst hl
    refine wpList_append_own_none hgd s x 22 ho w.heap.size 35 i0 7 Try.underlying22 hi _ 0 [] hs (World.ownsRow_nil _ _ _ _) hx ?_
    exact h _ w (World.ownsRow_nil _ _ _ _) ⟨rfl, rfl, rfl, Nat.le_refl _, fun _ _ _ => rfl⟩
  · subst hv'
    cases h1
    refine wpList_append_own_at _ hgd s x 22 ho w.heap.size 35 i0 (.agg zeroCell.vals) 7 56 Try.underlying22 hi hz0 hz1 hz2 rfl (by decide) _ 0 [] hs (World.ownsRow_nil _ _ _ _) a' l.length cap (ceCells l) hx (ceCells_length l) ?_ (ceCells_one l) ?_ ?_ (Nat.le_refl _) ?_
    · intro j u hu
      rcases h3 with rfl | ⟨b, off, e, h4⟩
      · simp [ceCells] at hu
      · cases e
        rw [add_plainL]
        exact h4 j u hu
    · unfold maxLen; omega
    · omega
    · intro v' w' k2 k3 _ _
      refine h v' w' ?_ k3
      unfold CeOwns
      simpa using k2

theorem wpList_append_marks {ops : Array Oper} {rest : List Oper} {o : Oper} {a : Act} {Q : Exit → Act → World → Prop} (w : World) (hgd : o.guard = none) (s x : Operand)
    (ho : o.op = .call { callee := .builtin .append, args := #[s, x], argTypes := #[22, 22] })
    (B : Nat) (v : Value) (l : List CellV) (hs : a.eval s = v) (hown : CeOwns w B v l) (hx : a.eval x = .slice (some ⟨w.heap.size, 0, none⟩) 3 3) (hlen : l.length * 56 ≤ 140737488351232) (hB : B ≤ w.heap.size)
    (h : ∀ v' w', CeOwns w' B v' (l ++ marks) → (w.alloc (.cells (ceCells marks).toArray 35)).grownBy w' v.ownBlock → wpList Try.prog ops Q rest (a.put o.dst v') w') : wpList Try.prog ops Q (o :: rest) a (w.alloc (.cells (ceCells marks).toArray 35)) := by
  obtain ⟨i0, hi, hz0, hz1, hz2⟩ := info_partsL infoCe
  refine wpList_append_own_at _ hgd s x 22 ho B 35 i0 (.agg zeroCell.vals) 7 56 Try.underlying22 hi hz0 hz1 hz2 rfl (by decide) v l.length (ceCells l) hs (World.ownsRow.alloc hown _) ⟨w.heap.size, 0, none⟩ 3 3 (ceCells marks) hx rfl ?_ (ceCells_one _) ?_ ?_ ?_ ?_
  · intro j u hu
    rw [add_plainL, Nat.zero_add, cell_newL]
    simpa using hu
  · unfold maxLen; omega
  · omega
  · have : (w.alloc (.cells (ceCells marks).toArray 35)).heap.size = w.heap.size + 1 := by simp
    omega
  · intro v' w' k2 k3 _ _
    refine h v' w' ?_ k3
    unfold CeOwns
    rw [ceCells_append, List.length_append]
    exact k2

/-- What twin gives. -/
structure TwinAt (w : World) (g cap : Nat) (l : List CellV) : Prop where
  seen : SeenIn w g 0 (l ++ marks)
  cap : l.length + 3 ≤ cap
  lt : g < w.heap.size
theorem TwinAt.below {w w' : World} {g cap : Nat} {l : List CellV} (h : TwinAt w g cap l) (hb : Below w.heap.size w w') : TwinAt w' g cap l := ⟨h.seen.below hb, h.cap, Nat.lt_of_lt_of_le h.lt hb.size⟩
theorem HeadIn.cells {w : World} {b off : Nat} {c : CellV} (h : HeadIn w b off c) (o : Nat) (u : Value) (hu : c.vals[o]? = some u) : w.cell? ⟨b, off + o, none⟩ = some u := by
  have hj : o < 7 := (Array.getElem?_eq_some_iff.1 hu).1
  match o, hj with
  | 0, _ => cases hu; exact h.q0
  | 1, _ => cases hu; exact h.q1
  | 2, _ => cases hu; exact h.q2
  | 3, _ => cases hu; exact h.q3
  | 4, _ => cases hu; exact h.q4
  | 5, _ => cases hu; exact h.q5
  | 6, _ => cases hu; exact h.q6
theorem TwinAt.cellsIn {w : World} {g cap : Nat} {l : List CellV} (h : TwinAt w g cap l) : CellsIn w (.slice (some ⟨g, 0, none⟩) l.length cap) l := by
  refine ⟨_, _, rfl, by have := h.cap; omega, .inr ⟨g, 0, rfl, fun j u hu => ?_⟩⟩
  obtain ⟨i, c, o, e1, e2, e3, e4⟩ := ceCells_split l j u hu
  have hi : i < l.length := (List.getElem?_eq_some_iff.1 e1).1
  have hc := h.seen i c (by rw [List.getElem?_append_left hi]; exact e1)
  have := hc.cells o u e4
  rw [e3]
  rw [show 0 + (i * 7 + o) = 0 + i * 7 + o by omega]
  exact this

theorem owns_shape {w : World} {B : Nat} {v : Value} {l : List CellV} (h : CeOwns w B v l) (hl : l ≠ []) : ∃ g cap, v = .slice (some ⟨g, 0, none⟩) l.length cap ∧ B ≤ g ∧ l.length ≤ cap ∧ g < w.heap.size ∧ SeenIn w g 0 l := by
  obtain ⟨b, off, cap, e, hc, hs⟩ := h.cellsIn.seen hl
  rcases h.2 with ⟨h0, h1⟩ | ⟨g, cap', cur, e', hb, hg, r⟩
  · exact absurd (List.length_eq_zero_iff.1 h1) hl
  · rw [e'] at e
    cases e
    exact ⟨_, _, e', hb, hc, lt_of_block hg, hs⟩

set_option maxHeartbeats 1000000 in
theorem twin_any (v : Value) (l : List CellV) (w : World) (hv : CellsIn w v l) (hn : v = .slice none 0 0 ∨ ∃ a n c, v = .slice (some a) n c) (hlen : l.length * 56 ≤ 140737488351232) : Calls Try.prog 5 #[v] w fun e w' => ∃ g cap, e = .returned (.slice (some ⟨g, 0, none⟩) l.length cap) ∧ TwinAt w' g cap l ∧ w.heap.size ≤ g ∧ Below w.heap.size w w' := by
  have HV : Hid (CellsIn w v l) := hv
  have HN : Hid (v = .slice none 0 0 ∨ ∃ a n c, v = .slice (some a) n c) := hn
  obtain ⟨ad, cap, hvv⟩ := hv.length
  obtain ⟨n, hnn⟩ : ∃ n, l.length = n := ⟨_, rfl⟩
  have HL : Hid (l.length = n) := hnn
  have HLen : Hid (l.length * 56 ≤ 140737488351232) := hlen
  rw [hnn] at hvv
  have hsm : n ≤ 4611686018427387904 := by omega
  have HM : Hid ((l ++ marks).length = n + 3) := by show _ = _; rw [List.length_append, hnn]; rfl
  rw [hnn]
  subst hvv
  clear hv hn hnn hlen
  go_enter Try.func5, Try.ntmps5
  go_wp2_with (at_builtin; first
    | (refine wpList_append_first w rfl (.tmp 4) (.tmp 5) rfl _ l rfl rfl HV.out HN.out HLen.out ?_; intro v1 w1 a1 a2; have H1 : Hid (CeOwns w1 w.heap.size v1 l) := a1; have HB1 : Hid (Below w.heap.size w w1) := (Below.refl w.heap.size w).grown a2 (Nat.le_refl _) (fun k e => by cases e); clear a1 a2)
    | (refine wpList_append_marks w1 rfl (.tmp 7) (.tmp 11) rfl w.heap.size v1 l rfl H1.out (by simp [Act.eval]) HLen.out HB1.out.size ?_; intro v2 w2 a1 a2; have HB2 : Hid (Below w.heap.size w w2) := (HB1.out.alloc HB1.out.size _).grown a2 (Nat.le_trans HB1.out.size (by simp)) (fun k e => (World.ownsRow.lt H1.out k e).1); obtain ⟨g, cap2, e1, e2, e3, e4, e5⟩ := owns_shape a1 (by unfold marks; simp); rw [HM.out] at e1 e3; subst e1; have hc2 : n ≤ cap2 := (by omega); have H2 : Hid (TwinAt w2 g cap2 l ∧ w.heap.size ≤ g) := ⟨⟨e5, (by rw [HL.out]; exact e3), e4⟩, e2⟩; clear a1 a2 e2 e3 e4 e5))
  go_ret
  exact ⟨_, _, rfl, H2.out.1, H2.out.2, HB2.out⟩

set_option maxHeartbeats 1000000 in
theorem law_sameL (b1 o1 c1 b2 o2 c2 n : Nat) (l1 l2 : List CellV) (w : World) (h1 : SeenIn w b1 o1 l1) (h2 : SeenIn w b2 o2 l2) (hn1 : l1.length = n) (hn2 : l2.length = n) (hn : n ≤ 4611686018427387904) :
    Calls Try.prog 12 #[.slice (some ⟨b1, o1, none⟩) n c1, .slice (some ⟨b2, o2, none⟩) n c2] w fun e w' => e = .returned (.bool (decide (l1 = l2))) ∧ Below w.heap.size w w' := by
  have H1 : Hid (SeenIn w b1 o1 l1) := h1
  have H2 : Hid (SeenIn w b2 o2 l2) := h2
  have HN1 : Hid (l1.length = n) := hn1
  have HN2 : Hid (l2.length = n) := hn2
  obtain ⟨rr, hrr⟩ : ∃ r, decide (l1 = l2) = r := ⟨_, rfl⟩
  rw [hrr]
  have HR : Hid (decide (l1 = l2) = rr) := hrr
  clear h1 h2 hn1 hn2 hrr
  go_enter Try.func12, Try.ntmps12
  go_wp2
  go_loopw [5] (fun v wr => ∃ i : Nat, i ≤ n ∧ v = .int .i64 i ∧ Hid (l1.take i = l2.take i) ∧ Hid (Below w.heap.size w wr)) (fun v _ => n - (intOf v).toNat)
  case atStart => exact ⟨0, Nat.zero_le _, rfl, by simp [Hid], Below.refl _ _⟩
  case round =>
    obtain ⟨i, hi, rfl, HT, HB⟩ := hrel
    by_cases hlt : i < n
    · obtain ⟨x, hx⟩ : ∃ x, l1[i]? = some x := ⟨_, List.getElem?_eq_getElem (by rw [HN1.out]; exact hlt)⟩
      obtain ⟨y, hy⟩ : ∃ y, l2[i]? = some y := ⟨_, List.getElem?_eq_getElem (by rw [HN2.out]; exact hlt)⟩
      obtain ⟨q0, q1, q2, q3, q4, q5, q6⟩ := (H1.out.below HB.out) i x hx
      obtain ⟨p0, p1, p2, p3, p4, p5, p6⟩ := (H2.out.below HB.out) i y hy
      obtain ⟨r, hr⟩ : ∃ r, ceEq x y = r := ⟨_, rfl⟩
      have hEq : ∀ W : World, (Op.equalIn 10000 35 (.agg #[.int .i64 x.depth, .int .i64 x.kind, .int .i64 x.x, .int .i64 x.y, .int .i64 x.w, .int .i64 x.h, .int .i64 x.p]) (.agg #[.int .i64 y.depth, .int .i64 y.kind, .int .i64 y.x, .int .i64 y.y, .int .i64 y.w, .int .i64 y.h, .int .i64 y.p])).run Try.prog W = .ok r W := fun W => by
        have := eqCe x y W
        rw [hr] at this
        exact this
      have HE : Hid (ceEq x y = r) := hr
      have HX : Hid (l1[i]? = some x) := hx
      have HY : Hid (l2[i]? = some y) := hy
      clear hr hx hy
      cases r
      · have HF : Hid (rr = false) := HR.out.symm.trans (decide_eq_false (ne_of_at HX.out HY.out fun e => by rw [(ceEq_iff x y).2 e] at HE; cases HE.out))
        go_wp2
        go_quiet (fail)
        go_wp2
        go_ret
        exact ⟨by rw [HF.out]; rfl, below_drewN HB.out _⟩
      · go_wp2
        go_quiet (fail)
        go_wp2
        go_roundw
        case rel => exact ⟨i + 1, by omega, by go_num, take_succ_eq HT.out HX.out HY.out ((ceEq_iff x y).1 HE.out), below_drewN HB.out _⟩
        case measure => simp [intOf]; omega
    · have HF : Hid (rr = true) := HR.out.symm.trans (decide_eq_true (by
        have h := HT.out
        rwa [List.take_of_length_le (by rw [HN1.out]; omega), List.take_of_length_le (by rw [HN2.out]; omega)] at h))
      go_wp2
      go_ret
      exact ⟨by rw [HF.out]; rfl, HB.out⟩


theorem law_anyL (v1 v2 : Value) (l1 l2 : List CellV) (w : World) (h1 : CellsIn w v1 l1) (h2 : CellsIn w v2 l2) (hn : l1.length ≤ 4611686018427387904) :
    Calls Try.prog 12 #[v1, v2] w fun e w' => e = .returned (.bool (decide (l1 = l2))) ∧ Below w.heap.size w w' := by
  by_cases hl : l1.length = l2.length
  · by_cases h0 : l1 = []
    · subst h0
      have h00 : l2 = [] := List.length_eq_zero_iff.1 hl.symm
      subst h00
      obtain ⟨a1, c1, rfl⟩ := h1.nil
      obtain ⟨a2, c2, rfl⟩ := h2.nil
      exact (law_none a1 a2 c1 c2 w).mono fun e w' h => ⟨by rw [h.1]; simp, h.2 ▸ Below.refl _ _⟩
    · have h02 : l2 ≠ [] := by rintro rfl; exact h0 (List.length_eq_zero_iff.1 hl)
      obtain ⟨b1, o1, c1, rfl, _, k1⟩ := h1.seen h0
      obtain ⟨b2, o2, c2, rfl, _, k2⟩ := h2.seen h02
      rw [← hl]
      exact law_sameL b1 o1 c1 b2 o2 c2 l1.length l1 l2 w k1 k2 rfl hl.symm hn
  · obtain ⟨a1, c1, rfl⟩ := h1.length
    obtain ⟨a2, c2, rfl⟩ := h2.length
    refine (law_lens a1 a2 _ c1 _ c2 w hl).mono fun e w' h => ⟨?_, h.2 ▸ Below.refl _ _⟩
    rw [h.1, decide_eq_false]
    intro e
    exact hl (congrArg _ e)


set_option maxHeartbeats 1000000 in
theorem kept_any (v : Value) (g cap : Nat) (l : List CellV) (w : World) (ht : TwinAt w g cap l) (hv : CellsIn w v l) (hlen : l.length * 56 ≤ 140737488351232) : Calls Try.prog 9 #[.slice (some ⟨g, 0, none⟩) l.length cap, v] w fun e w' => e = .returned (.bool true) ∧ Below w.heap.size w w' := by
  have HS : Hid (Calls Try.prog 12 #[.slice (some ⟨g, 0, none⟩) l.length cap, v] w fun e w' => e = .returned (.bool true) ∧ Below w.heap.size w w') := by
    have := law_anyL _ v l l w ht.cellsIn hv (by omega)
    rw [decide_eq_true rfl] at this
    exact this
  obtain ⟨ad, cp, hvv⟩ := hv.length
  obtain ⟨n, hnn⟩ : ∃ n, l.length = n := ⟨_, rfl⟩
  have HT : Hid (∀ X, Below w.heap.size w X → X.cell? ⟨g, n * 7 + 6, none⟩ = some (.int .i64 201) ∧ X.cell? ⟨g, (n + 1) * 7 + 6, none⟩ = some (.int .i64 202) ∧ X.cell? ⟨g, (n + 2) * 7 + 6, none⟩ = some (.int .i64 203)) := fun X hX => by
    have h1 := (ht.seen.below hX) n (mark 201) (by rw [List.getElem?_append_right (by omega), hnn, Nat.sub_self]; rfl)
    have h2 := (ht.seen.below hX) (n + 1) (mark 202) (by rw [List.getElem?_append_right (by omega), hnn, Nat.add_sub_cancel_left]; rfl)
    have h3 := (ht.seen.below hX) (n + 2) (mark 203) (by rw [List.getElem?_append_right (by omega), hnn, Nat.add_sub_cancel_left]; rfl)
    exact ⟨by simpa [mark] using h1.q6, by simpa [mark] using h2.q6, by simpa [mark] using h3.q6⟩
  have hcap := ht.cap
  rw [hnn] at hcap hvv HS ⊢
  have hsm : n ≤ 4611686018427387000 := by omega
  have hw3 : IntKind.i64.wrap ((n : Int) + 3) = ((n + 3 : Nat) : Int) := by rw [IntKind.wrap_i64]; omega
  have hw1 : IntKind.i64.wrap ((n : Int) + 1) = ((n + 1 : Nat) : Int) := by rw [IntKind.wrap_i64]; omega
  have hw2 : IntKind.i64.wrap ((n : Int) + 2) = ((n + 2 : Nat) : Int) := by rw [IntKind.wrap_i64]; omega
  obtain ⟨n1, hn1⟩ : ∃ x, n + 1 = x := ⟨_, rfl⟩
  obtain ⟨n2, hn2⟩ : ∃ x, n + 2 = x := ⟨_, rfl⟩
  obtain ⟨n3, hn3⟩ : ∃ x, n + 3 = x := ⟨_, rfl⟩
  rw [hn1] at hw1 HT
  rw [hn2] at hw2 HT
  rw [hn3] at hw3 hcap
  have l0 : n < n3 := by omega
  have l1 : n1 < n3 := by omega
  have l2 : n2 < n3 := by omega
  subst hvv
  clear ht hv hlen hnn hn1 hn2 hn3 hsm
  go_enter Try.func9, Try.ntmps9
  go_wp2_with fail
  refine HS.out.mono ?_
  rintro e w1 ⟨rfl, hb⟩
  obtain ⟨c1, c2, c3⟩ := HT.out w1 hb
  go_wp2
  go_ret
  exact ⟨rfl, hb⟩

end Go.Proofs.Ytlaelkcmeaiajaa

namespace Go.Proofs.Ytlaelkcmeaiajaa
open Go.RowKit
set_option linter.unusedVariables false
set_option maxRecDepth 100000

theorem lay_ids {l : List CellV} {t : Tree} (hr : readF l = some t) : (nodeOf t).ids = idsOf l ∧ 1 ≤ (idsOf l).length ∧ (idsOf l).length ≤ 32 ∧ (idsOf l).Nodup ∧ (nodeOf t).cnt ≤ 1000 := by
  have h := readF_lay hr
  have hi := ids_told t 0 h.kinds
  rw [h.tell] at hi
  have hs := size_ids t h.kinds h.sound
  rw [hi] at hs
  have hf := few_len h.few
  have hp := t.size_pos
  refine ⟨hi, by omega, hf.1, hf.2, ?_⟩
  have h1 := layN_length (nodeOf t) 0 0 0
  rw [lay_told t 0 0 0, h.moved, h.tell] at h1
  have := h.size
  omega

/-- The panes of a list, if it is a layout. -/
def panesL (l : List CellV) : List Int := if (readF l).isSome then idsOf l else []
/-- Where a number stands first. -/
def FirstAt (zs : List Int) (x : Int) (k : Nat) : Prop := zs[k]? = some x ∧ ∀ j, j < k → zs[j]? ≠ some x
theorem first_or (zs : List Int) (x : Int) : (∃ k, k < zs.length ∧ FirstAt zs x k) ∨ ∀ j : Nat, zs[j]? ≠ some x := by
  induction zs with
  | nil => exact .inr fun j => by simp
  | cons a zs ih =>
    by_cases ha : a = x
    · exact .inl ⟨0, by simp, by simp [ha], fun j hj => by omega⟩
    · rcases ih with ⟨k, hk, h1, h2⟩ | h
      · refine .inl ⟨k + 1, by simp; omega, by simpa using h1, fun j hj => ?_⟩
        cases j with
        | zero => simpa using ha
        | succ j => simpa using h2 j (by omega)
      · refine .inr fun j => ?_
        cases j with
        | zero => simpa using ha
        | succ j => simpa using h j
theorem getD_of {zs : List Int} {j : Nat} (hj : j < zs.length) : zs[j]? = some (zs.getD j 0) := by simp [List.getD, hj]
theorem index_hit (u : Value) (zs : List Int) (x : Int) (k : Nat) (B : Nat) (w : World) (h : IOwns w B u zs) (hk : FirstAt zs x k) (hn : zs.length ≤ 1000000) : Calls Try.prog 59 #[u, .int .i64 x] w fun e w' => e = .returned (.int .i64 (k : Int)) ∧ w = w' := by
  have hkl : k < zs.length := (List.getElem?_eq_some_iff.1 hk.1).1
  rcases h.at_ with ⟨rfl, rfl⟩ | ⟨g, cap, rfl, hc⟩
  · simp at hkl
  · refine (Try.slices_Index_int g 0 zs.length cap zs x w (Nat.le_refl _) (by omega) fun j hj => by rw [Nat.zero_add]; exact hc j _ (getD_of hj)).mono fun e w' h2 => ⟨?_, h2.2.symm⟩
    rw [h2.1, Go.Lib.idxOf_hit zs zs.length k x hkl (Nat.le_refl _) (by have := getD_of hkl; rw [hk.1] at this; exact (Option.some.inj this).symm) (fun j hj e => hk.2 j hj (by rw [getD_of (by omega), e]))]
theorem index_miss (u : Value) (zs : List Int) (x : Int) (B : Nat) (w : World) (h : IOwns w B u zs) (hk : ∀ j : Nat, zs[j]? ≠ some x) (hn : zs.length ≤ 1000000) : Calls Try.prog 59 #[u, .int .i64 x] w fun e w' => e = .returned (.int .i64 (-1)) ∧ w = w' := by
  rcases h.at_ with ⟨rfl, rfl⟩ | ⟨g, cap, rfl, hc⟩
  · exact (Try.slices_Index_int_empty none 0 x w).mono fun e w' h2 => ⟨h2.1, h2.2.symm⟩
  · refine (Try.slices_Index_int g 0 zs.length cap zs x w (Nat.le_refl _) (by omega) fun j hj => by rw [Nat.zero_add]; exact hc j _ (getD_of hj)).mono fun e w' h2 => ⟨?_, h2.2.symm⟩
    rw [h2.1, Go.Lib.idxOf_miss zs zs.length x fun j hj e => hk j (by rw [getD_of hj, e])]

/-- The place that is so many behind. -/
def nextAt (k : Nat) (n : Int) (m : Nat) : Nat := (((k : Int) + n.tmod m) % m).toNat
theorem next_facts (k : Nat) (n : Int) (m : Nat) (hk : k < m) : ∃ T : Int, n.tmod m = T ∧ (-(m : Int) < T ∧ T < m) ∧ nextAt k n m < m ∧ ((k : Int) + (T + m)).tmod m = (nextAt k n m : Int) ∧ ((0 ≤ (k : Int) + T ∧ ((k : Int) + T).tmod m = (nextAt k n m : Int)) ∨ ((k : Int) + T < 0 ∧ ((k : Int) + T).tmod m = (k : Int) + T ∧ (k : Int) + T + m = (nextAt k n m : Int))) := by
  have hm : (0 : Int) < m := by omega
  have h1 : n.tmod m < m := Int.tmod_lt_of_pos n hm
  have h2 : -(m : Int) < n.tmod m := by
    have := Int.lt_tmod_of_pos n hm
    omega
  refine ⟨n.tmod m, rfl, ⟨h2, h1⟩, ?_⟩
  obtain ⟨T, hT⟩ : ∃ T, n.tmod m = T := ⟨_, rfl⟩
  unfold nextAt
  rw [hT] at h1 h2 ⊢
  have e0 : 0 ≤ ((k : Int) + T) % m := Int.emod_nonneg _ (by omega)
  have e1 : ((k : Int) + T) % m < m := Int.emod_lt_of_pos _ hm
  have ec : ((((k : Int) + T) % m).toNat : Int) = ((k : Int) + T) % m := Int.toNat_of_nonneg e0
  rw [ec]
  refine ⟨by omega, ?_, ?_⟩
  · rw [Int.tmod_eq_emod_of_nonneg (by omega), ← Int.add_assoc, Int.add_emod_right]
  · by_cases hs : 0 ≤ (k : Int) + T
    · exact .inl ⟨hs, Int.tmod_eq_emod_of_nonneg hs⟩
    · refine .inr ⟨by omega, ?_, ?_⟩
      · obtain ⟨q, hq⟩ : ∃ q : Nat, (k : Int) + T = -(q : Int) := ⟨(-((k : Int) + T)).toNat, by omega⟩
        rw [hq, Int.neg_tmod, Int.tmod_eq_emod_of_nonneg (by omega), Int.emod_eq_of_lt (by omega) (by omega)]
      · have := Int.add_emod_right ((k : Int) + T) m
        rw [← this, Int.emod_eq_of_lt (by omega) (by omega)]

/-- What Next answers. -/
def NextIs (l : List CellV) (pane n : Int) (y e : Int) : Prop :=
  (readF l = none ∧ y = 0 ∧ e = 40) ∨ ((readF l).isSome = true ∧ (∀ j : Nat, (idsOf l)[j]? ≠ some pane) ∧ y = 0 ∧ e = 42) ∨
  ((readF l).isSome = true ∧ ∃ k, FirstAt (idsOf l) pane k ∧ k < (idsOf l).length ∧ (idsOf l)[nextAt k n (idsOf l).length]? = some y ∧ e = 0)
theorem FirstAt.one {zs : List Int} {x : Int} {j k : Nat} (h1 : FirstAt zs x j) (h2 : FirstAt zs x k) : j = k := by
  rcases Nat.lt_trichotomy j k with h | h | h
  · exact absurd h1.1 (h2.2 j h)
  · exact h
  · exact absurd h2.1 (h1.2 k h)
theorem next_same {l : List CellV} {pane n y e y' e' : Int} (h : NextIs l pane n y e) (h' : NextIs l pane n y' e') : y = y' ∧ e = e' := by
  rcases h with ⟨h1, h2, h3⟩ | ⟨h1, h2, h3, h4⟩ | ⟨h1, k, h2, h3, h4, h5⟩ <;> rcases h' with ⟨g1, g2, g3⟩ | ⟨g1, g2, g3, g4⟩ | ⟨g1, k', g2, g3, g4, g5⟩
  · omega
  · rw [h1] at g1; cases g1
  · rw [h1] at g1; cases g1
  · rw [g1] at h1; cases h1
  · omega
  · exact absurd g2.1 (h2 k')
  · rw [g1] at h1; cases h1
  · exact absurd h2.1 (g2 k)
  · have := h2.one g2
    subst this
    rw [h4] at g4
    exact ⟨Option.some.inj g4, by omega⟩
theorem next_ex (l : List CellV) (pane n : Int) : ∃ y e, NextIs l pane n y e := by
  cases hr : readF l with
  | none => exact ⟨0, 40, .inl ⟨hr, rfl, rfl⟩⟩
  | some t =>
    have hs : (readF l).isSome = true := by rw [hr]; rfl
    rcases first_or (idsOf l) pane with ⟨k, hk, hf⟩ | h
    · obtain ⟨T, _, _, h1, _⟩ := next_facts k n (idsOf l).length hk
      exact ⟨_, 0, .inr (.inr ⟨hs, k, hf, hk, List.getElem?_eq_getElem h1, rfl⟩)⟩
    · exact ⟨0, 42, .inr (.inl ⟨hs, h, rfl, rfl⟩)⟩

end Go.Proofs.Ytlaelkcmeaiajaa
