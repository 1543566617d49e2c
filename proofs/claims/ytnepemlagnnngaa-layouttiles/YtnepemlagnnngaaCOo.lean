/-
  Layouts: what calls that come in are.
-/
import Derived.Test.YtnepemlagnnngaaCOc
namespace Go.Proofs.Ytnepemlagnnngaa
open Go.RowKit Go.ChangeShapes Go.WideShapes
set_option linter.unusedVariables false

theorem cellsOpL : Try.prog.cellsOf 40 = 8 := by kernel_rfl
theorem fieldsOpL : Try.prog.underlying 40 = some (.struct #[⟨"Kind", 3, 0, false, "", "", 0⟩, ⟨"Cut", 24, 1, false, "", "", 8⟩, ⟨"A", 3, 6, false, "", "", 48⟩, ⟨"B", 3, 7, false, "", "", 56⟩]) := by kernel_rfl

/-- A call. -/
structure OpV where
  k : Int
  pane : Int
  kind : Int
  size : Int
  bf : Bool
  id : Int
  a : Int
  b : Int
def OpV.vals (o : OpV) : Array Value := #[.int .i64 o.k, .int .i64 o.pane, .int .i64 o.kind, .int .i64 o.size, .bool o.bf, .int .i64 o.id, .int .i64 o.a, .int .i64 o.b]
structure OpV.Ok (o : OpV) : Prop where
  k : In64 o.k
  pane : In64 o.pane
  kind : In64 o.kind
  size : In64 o.size
  id : In64 o.id
  a : In64 o.a
  b : In64 o.b

set_option maxRecDepth 100000 in
theorem open_opL {H : Type} {enc : TypeId × Value → H} {W : World} {base : Nat} {spare : Nat → Bool} {held : Bool} {fuel : Nat} {cs : List Value} {x : DataW H × List MemPlace} (h : DataW.trod enc Try.prog W base spare held fuel 40 cs = some x) :
    ∃ o : OpV, cs = o.vals.toList ∧ x.2 = [] ∧ o.Ok := by
  obtain ⟨xs, n, _, hx, hl, hlen, hfs⟩ := DataW.trod_struct fieldsOpL h
  rw [cellsOpL] at hl
  match cs, hl, xs, hlen with
  | [c0, c1, c2, c3, c4, c5, c6, c7], _, [y0, y1, y6, y7], _ =>
    have t0 : DataW.trod enc Try.prog W base spare held n 3 [c0] = some y0 := by have h := hfs 0 _ rfl; simpa [cells3L, cells4L, cellsCutL] using h
    have tc : DataW.trod enc Try.prog W base spare held n 24 [c1, c2, c3, c4, c5] = some y1 := by have h := hfs 1 _ rfl; simpa [cells3L, cells4L, cellsCutL] using h
    have t6 : DataW.trod enc Try.prog W base spare held n 3 [c6] = some y6 := by have h := hfs 2 _ rfl; simpa [cells3L, cells4L, cellsCutL] using h
    have t7 : DataW.trod enc Try.prog W base spare held n 3 [c7] = some y7 := by have h := hfs 3 _ rfl; simpa [cells3L, cells4L, cellsCutL] using h
    obtain ⟨ys, n', _, hx', hl', hlen', hfs'⟩ := DataW.trod_struct fieldsCutL tc
    match ys, hlen' with
    | [u1, u2, u3, u4, u5], _ =>
      have t1 : DataW.trod enc Try.prog W base spare held n' 3 [c1] = some u1 := by have h := hfs' 0 _ rfl; simpa [cells3L, cells4L] using h
      have t2 : DataW.trod enc Try.prog W base spare held n' 3 [c2] = some u2 := by have h := hfs' 1 _ rfl; simpa [cells3L, cells4L] using h
      have t3 : DataW.trod enc Try.prog W base spare held n' 3 [c3] = some u3 := by have h := hfs' 2 _ rfl; simpa [cells3L, cells4L] using h
      have t4 : DataW.trod enc Try.prog W base spare held n' 4 [c4] = some u4 := by have h := hfs' 3 _ rfl; simpa [cells3L, cells4L] using h
      have t5 : DataW.trod enc Try.prog W base spare held n' 3 [c5] = some u5 := by have h := hfs' 4 _ rfl; simpa [cells3L, cells4L] using h
      obtain ⟨z0, e0, rfl, w0⟩ := DataW.trod_int Try.underlying3 t0
      obtain ⟨z1, e1, rfl, w1⟩ := DataW.trod_int Try.underlying3 t1
      obtain ⟨z2, e2, rfl, w2⟩ := DataW.trod_int Try.underlying3 t2
      obtain ⟨z3, e3, rfl, w3⟩ := DataW.trod_int Try.underlying3 t3
      obtain ⟨z4, e4, rfl⟩ := DataW.trod_bool Try.underlying4 t4
      obtain ⟨z5, e5, rfl, w5⟩ := DataW.trod_int Try.underlying3 t5
      obtain ⟨z6, e6, rfl, w6⟩ := DataW.trod_int Try.underlying3 t6
      obtain ⟨z7, e7, rfl, w7⟩ := DataW.trod_int Try.underlying3 t7
      obtain rfl := (List.cons.inj e0).1
      obtain rfl := (List.cons.inj e1).1
      obtain rfl := (List.cons.inj e2).1
      obtain rfl := (List.cons.inj e3).1
      obtain rfl := (List.cons.inj e4).1
      obtain rfl := (List.cons.inj e5).1
      obtain rfl := (List.cons.inj e6).1
      obtain rfl := (List.cons.inj e7).1
      have hy : y1.2 = [] := by rw [hx']; rfl
      exact ⟨⟨z0, z1, z2, z3, z4, z5, z6, z7⟩, rfl, by rw [hx]; simp [hy], ⟨int_wfL w0, int_wfL w1, int_wfL w2, int_wfL w3, int_wfL w5, int_wfL w6, int_wfL w7⟩⟩

theorem array8L {α : Type} {cs : Array α} (h : cs.size = 8) : ∃ l, cs.toList = l ∧ l.length = 8 := ⟨_, rfl, by simpa using h⟩
set_option maxRecDepth 100000 in
/-- A call that comes in by itself. -/
theorem open_opV {H : Type} {enc : TypeId × Value → H} {W : World} {r : Reach} {b0 base : Nat} {spare : Nat → Bool} {held : Bool} {v : Value} {d : DataW H} {p : List MemPlace} (hv : Value.okWide Try.prog W r b0 40 v) (h : DataW.Trod enc Try.prog W base spare held 40 v d p) :
    ∃ o : OpV, v = .agg o.vals ∧ p = [] ∧ o.Ok := by
  obtain ⟨cs, rfl, hsz⟩ := okWide_struct fieldsOpL hv
  obtain ⟨fuel, hf⟩ := h
  obtain ⟨o, h1, h2, h3⟩ := open_opL hf
  refine ⟨o, ?_, h2, h3⟩
  have : cs.toList = o.vals.toList := by simpa [Value.cells] using h1
  rw [Array.toList_inj.1 this]

theorem underOpsL : Try.prog.underlying 34 = some (.slice 40) := by kernel_rfl
def opCells (l : List OpV) : List Value := l.flatMap fun o => o.vals.toList
/-- A list of calls that can be read. -/
def OpsIn (w : World) (v : Value) (l : List OpV) : Prop := ∃ (ad : Option Addr) (cap : Nat), v = .slice ad l.length cap ∧ l.length ≤ cap ∧ (l = [] ∨ ∃ (g o : Nat), ad = some ⟨g, o, none⟩ ∧ ∀ (j : Nat) (u : Value), (opCells l)[j]? = some u → w.cell? ⟨g, o + j, none⟩ = some u)
theorem opCells_split (l : List OpV) : ∀ (j : Nat) (u : Value), (opCells l)[j]? = some u → ∃ (i : Nat) (c : OpV) (o : Nat), l[i]? = some c ∧ o < 8 ∧ j = i * 8 + o ∧ c.vals[o]? = some u := by
  induction l with
  | nil => intro j u h; simp [opCells] at h
  | cons a l ih =>
    intro j u h
    have hc : opCells (a :: l) = a.vals.toList ++ opCells l := rfl
    rw [hc] at h
    by_cases hj : j < 8
    · rw [List.getElem?_append_left (by show j < 8; exact hj)] at h
      exact ⟨0, a, j, rfl, hj, by omega, by simpa using h⟩
    · rw [List.getElem?_append_right (by show 8 ≤ j; omega)] at h
      obtain ⟨i, c, o, h1, h2, h3, h4⟩ := ih (j - 8) u h
      exact ⟨i + 1, c, o, by simpa using h1, h2, by omega, h4⟩

set_option maxRecDepth 100000 in
theorem open_opsL {H : Type} {enc : TypeId × Value → H} {W : World} {r : Reach} {b0 base : Nat} {spare : Nat → Bool} {held : Bool} {v : Value} {d : DataW H} {p : List MemPlace} (hv : Value.okWide Try.prog W r b0 34 v) (h : DataW.Trod enc Try.prog W base spare held 34 v d p) :
    ∃ l : List OpV, OpsIn W v l ∧ (v = .slice none 0 0 ∨ ∃ a n c, v = .slice (some a) n c) ∧ (∀ o ∈ l, o.Ok) ∧ (l = [] ∨ ∃ es sp, d = .slice es sp ∧ es.length = l.length) ∧ ∀ x ∈ p, x.block < W.heap.size := by
  obtain ⟨ad, len, cap, rfl⟩ := okWide_slice underOpsL hv
  obtain ⟨fuel, hf⟩ := h
  rcases Deep.open_slice underOpsL hf with ⟨h0, hx⟩ | ⟨a, len', cap', m, n, D, Pl, h0, hb, hl, hm, hmm, hx, hall⟩
  · simp [Value.cells] at h0
    obtain ⟨rfl, rfl, rfl⟩ := h0
    simp only [Prod.mk.injEq] at hx
    obtain ⟨rfl, rfl⟩ := hx
    exact ⟨[], ⟨_, _, rfl, Nat.le_refl _, .inl rfl⟩, .inl rfl, (fun e he => absurd he List.not_mem_nil), .inl rfl, (fun x hx => absurd hx List.not_mem_nil)⟩
  · simp [Value.cells] at h0
    obtain ⟨rfl, rfl, rfl⟩ := h0
    simp only [Prod.mk.injEq] at hx
    obtain ⟨rfl, rfl⟩ := hx
    have hlm : len ≤ m := by rw [hmm]; split <;> omega
    rw [cellsOpL] at hall ⊢
    have each : ∀ i, i < m → ∃ o : OpV, Pl i = [] ∧ o.Ok ∧ ∀ j, j < 8 → W.cell? ((a.add (i * 8)).add j) = o.vals[j]? := fun i hi => by
      obtain ⟨cs', h1, h2⟩ := hall i hi
      obtain ⟨_, _, hcell⟩ := World.cells?_some h1
      obtain ⟨ev, rfl, hx, hr⟩ := open_opL h2
      exact ⟨ev, hx, hr, fun j hj => by rw [hcell j hj, Array.getElem?_toList]⟩
    have hplaces : ∀ x ∈ MemPlace.row a (m * 8) ++ (List.range m).flatMap Pl, x.block < W.heap.size := fun x hx => by
      rcases List.mem_append.1 hx with hx | hx
      · obtain ⟨i, hi, rfl⟩ := MemPlace.mem_row.1 hx
        obtain ⟨ev, _, _, hc⟩ := each 0 (by omega)
        have h0 := cell_blockL ((hc 0 (by decide)).trans rfl)
        rw [Deep.add_add] at h0
        show a.block < W.heap.size
        simpa [Addr.add] using h0
      · obtain ⟨i, hi, hx⟩ := List.mem_flatMap.1 hx
        obtain ⟨ev, hp, _⟩ := each i (List.mem_range.1 hi)
        rw [hp] at hx
        cases hx
    haveI : Inhabited OpV := ⟨⟨0, 0, 0, 0, false, 0, 0, 0⟩⟩
    obtain ⟨E, hEv⟩ := Deep.choose_lt each
    have hlen : ((List.range len).map E).length = len := by rw [List.length_map, List.length_range]
    refine ⟨(List.range len).map E, ?_, .inr ⟨_, _, _, rfl⟩, ?_, .inr ⟨_, _, rfl, by simp⟩, hplaces⟩
    · by_cases hz : len = 0
      · subst hz
        exact ⟨_, _, rfl, Nat.zero_le _, .inl rfl⟩
      · obtain ⟨b, off, spot⟩ := a
        have g0 := (hEv 0 (by omega)).2.2 0 (by decide)
        have hspot : spot = none := by
          have := World.cell?_spot (g0.trans rfl)
          simpa [Addr.add] using this
        subst hspot
        refine ⟨_, _, by rw [hlen], by rw [hlen]; omega, .inr ⟨b, off, rfl, fun j u hu => ?_⟩⟩
        obtain ⟨i, c, o, e1, e2, e3, e4⟩ := opCells_split _ j u hu
        have hi : i < len := by
          have := (List.getElem?_eq_some_iff.1 e1).1
          rwa [hlen] at this
        have h2 := (hEv i (by omega)).2.2 o e2
        rw [add_plainL, add_plainL] at h2
        have hc : c = E i := by
          have : ((List.range len).map E)[i]? = some (E i) := by simp [hi]
          rw [this] at e1
          exact (Option.some.inj e1).symm
        subst hc
        rw [e3, ← Nat.add_assoc, h2, e4]
    · intro e he
      obtain ⟨i, hi, rfl⟩ := List.mem_map.1 he
      exact (hEv i (by have := List.mem_range.1 hi; omega)).2.1


end Go.Proofs.Ytnepemlagnnngaa
