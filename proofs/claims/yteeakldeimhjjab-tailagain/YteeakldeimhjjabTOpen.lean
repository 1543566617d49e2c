/-
  The tail's arguments, opened: a Log's making, a list of calls, a list of texts.
-/
import Derived.Test.YteeakldeimhjjabRows
import Derived.Test.YteeakldeimhjjabTBase
import Derived.Deep.Slices
import Derived.ChangeArms
import Derived.WideShapes
import Derived.Carry
namespace Go.Proofs.Yteeakldeimhjjab
open Go.RowKit Go.ChangeShapes Go.WideShapes
set_option linter.unusedVariables false

theorem cell_block {w : World} {a : Addr} {v : Value} (h : w.cell? a = some v) : a.block < w.heap.size := by
  rcases Nat.lt_or_ge a.block w.heap.size with h1 | h1
  · exact h1
  · simp [World.cell?, Array.getElem?_eq_none h1] at h
theorem array4 {α : Type} {cs : Array α} (h : cs.size = 4) : ∃ a b c d, cs = #[a, b, c, d] := by
  obtain ⟨l⟩ := cs
  match l, h with
  | [a, b, c, d], _ => exact ⟨a, b, c, d, rfl⟩
theorem laidOut : laidOutB Try.prog = true := by kernel_rfl
theorem cellsLog : Try.prog.cellsOf 23 = 4 := by kernel_rfl
theorem cellsOp : Try.prog.cellsOf 33 = 4 := by kernel_rfl
theorem cells3 : Try.prog.cellsOf 3 = 1 := by kernel_rfl
theorem cells4 : Try.prog.cellsOf 4 = 1 := by kernel_rfl
theorem cells9 : Try.prog.cellsOf 9 = 1 := by kernel_rfl
theorem fieldsLog : Try.prog.underlying 23 = some (.struct #[⟨"Fresh", 4, 0, false, "", "", 0⟩, ⟨"Limit", 3, 1, false, "", "", 8⟩, ⟨"Start", 3, 2, false, "", "", 16⟩, ⟨"Data", 9, 3, false, "", "", 24⟩]) := by kernel_rfl
theorem fieldsOp : Try.prog.underlying 33 = some (.struct #[⟨"Kind", 3, 0, false, "", "", 0⟩, ⟨"Text", 9, 1, false, "", "", 8⟩, ⟨"A", 3, 2, false, "", "", 24⟩, ⟨"B", 3, 3, false, "", "", 32⟩]) := by kernel_rfl
theorem underOps : Try.prog.underlying 24 = some (.slice 33) := by kernel_rfl
theorem int_wf {n : Int} (h : (Lit.int .i64 n).wf = true) : -9223372036854775808 ≤ n ∧ n ≤ 9223372036854775807 := by
  simp only [Lit.wf, Bool.and_eq_true, decide_eq_true_eq] at h
  have h1 : IntKind.i64.min = -9223372036854775808 := by decide
  have h2 : IntKind.i64.max = 9223372036854775807 := by decide
  omega
/-- A number that fits. -/
def In64 (n : Int) : Prop := -9223372036854775808 ≤ n ∧ n ≤ 9223372036854775807

set_option maxRecDepth 100000 in
theorem open_log {H : Type} {enc : TypeId × Value → H} {W : World} {r : Reach} {b0 base : Nat} {spare : Nat → Bool} {held : Bool} {v : Value} {d : DataW H} {p : List MemPlace} (hv : Value.okWide Try.prog W r b0 23 v) (h : DataW.Trod enc Try.prog W base spare held 23 v d p) :
    ∃ f lim st s, v = .agg #[.bool f, .int .i64 lim, .int .i64 st, .string s] ∧ p = [] ∧ In64 lim ∧ In64 st ∧ s.size ≤ 9223372036854775807 := by
  obtain ⟨cs, rfl, hsz⟩ := okWide_struct fieldsLog hv
  obtain ⟨c0, c1, c2, c3, rfl⟩ := array4 (hsz.trans cellsLog)
  obtain ⟨fuel, hf⟩ := h
  obtain ⟨xs, n, _, hx, hl, hlen, hfs⟩ := DataW.trod_struct fieldsLog hf
  match xs, hlen with
  | [y0, y1, y2, y3], _ =>
    have t0 : DataW.trod enc Try.prog W base spare held n 4 [c0] = some y0 := by have h := hfs 0 _ rfl; simpa [Value.cells, cells3, cells4, cells9] using h
    have t1 : DataW.trod enc Try.prog W base spare held n 3 [c1] = some y1 := by have h := hfs 1 _ rfl; simpa [Value.cells, cells3, cells4, cells9] using h
    have t2 : DataW.trod enc Try.prog W base spare held n 3 [c2] = some y2 := by have h := hfs 2 _ rfl; simpa [Value.cells, cells3, cells4, cells9] using h
    have t3 : DataW.trod enc Try.prog W base spare held n 9 [c3] = some y3 := by have h := hfs 3 _ rfl; simpa [Value.cells, cells3, cells4, cells9] using h
    obtain ⟨z0, e0, rfl⟩ := DataW.trod_bool Try.underlying4 t0
    obtain ⟨z1, e1, rfl, w1⟩ := DataW.trod_int Try.underlying3 t1
    obtain ⟨z2, e2, rfl, w2⟩ := DataW.trod_int Try.underlying3 t2
    obtain ⟨z3, e3, rfl, w3⟩ := DataW.trod_string Try.underlying9 t3
    obtain rfl := (List.cons.inj e0).1
    obtain rfl := (List.cons.inj e1).1
    obtain rfl := (List.cons.inj e2).1
    obtain rfl := (List.cons.inj e3).1
    simp only [Prod.mk.injEq] at hx
    exact ⟨z0, z1, z2, z3, rfl, by simpa using hx.2, int_wf w1, int_wf w2, w3⟩

/-- A call. -/
structure OpD where
  k : Int
  t : ByteArray
  a : Int
  b : Int
def OpD.vals (o : OpD) : Array Value := #[.int .i64 o.k, .string o.t, .int .i64 o.a, .int .i64 o.b]
structure OpD.Ok (o : OpD) : Prop where
  k : In64 o.k
  t : o.t.size ≤ 9223372036854775807
  a : In64 o.a
  b : In64 o.b
def opData {H : Type} (o : OpD) : DataW H := .agg [.lit (.int .i64 o.k), .lit (.string o.t.data.toList), .lit (.int .i64 o.a), .lit (.int .i64 o.b)]
/-- A list of calls that came in. -/
def OpsArg (w : World) (v : Value) (l : List OpD) : Prop :=
  (∃ a c, v = .slice a 0 c ∧ l = []) ∨ ∃ b off cap, v = .slice (some ⟨b, off, none⟩) l.length cap ∧ b < w.heap.size ∧ l.length ≤ 9223372036854775807 ∧ ∀ i (hi : i < l.length) j, j < 4 → w.cell? ⟨b, off + i * 4 + j, none⟩ = l[i].vals[j]?

set_option maxRecDepth 100000 in
theorem open_op {H : Type} {enc : TypeId × Value → H} {W : World} {base : Nat} {spare : Nat → Bool} {held : Bool} {fuel : Nat} {cs : List Value} {x : DataW H × List MemPlace} (h : DataW.trod enc Try.prog W base spare held fuel 33 cs = some x) :
    ∃ o : OpD, cs = o.vals.toList ∧ x = (opData o, []) ∧ o.Ok := by
  obtain ⟨xs, n, _, hx, hl, hlen, hfs⟩ := DataW.trod_struct fieldsOp h
  rw [cellsOp] at hl
  match cs, hl, xs, hlen with
  | [c0, c1, c2, c3], _, [y0, y1, y2, y3], _ =>
    have t0 : DataW.trod enc Try.prog W base spare held n 3 [c0] = some y0 := by have h := hfs 0 _ rfl; simpa [cells3, cells4, cells9] using h
    have t1 : DataW.trod enc Try.prog W base spare held n 9 [c1] = some y1 := by have h := hfs 1 _ rfl; simpa [cells3, cells4, cells9] using h
    have t2 : DataW.trod enc Try.prog W base spare held n 3 [c2] = some y2 := by have h := hfs 2 _ rfl; simpa [cells3, cells4, cells9] using h
    have t3 : DataW.trod enc Try.prog W base spare held n 3 [c3] = some y3 := by have h := hfs 3 _ rfl; simpa [cells3, cells4, cells9] using h
    obtain ⟨z0, e0, rfl, w0⟩ := DataW.trod_int Try.underlying3 t0
    obtain ⟨z1, e1, rfl, w1⟩ := DataW.trod_string Try.underlying9 t1
    obtain ⟨z2, e2, rfl, w2⟩ := DataW.trod_int Try.underlying3 t2
    obtain ⟨z3, e3, rfl, w3⟩ := DataW.trod_int Try.underlying3 t3
    obtain rfl := (List.cons.inj e0).1
    obtain rfl := (List.cons.inj e1).1
    obtain rfl := (List.cons.inj e2).1
    obtain rfl := (List.cons.inj e3).1
    exact ⟨⟨z0, z1, z2, z3⟩, rfl, hx, ⟨int_wf w0, w1, int_wf w2, int_wf w3⟩⟩

theorem add_plain (b o j : Nat) : (⟨b, o, none⟩ : Addr).add j = ⟨b, o + j, none⟩ := by unfold Addr.add; split <;> simp_all

set_option maxRecDepth 100000 in
theorem open_ops {H : Type} {enc : TypeId × Value → H} {W : World} {r : Reach} {b0 base : Nat} {spare : Nat → Bool} {held : Bool} {v : Value} {d : DataW H} {p : List MemPlace} (hv : Value.okWide Try.prog W r b0 24 v) (h : DataW.Trod enc Try.prog W base spare held 24 v d p) :
    ∃ l : List OpD, OpsArg W v l ∧ (∀ o ∈ l, o.Ok) ∧ Rows.uptoBulkAll (l.map (opData (H := H))) ≤ Rows.uptoBulk d ∧ ∀ x ∈ p, x.block < W.heap.size := by
  obtain ⟨ad, len, cap, rfl⟩ := okWide_slice underOps hv
  obtain ⟨fuel, hf⟩ := h
  rcases Deep.open_slice underOps hf with ⟨h0, hx⟩ | ⟨a, len', cap', m, n, D, Pl, h0, hb, hl, hm, hmm, hx, hall⟩
  · simp [Value.cells] at h0
    obtain ⟨rfl, rfl, rfl⟩ := h0
    simp only [Prod.mk.injEq] at hx
    obtain ⟨rfl, rfl⟩ := hx
    exact ⟨[], .inl ⟨_, _, rfl, rfl⟩, (fun e he => absurd he List.not_mem_nil), Nat.zero_le _, (fun x hx => absurd hx List.not_mem_nil)⟩
  · simp [Value.cells] at h0
    obtain ⟨rfl, rfl, rfl⟩ := h0
    simp only [Prod.mk.injEq] at hx
    obtain ⟨rfl, rfl⟩ := hx
    have hlm : len ≤ m := by rw [hmm]; split <;> omega
    rw [cellsOp] at hall ⊢
    have each : ∀ i, i < m → ∃ o : OpD, D i = opData o ∧ Pl i = [] ∧ o.Ok ∧ ∀ j, j < 4 → W.cell? ((a.add (i * 4)).add j) = o.vals[j]? := fun i hi => by
      obtain ⟨cs', h1, h2⟩ := hall i hi
      obtain ⟨_, _, hcell⟩ := World.cells?_some h1
      obtain ⟨ev, rfl, hx, hr⟩ := open_op h2
      simp only [Prod.mk.injEq] at hx
      exact ⟨ev, hx.1, hx.2, hr, fun j hj => by rw [hcell j hj, Array.getElem?_toList]⟩
    have hplaces : ∀ x ∈ MemPlace.row a (m * 4) ++ (List.range m).flatMap Pl, x.block < W.heap.size := fun x hx => by
      rcases List.mem_append.1 hx with hx | hx
      · obtain ⟨i, hi, rfl⟩ := MemPlace.mem_row.1 hx
        obtain ⟨ev, _, _, _, hc⟩ := each 0 (by omega)
        have h0 := cell_block ((hc 0 (by decide)).trans rfl)
        rw [Deep.add_add] at h0
        show a.block < W.heap.size
        simpa [Addr.add] using h0
      · obtain ⟨i, hi, hx⟩ := List.mem_flatMap.1 hx
        obtain ⟨ev, _, hp, _⟩ := each i (List.mem_range.1 hi)
        rw [hp] at hx
        cases hx
    haveI : Inhabited OpD := ⟨⟨0, ⟨#[]⟩, 0, 0⟩⟩
    obtain ⟨E, hEv⟩ := Deep.choose_lt each
    have hmap : (List.range len).map D = ((List.range len).map E).map (opData (H := H)) := by
      rw [List.map_map]
      exact List.map_congr_left fun i hi => (hEv i (by have := List.mem_range.1 hi; omega)).1
    have hlen : ((List.range len).map E).length = len := by rw [List.length_map, List.length_range]
    refine ⟨(List.range len).map E, ?_, ?_, ?_, hplaces⟩
    · by_cases hz : len = 0
      · subst hz
        exact .inl ⟨_, _, rfl, rfl⟩
      · obtain ⟨b, off, spot⟩ := a
        have g0 := (hEv 0 (by omega)).2.2.2 0 (by decide)
        have hspot : spot = none := by
          have := World.cell?_spot (g0.trans rfl)
          simpa [Addr.add] using this
        subst hspot
        refine .inr ⟨b, off, cap, by rw [hlen], ?_, ?_, fun i hi j hj => ?_⟩
        · have := cell_block (g0.trans rfl)
          simpa [Addr.add] using this
        · rw [hlen]
          exact Nat.le_trans hl hm
        · rw [hlen] at hi
          have h2 := (hEv i (by omega)).2.2.2 j hj
          rw [add_plain, add_plain] at h2
          rw [h2]
          simp
    · intro e he
      obtain ⟨i, hi, rfl⟩ := List.mem_map.1 he
      exact (hEv i (by have := List.mem_range.1 hi; omega)).2.2.1
    · rw [hmap]
      simp only [Rows.uptoBulk]
      omega

end Go.Proofs.Yteeakldeimhjjab
