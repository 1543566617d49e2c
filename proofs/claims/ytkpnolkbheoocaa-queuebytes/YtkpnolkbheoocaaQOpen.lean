/-
  The queue's arguments, opened: a call, a list of calls.
-/
import Derived.Test.YtkpnolkbheoocaaRows
import Derived.Test.YtkpnolkbheoocaaQStepA
import Derived.Deep.Slices
import Derived.ChangeArms
import Derived.WideShapes
import Derived.Carry
import Derived.OpenShut
import Derived.SizedLaws
namespace Go.Proofs.Ytkpnolkbheoocaa
open Go.RowKit Go.ChangeShapes Go.WideShapes
set_option linter.unusedVariables false

theorem cell_blockQ {w : World} {a : Addr} {v : Value} (h : w.cell? a = some v) : a.block < w.heap.size := by
  rcases Nat.lt_or_ge a.block w.heap.size with h1 | h1
  · exact h1
  · simp [World.cell?, Array.getElem?_eq_none h1] at h
theorem laidOut : laidOutB Try.prog = true := by kernel_rfl
theorem cells9Q : Try.prog.cellsOf 9 = 1 := by kernel_rfl
theorem cells3Q : Try.prog.cellsOf 3 = 1 := by kernel_rfl
theorem cellsRowQ : Try.prog.cellsOf 33 = 1 := by kernel_rfl
theorem cellsOpQ : Try.prog.cellsOf 35 = 6 := by kernel_rfl
theorem bytes9Q : Try.prog.bytesOf 9 = 16 := by kernel_rfl
theorem bytesOpQ : Try.prog.bytesOf 35 = 72 := by kernel_rfl
theorem underOpsQ : Try.prog.underlying 22 = some (.slice 35) := by kernel_rfl
theorem fieldsOpQ : Try.prog.underlying 35 = some (.struct #[⟨"Kind", 3, 0, false, "", "", 0⟩, ⟨"Line", 9, 1, false, "", "", 8⟩, ⟨"Lines", 33, 2, false, "", "", 24⟩, ⟨"Pane", 3, 3, false, "", "", 48⟩, ⟨"Tick", 3, 4, false, "", "", 56⟩, ⟨"N", 3, 5, false, "", "", 64⟩]) := by kernel_rfl
theorem add_plainQ (b o j : Nat) : (⟨b, o, none⟩ : Addr).add j = ⟨b, o + j, none⟩ := by unfold Addr.add; split <;> simp_all
theorem range_get {α : Type} {n i : Nat} {f : Nat → α} {x : α} (h : ((List.range n).map f)[i]? = some x) : i < n ∧ f i = x := by
  have hi := (List.getElem?_eq_some_iff.1 h).1
  rw [List.length_map, List.length_range] at hi
  refine ⟨hi, ?_⟩
  simpa [hi] using h
theorem int_wfQ {n : Int} (h : (Lit.int .i64 n).wf = true) : -9223372036854775808 ≤ n ∧ n ≤ 9223372036854775807 := by
  simp only [Lit.wf, Bool.and_eq_true, decide_eq_true_eq] at h
  have h1 : IntKind.i64.min = -9223372036854775808 := by decide
  have h2 : IntKind.i64.max = 9223372036854775807 := by decide
  omega

/-- All weights are borne. -/
def Light {H : Type} (t : TypeId) (d : DataW H) : Prop := ∀ n ∈ d.weights Try.prog t, n ≤ reachBytes
theorem light_of {H : Type} {ts : List TypeId} {ds : List (DataW H)} (h : (DataW.weightsEach Try.prog ts ds).all (· ≤ reachBytes) = true) {j : Nat} {t : TypeId} {d : DataW H} (ht : ts[j]? = some t) (hd : ds[j]? = some d) : Light t d := fun n hn => by simpa using List.all_eq_true.1 h _ (DataW.weights_mem_each ht hd n hn)
theorem weightsAll_mem {H : Type} {e : TypeId} : ∀ {l : List (DataW H)} {d : DataW H} {n : Nat}, d ∈ l → n ∈ d.weights Try.prog e → n ∈ DataW.weightsAll Try.prog e l
  | d0 :: l, d, n, hd, hn => by
    simp only [DataW.weightsAll, List.mem_append]
    rcases List.mem_cons.1 hd with rfl | hd
    · exact .inl hn
    · exact .inr (weightsAll_mem hd hn)

theorem open_lines {H : Type} {enc : TypeId × Value → H} {W : World} {base : Nat} {spare : Nat → Bool} {held : Bool} {fuel : Nat} {V : Value} {D : DataW H} {Pl : List MemPlace} (h : DataW.trod enc Try.prog W base spare held fuel 33 [V] = some (D, Pl)) :
    ∃ c : List (List UInt8), (Light 33 D → Strs W V c) ∧ ∀ x ∈ Pl, x.block < W.heap.size := by
  rcases Deep.open_slice1 underStrs cells9Q h with ⟨h0, hx⟩ | ⟨a, len, cap, m, n, V', D', Pl', h0, hb, hl, hm, hmm, hx, hall⟩
  · have hV : V = .slice none 0 0 := (List.cons.inj h0).1
    subst hV
    simp only [Prod.mk.injEq] at hx
    obtain ⟨rfl, rfl⟩ := hx
    exact ⟨[], fun _ => ⟨_, _, rfl, by simp, by simp, by decide, (fun l hl => absurd hl List.not_mem_nil), fun hne => absurd rfl hne⟩, fun x hx => absurd hx List.not_mem_nil⟩
  · have hV : V = .slice (some a) len cap := (List.cons.inj h0).1
    subst hV
    simp only [Prod.mk.injEq] at hx
    obtain ⟨rfl, rfl⟩ := hx
    have hlm : len ≤ m := by rw [hmm]; split <;> omega
    have each : ∀ i, i < m → ∃ o : ByteArray, Pl' i = [] ∧ W.cell? (a.add i) = some (.string o) ∧ o.size ≤ 9223372036854775807 := fun i hi => by
      obtain ⟨h1, h2⟩ := hall i hi
      obtain ⟨z, e1, e2, w1⟩ := DataW.trod_string Try.underlying9 h2
      simp only [Prod.mk.injEq] at e2
      refine ⟨z, e2.2, ?_, ?_⟩
      · rw [h1, (List.cons.inj e1).1]
      · exact w1
    haveI : Inhabited ByteArray := ⟨⟨#[]⟩⟩
    obtain ⟨E, hE⟩ := Deep.choose_lt each
    refine ⟨(List.range len).map fun i => (E i).data.toList, fun hL => ⟨some a, cap, by rw [List.length_map, List.length_range], ?_, by rw [List.length_map, List.length_range]; exact hl, by unfold maxLen at hm; omega, fun l hl => ?_, fun hne => ?_⟩, ?_⟩
    · have h9 := hL ((((List.range len).map D').length + ((List.range (m - len)).map fun j => D' (len + j)).length) * Try.prog.bytesOf 9) (by simp [DataW.weights])
      rw [bytes9Q] at h9
      simp only [List.length_map, List.length_range, reachBytes] at h9 ⊢
      omega
    · obtain ⟨i, hi, rfl⟩ := List.mem_map.1 hl
      have := (hE i (by have := List.mem_range.1 hi; omega)).2.2
      rw [size_data]
      exact this
    · have hl0 : 0 < len := by
        rcases Nat.eq_zero_or_pos len with h | h
        · subst h; exact absurd rfl hne
        · exact h
      obtain ⟨b, off, spot⟩ := a
      have g0 := (hE 0 (by omega)).2.1
      have hspot : spot = none := by
        have := World.cell?_spot g0
        simpa [Addr.add] using this
      subst hspot
      refine ⟨b, off, rfl, ?_, fun i x hx => ?_⟩
      · have := cell_blockQ g0
        simpa [Addr.add] using this
      · obtain ⟨hi, e⟩ := range_get hx
        have h2 := (hE i (by omega)).2.1
        rw [add_plainQ] at h2
        rw [h2, ← e]
        rfl
    · intro x hx
      rcases List.mem_append.1 hx with hx | hx
      · obtain ⟨i, hi, rfl⟩ := MemPlace.mem_row.1 hx
        have h0 := cell_blockQ (hE 0 (by omega)).2.1
        show a.block < W.heap.size
        simpa [Addr.add] using h0
      · obtain ⟨i, hi, hx⟩ := List.mem_flatMap.1 hx
        rw [(hE i (List.mem_range.1 hi)).1] at hx
        cases hx

set_option maxRecDepth 100000 in
theorem open_op1 {H : Type} {enc : TypeId × Value → H} {W : World} {base : Nat} {spare : Nat → Bool} {held : Bool} {fuel : Nat} {cs : List Value} {x : DataW H × List MemPlace} (h : DataW.trod enc Try.prog W base spare held fuel 35 cs = some x) :
    ∃ o : OpD, cs = o.vals.toList ∧ (Light 35 x.1 → o.Ok W) ∧ ∀ y ∈ x.2, y.block < W.heap.size := by
  obtain ⟨xs, n, _, hx, hl, hlen, hfs⟩ := DataW.trod_struct fieldsOpQ h
  rw [cellsOpQ] at hl
  match cs, hl, xs, hlen with
  | [c0, c1, c2, c3, c4, c5], _, [y0, y1, y2, y3, y4, y5], _ =>
    have t0 : DataW.trod enc Try.prog W base spare held n 3 [c0] = some y0 := by have h := hfs 0 _ rfl; simpa [cells3Q, cells9Q, cellsRowQ] using h
    have t1 : DataW.trod enc Try.prog W base spare held n 9 [c1] = some y1 := by have h := hfs 1 _ rfl; simpa [cells3Q, cells9Q, cellsRowQ] using h
    have t2 : DataW.trod enc Try.prog W base spare held n 33 [c2] = some y2 := by have h := hfs 2 _ rfl; simpa [cells3Q, cells9Q, cellsRowQ] using h
    have t3 : DataW.trod enc Try.prog W base spare held n 3 [c3] = some y3 := by have h := hfs 3 _ rfl; simpa [cells3Q, cells9Q, cellsRowQ] using h
    have t4 : DataW.trod enc Try.prog W base spare held n 3 [c4] = some y4 := by have h := hfs 4 _ rfl; simpa [cells3Q, cells9Q, cellsRowQ] using h
    have t5 : DataW.trod enc Try.prog W base spare held n 3 [c5] = some y5 := by have h := hfs 5 _ rfl; simpa [cells3Q, cells9Q, cellsRowQ] using h
    obtain ⟨z0, e0, rfl, w0⟩ := DataW.trod_int Try.underlying3 t0
    obtain ⟨z1, e1, rfl, w1⟩ := DataW.trod_string Try.underlying9 t1
    obtain ⟨D2, P2⟩ := y2
    obtain ⟨c, hc, hpl⟩ := open_lines t2
    obtain ⟨z3, e3, rfl, w3⟩ := DataW.trod_int Try.underlying3 t3
    obtain ⟨z4, e4, rfl, w4⟩ := DataW.trod_int Try.underlying3 t4
    obtain ⟨z5, e5, rfl, w5⟩ := DataW.trod_int Try.underlying3 t5
    obtain rfl := (List.cons.inj e0).1
    obtain rfl := (List.cons.inj e1).1
    obtain rfl := (List.cons.inj e3).1
    obtain rfl := (List.cons.inj e4).1
    obtain rfl := (List.cons.inj e5).1
    refine ⟨⟨z0, z1.data.toList, c2, c, z3, z4, z5⟩, rfl, fun hL => ⟨int_wfQ w0, by show z1.data.toList.length ≤ _; rw [size_data]; exact w1, hc fun m hm => hL m ?_, int_wfQ w3, int_wfQ w4, int_wfQ w5⟩, fun y hy => ?_⟩
    · rw [hx]
      simp [DataW.weights, DataW.weightsEach, hm]
    · rw [hx] at hy
      simp at hy
      exact hpl y hy

set_option maxRecDepth 100000 in
/-- A call that comes in by itself. -/
theorem open_opQ {H : Type} {enc : TypeId × Value → H} {W : World} {r : Reach} {b0 base : Nat} {spare : Nat → Bool} {held : Bool} {v : Value} {d : DataW H} {p : List MemPlace} (hv : Value.okWide Try.prog W r b0 35 v) (h : DataW.Trod enc Try.prog W base spare held 35 v d p) :
    ∃ o : OpD, v = .agg o.vals ∧ (Light 35 d → o.Ok W) ∧ ∀ y ∈ p, y.block < W.heap.size := by
  obtain ⟨cs, rfl, hsz⟩ := okWide_struct fieldsOpQ hv
  obtain ⟨fuel, hf⟩ := h
  obtain ⟨o, h1, h2, h3⟩ := open_op1 hf
  refine ⟨o, ?_, h2, h3⟩
  have : cs.toList = o.vals.toList := by simpa [Value.cells] using h1
  rw [Array.toList_inj.1 this]

set_option maxRecDepth 100000 in
theorem open_opsQ {H : Type} {enc : TypeId × Value → H} {W : World} {r : Reach} {b0 base : Nat} {spare : Nat → Bool} {held : Bool} {v : Value} {d : DataW H} {p : List MemPlace} (hv : Value.okWide Try.prog W r b0 22 v) (h : DataW.Trod enc Try.prog W base spare held 22 v d p) :
    ∃ ops : List OpD, (Light 22 d → OpsArg W v ops) ∧ ∀ x ∈ p, x.block < W.heap.size := by
  obtain ⟨ad, len, cap, rfl⟩ := okWide_slice underOpsQ hv
  obtain ⟨fuel, hf⟩ := h
  rcases Deep.open_slice underOpsQ hf with ⟨h0, hx⟩ | ⟨a, len', cap', m, n, D, Pl, h0, hb, hl, hm, hmm, hx, hall⟩
  · simp [Value.cells] at h0
    obtain ⟨rfl, rfl, rfl⟩ := h0
    simp only [Prod.mk.injEq] at hx
    obtain ⟨rfl, rfl⟩ := hx
    exact ⟨[], fun _ => ⟨_, _, _, rfl, rfl, by decide, (fun o ho => absurd ho List.not_mem_nil), fun h => absurd h (Nat.lt_irrefl _)⟩, fun x hx => absurd hx List.not_mem_nil⟩
  · simp [Value.cells] at h0
    obtain ⟨rfl, rfl, rfl⟩ := h0
    simp only [Prod.mk.injEq] at hx
    obtain ⟨rfl, rfl⟩ := hx
    have hlm : len ≤ m := by rw [hmm]; split <;> omega
    rw [cellsOpQ] at hall ⊢
    have each : ∀ i, i < m → ∃ o : OpD, (Light 35 (D i) → o.Ok W) ∧ (∀ y ∈ Pl i, y.block < W.heap.size) ∧ ∀ j, j < 6 → W.cell? ((a.add (i * 6)).add j) = o.vals[j]? := fun i hi => by
      obtain ⟨cs', h1, h2⟩ := hall i hi
      obtain ⟨_, _, hcell⟩ := World.cells?_some h1
      obtain ⟨ev, rfl, hx, hr⟩ := open_op1 h2
      exact ⟨ev, hx, hr, fun j hj => by rw [hcell j hj, Array.getElem?_toList]⟩
    have hplaces : ∀ x ∈ MemPlace.row a (m * 6) ++ (List.range m).flatMap Pl, x.block < W.heap.size := fun x hx => by
      rcases List.mem_append.1 hx with hx | hx
      · obtain ⟨i, hi, rfl⟩ := MemPlace.mem_row.1 hx
        obtain ⟨ev, _, _, hc⟩ := each 0 (by omega)
        have h0 := cell_blockQ ((hc 0 (by decide)).trans rfl)
        rw [Deep.add_add] at h0
        show a.block < W.heap.size
        simpa [Addr.add] using h0
      · obtain ⟨i, hi, hx⟩ := List.mem_flatMap.1 hx
        obtain ⟨ev, _, hp, _⟩ := each i (List.mem_range.1 hi)
        exact hp x hx
    haveI : Inhabited OpD := ⟨⟨0, [], .slice none 0 0, [], 0, 0, 0⟩⟩
    obtain ⟨E, hEv⟩ := Deep.choose_lt each
    have hlen : ((List.range len).map E).length = len := by rw [List.length_map, List.length_range]
    have few_of : Light 22 (.slice ((List.range len).map D) ((List.range (m - len)).map fun j => D (len + j)) : DataW H) → ((List.range len).map E).length = len → len ≤ 8796093022208 := fun hL _ => by
      have h9 := hL ((((List.range len).map D).length + ((List.range (m - len)).map fun j => D (len + j)).length) * Try.prog.bytesOf 35) (by simp [DataW.weights])
      rw [bytesOpQ] at h9
      simp only [List.length_map, List.length_range, reachBytes] at h9
      omega
    refine ⟨(List.range len).map E, fun hL => ⟨_, _, _, rfl, hlen, few_of hL hlen, fun o ho => ?_, fun hpos => ?_⟩, hplaces⟩
    · obtain ⟨i, hi, rfl⟩ := List.mem_map.1 ho
      have hil := List.mem_range.1 hi
      refine (hEv i (by omega)).1 fun k hk => hL k ?_
      simp only [DataW.weights, underOpsQ, List.mem_cons, List.mem_append]
      exact .inr (.inl (weightsAll_mem (List.mem_map.2 ⟨i, hi, rfl⟩) hk))
    · obtain ⟨b, off, spot⟩ := a
      have g0 := (hEv 0 (by omega)).2.2 0 (by decide)
      have hspot : spot = none := by
        have := World.cell?_spot (g0.trans rfl)
        simpa [Addr.add] using this
      subst hspot
      refine ⟨b, off, rfl, ?_, fun i o ho j hj => ?_⟩
      · have := cell_blockQ (g0.trans rfl)
        simpa [Addr.add] using this
      · obtain ⟨hi, e⟩ := range_get ho
        have h2 := (hEv i (by omega)).2.2 j hj
        rw [add_plainQ, add_plainQ] at h2
        rw [h2, e]

end Go.Proofs.Ytkpnolkbheoocaa
