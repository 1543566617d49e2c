/-
  Behind a script one call more: what is carried.
-/
import Derived.Test.YtimigbhgghcbeaaQGame
namespace Go.Proofs.Ytimigbhgghcbeaa
open Go.RowKit
set_option linter.unusedVariables false
set_option maxRecDepth 100000

theorem drain_allG (q : Qs) (hq : q.Ok) : q.bs.take (1073741824 : Int).toNat = q.bs := by
  have h1 := hq.few
  have e : (1073741824 : Int).toNat = 1073741824 := rfl
  rw [e]
  exact List.take_of_length_le (by omega)
/-- A queue, the document's in block R, a call in block O. -/
structure GameO (w W : World) (R O : Nat) (F : List Nat) (b : Nat) (vi : Value) (q : Qs) (o : OpD) : Prop where
  game : Game w W R F b vi q
  op : W.heap[O]? = some (boxO o)
theorem GameO.start {w W1 w1 : World} {F : List Nat} {b : Nat} {vi : Value} {q : Qs} {o : OpD} (hb : Below w.heap.size w W1) (hO : W1.heap[w.heap.size]? = some (boxO o)) (hs : Side W1 w1 F b vi q) :
    GameO w (w1.alloc (.cells #[.int .i64 (q.lim : Int), vi, .bool q.cl] 26)) w1.heap.size w.heap.size F b vi q o := by
  have hA : Below w1.heap.size w1 (w1.alloc (.cells #[.int .i64 (q.lim : Int), vi, .bool q.cl] 26)) := (Below.refl _ _).alloc (Nat.le_refl _) _
  have lt := (Array.getElem?_eq_some_iff.1 hO).1
  have hs2 := hs.play.below
  refine ⟨⟨(hs.down hb).more hA, heap_alloc_new w1 _, Nat.le_trans hb.size hs2.size⟩, (hA.block _ (Nat.lt_of_lt_of_le lt hs2.size)).trans ((hs2.block _ lt).trans hO)⟩
theorem GameO.drew {w W : World} {R O : Nat} {F : List Nat} {b : Nat} {vi : Value} {q : Qs} {o : OpD} (h : GameO w W R O F b vi q o) : GameO w W.drew R O F b vi q o := ⟨h.game.drew, h.op⟩
/-- The call's kind written over. -/
theorem GameO.kind {w W : World} {R O : Nat} {F : List Nat} {b : Nat} {vi : Value} {q : Qs} {o : OpD} (h : GameO w W R O F b vi q o) (hO : w.heap.size ≤ O) (k : Int) : GameO w (W.setCell ⟨O, 0, none⟩ (.int .i64 k)) R O F b vi q ⟨k, o.line, o.lv, o.lines, o.pane, o.tick, o.n⟩ := by
  have h1 : (W.setCell ⟨O, 0, none⟩ (.int .i64 k)).heap[O]? = some (boxO ⟨k, o.line, o.lv, o.lines, o.pane, o.tick, o.n⟩) := heap_setCell_same W O 0 _ _ _ h.op
  have h2 : ∀ g, g ≠ O → (W.setCell ⟨O, 0, none⟩ (.int .i64 k)).heap[g]? = W.heap[g]? := fun g hg => Below.heap_setCell _ _ _ _ hg
  obtain ⟨its, hr⟩ := h.game.side.ref
  have hp := h.game.side.play
  refine ⟨⟨⟨⟨hp.at_.keep fun g hg => h2 g (fun e => ?_), hp.below.setCell (p := ⟨O, 0, none⟩) hO _, hp.young⟩, ⟨its, hr.keep fun g hg => h2 g (fun e => ?_)⟩, h.game.side.off⟩, (h2 R (fun e => ?_)).trans h.game.ref, h.game.young⟩, h1⟩
  · subst e
    exact hp.at_.not_mem h.op ⟨by decide, by decide, by decide⟩ hg
  · obtain ⟨cur, hc⟩ := hr.row.block hg
    rw [e] at hc
    exact absurd (hc.symm.trans h.op) (by simp [boxO])
  · have := h.game.ref
    rw [e] at this
    exact absurd (this.symm.trans h.op) (by simp [boxO])
/-- step, the call's box kept. -/
theorem step_gameO {w W : World} {R O : Nat} {F : List Nat} {b : Nat} {vi : Value} {q : Qs} {o : OpD} (h : GameO w W R O F b vi q o) (ho : o.Ok w) :
    Calls Try.prog 16 #[.pointer (some ⟨b, 0, none⟩), .agg #[.int .i64 (q.lim : Int), vi, .bool q.cl], .agg o.vals] W fun x w' => ∃ F' a n c, x = .returned (.tuple #[.agg #[.int .i64 ((stepQ q o).lim : Int), .slice a n c, .bool (stepQ q o).cl], .bool true]) ∧ w'.heap[R]? = some (.cells #[.int .i64 (q.lim : Int), vi, .bool q.cl] 26 (0, 0)) ∧ GameO w (((w'.setCell ⟨R, 0, none⟩ (.int .i64 ((stepQ q o).lim : Int))).setCell ⟨R, 1, none⟩ (.slice a n c)).setCell ⟨R, 2, none⟩ (.bool (stepQ q o).cl)) R O F' b (.slice a n c) (stepQ q o) o := by
  refine (step_any o h.game.side (ho.below h.game.below) (fun hne => ho.strs.low hne)).mono ?_
  intro x w' hx
  obtain ⟨F0, v0, -, -, kb, -⟩ := id hx
  obtain ⟨F', a, n, c, e, hR, hg⟩ := h.game.stepped hx
  have hO := (kb.block O (Array.getElem?_eq_some_iff.1 h.op).1 (h.game.side.play.at_.not_mem h.op ⟨by decide, by decide, by decide⟩)).trans h.op
  have ST := stored3 (x := .int .i64 ((stepQ q o).lim : Int)) (y := .slice a n c) (z := .bool (stepQ q o).cl) hR
  refine ⟨F', a, n, c, e, hR, hg, (ST.2.1 O (fun e => ?_)).trans hO⟩
  subst e
  exact absurd (hR.symm.trans hO) (by simp [boxO])
theorem GameO.more {w W W' : World} {R O : Nat} {F : List Nat} {b : Nat} {vi : Value} {q : Qs} {o : OpD} (h : GameO w W R O F b vi q o) (hb : Below W.heap.size W W') : GameO w W' R O F b vi q o := ⟨h.game.more hb, (hb.block O (Array.getElem?_eq_some_iff.1 h.op).1).trans h.op⟩
theorem gameO_as {w W : World} {R O : Nat} {F : List Nat} {b : Nat} {vi : Value} {q : Qs} {o : OpD} (h : GameO w W R O F b vi q o) (x : Int) : Calls Try.prog 18 #[.pointer (some ⟨b, 0, none⟩), .agg #[.int .i64 (q.lim : Int), vi, .bool q.cl], .int .i64 x] W fun e w' => e = .returned (.bool true) ∧ GameO w w' R O F b vi q o := by
  obtain ⟨its, hr⟩ := h.game.side.ref
  exact (as_any h.game.side.play.at_ hr x).mono fun e w' k => ⟨k.1, h.more k.2⟩
theorem gameO_ref {w W : World} {R O : Nat} {F : List Nat} {b : Nat} {vi : Value} {q : Qs} {o : OpD} (h : GameO w W R O F b vi q o) : Calls Try.prog 17 #[.agg #[.int .i64 (q.lim : Int), vi, .bool q.cl], .int .i64 1073741824] W fun x w' => ∃ a m c, x = .returned (.tuple #[.string (str q.bs), .agg #[.int .i64 (q.lim : Int), .slice a m c, .bool q.cl]]) ∧ GameO w w' R O F b vi q o := by
  obtain ⟨its, hr⟩ := h.game.side.ref
  have hok := h.game.side.play.at_.ok
  refine (refDrain_any 1073741824 hr hok (by decide) (by decide)).mono ?_
  rintro x w' ⟨vi', rfl, its', k1, k2, k3⟩
  obtain ⟨a, m, c, rfl, _⟩ := k1.shape
  rw [drain_allG q hok]
  exact ⟨a, m, c, rfl, h.more k2⟩
theorem gameO_drain {w W : World} {R O : Nat} {F : List Nat} {b : Nat} {vi : Value} {q : Qs} {o : OpD} (h : GameO w W R O F b vi q o) : Calls Try.prog 14 #[.pointer (some ⟨b, 0, none⟩), .int .i64 1073741824] W fun x w' => x = .returned (.string (str q.bs)) ∧ Below w.heap.size w w' := by
  have hok := h.game.side.play.at_.ok
  have h9 := drain_any 1073741824 h.game.side.play.at_ (by decide) (by decide)
  rw [drain_allG q hok] at h9
  exact h9.mono fun x w' k => ⟨k.1, by obtain ⟨F', h4⟩ := h.game.side.play.went k.2; exact h4.below⟩


theorem OpsArg.below {w W : World} {v : Value} {ops : List OpD} (h : OpsArg w v ops) (hb : Below w.heap.size w W) : OpsArg W v ops := by
  obtain ⟨ad, n, cap, rfl, hn, hn1, hok, hc⟩ := h
  refine ⟨ad, n, cap, rfl, hn, hn1, fun o ho => (hok o ho).below hb, fun hp => ?_⟩
  obtain ⟨g, p, e, hg, hcell⟩ := hc hp
  exact ⟨g, p, e, Nat.lt_of_lt_of_le hg hb.size, fun i o ho j hj => (hb.cell (p := ⟨g, p + i * 6 + j, none⟩) hg).trans (hcell i o ho j hj)⟩

end Go.Proofs.Ytimigbhgghcbeaa
