/-
  Buffers: both sides in memory, and what a step does to them.
-/
import Derived.Test.YtgbaeajcgiaboaaDoorUSam
namespace Go.Proofs.YtgbaeajcgiaboaaDoor
open Go.RowKit
set_option linter.unusedVariables false
set_option maxRecDepth 100000

/-- A step of a play. -/
structure Ps where
  k : Int
  n : Int
  nm : ByteArray
  tx : ByteArray
instance : Inhabited Ps := ⟨⟨0, 0, ⟨#[]⟩, ⟨#[]⟩⟩⟩
def encP (s : Ps) : List Value := [.int .i64 s.k, .int .i64 s.n, .string s.nm, .string s.tx]
def Ps.wf (s : Ps) : Prop := s.nm.size ≤ 140737488355328 ∧ s.tx.size ≤ 140737488355328
def SeeP (w : World) (v : Value) (l : List Ps) : Prop := ∃ a c, v = .slice a l.length c ∧ (l ≠ [] → ∃ g o, a = some ⟨g, o, none⟩ ∧ ∀ j (hj : j < l.length) (c : Nat) u, (encP l[j])[c]? = some u → w.cell? ⟨g, o + j * 4 + c, none⟩ = some u)
theorem SeeP.below {w w' : World} {v : Value} {l : List Ps} (h : SeeP w v l) (hb : Below w.heap.size w w') : SeeP w' v l := by
  obtain ⟨a, c, rfl, hc⟩ := h
  refine ⟨a, c, rfl, fun hne => ?_⟩
  obtain ⟨g, o, rfl, hcell⟩ := hc hne
  refine ⟨g, o, rfl, fun j hj c u hu => ?_⟩
  have h1 := hcell j hj c u hu
  exact (hb.cell (World.block_lt_of_cell? w _ h1)).trans h1
/-- The program's side. -/
structure Pr (w0 W : World) (b : Nat) (v : Value) (s : St) : Prop where
  env : Env w0 W b v
  bf : Bf W b v s.l (s.lim : Int) (s.c : Int)
theorem Pr.below {w0 W W' : World} {b : Nat} {v : Value} {s : St} (h : Pr w0 W b v s) (hb : Below W.heap.size W W') : Pr w0 W' b v s := ⟨h.env.below hb, h.bf.below hb⟩
theorem Pr.stp {w0 W W' : World} {b : Nat} {v v' : Value} {s s' : St} (h : Pr w0 W b v s) (hb : Bf W' b v' s'.l (s'.lim : Int) (s'.c : Int)) (k : Stp W W' b v v') : Pr w0 W' b v' s' := ⟨h.env.stp k, hb⟩
/-- The document's side. -/
structure Dr (w0 W : World) (Q : Nat) (v : Value) (s : St) : Prop where
  ge : w0.heap.size ≤ Q
  q : W.heap[Q]? = some (.cells #[v, .int .i64 (s.lim : Int), .int .i64 (s.c : Int)] 62 (0, 0))
  its : ItsAt W v s.l
theorem Dr.below {w0 W W' : World} {Q : Nat} {v : Value} {s : St} (h : Dr w0 W Q v s) (hb : Below W.heap.size W W') : Dr w0 W' Q v s := ⟨h.ge, (hb.block Q (lt_block h.q)).trans h.q, h.its.below hb⟩
theorem Stp.far {w0 W W' : World} {b : Nat} {v v' : Value} {s : St} (h : Pr w0 W b v s) (k : Stp W W' b v v') {q : Nat} {cs : Array Value} {T : TypeId} (hq : W.heap[q]? = some (.cells cs T (0, 0))) (h1 : T ≠ 54) (h2 : T ≠ 45) : W'.heap[q]? = some (.cells cs T (0, 0)) :=
  (k.but.block q (lt_block hq) fun hh => by
    rcases List.mem_cons.1 hh with e | e
    · subst e
      rw [h.bf.hd] at hq
      cases hq
      exact h2 rfl
    · obtain ⟨cur, hc⟩ := Row.block h.bf.row (g := q) (by simpa using e)
      rw [hc] at hq
      cases hq
      exact h1 rfl).trans hq
theorem Dr.stp {w0 W W' : World} {b Q : Nat} {v v' vd : Value} {s sd : St} (h : Dr w0 W Q vd sd) (hp : Pr w0 W b v s) (k : Stp W W' b v v') : Dr w0 W' Q vd sd :=
  ⟨h.ge, Stp.far hp k h.q (by decide) (by decide), Row.keep h.its fun g hg => by
    obtain ⟨cur, hc⟩ := Row.block h.its hg
    exact (Stp.far hp k hc (by decide) (by decide)).trans hc.symm⟩
/-- A store into a block of another kind. -/
theorem Pr.put {w0 W : World} {b : Nat} {v : Value} {s : St} (h : Pr w0 W b v s) {q : Nat} {cs : Array Value} {T : TypeId} (hq : W.heap[q]? = some (.cells cs T (0, 0))) (h1 : T ≠ 54) (h2 : T ≠ 45) (hge : w0.heap.size ≤ q) (i : Nat) (u : Value) : Pr w0 (W.setCell ⟨q, i, none⟩ u) b v s := by
  have hb : b ≠ q := fun e => by
    rw [← e, h.bf.hd] at hq
    cases hq
    exact h2 rfl
  refine ⟨⟨h.env.tab, h.env.old.setCell hge _, h.env.hb, h.env.hv⟩, put_other h.bf.hd hb _ _, Row.keep h.bf.row fun g hg => put_other rfl (fun e => ?_) _ _⟩
  subst e
  obtain ⟨cur, hc⟩ := Row.block h.bf.row hg
  rw [hc] at hq
  cases hq
  exact h1 rfl
theorem Dr.new {w0 W : World} {Q : Nat} {v v' : Value} {s s' : St} (h : Dr w0 W Q v s) (h' : ItsAt W v' s'.l) : Dr w0 (((W.setCell ⟨Q, 0, none⟩ v').setCell ⟨Q, 1, none⟩ (.int .i64 (s'.lim : Int))).setCell ⟨Q, 2, none⟩ (.int .i64 (s'.c : Int))) Q v' s' :=
  ⟨h.ge, three_at h.q, Its.keep (Its.keep (Its.keep h' h.q 0 _) (put_at h.q 0 _) 1 _) (put_at (put_at h.q 0 _) 1 _) 2 _⟩
theorem Dr.put {w0 W : World} {Q : Nat} {v : Value} {s : St} (h : Dr w0 W Q v s) {q : Nat} {cs : Array Value} {T : TypeId} (hq : W.heap[q]? = some (.cells cs T (0, 0))) (h1 : T ≠ 87) (h2 : T ≠ 62) (i : Nat) (u : Value) : Dr w0 (W.setCell ⟨q, i, none⟩ u) Q v s := by
  refine ⟨h.ge, put_other h.q (fun e => ?_) _ _, Row.keep h.its fun g hg => put_other rfl (fun e => ?_) _ _⟩
  · rw [← e, h.q] at hq
    cases hq
    exact h2 rfl
  · subst e
    obtain ⟨cur, hc⟩ := Row.block h.its hg
    rw [hc] at hq
    cases hq
    exact h1 rfl
theorem Dr.cells {w0 W : World} {Q : Nat} {v : Value} {s : St} (h : Dr w0 W Q v s) : W.cell? ⟨Q, 0, none⟩ = some v ∧ W.cell? ⟨Q, 1, none⟩ = some (.int .i64 (s.lim : Int)) ∧ W.cell? ⟨Q, 2, none⟩ = some (.int .i64 (s.c : Int)) ∧ W.frozen? ⟨Q, 0, none⟩ = false ∧ W.frozen? ⟨Q, 1, none⟩ = false ∧ W.frozen? ⟨Q, 2, none⟩ = false :=
  ⟨cell_at h.q 0, cell_at h.q 1, cell_at h.q 2, free_at h.q 0, free_at h.q 1, free_at h.q 2⟩
end Go.Proofs.YtgbaeajcgiaboaaDoor
