/-
  The law's own functions: step's memory, call by call.
-/
import Derived.Test.YtkpnolkbheoocaaQStep
namespace Go.Proofs.Ytkpnolkbheoocaa
open Go.RowKit
set_option linter.unusedVariables false
set_option maxRecDepth 100000

def boxR (q : Qs) (vi : Value) : Obj := .cells #[.int .i64 (q.lim : Int), vi, .bool q.cl] 26
def boxO (o : OpD) : Obj := .cells o.vals 35
def boxZ : Obj := .cells #[.int .i64 0, .slice none 0 0, .bool false] 26
/-- Behind lists. -/
structure S1 (w W w1 : World) (N : Nat) (F : List Nat) (b : Nat) (vi : Value) (q : Qs) (o : OpD) (vl : Value) : Prop where
  own : Own3 W w1 N (boxR q vi) (boxO o) boxZ F
  side : Side w w1 F b vi q
  row : Row w1 9 1 vl o.lines.length (strsV o.lines)
  young : ∀ g, vl.ownBlock = some g → N + 3 ≤ g
  strs : Strs w1 o.lv o.lines
  low : o.lines ≠ [] → ∀ g, o.lv.ownBlock = some g → g < w.heap.size
  foot : ∀ k ∈ F, k < W.heap.size
  n : w.heap.size ≤ N
theorem S1.start {w W w1 : World} {F : List Nat} {b : Nat} {vi : Value} {q : Qs} {o : OpD} {vl : Value} (h : Side w W F b vi q) (hs : Strs W o.lv o.lines) (hlow : o.lines ≠ [] → ∀ g, o.lv.ownBlock = some g → g < w.heap.size) (hm : Mine (((W.alloc (boxR q vi)).alloc (boxO o)).alloc boxZ) w1 9 1 vl o.lines.length (strsV o.lines)) : S1 w W w1 W.heap.size F b vi q o vl := by
  obtain ⟨t1, t2, t3, t4, t5⟩ := heap_three W (boxR q vi) (boxO o) boxZ
  have hb : Below W.heap.size W w1 := t5.trans (hm.below.mono (by omega))
  have hY := hm.below
  refine ⟨⟨rfl, (hY.block _ (by omega)).trans t1, (hY.block _ (by omega)).trans t2, (hY.block _ (by omega)).trans t3, .of hb⟩, h.more hb, hm.row, fun g hg => by have := hm.young g hg; omega, hs.below hb, hlow, h.play.at_.lt, h.play.below.size⟩
theorem S1.r {w W w1 : World} {N : Nat} {F : List Nat} {b : Nat} {vi : Value} {q : Qs} {o : OpD} {vl : Value} (h : S1 w W w1 N F b vi q o vl) : w1.cell? ⟨N, 0, none⟩ = some (.int .i64 (q.lim : Int)) ∧ w1.cell? ⟨N, 1, none⟩ = some vi ∧ w1.cell? ⟨N, 2, none⟩ = some (.bool q.cl) := ⟨cell_atT h.own.r 0, cell_atT h.own.r 1, cell_atT h.own.r 2⟩
theorem op_cells {X : World} {N : Nat} {o : OpD} (h : X.heap[N]? = some (boxO o)) : X.cell? ⟨N, 0, none⟩ = some (.int .i64 o.k) ∧ X.cell? ⟨N, 1, none⟩ = some (.string (str o.line)) ∧ X.cell? ⟨N, 2, none⟩ = some o.lv ∧ X.cell? ⟨N, 3, none⟩ = some (.int .i64 o.pane) ∧ X.cell? ⟨N, 4, none⟩ = some (.int .i64 o.tick) ∧ X.cell? ⟨N, 5, none⟩ = some (.int .i64 o.n) :=
  ⟨cell_atT h 0, cell_atT h 1, cell_atT h 2, cell_atT h 3, cell_atT h 4, cell_atT h 5⟩
/-- The copy lies off the queue. -/
theorem S1.off {w W w1 : World} {N : Nat} {F : List Nat} {b : Nat} {vi : Value} {q : Qs} {o : OpD} {vl : Value} (h : S1 w W w1 N F b vi q o vl) : ∀ g, vl.ownBlock = some g → g ∉ F := fun g hg => by
  obtain ⟨cur, hc⟩ := h.row.block hg
  exact h.side.play.at_.not_mem hc ⟨by decide, by decide, by decide⟩
theorem S1.copy {w W w1 : World} {N : Nat} {F : List Nat} {b : Nat} {vi : Value} {q : Qs} {o : OpD} {vl : Value} (h : S1 w W w1 N F b vi q o vl) : Strs w1 vl o.lines := by
  obtain ⟨ad, cap, _, h1, _, _, h4, _⟩ := h.strs
  exact h.row.strs h1 h4
/-- Behind the queue's own call. -/
structure S2 (w W w2 : World) (N : Nat) (F : List Nat) (b : Nat) (vi : Value) (q q' : Qs) (o : OpD) (vl : Value) : Prop where
  r : w2.heap[N]? = some (boxR q vi)
  op : w2.heap[N + 1]? = some (boxO o)
  z : w2.heap[N + 2]? = some boxZ
  n : w.heap.size ≤ N
  play : ∃ F', Play w w2 F' b q' ∧ ∀ k ∈ F', k ∈ F ∨ W.heap.size ≤ k
  but : But F W w2
  hN : W.heap.size = N
  ref : ∃ its, RIn w2 vi its q
  off : ∀ g, vi.ownBlock = some g → w.heap.size ≤ g
  row : Row w2 9 1 vl o.lines.length (strsV o.lines)
  young : ∀ g, vl.ownBlock = some g → N + 3 ≤ g
  strs : Strs w2 o.lv o.lines
  low : o.lines ≠ [] → ∀ g, o.lv.ownBlock = some g → g < w.heap.size
theorem S1.went {w W w1 w2 : World} {N : Nat} {F : List Nat} {b : Nat} {vi : Value} {q q' : Qs} {o : OpD} {vl : Value} (h : S1 w W w1 N F b vi q o vl) (hw : Went w1 w2 F b q') : S2 w W w2 N F b vi q q' o vl := by
  obtain ⟨its, hr⟩ := h.side.ref
  have hw2 := hw
  obtain ⟨F', k1, k2, k3⟩ := hw
  have hp : ∃ F', Play w w2 F' b q' ∧ ∀ k ∈ F', k ∈ F ∨ W.heap.size ≤ k := ⟨F', ⟨k1, k2.under h.side.play.below h.side.play.below.size h.side.play.young, fun k hk => by rcases k3 k hk with e | e; exact h.side.play.young k e; exact Nat.le_trans h.side.play.below.size e⟩, fun k hk => (k3 k hk).imp id fun e => Nat.le_trans h.own.but.size e⟩
  have ho := h.own.went h.foot k2
  have hn := h.own.n
  have hWb := h.side.play.below
  refine ⟨ho.r, ho.o, ho.z, h.n, hp, ho.but, hn, ⟨its, hr.keep fun g hg => k2.block g (hr.row.lt g hg) (hr.off h.side.play.at_ g hg)⟩, h.side.off, h.row.but k2 h.off, h.young, h.strs.but2 k2 fun hne g hg hh => ?_, h.low⟩
  have h1 := h.low hne g hg
  have h2 := h.side.play.young g hh
  omega
theorem S2.rc {w W w2 : World} {N : Nat} {F : List Nat} {b : Nat} {vi : Value} {q q' : Qs} {o : OpD} {vl : Value} (h : S2 w W w2 N F b vi q q' o vl) : w2.cell? ⟨N, 0, none⟩ = some (.int .i64 (q.lim : Int)) ∧ w2.cell? ⟨N, 1, none⟩ = some vi ∧ w2.cell? ⟨N, 2, none⟩ = some (.bool q.cl) := ⟨cell_atT h.r 0, cell_atT h.r 1, cell_atT h.r 2⟩
/-- Behind the document's call, and the store. -/
theorem S2.mid {w W w2 w3 : World} {N : Nat} {F : List Nat} {b : Nat} {vi vi' : Value} {q q' : Qs} {o : OpD} {vl : Value} (h : S2 w W w2 N F b vi q q' o vl) (hw : RWent w2 w3 vi vi' q') :
    w3.heap[N]? = some (boxR q vi) ∧ w3.heap[N + 1]? = some (boxO o) ∧ ∃ F', Mid w W (((w3.setCell ⟨N, 0, none⟩ (.int .i64 (q'.lim : Int))).setCell ⟨N, 1, none⟩ vi').setCell ⟨N, 2, none⟩ (.bool q'.cl)) N F F' b vi' q' vl o.lv o.lines (boxO o) boxZ := by
  obtain ⟨its, k1, k2, k3⟩ := hw
  obtain ⟨F', hp, hnew⟩ := h.play
  have lt : ∀ {j o}, w2.heap[j]? = some o → j < w2.heap.size := fun h => (Array.getElem?_eq_some_iff.1 h).1
  have r3 := (k2.block N (lt h.r)).trans h.r
  have o3 := (k2.block (N + 1) (lt h.op)).trans h.op
  have z3 := (k2.block (N + 2) (lt h.z)).trans h.z
  have ST := stored3 (x := .int .i64 (q'.lim : Int)) (y := vi') (z := .bool q'.cl) r3
  have hp3 := hp.more k2
  have hF : ∀ g ∈ F', g ≠ N := fun g hg e => by
    subst e
    exact hp3.at_.not_mem r3 ⟨by decide, by decide, by decide⟩ hg
  have hI : ∀ g, vi'.ownBlock = some g → g ≠ N := fun g hg e => by
    obtain ⟨cur, hc⟩ := k1.row.block hg
    have := hc.symm.trans (e ▸ r3)
    simp [boxR] at this
  have hn := h.n
  refine ⟨r3, o3, F', ⟨⟨hp3.at_.keep fun g hg => ST.2.1 g (hF g hg), hp3.below.trans (ST.2.2 _ hn), hp3.young⟩, ⟨its, k1.keep fun g hg => ST.2.1 g (hI g hg)⟩, fun g hg => ?_⟩, hn, ST.1, (ST.2.1 _ (by omega)).trans o3, (ST.2.1 _ (by omega)).trans z3, (h.row.below k2).keep fun g hg => ST.2.1 g (by have := h.young g hg; omega), h.young, (h.strs.below k2).keep2 (fun hne g hg hlt => ST.2.1 g (by have := h.low hne g hg; omega)) (by simp [World.setCell]), h.low, (h.but.trans (.of k2)).chain (But.setCell (But.setCell (But.setCell (But.refl [N] _) (.inl (by simp)) _) (.inl (by simp)) _) (.inl (by simp)) _) (fun k hk => .inr (by rw [List.mem_singleton.1 hk, h.hN]; exact Nat.le_refl _)), by rw [h.hN]; exact Nat.le_refl _, hnew⟩
  rcases k3 g hg with e | e
  · exact h.off g e
  · exact Nat.le_trans hp.below.size e

end Go.Proofs.Ytkpnolkbheoocaa
