/-
  Layouts: a box stretched; the box that a split's parts fill.
-/
import Derived.Test.YtcjcekaahooamaaLBox
import Derived.WalkKit
import Derived.LoopTactic
import Derived.RegionTactic
import Derived.Deep.RegionWith
import Derived.Deep.DrawnRows
import Derived.Deep.RegionHeld3
namespace Go.Proofs.Ytcjcekaahooamaa
open Go.RowKit
set_option linter.unusedVariables false
set_option maxRecDepth 20000

def Box.str (b : Box) (k n : Int) : Box := if k = 2 then { b with w := b.w + n } else { b with h := b.h + n }
theorem grownBy_set (w : World) (g o : Nat) (v : Value) : w.grownBy (w.setCell ⟨g, o, none⟩ v) (some g) :=
  ⟨rfl, rfl, rfl, by simp [World.setCell], fun k _ hr => Below.heap_setCell _ _ _ _ (fun e => hr (by simp [e]))⟩
theorem frozen_set (w : World) (g o : Nat) (v : Value) (p : Addr) : (w.setCell ⟨g, o, none⟩ v).frozen? p = w.frozen? p := by
  unfold World.frozen? World.setCell
  by_cases h : p.block = g
  · subst h
    cases hh : w.heap[p.block]? with
    | none => simp [hh, Array.getElem?_modify]
    | some o => cases o <;> simp [hh, Array.getElem?_modify]
  · have : g ≠ p.block := fun e => h e.symm
    simp [Array.getElem?_modify, this]

theorem set_other (w : World) (g o o' : Nat) (v : Value) (h : o ≠ o') : (w.setCell ⟨g, o, none⟩ v).cell? ⟨g, o', none⟩ = w.cell? ⟨g, o', none⟩ := by
  rw [World.cell?_setCell_other]
  simp only [ne_eq, Addr.mk.injEq, not_and]
  intro _ e
  exact absurd e h
theorem set_same (w : World) (g o : Nat) (v u : Value) (h : w.cell? ⟨g, o, none⟩ = some u) : (w.setCell ⟨g, o, none⟩ v).cell? ⟨g, o, none⟩ = some v := World.cell?_setCell_same _ _ _ h

theorem box_stretch (g : Nat) (b : Box) (k n : Int) (w : World) (h : BoxAt w g b) (h1 : -1000000 ≤ b.w ∧ b.w ≤ 1000000) (h2 : -1000000 ≤ b.h ∧ b.h ≤ 1000000) (h3 : -1000000 ≤ n ∧ n ≤ 1000000) :
    Calls Try.prog 33 #[.pointer (some ⟨g, 0, none⟩), .int .i64 k, .int .i64 n] w fun e w' => e = .returned (.tuple #[]) ∧ BoxAt w' g (b.str k n) ∧ w.grownBy w' (some g) ∧ (∀ o, 4 ≤ o → w'.cell? ⟨g, o, none⟩ = w.cell? ⟨g, o, none⟩) := by
  have HB : Hid (BoxAt w g b) := h
  obtain ⟨q0, q1, q2, q3, qf⟩ := h
  have f2 := qf 2 (by decide)
  have f3 := qf 3 (by decide)
  clear qf
  by_cases hk : k = 2
  · subst hk
    go_enter Try.func33, Try.ntmps33
    go_wp2
    refine ⟨rfl, .tuple #[], (by simp [results, Try.results33, go_sem]), rfl, ?_, ?_, ?_⟩
    · show BoxAt _ _ { b with w := b.w + n }
      refine ⟨?_, ?_, ?_, ?_, fun o ho => by rw [frozen_set]; exact HB.out.free o ho⟩
      · rw [set_other _ _ _ _ _ (by decide)]; exact q0
      · rw [set_other _ _ _ _ _ (by decide)]; exact q1
      · rw [set_same _ _ _ _ _ q2]
      · rw [set_other _ _ _ _ _ (by decide)]; exact q3
    · exact grownBy_set _ _ _ _
    · intro o ho
      rw [set_other _ _ _ _ _ (by omega)]
  · have hk2 : (k == 2) = false := by simpa using hk
    have hst : b.str k n = { b with h := b.h + n } := if_neg hk
    rw [hst]
    go_enter Try.func33, Try.ntmps33
    go_wp2
    refine ⟨rfl, .tuple #[], (by simp [results, Try.results33, go_sem]), rfl, ?_, ?_, ?_⟩
    · refine ⟨?_, ?_, ?_, ?_, fun o ho => by rw [frozen_set]; exact HB.out.free o ho⟩
      · rw [set_other _ _ _ _ _ (by decide)]; exact q0
      · rw [set_other _ _ _ _ _ (by decide)]; exact q1
      · rw [set_other _ _ _ _ _ (by decide)]; exact q2
      · rw [set_same _ _ _ _ _ q3]
    · exact grownBy_set _ _ _ _
    · intro o ho
      rw [set_other _ _ _ _ _ (by omega)]

/-- The parts' extents are sides. -/
def SmallT (ts : List Tree) : Prop := ts.length ≤ 200 ∧ ∀ t ∈ ts, (1 ≤ t.box.w ∧ t.box.w ≤ 1000) ∧ (1 ≤ t.box.h ∧ t.box.h ≤ 1000)
/-- The box that parts fill. -/
def aroundB (ts : List Tree) (k : Int) : Box := match ts with
  | [] => ⟨0, 0, 0, 0⟩
  | t :: r => if k = 2 then ⟨0, 0, extAll (t :: r) k, t.box.h⟩ else ⟨0, 0, t.box.w, extAll (t :: r) k⟩

theorem BoxAt.below {W W' : World} {g : Nat} {b : Box} (h : BoxAt W g b) (hb : Below W.heap.size W W') : BoxAt W' g b := by
  have hg : g < W.heap.size := World.block_lt_of_cell? W _ h.x
  exact ⟨(hb.cell (p := ⟨g, 0, none⟩) hg).trans h.x, (hb.cell (p := ⟨g, 1, none⟩) hg).trans h.y, (hb.cell (p := ⟨g, 2, none⟩) hg).trans h.w, (hb.cell (p := ⟨g, 3, none⟩) hg).trans h.h, fun o ho => (hb.frozen (p := ⟨g, o, none⟩) hg).trans (h.free o ho)⟩
theorem BoxAt.lt {W : World} {g : Nat} {b : Box} (h : BoxAt W g b) : g < W.heap.size := World.block_lt_of_cell? W _ h.x
theorem below_grown {a w w' : World} {r : Nat} (h : Below a.heap.size a w) (hg : w.grownBy w' (some r)) (hr : a.heap.size ≤ r) : Below a.heap.size a w' := h.grown hg h.size (fun k e => by cases e; exact hr)
theorem BoxAt.new (W : World) (t : TypeId) : BoxAt (W.alloc (.cells #[.int .i64 0, .int .i64 0, .int .i64 0, .int .i64 0] t)) W.heap.size ⟨0, 0, 0, 0⟩ := by
  have h := heap_alloc_new W (.cells #[.int .i64 0, .int .i64 0, .int .i64 0, .int .i64 0] t)
  exact ⟨cell_atL h 0, cell_atL h 1, cell_atL h 2, cell_atL h 3, fun o _ => free_atL h o⟩

/-- What stays of a split while new blocks are written. -/
structure Seen (W : World) (g : Nat) (k : Int) (sl : Value) (pg : Nat) (vs : List Value) : Prop where
  kind : W.cell? ⟨g, 4, none⟩ = some (.int .i64 k)
  parts : W.cell? ⟨g, 5, none⟩ = some sl
  row : ∀ (i : Nat) v, vs[i]? = some v → W.cell? ⟨pg, i, none⟩ = some v
theorem Seen.below {W W' : World} {g : Nat} {k : Int} {sl : Value} {pg : Nat} {vs : List Value} (h : Seen W g k sl pg vs) (hb : Below W.heap.size W W') : Seen W' g k sl pg vs :=
  ⟨(hb.cell (p := ⟨g, 4, none⟩) (World.block_lt_of_cell? W _ h.kind)).trans h.kind, (hb.cell (p := ⟨g, 5, none⟩) (World.block_lt_of_cell? W _ h.parts)).trans h.parts, fun i v hi => (hb.cell (p := ⟨pg, i, none⟩) (World.block_lt_of_cell? W _ (h.row i v hi))).trans (h.row i v hi)⟩
theorem seen_of {W : World} {B g : Nat} {b : Box} {k : Int} {sl : Value} {vs : List Value} (hS : SplitAt W g b k sl) (hR : W.ownsRow B 35 1 sl vs.length vs) (hne : vs ≠ []) : ∃ pg cap, sl = .slice (some ⟨pg, 0, none⟩) vs.length cap ∧ Seen W g k sl pg vs := by
  rcases hR.2 with ⟨_, h0⟩ | ⟨pg, cap, cur, h1, hpB, hpg, h5, h6, h7, h8⟩
  · exact absurd (List.length_eq_zero_iff.1 h0) hne
  · refine ⟨pg, cap, h1, cell_atL hS 4, cell_atL hS 5, fun i v hi => ?_⟩
    rw [cell_atL hpg]
    have hil := (List.getElem?_eq_some_iff.1 hi).1
    rw [← h8, List.getElem?_take_of_lt (by omega)] at hi
    simpa using hi

end Go.Proofs.Ytcjcekaahooamaa
