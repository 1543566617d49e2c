/-
  Trees in memory: boxes, leaves, splits; what a change elsewhere leaves alone.
  Layouts: boxes and leaves, what their methods answer; which function an interface's call means.
  Layouts: a box stretched; the box that a split's parts fill.
  Regions that draw their order, whose operations yield one value in every world of a class.
  A region that draws its order, all of whose operations but the last only read; the last one waits for all of them.
-/
import Derived.Test.YtlaelkcmeaiajaaProg
import Derived.Test.YtlaelkcmeaiajaaCPa
import Derived.WalkKit
import Derived.OneCell
import Derived.OpenShut
import Derived.OwnWalk
import Derived.Deep.RegionHeld3
import Derived.LoopTactic
import Derived.RegionTactic
import Derived.Deep.RegionWith
import Derived.Deep.DrawnRows
import Derived.BigQuiet
import Derived.Deep.QuietTactic
namespace Go.Proofs.Ytlaelkcmeaiajaa
open Go.RowKit
set_option linter.unusedVariables false
set_option maxRecDepth 20000

/-- A box at the head of a block. -/
structure BoxAt (W : World) (g : Nat) (b : Box) : Prop where
  x : W.cell? ⟨g, 0, none⟩ = some (.int .i64 b.x)
  y : W.cell? ⟨g, 1, none⟩ = some (.int .i64 b.y)
  w : W.cell? ⟨g, 2, none⟩ = some (.int .i64 b.w)
  h : W.cell? ⟨g, 3, none⟩ = some (.int .i64 b.h)
  free : ∀ o, o < 4 → W.frozen? ⟨g, o, none⟩ = false

def leafV (b : Box) (p : Int) : Array Value := #[.int .i64 b.x, .int .i64 b.y, .int .i64 b.w, .int .i64 b.h, .int .i64 p]
def splitV (b : Box) (k : Int) (sl : Value) : Array Value := #[.int .i64 b.x, .int .i64 b.y, .int .i64 b.w, .int .i64 b.h, .int .i64 k, sl]
def LeafAt (W : World) (g : Nat) (b : Box) (p : Int) : Prop := W.heap[g]? = some (.cells (leafV b p) 54 (0, 0))
def SplitAt (W : World) (g : Nat) (b : Box) (k : Int) (sl : Value) : Prop := W.heap[g]? = some (.cells (splitV b k sl) 90 (0, 0))
theorem cell_atL {w : World} {b : Nat} {cs : Array Value} {t : TypeId} (h : w.heap[b]? = some (.cells cs t (0, 0))) (o : Nat) : w.cell? ⟨b, o, none⟩ = cs[o]? := by simp [World.cell?, h]
theorem free_atL {w : World} {b : Nat} {cs : Array Value} {t : TypeId} (h : w.heap[b]? = some (.cells cs t (0, 0))) (o : Nat) : w.frozen? ⟨b, o, none⟩ = false := by simp [World.frozen?, h]
theorem LeafAt.box {W : World} {g : Nat} {b : Box} {p : Int} (h : LeafAt W g b p) : BoxAt W g b := ⟨cell_atL h 0, cell_atL h 1, cell_atL h 2, cell_atL h 3, fun o _ => free_atL h o⟩
theorem SplitAt.box {W : World} {g : Nat} {b : Box} {k : Int} {sl : Value} (h : SplitAt W g b k sl) : BoxAt W g b := ⟨cell_atL h 0, cell_atL h 1, cell_atL h 2, cell_atL h 3, fun o _ => free_atL h o⟩

def leafI (g : Nat) : Value := .iface 48 (.pointer (some ⟨g, 0, none⟩))
def splitI (g : Nat) : Value := .iface 72 (.pointer (some ⟨g, 0, none⟩))

mutual
/-- A tree lies in memory: the value that stands for it, the blocks that it is made of. -/
def Tree.At (W : World) (B : Nat) : Tree → Value → List Nat → Prop
  | .leaf b p, v, fp => ∃ g, v = leafI g ∧ LeafAt W g b p ∧ fp = [g]
  | .split b k ts, v, fp => ∃ g sl vs fs, v = splitI g ∧ SplitAt W g b k sl ∧ W.ownsRow B 45 1 sl vs.length vs ∧ partsAt W B ts vs fs ∧ fp = g :: (sl.ownBlock.toList ++ fs)
def partsAt (W : World) (B : Nat) : List Tree → List Value → List Nat → Prop
  | [], vs, fp => vs = [] ∧ fp = []
  | t :: ts, vs, fp => ∃ v vs' f f', vs = v :: vs' ∧ t.At W B v f ∧ partsAt W B ts vs' f' ∧ fp = f ++ f'
end

theorem own_kept {W W' : World} {B : Nat} {t : TypeId} {sl : Value} {n : Nat} {vs : List Value} (h : W.ownsRow B t 1 sl n vs) (hk : ∀ g ∈ sl.ownBlock.toList, W'.heap[g]? = W.heap[g]?) : W'.ownsRow B t 1 sl n vs := by
  refine ⟨h.1, ?_⟩
  rcases h.2 with h0 | ⟨g, cap, cur, rfl, hb, hg, r⟩
  · exact .inl h0
  · exact .inr ⟨g, cap, cur, rfl, hb, (hk g (by simp [Value.ownBlock])).trans hg, r⟩

mutual
theorem Tree.At.keep {W W' : World} {B : Nat} : ∀ {t : Tree} {v : Value} {fp : List Nat}, t.At W B v fp → (∀ g ∈ fp, W'.heap[g]? = W.heap[g]?) → t.At W' B v fp
  | .leaf b p, v, fp, h, hk => by
    obtain ⟨g, h1, h2, rfl⟩ := h
    exact ⟨g, h1, (hk g (by simp)).trans h2, rfl⟩
  | .split b k ts, v, fp, h, hk => by
    obtain ⟨g, sl, vs, fs, h1, h2, h3, h4, rfl⟩ := h
    exact ⟨g, sl, vs, fs, h1, (hk g (by simp)).trans h2, own_kept h3 (fun x hx => hk x (by simp [hx])), partsAt.keep h4 (fun x hx => hk x (by simp [hx])), rfl⟩
theorem partsAt.keep {W W' : World} {B : Nat} : ∀ {ts : List Tree} {vs : List Value} {fp : List Nat}, partsAt W B ts vs fp → (∀ g ∈ fp, W'.heap[g]? = W.heap[g]?) → partsAt W' B ts vs fp
  | [], vs, fp, h, hk => h
  | t :: ts, vs, fp, h, hk => by
    obtain ⟨v, vs', f, f', h1, h2, h3, rfl⟩ := h
    exact ⟨v, vs', f, f', h1, Tree.At.keep h2 (fun x hx => hk x (List.mem_append_left _ hx)), partsAt.keep h3 (fun x hx => hk x (List.mem_append_right _ hx)), rfl⟩
end

theorem partsAt.length {W : World} {B : Nat} : ∀ {ts : List Tree} {vs : List Value} {fp : List Nat}, partsAt W B ts vs fp → vs.length = ts.length
  | [], vs, fp, h => by rw [h.1]; rfl
  | t :: ts, vs, fp, h => by
    obtain ⟨v, vs', f, f', rfl, h2, h3, rfl⟩ := h
    rw [List.length_cons, List.length_cons, partsAt.length h3]
theorem partsAt.get {W : World} {B : Nat} : ∀ {ts : List Tree} {vs : List Value} {fp : List Nat}, partsAt W B ts vs fp → ∀ (i : Nat) t, ts[i]? = some t → ∃ v f, vs[i]? = some v ∧ t.At W B v f ∧ ∀ x ∈ f, x ∈ fp
  | [], vs, fp, h, i, t, hi => by cases hi
  | t :: ts, vs, fp, h, 0, t', hi => by
    obtain ⟨v, vs', f, f', rfl, h2, h3, rfl⟩ := h
    cases hi
    exact ⟨v, f, rfl, h2, fun x hx => List.mem_append_left _ hx⟩
  | t :: ts, vs, fp, h, i + 1, t', hi => by
    obtain ⟨v, vs', f, f', rfl, h2, h3, rfl⟩ := h
    obtain ⟨v1, f1, e1, e2, e3⟩ := partsAt.get h3 i t' hi
    exact ⟨v1, f1, e1, e2, fun x hx => List.mem_append_right _ (e3 x hx)⟩

/-- The own box of a tree. -/
theorem Tree.At.own {W : World} {B : Nat} {t : Tree} {v : Value} {fp : List Nat} (h : t.At W B v fp) : ∃ g, (v = leafI g ∨ v = splitI g) ∧ BoxAt W g t.box ∧ g ∈ fp := by
  cases t with
  | leaf b p =>
    obtain ⟨g, h1, h2, rfl⟩ := h
    exact ⟨g, .inl h1, h2.box, by simp⟩
  | split b k ts =>
    obtain ⟨g, sl, vs, fs, h1, h2, h3, h4, rfl⟩ := h
    exact ⟨g, .inr h1, h2.box, by simp⟩

end Go.Proofs.Ytlaelkcmeaiajaa

namespace Go.Proofs.Ytlaelkcmeaiajaa
open Go.RowKit
set_option linter.unusedVariables false
set_option maxRecDepth 20000

theorem ret_boolL {a b : Bool} (h : a = b) : Ending.returned (.bool a) = .returned (.bool b) := by rw [h]
theorem isSide_any (n : Int) (w : World) : Calls Try.prog 31 #[.int .i64 n] w fun e w' => e = .returned (.bool (sideB n)) ∧ w = w' := by
  go_enter Try.func31, Try.ntmps31
  go_wp2
  all_goals go_ret
  all_goals refine ⟨ret_boolL ?_, rfl⟩
  all_goals (unfold sideB; rw [Bool.eq_iff_iff]; simp; omega)
theorem isId_any (n : Int) (w : World) : Calls Try.prog 32 #[.int .i64 n] w fun e w' => e = .returned (.bool (idB n)) ∧ w = w' := by
  go_enter Try.func32, Try.ntmps32
  go_wp2
  all_goals go_ret
  all_goals refine ⟨ret_boolL ?_, rfl⟩
  all_goals (unfold idB; rw [Bool.eq_iff_iff]; simp; omega)
theorem across_any (k : Int) (w : World) : Calls Try.prog 64 #[.int .i64 k] w fun e w' => e = .returned (.int .i64 (acrossK k)) ∧ w = w' := by
  unfold acrossK
  by_cases h : k = 2
  · subst h
    rw [if_pos rfl]
    go_enter Try.func64, Try.ntmps64
    go_wp2
    all_goals go_ret
    all_goals exact ⟨rfl, rfl⟩
  · rw [if_neg h]
    have h2 : (k == 2) = false := by simpa using h
    go_enter Try.func64, Try.ntmps64
    go_wp2
    all_goals go_ret
    all_goals exact ⟨rfl, rfl⟩

theorem box_extent (g : Nat) (b : Box) (k : Int) (w : World) (h : BoxAt w g b) :
    Calls Try.prog 35 #[.pointer (some ⟨g, 0, none⟩), .int .i64 k] w fun e w' => e = .returned (.int .i64 (b.ext k)) ∧ w = w' := by
  obtain ⟨q0, q1, q2, q3, _⟩ := h
  unfold Box.ext
  by_cases hk : k = 2
  · subst hk
    rw [if_pos rfl]
    go_enter Try.func35, Try.ntmps35
    go_wp2
    all_goals go_ret
    all_goals exact ⟨rfl, rfl⟩
  · rw [if_neg hk]
    have h2 : (k == 2) = false := by simpa using hk
    go_enter Try.func35, Try.ntmps35
    go_wp2
    all_goals go_ret
    all_goals exact ⟨rfl, rfl⟩
theorem box_fits (g : Nat) (b : Box) (w : World) (h : BoxAt w g b) :
    Calls Try.prog 103 #[.pointer (some ⟨g, 0, none⟩)] w fun e w' => e = .returned (.bool (sideB b.w && sideB b.h)) ∧ w = w' := by
  obtain ⟨q0, q1, q2, q3, _⟩ := h
  have H1 : Hid (∀ n W, Calls Try.prog 31 #[.int .i64 n] W fun e w' => e = .returned (.bool (sideB n)) ∧ W = w') := isSide_any
  cases h1 : sideB b.w
  all_goals
    go_enter Try.func103, Try.ntmps103
    go_wp2_with (go_at_call 31; refine (H1.out _ _).mono ?_; rintro e w1 ⟨rfl, rfl⟩)
    all_goals go_ret
    all_goals exact ⟨rfl, rfl⟩
theorem leaf_sound (g : Nat) (b : Box) (p : Int) (w : World) (h : LeafAt w g b p) :
    Calls Try.prog 106 #[.pointer (some ⟨g, 0, none⟩)] w fun e w' => e = .returned (.bool (Tree.leaf b p).sound) ∧ w = w' := by
  have q4 : w.cell? ⟨g, 4, none⟩ = some (.int .i64 p) := cell_atL h 4
  have H1 := box_fits g b w h.box
  have H2 : Hid (∀ n W, Calls Try.prog 32 #[.int .i64 n] W fun e w' => e = .returned (.bool (idB n)) ∧ W = w') := isId_any
  show Calls _ _ _ _ fun e w' => e = .returned (.bool ((sideB b.w && sideB b.h) && idB p)) ∧ w = w'
  obtain ⟨c, hc⟩ : ∃ c, (sideB b.w && sideB b.h) = c := ⟨_, rfl⟩
  rw [hc] at H1 ⊢
  have H1' : Hid (Calls Try.prog 103 #[.pointer (some ⟨g, 0, none⟩)] w fun e w' => e = .returned (.bool c) ∧ w = w') := H1
  clear h hc H1
  cases c
  all_goals
    go_enter Try.func106, Try.ntmps106
    go_wp2_with (first | (go_at_call 103; refine H1'.out.mono ?_; rintro e w1 ⟨rfl, rfl⟩) | (go_at_call 32; refine (H2.out _ _).mono ?_; rintro e w2 ⟨rfl, rfl⟩))
    all_goals go_ret
    all_goals exact ⟨rfl, rfl⟩
theorem leaf_as (g : Nat) (k : Int) (w : World) : Calls Try.prog 102 #[.pointer (some ⟨g, 0, none⟩), .int .i64 k] w fun e w' => e = .returned (.pointer none) ∧ w = w' := by
  go_enter Try.func102, Try.ntmps102
  go_wp2
  all_goals go_ret
  all_goals exact ⟨rfl, rfl⟩
theorem split_as (g : Nat) (b : Box) (k : Int) (sl : Value) (j : Int) (w : World) (h : SplitAt w g b k sl) : Calls Try.prog 110 #[.pointer (some ⟨g, 0, none⟩), .int .i64 j] w fun e w' => e = .returned (.pointer (if k = j then some ⟨g, 0, none⟩ else none)) ∧ w = w' := by
  have q4 : w.cell? ⟨g, 4, none⟩ = some (.int .i64 k) := cell_atL h 4
  clear h
  by_cases hk : k = j
  · subst hk
    rw [if_pos rfl]
    go_enter Try.func110, Try.ntmps110
    go_wp2
    all_goals go_ret
    all_goals exact ⟨rfl, rfl⟩
  · rw [if_neg hk]
    have h2 : (k != j) = true := by simpa using hk
    go_enter Try.func110, Try.ntmps110
    go_wp2
    all_goals go_ret
    all_goals exact ⟨rfl, rfl⟩

/-! Which function an interface's call means. -/
theorem l_extent (g : Nat) (W : World) : (method 248 48 (.pointer (some ⟨g, 0, none⟩)) "mullion/layout.extent").run Try.prog W = .ok (35, .pointer (some ⟨g, 0, none⟩)) W := by kernel_rfl
theorem s_extent (g : Nat) (W : World) : (method 248 72 (.pointer (some ⟨g, 0, none⟩)) "mullion/layout.extent").run Try.prog W = .ok (35, .pointer (some ⟨g, 0, none⟩)) W := by kernel_rfl
theorem l_sound (g : Nat) (W : World) : (method 248 48 (.pointer (some ⟨g, 0, none⟩)) "mullion/layout.sound").run Try.prog W = .ok (106, .pointer (some ⟨g, 0, none⟩)) W := by kernel_rfl
theorem s_sound (g : Nat) (W : World) : (method 248 72 (.pointer (some ⟨g, 0, none⟩)) "mullion/layout.sound").run Try.prog W = .ok (114, .pointer (some ⟨g, 0, none⟩)) W := by kernel_rfl
theorem l_as (g : Nat) (W : World) : (method 248 48 (.pointer (some ⟨g, 0, none⟩)) "mullion/layout.as").run Try.prog W = .ok (102, .pointer (some ⟨g, 0, none⟩)) W := by kernel_rfl
theorem s_as (g : Nat) (W : World) : (method 248 72 (.pointer (some ⟨g, 0, none⟩)) "mullion/layout.as").run Try.prog W = .ok (110, .pointer (some ⟨g, 0, none⟩)) W := by kernel_rfl

end Go.Proofs.Ytlaelkcmeaiajaa

namespace Go.Proofs.Ytlaelkcmeaiajaa
open Go.RowKit
set_option linter.unusedVariables false
set_option maxRecDepth 20000

def Box.str (b : Box) (k n : Int) : Box := if k = 2 then { b with w := b.w + n } else { b with h := b.h + n }
theorem grownBy_set (w : World) (g o : Nat) (v : Value) : w.grownBy (w.setCell ⟨g, o, none⟩ v) (some g) :=
  ⟨rfl, rfl, rfl, by simp [World.setCell], fun k _ hr => Below.heap_setCell _ _ _ _ (fun e => hr (by simp [e]))⟩
theorem frozen_set (w : World) (g o : Nat) (v : Value) (p : Addr) : (w.setCell ⟨g, o, none⟩ v).frozen? p = w.frozen? p := by
  unfold World.frozen? World.setCell
  by_cases h : p.block = g
  · subst h
    cases hh : w.heap[p.block]? with
    | none => simp [hh, Array.getElem?_modify]
    | some o => cases o <;> simp [hh, Array.getElem?_modify]
  · have : g ≠ p.block := fun e => h e.symm
    simp [Array.getElem?_modify, this]

theorem set_other (w : World) (g o o' : Nat) (v : Value) (h : o ≠ o') : (w.setCell ⟨g, o, none⟩ v).cell? ⟨g, o', none⟩ = w.cell? ⟨g, o', none⟩ := by
  rw [World.cell?_setCell_other]
  simp only [ne_eq, Addr.mk.injEq, not_and]
  intro _ e
  exact absurd e h
theorem set_same (w : World) (g o : Nat) (v u : Value) (h : w.cell? ⟨g, o, none⟩ = some u) : (w.setCell ⟨g, o, none⟩ v).cell? ⟨g, o, none⟩ = some v := World.cell?_setCell_same _ _ _ h

theorem box_stretch (g : Nat) (b : Box) (k n : Int) (w : World) (h : BoxAt w g b) (h1 : -1000000 ≤ b.w ∧ b.w ≤ 1000000) (h2 : -1000000 ≤ b.h ∧ b.h ≤ 1000000) (h3 : -1000000 ≤ n ∧ n ≤ 1000000) :
    Calls Try.prog 38 #[.pointer (some ⟨g, 0, none⟩), .int .i64 k, .int .i64 n] w fun e w' => e = .returned (.tuple #[]) ∧ BoxAt w' g (b.str k n) ∧ w.grownBy w' (some g) ∧ (∀ o, 4 ≤ o → w'.cell? ⟨g, o, none⟩ = w.cell? ⟨g, o, none⟩) := by
  have HB : Hid (BoxAt w g b) := h
  obtain ⟨q0, q1, q2, q3, qf⟩ := h
  have f2 := qf 2 (by decide)
  have f3 := qf 3 (by decide)
  clear qf
  by_cases hk : k = 2
  · subst hk
    go_enter Try.func38, Try.ntmps38
    go_wp2
    refine ⟨rfl, .tuple #[], (by simp [results, Try.results38, go_sem]), rfl, ?_, ?_, ?_⟩
    · show BoxAt _ _ { b with w := b.w + n }
      refine ⟨?_, ?_, ?_, ?_, fun o ho => by rw [frozen_set]; exact HB.out.free o ho⟩
      · rw [set_other _ _ _ _ _ (by decide)]; exact q0
      · rw [set_other _ _ _ _ _ (by decide)]; exact q1
      · rw [set_same _ _ _ _ _ q2]
      · rw [set_other _ _ _ _ _ (by decide)]; exact q3
    · exact grownBy_set _ _ _ _
    · intro o ho
      rw [set_other _ _ _ _ _ (by omega)]
  · have hk2 : (k == 2) = false := by simpa using hk
    have hst : b.str k n = { b with h := b.h + n } := if_neg hk
    rw [hst]
    go_enter Try.func38, Try.ntmps38
    go_wp2
    refine ⟨rfl, .tuple #[], (by simp [results, Try.results38, go_sem]), rfl, ?_, ?_, ?_⟩
    · refine ⟨?_, ?_, ?_, ?_, fun o ho => by rw [frozen_set]; exact HB.out.free o ho⟩
      · rw [set_other _ _ _ _ _ (by decide)]; exact q0
      · rw [set_other _ _ _ _ _ (by decide)]; exact q1
      · rw [set_other _ _ _ _ _ (by decide)]; exact q2
      · rw [set_same _ _ _ _ _ q3]
    · exact grownBy_set _ _ _ _
    · intro o ho
      rw [set_other _ _ _ _ _ (by omega)]

/-- The parts' extents are sides. -/
def SmallT (ts : List Tree) : Prop := ts.length ≤ 200 ∧ ∀ t ∈ ts, (1 ≤ t.box.w ∧ t.box.w ≤ 1000) ∧ (1 ≤ t.box.h ∧ t.box.h ≤ 1000)
/-- The box that parts fill. -/
def aroundB (ts : List Tree) (k : Int) : Box := match ts with
  | [] => ⟨0, 0, 0, 0⟩
  | t :: r => if k = 2 then ⟨0, 0, extAll (t :: r) k, t.box.h⟩ else ⟨0, 0, t.box.w, extAll (t :: r) k⟩

theorem BoxAt.below {W W' : World} {g : Nat} {b : Box} (h : BoxAt W g b) (hb : Below W.heap.size W W') : BoxAt W' g b := by
  have hg : g < W.heap.size := World.block_lt_of_cell? W _ h.x
  exact ⟨(hb.cell (p := ⟨g, 0, none⟩) hg).trans h.x, (hb.cell (p := ⟨g, 1, none⟩) hg).trans h.y, (hb.cell (p := ⟨g, 2, none⟩) hg).trans h.w, (hb.cell (p := ⟨g, 3, none⟩) hg).trans h.h, fun o ho => (hb.frozen (p := ⟨g, o, none⟩) hg).trans (h.free o ho)⟩
theorem BoxAt.lt {W : World} {g : Nat} {b : Box} (h : BoxAt W g b) : g < W.heap.size := World.block_lt_of_cell? W _ h.x
theorem below_grown {a w w' : World} {r : Nat} (h : Below a.heap.size a w) (hg : w.grownBy w' (some r)) (hr : a.heap.size ≤ r) : Below a.heap.size a w' := h.grown hg h.size (fun k e => by cases e; exact hr)
theorem BoxAt.new (W : World) (t : TypeId) : BoxAt (W.alloc (.cells #[.int .i64 0, .int .i64 0, .int .i64 0, .int .i64 0] t)) W.heap.size ⟨0, 0, 0, 0⟩ := by
  have h := heap_alloc_new W (.cells #[.int .i64 0, .int .i64 0, .int .i64 0, .int .i64 0] t)
  exact ⟨cell_atL h 0, cell_atL h 1, cell_atL h 2, cell_atL h 3, fun o _ => free_atL h o⟩

/-- What stays of a split while new blocks are written. -/
structure Seen (W : World) (g : Nat) (k : Int) (sl : Value) (pg : Nat) (vs : List Value) : Prop where
  kind : W.cell? ⟨g, 4, none⟩ = some (.int .i64 k)
  parts : W.cell? ⟨g, 5, none⟩ = some sl
  row : ∀ (i : Nat) v, vs[i]? = some v → W.cell? ⟨pg, i, none⟩ = some v
theorem Seen.below {W W' : World} {g : Nat} {k : Int} {sl : Value} {pg : Nat} {vs : List Value} (h : Seen W g k sl pg vs) (hb : Below W.heap.size W W') : Seen W' g k sl pg vs :=
  ⟨(hb.cell (p := ⟨g, 4, none⟩) (World.block_lt_of_cell? W _ h.kind)).trans h.kind, (hb.cell (p := ⟨g, 5, none⟩) (World.block_lt_of_cell? W _ h.parts)).trans h.parts, fun i v hi => (hb.cell (p := ⟨pg, i, none⟩) (World.block_lt_of_cell? W _ (h.row i v hi))).trans (h.row i v hi)⟩
theorem seen_of {W : World} {B g : Nat} {b : Box} {k : Int} {sl : Value} {vs : List Value} (hS : SplitAt W g b k sl) (hR : W.ownsRow B 45 1 sl vs.length vs) (hne : vs ≠ []) : ∃ pg cap, sl = .slice (some ⟨pg, 0, none⟩) vs.length cap ∧ Seen W g k sl pg vs := by
  rcases hR.2 with ⟨_, h0⟩ | ⟨pg, cap, cur, h1, hpB, hpg, h5, h6, h7, h8⟩
  · exact absurd (List.length_eq_zero_iff.1 h0) hne
  · refine ⟨pg, cap, h1, cell_atL hS 4, cell_atL hS 5, fun i v hi => ?_⟩
    rw [cell_atL hpg]
    have hil := (List.getElem?_eq_some_iff.1 hi).1
    rw [← h8, List.getElem?_take_of_lt (by omega)] at hi
    simpa using hi

end Go.Proofs.Ytlaelkcmeaiajaa

namespace Go.Proofs.Ytlaelkcmeaiajaa
open Go.RowKit
set_option linter.unusedVariables false

section
variable {P : Program} {ops : Array Oper} {C : World → Prop}
theorem quiet_yes {Q : Act → Prop} {a : Act} {o : Oper} {rest : List Oper} {v : Value} (hw : Region.wanted o (yielded ops a.tmps) = true) (hy : ∀ X, C X → o.quietAt P a C X v) (hn : wpQuiet P ops C Q rest (a.put o.dst v)) : wpQuiet P ops C Q (o :: rest) a := by
  show if _ then _ else _
  rw [if_pos hw]
  exact ⟨v, hy, hn⟩
theorem quiet_no {Q : Act → Prop} {a : Act} {o : Oper} {rest : List Oper} (hw : Region.wanted o (yielded ops a.tmps) = false) (hn : wpQuiet P ops C Q rest (a.put o.dst undef)) : wpQuiet P ops C Q (o :: rest) a := by
  show if _ then _ else _
  rw [if_neg (by rw [hw]; exact Bool.false_ne_true)]
  exact hn
/-- One operation that is wanted; what follows behind a variable. -/
theorem quiet_take {Q : Act → Prop} {a : Act} {o : Oper} {rest : List Oper} {v : Value} (hw : Region.wanted o (yielded ops a.tmps) = true) (hy : ∀ X, C X → o.quietAt P a C X v) (hn : ∀ K : Act → Prop, (∀ a, wpQuiet P ops C Q rest a → K a) → K (a.put o.dst v)) : wpQuiet P ops C Q (o :: rest) a :=
  quiet_yes hw hy (hn _ fun _ h => h)
theorem quiet_skip {Q : Act → Prop} {a : Act} {o : Oper} {rest : List Oper} (hw : Region.wanted o (yielded ops a.tmps) = false) (hn : ∀ K : Act → Prop, (∀ a, wpQuiet P ops C Q rest a → K a) → K (a.put o.dst undef)) : wpQuiet P ops C Q (o :: rest) a :=
  quiet_no hw (hn _ fun _ h => h)
theorem wp_region_class {id : Nat} {Q : Exit → Act → World → Prop} {a : Act} {w : World} {l : List Oper} (C : World → Prop) (hm : P.follows .mixedOrders = true) (hB : Region.lexB .any l.toArray = true) (hC : C w.drew)
    (h : wpQuiet P l.toArray C (fun a' => ∀ w', C w' → Q .normal a' w') l a) : (Code.region id l.toArray true).wp P Q a w :=
  wp_region_quiet hm hB hC (by simpa using h)
/-- wpQuiet, closed to unfolding: an operation that is not wanted would be walked past, and all behind it. -/
@[irreducible] def QW (P : Program) (ops : Array Oper) (C : World → Prop) (Q : Act → Prop) (l : List Oper) (a : Act) : Prop := wpQuiet P ops C Q l a
theorem qw_take {Q : Act → Prop} {a : Act} {o : Oper} {rest : List Oper} {v : Value} (hw : Region.wanted o (yielded ops a.tmps) = true) (hy : ∀ X, C X → o.quietAt P a C X v) (hn : ∀ K : Act → Prop, Hid (∀ a, QW P ops C Q rest a → K a) → K (a.put o.dst v)) : QW P ops C Q (o :: rest) a := by
  unfold QW at hn ⊢
  exact quiet_yes hw hy (hn _ fun _ h => h)
theorem qw_skip {Q : Act → Prop} {a : Act} {o : Oper} {rest : List Oper} (hw : Region.wanted o (yielded ops a.tmps) = false) (hn : ∀ K : Act → Prop, Hid (∀ a, QW P ops C Q rest a → K a) → K (a.put o.dst undef)) : QW P ops C Q (o :: rest) a := by
  unfold QW at hn ⊢
  exact quiet_no hw (hn _ fun _ h => h)
theorem qw_nil {Q : Act → Prop} {a : Act} (h : Q a) : QW P ops C Q [] a := by
  unfold QW
  exact h
theorem wp_region_qw {id : Nat} {Q : Exit → Act → World → Prop} {a : Act} {w : World} {l : List Oper} (C : World → Prop) (hm : P.follows .mixedOrders = true) (hB : Region.lexB .any l.toArray = true) (hC : C w.drew)
    (h : QW P l.toArray C (fun a' => ∀ w', C w' → Q .normal a' w') l a) : (Code.region id l.toArray true).wp P Q a w := by
  unfold QW at h
  exact wp_region_class C hm hB hC h
end

end Go.Proofs.Ytlaelkcmeaiajaa

namespace Go.Proofs.Ytlaelkcmeaiajaa
open Go.RowKit
set_option linter.unusedVariables false

section
variable {P : Program} {ops : Array Oper} {md : Region.Mode} {C : World → Prop}

def wpAnyL (P : Program) (md : Region.Mode) (ops : Array Oper) (C : World → Prop) (T : Array Bool → Act → Prop) : Nat → Array Bool → Act → Prop
  | 0, listed, a => T listed a
  | fuel + 1, listed, a => Region.ready md ops listed ≠ [] ∧ ∀ i ∈ Region.ready md ops listed, qOp P ops C i (wpAnyL P md ops C T fuel (listed.setIfInBounds i true)) a

theorem wpAny_of_L {T : Array Bool → Act → Prop} {Q : Exit → Act → World → Prop} {m : Nat} (hT : ∀ listed a w, C w → T listed a → wpAny P md ops Q m listed a w) :
    ∀ (fuel : Nat) (listed : Array Bool) (a : Act) (w : World), C w → wpAnyL P md ops C T fuel listed a → wpAny P md ops Q (fuel + m) listed a w
  | 0, _, _, _, hw, h => by rw [Nat.zero_add]; exact hT _ _ _ hw h
  | fuel + 1, _, _, _, hw, h => by
    rw [show fuel + 1 + m = (fuel + m) + 1 by omega]
    exact ⟨fun h0 => absurd h0 h.1, fun i hi => wpOp_of_qOp hw (fun a' w' hw' => wpAny_of_L hT fuel _ a' w' hw') (h.2 i hi)⟩

/-- What has come up came up behind what it waits for. -/
def ClosedL (md : Region.Mode) (ops : Array Oper) (listed : Array Bool) : Prop :=
  ∀ (j : Nat) (oj : Oper), ops[j]? = some oj → listed.getD j true = true → ∀ e ∈ oj.after, Region.binds md e = true → listed.getD e.on false = true
theorem ClosedL.set {listed : Array Bool} (h : ClosedL md ops listed) {j : Nat} (hj : j ∈ Region.ready md ops listed) : ClosedL md ops (listed.setIfInBounds j true) := by
  intro k ok hk hl e he hb
  obtain ⟨_, oj, hoj, hall⟩ := mem_ready.1 hj
  by_cases hjk : j = k
  · subst hjk
    rw [hoj] at hk
    cases hk
    exact getD_set_true (hall e he hb)
  · rw [getD_set_ne true hjk] at hl
    exact getD_set_true (h k ok hk hl e he hb)

/-- All but number n have come up, and n may. -/
def AllBut (md : Region.Mode) (ops : Array Oper) (n : Nat) (listed : Array Bool) : Prop :=
  n ∈ Region.ready md ops listed ∧ (∀ j ∈ Region.ready md ops listed, j = n) ∧ ∀ (j : Nat) (oj : Oper), ops[j]? = some oj → j ≠ n → listed.getD j true = true

theorem unlisted {listed : Array Bool} {i : Nat} (h0 : listed.getD i true = false) (h1 : listed.getD i false = true) : False := by
  rcases Nat.lt_or_ge i listed.size with h' | h'
  · simp [h'] at h0 h1; rw [h0] at h1; cases h1
  · simp [Array.getElem?_eq_none h'] at h1

theorem wpAnyL_first {n : Nat} {U : Act → Prop} {i : Nat} {oi : Oper} {v : Value} (hi : ops[i]? = some oi) (hin : i ≠ n) (hsel : ∀ (j : Nat) (o : Oper) cs b, ops[j]? = some o → o.op ≠ .select cs b)
    (hdep : ∃ (j : Nat) (oj : Oper), ops[j]? = some oj ∧ ∃ e ∈ oj.after, Region.binds md e = true ∧ e.on = i) :
    ∀ (fuel : Nat) (listed : Array Bool) (a : Act), ClosedL md ops listed →
      (∀ (j : Nat) (oj : Oper), ops[j]? = some oj → j ≠ i → listed.getD j true = false → (∀ e ∈ oj.after, Region.binds md e = true → e.on ≠ i) → oi.apart ops oj = true) →
      i ∈ Region.ready md ops listed → YieldsIn P ops C oi v a →
      wpAnyL P md ops C (fun l a => AllBut md ops n l ∧ U a) fuel (listed.setIfInBounds i true) (a.put oi.dst v) → wpAnyL P md ops C (fun l a => AllBut md ops n l ∧ U a) (fuel + 1) listed a := by
  intro fuel
  induction fuel with
  | zero =>
    intro listed a hcl _ hr hy H
    refine ⟨fun h => (by rw [h] at hr; cases hr), fun j hj => ?_⟩
    by_cases hji : j = i
    · subst hji; exact hy.qOp hi H
    · exfalso
      have hjn := H.1.2.1 j (ready_mono hj hji)
      subst hjn
      have hun := (mem_ready.1 hr).1
      obtain ⟨k, ok, hok, e, he, hb, hei⟩ := hdep
      by_cases hkj : k = j
      · subst hkj
        obtain ⟨_, oj, hoj, hall⟩ := mem_ready.1 hj
        rw [hok] at hoj
        cases hoj
        exact unlisted hun (hei ▸ hall e he hb)
      · by_cases hki : k = i
        · subst hki
          obtain ⟨_, oj, hoj, hall⟩ := mem_ready.1 hr
          rw [hok] at hoj
          cases hoj
          exact unlisted hun (hei ▸ hall e he hb)
        · have hl := H.1.2.2 k ok hok hkj
          rw [getD_set_ne true (Ne.symm hki)] at hl
          exact unlisted hun (hei ▸ hcl k ok hok hl e he hb)
  | succ fuel ih =>
    intro listed a hcl hfree hr hy H
    refine ⟨fun h => (by rw [h] at hr; cases hr), fun j hj => ?_⟩
    by_cases hji : j = i
    · subst hji; exact hy.qOp hi H
    · have h1 := H.2 j (ready_mono hj hji)
      obtain ⟨hjun, oj, hoj, hall⟩ := mem_ready.1 hj
      have hnot : ∀ e ∈ oj.after, Region.binds md e = true → e.on ≠ i := fun e he hb heq => unlisted (mem_ready.1 hr).1 (heq ▸ hall e he hb)
      have h2 := qOp_put hoj (hfree j oj hoj hji hjun hnot) (fun cs b => hsel i oi cs b hi) (fun cs b => hsel j oj cs b hoj) hy h1
      have hfree' : ∀ k ok, ops[k]? = some ok → k ≠ i → (listed.setIfInBounds j true).getD k true = false →
          (∀ e ∈ ok.after, Region.binds md e = true → e.on ≠ i) → oi.apart ops ok = true := fun k ok hk hki hun hno => by
        refine hfree k ok hk hki ?_ hno
        by_cases hjk : j = k
        · subst hjk; exact hjun
        · rw [getD_set_ne true hjk] at hun; exact hun
      refine qOp_mono (fun a' h3 => ih (listed.setIfInBounds j true) a' (hcl.set hj) hfree' (ready_mono hr (Ne.symm hji)) h3.1 ?_) h2
      rw [Array.setIfInBounds_comm _ _ hji]
      exact h3.2

/-- Somebody waits for each of the first n. -/
def awaitedB (md : Region.Mode) (ops : Array Oper) (n : Nat) : Bool :=
  (List.range n).all fun i => (List.range ops.size).any fun j => match ops[j]? with
    | some oj => oj.after.toList.any fun e => Region.binds md e && e.on == i
    | none => false
theorem awaitedB_spec {n : Nat} (h : awaitedB md ops n = true) (i : Nat) (hi : i < n) : ∃ (j : Nat) (oj : Oper), ops[j]? = some oj ∧ ∃ e ∈ oj.after, Region.binds md e = true ∧ e.on = i := by
  have h1 := List.all_eq_true.1 h i (List.mem_range.2 hi)
  obtain ⟨j, _, h2⟩ := List.any_eq_true.1 h1
  split at h2
  · rename_i oj hoj
    obtain ⟨e, he, h3⟩ := List.any_eq_true.1 h2
    simp only [Bool.and_eq_true, beq_iff_eq] at h3
    exact ⟨j, oj, hoj, e, by simpa using he, h3.1, h3.2⟩
  · cases h2

theorem wpAnyL_lex {n : Nat} {U : Act → Prop} (hs : Region.noSelect ops = true) (hn : ops.size = n + 1) (hd : awaitedB md ops n = true) : ∀ (l : List Oper) (k : Nat) (listed : Array Bool) (a : Act), k + l.length = n → (∀ j, j < l.length → l[j]? = ops[k + j]?) →
    ClosedL md ops listed → (∀ j, j < k → listed.getD j true = true) →
    Region.lexFrom md ops (l.length + 1) k listed = true → wpQuiet P ops C U l a → wpAnyL P md ops C (fun l a => AllBut md ops n l ∧ U a) l.length listed a
  | [], k, listed, _, hk, _, _, hlt, hB, h => by
    have hk' : k = n := hk
    subst hk'
    simp only [List.length_nil, Region.lexFrom, Bool.and_eq_true] at hB
    obtain ⟨⟨hr, _⟩, he⟩ := hB
    have he' : Region.ready md ops (listed.setIfInBounds k true) = [] := by simpa using he
    refine ⟨⟨by simpa using hr, fun j hj => ?_, fun j oj hoj hne => hlt j ?_⟩, h⟩
    · by_cases hjk : j = k
      · exact hjk
      · have := ready_mono hj hjk
        rw [he'] at this
        cases this
    · have := (Array.getElem?_eq_some_iff.1 hoj).1
      omega
  | o :: l, k, listed, a, hk, hl, hcl, hlt, hB, h => by
    have h0 : ops[k]? = some o := by simpa using (hl 0 (by simp)).symm
    have hB2 := hB
    unfold Region.lexFrom at hB2
    simp only [Bool.and_eq_true] at hB2
    obtain ⟨⟨hr, hf⟩, hB'⟩ := hB2
    have hr' : k ∈ Region.ready md ops listed := by simpa using hr
    have hst : qOp P ops C k (wpQuiet P ops C U l) a := by unfold qOp; simp only [h0]; exact h
    obtain ⟨v, hy, hK⟩ := yieldsIn_of_qOp h0 hst
    simp only [List.length_cons] at hk
    refine wpAnyL_first h0 (by omega) (Region.noSelect_spec hs) (awaitedB_spec hd k (by omega)) l.length listed a hcl (Region.free_spec h0 hf) hr' hy
      (wpAnyL_lex hs hn hd l (k + 1) _ _ (by omega) (fun j hj => ?_) (hcl.set hr') (fun j hj => ?_) hB' hK)
    · have := hl (j + 1) (by simp; omega)
      simpa [Nat.add_assoc, Nat.add_comm 1 j] using this
    · by_cases hjk : k = j
      · subst hjk
        by_cases hsz : k < listed.size
        · simp [hsz]
        · simp [Nat.le_of_not_lt hsz]
      · rw [getD_set_ne true hjk]
        exact hlt j (by omega)

/-- All but the last operation only read; the last one's walk is asked in every world of the class. -/
theorem wp_region_quiet_last {id : Nat} {Q : Exit → Act → World → Prop} {a : Act} {w : World} {l : List Oper} (n : Nat) (o : Oper) (ho : l[n]? = some o) (hn : l.length = n + 1) (hm : P.follows .mixedOrders = true) (hB : Region.lexB .any l.toArray = true) (hd : awaitedB .any l.toArray n = true)
    (h : wpQuiet P l.toArray (fun w' => ∃ m, w' = w.drewN m) (fun a' => ∀ m, ∀ K : Act → World → Prop, (∀ a w, Q .normal a w → K a w) → if Region.wanted o (yielded l.toArray a'.tmps) = true then o.wp P a' (w.drewN m) K Q else K (a'.put o.dst undef) (w.drewN m)) (l.take n) a) : (Code.region id l.toArray true).wp P Q a w := by
  simp only [Region.lexB, Bool.and_eq_true] at hB
  refine wp_region_any hm ?_
  have hsz : l.toArray.size = n + 1 := by simpa using hn
  have hlt : (l.take n).length = n := by simp; omega
  have H := wpAnyL_lex (C := fun w' => ∃ m, w' = w.drewN m) (md := .any) hB.1 hsz hd (l.take n) 0 (Array.replicate l.toArray.size false) a (by omega) (fun j hj => by rw [hlt] at hj; simp [List.getElem?_take_of_lt hj]) (fun j oj hoj hl => by
      have hj := (Array.getElem?_eq_some_iff.1 hoj).1
      have : (Array.replicate l.toArray.size false).getD j true = false := by
        rw [Array.getD_eq_getD_getElem?, Array.getElem?_eq_getElem (by simpa using hj)]
        simp
      rw [this] at hl
      cases hl) (fun j hj => absurd hj (Nat.not_lt_zero j)) (by rw [hlt]; rw [hsz] at hB; simpa [hsz] using hB.2) h
  have H2 := wpAny_of_L (Q := Q) (m := 1) (fun listed a' w' hC hT => ?_) (l.take n).length _ a _ ⟨1, rfl⟩ H
  · rw [hlt] at H2
    rw [hsz]
    rw [hsz] at H2
    exact H2
  · obtain ⟨⟨hr, hone, hall⟩, hU⟩ := hT
    obtain ⟨m, rfl⟩ := hC
    refine ⟨fun h0 => (by rw [h0] at hr; cases hr), fun i hi => ?_⟩
    have hin := hone i hi
    subst hin
    have hoo : l.toArray[i]? = some o := by simpa using ho
    unfold wpOp
    simp only [hoo]
    have hnil : Region.ready Region.Mode.any l.toArray (listed.setIfInBounds i true) = [] := by
      refine List.eq_nil_iff_forall_not_mem.2 fun j hj => ?_
      obtain ⟨hjun, oj, hoj, _⟩ := mem_ready.1 hj
      by_cases hji : i = j
      · subst hji
        by_cases hs : i < listed.size
        · simp [hs] at hjun
        · simp [Nat.le_of_not_lt hs] at hjun
      · rw [getD_set_ne true hji, hall j oj hoj (Ne.symm hji)] at hjun
        cases hjun
    have hL := hU m (wpAny P .any l.toArray Q 0 (listed.setIfInBounds i true)) (fun a w hq => ⟨hnil, hq⟩)
    split
    · rename_i hw
      rw [if_pos hw] at hL
      exact .inl hL
    · rename_i hw
      rw [if_neg hw] at hL
      exact hL
end

end Go.Proofs.Ytlaelkcmeaiajaa
