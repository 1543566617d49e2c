/-
  Trees in memory: boxes, leaves, splits; what a change elsewhere leaves alone.
-/
import Derived.Test.YtcjcekaahooamaaProg
import Derived.Test.YtcjcekaahooamaaLPure
import Derived.WalkKit
import Derived.OneCell
import Derived.OpenShut
import Derived.OwnWalk
namespace Go.Proofs.Ytcjcekaahooamaa
open Go.RowKit
set_option linter.unusedVariables false
set_option maxRecDepth 20000

/-- A box at the head of a block. -/
structure BoxAt (W : World) (g : Nat) (b : Box) : Prop where
  x : W.cell? ⟨g, 0, none⟩ = some (.int .i64 b.x)
  y : W.cell? ⟨g, 1, none⟩ = some (.int .i64 b.y)
  w : W.cell? ⟨g, 2, none⟩ = some (.int .i64 b.w)
  h : W.cell? ⟨g, 3, none⟩ = some (.int .i64 b.h)
  free : ∀ o, o < 4 → W.frozen? ⟨g, o, none⟩ = false

def leafV (b : Box) (p : Int) : Array Value := #[.int .i64 b.x, .int .i64 b.y, .int .i64 b.w, .int .i64 b.h, .int .i64 p]
def splitV (b : Box) (k : Int) (sl : Value) : Array Value := #[.int .i64 b.x, .int .i64 b.y, .int .i64 b.w, .int .i64 b.h, .int .i64 k, sl]
def LeafAt (W : World) (g : Nat) (b : Box) (p : Int) : Prop := W.heap[g]? = some (.cells (leafV b p) 44 (0, 0))
def SplitAt (W : World) (g : Nat) (b : Box) (k : Int) (sl : Value) : Prop := W.heap[g]? = some (.cells (splitV b k sl) 80 (0, 0))
theorem cell_atL {w : World} {b : Nat} {cs : Array Value} {t : TypeId} (h : w.heap[b]? = some (.cells cs t (0, 0))) (o : Nat) : w.cell? ⟨b, o, none⟩ = cs[o]? := by simp [World.cell?, h]
theorem free_atL {w : World} {b : Nat} {cs : Array Value} {t : TypeId} (h : w.heap[b]? = some (.cells cs t (0, 0))) (o : Nat) : w.frozen? ⟨b, o, none⟩ = false := by simp [World.frozen?, h]
theorem LeafAt.box {W : World} {g : Nat} {b : Box} {p : Int} (h : LeafAt W g b p) : BoxAt W g b := ⟨cell_atL h 0, cell_atL h 1, cell_atL h 2, cell_atL h 3, fun o _ => free_atL h o⟩
theorem SplitAt.box {W : World} {g : Nat} {b : Box} {k : Int} {sl : Value} (h : SplitAt W g b k sl) : BoxAt W g b := ⟨cell_atL h 0, cell_atL h 1, cell_atL h 2, cell_atL h 3, fun o _ => free_atL h o⟩

def leafI (g : Nat) : Value := .iface 38 (.pointer (some ⟨g, 0, none⟩))
def splitI (g : Nat) : Value := .iface 73 (.pointer (some ⟨g, 0, none⟩))

mutual
/-- A tree lies in memory: the value that stands for it, the blocks that it is made of. -/
def Tree.At (W : World) (B : Nat) : Tree → Value → List Nat → Prop
  | .leaf b p, v, fp => ∃ g, v = leafI g ∧ LeafAt W g b p ∧ fp = [g]
  | .split b k ts, v, fp => ∃ g sl vs fs, v = splitI g ∧ SplitAt W g b k sl ∧ W.ownsRow B 35 1 sl vs.length vs ∧ partsAt W B ts vs fs ∧ fp = g :: (sl.ownBlock.toList ++ fs)
def partsAt (W : World) (B : Nat) : List Tree → List Value → List Nat → Prop
  | [], vs, fp => vs = [] ∧ fp = []
  | t :: ts, vs, fp => ∃ v vs' f f', vs = v :: vs' ∧ t.At W B v f ∧ partsAt W B ts vs' f' ∧ fp = f ++ f'
end

theorem own_kept {W W' : World} {B : Nat} {t : TypeId} {sl : Value} {n : Nat} {vs : List Value} (h : W.ownsRow B t 1 sl n vs) (hk : ∀ g ∈ sl.ownBlock.toList, W'.heap[g]? = W.heap[g]?) : W'.ownsRow B t 1 sl n vs := by
  refine ⟨h.1, ?_⟩
  rcases h.2 with h0 | ⟨g, cap, cur, rfl, hb, hg, r⟩
  · exact .inl h0
  · exact .inr ⟨g, cap, cur, rfl, hb, (hk g (by simp [Value.ownBlock])).trans hg, r⟩

mutual
theorem Tree.At.keep {W W' : World} {B : Nat} : ∀ {t : Tree} {v : Value} {fp : List Nat}, t.At W B v fp → (∀ g ∈ fp, W'.heap[g]? = W.heap[g]?) → t.At W' B v fp
  | .leaf b p, v, fp, h, hk => by
    obtain ⟨g, h1, h2, rfl⟩ := h
    exact ⟨g, h1, (hk g (by simp)).trans h2, rfl⟩
  | .split b k ts, v, fp, h, hk => by
    obtain ⟨g, sl, vs, fs, h1, h2, h3, h4, rfl⟩ := h
    exact ⟨g, sl, vs, fs, h1, (hk g (by simp)).trans h2, own_kept h3 (fun x hx => hk x (by simp [hx])), partsAt.keep h4 (fun x hx => hk x (by simp [hx])), rfl⟩
theorem partsAt.keep {W W' : World} {B : Nat} : ∀ {ts : List Tree} {vs : List Value} {fp : List Nat}, partsAt W B ts vs fp → (∀ g ∈ fp, W'.heap[g]? = W.heap[g]?) → partsAt W' B ts vs fp
  | [], vs, fp, h, hk => h
  | t :: ts, vs, fp, h, hk => by
    obtain ⟨v, vs', f, f', h1, h2, h3, rfl⟩ := h
    exact ⟨v, vs', f, f', h1, Tree.At.keep h2 (fun x hx => hk x (List.mem_append_left _ hx)), partsAt.keep h3 (fun x hx => hk x (List.mem_append_right _ hx)), rfl⟩
end

theorem partsAt.length {W : World} {B : Nat} : ∀ {ts : List Tree} {vs : List Value} {fp : List Nat}, partsAt W B ts vs fp → vs.length = ts.length
  | [], vs, fp, h => by rw [h.1]; rfl
  | t :: ts, vs, fp, h => by
    obtain ⟨v, vs', f, f', rfl, h2, h3, rfl⟩ := h
    rw [List.length_cons, List.length_cons, partsAt.length h3]
theorem partsAt.get {W : World} {B : Nat} : ∀ {ts : List Tree} {vs : List Value} {fp : List Nat}, partsAt W B ts vs fp → ∀ (i : Nat) t, ts[i]? = some t → ∃ v f, vs[i]? = some v ∧ t.At W B v f ∧ ∀ x ∈ f, x ∈ fp
  | [], vs, fp, h, i, t, hi => by cases hi
  | t :: ts, vs, fp, h, 0, t', hi => by
    obtain ⟨v, vs', f, f', rfl, h2, h3, rfl⟩ := h
    cases hi
    exact ⟨v, f, rfl, h2, fun x hx => List.mem_append_left _ hx⟩
  | t :: ts, vs, fp, h, i + 1, t', hi => by
    obtain ⟨v, vs', f, f', rfl, h2, h3, rfl⟩ := h
    obtain ⟨v1, f1, e1, e2, e3⟩ := partsAt.get h3 i t' hi
    exact ⟨v1, f1, e1, e2, fun x hx => List.mem_append_right _ (e3 x hx)⟩

/-- The own box of a tree. -/
theorem Tree.At.own {W : World} {B : Nat} {t : Tree} {v : Value} {fp : List Nat} (h : t.At W B v fp) : ∃ g, (v = leafI g ∨ v = splitI g) ∧ BoxAt W g t.box ∧ g ∈ fp := by
  cases t with
  | leaf b p =>
    obtain ⟨g, h1, h2, rfl⟩ := h
    exact ⟨g, .inl h1, h2.box, by simp⟩
  | split b k ts =>
    obtain ⟨g, sl, vs, fs, h1, h2, h3, h4, rfl⟩ := h
    exact ⟨g, .inr h1, h2.box, by simp⟩

end Go.Proofs.Ytcjcekaahooamaa
