/-
  Layouts: what a tree in memory is made of lies below the end of memory; what parts fill.
-/
import Derived.Test.YtcjcekaahooamaaLSoundP
namespace Go.Proofs.Ytcjcekaahooamaa
open Go.RowKit
set_option linter.unusedVariables false
set_option maxRecDepth 20000

theorem own_lt {W : World} {B : Nat} {t : TypeId} {sl : Value} {n : Nat} {vs : List Value} (h : W.ownsRow B t 1 sl n vs) : ∀ g ∈ sl.ownBlock.toList, g < W.heap.size := by
  rcases h.2 with ⟨h0, _⟩ | ⟨g, cap, cur, rfl, hb, hg, r⟩
  · intro g hg
    rw [h0] at hg
    simp [Value.ownBlock] at hg
  · intro x hx
    simp [Value.ownBlock] at hx
    subst hx
    exact lt_of_block hg
mutual
theorem Tree.At.lt {W : World} {B : Nat} : ∀ {t : Tree} {v : Value} {fp : List Nat}, t.At W B v fp → ∀ g ∈ fp, g < W.heap.size
  | .leaf b p, v, fp, h => by
    obtain ⟨g, h1, h2, rfl⟩ := h
    intro x hx
    simp only [List.mem_cons, List.not_mem_nil, or_false] at hx
    subst hx
    exact lt_of_block h2
  | .split b k ts, v, fp, h => by
    obtain ⟨g, sl, vs, fs, h1, h2, h3, h4, rfl⟩ := h
    intro x hx
    rw [List.mem_cons, List.mem_append] at hx
    rcases hx with rfl | hx | hx
    · exact lt_of_block h2
    · exact own_lt h3 x hx
    · exact partsAt.lt h4 x hx
theorem partsAt.lt {W : World} {B : Nat} : ∀ {ts : List Tree} {vs : List Value} {fp : List Nat}, partsAt W B ts vs fp → ∀ g ∈ fp, g < W.heap.size
  | [], vs, fp, h => by
    intro x hx
    rw [h.2] at hx
    cases hx
  | t :: ts, vs, fp, h => by
    obtain ⟨v, vs', f, f', h1, h2, h3, rfl⟩ := h
    intro x hx
    rw [List.mem_append] at hx
    rcases hx with hx | hx
    · exact Tree.At.lt h2 x hx
    · exact partsAt.lt h3 x hx
end
theorem Tree.At.below {W W' : World} {B : Nat} {t : Tree} {v : Value} {fp : List Nat} (h : t.At W B v fp) (hb : Below W.heap.size W W') : t.At W' B v fp := h.keep fun g hg => hb.block g (h.lt g hg)
theorem partsAt.below {W W' : World} {B : Nat} {ts : List Tree} {vs : List Value} {fp : List Nat} (h : partsAt W B ts vs fp) (hb : Below W.heap.size W W') : partsAt W' B ts vs fp := h.keep fun g hg => hb.block g (h.lt g hg)
theorem own_below {W W' : World} {B : Nat} {t : TypeId} {sl : Value} {n : Nat} {vs : List Value} (h : W.ownsRow B t 1 sl n vs) (hb : Below W.heap.size W W') : W'.ownsRow B t 1 sl n vs := own_kept h fun g hg => hb.block g (own_lt h g hg)

theorem around_ext (ts : List Tree) (k : Int) (hk : k = 2 ∨ k = 3) (hn : ts ≠ []) : (aroundB ts k).ext k = extAll ts k := by
  cases ts with
  | nil => exact absurd rfl hn
  | cons t r => rcases hk with rfl | rfl <;> rfl

/-- split.around in every later world. -/
theorem around_below (g : Nat) (b : Box) (k : Int) (hk : k = 2 ∨ k = 3) (sl : Value) (vs : List Value) (fs : List Nat) (ts : List Tree) (B : Nat) (w : World) (hS : SplitAt w g b k sl) (hR : w.ownsRow B 35 1 sl vs.length vs) (hP : partsAt w B ts vs fs) (hn : ts ≠ []) (hs : SmallT ts) (X : World) (hX : Below w.heap.size w X) :
    Calls Try.prog 45 #[.pointer (some ⟨g, 0, none⟩)] X fun e w' => e = .returned (.agg #[.int .i64 0, .int .i64 0, .int .i64 (aroundB ts k).w, .int .i64 (aroundB ts k).h]) ∧ Below X.heap.size X w' := by
  cases ts with
  | nil => exact absurd rfl hn
  | cons t r => exact around_any g b k hk sl vs fs t r B X (hS.below hX) (own_below hR hX) (hP.below hX) hs

end Go.Proofs.Ytcjcekaahooamaa
