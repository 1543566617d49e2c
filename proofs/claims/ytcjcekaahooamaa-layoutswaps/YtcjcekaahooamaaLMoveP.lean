/-
  Layouts: one part of a tree is changed, the others stay; how far the parts stand when the first so many are moved.
-/
import Derived.Test.YtcjcekaahooamaaLSoundA
import Derived.Test.YtcjcekaahooamaaLLeaf
namespace Go.Proofs.Ytcjcekaahooamaa
open Go.RowKit
set_option linter.unusedVariables false
set_option maxRecDepth 20000

/-- But for these blocks nothing that was there has turned. -/
structure But (S : List Nat) (w w' : World) : Prop where
  os : w'.os = w.os
  tape : w'.tape = w.tape
  output : w'.output = w.output
  size : w.heap.size ≤ w'.heap.size
  block : ∀ k, k < w.heap.size → k ∉ S → w'.heap[k]? = w.heap[k]?
theorem But.refl (S : List Nat) (w : World) : But S w w := ⟨rfl, rfl, rfl, Nat.le_refl _, fun _ _ _ => rfl⟩
theorem But.trans {S : List Nat} {a b c : World} (h : But S a b) (k : But S b c) : But S a c :=
  ⟨k.os.trans h.os, k.tape.trans h.tape, k.output.trans h.output, Nat.le_trans h.size k.size, fun j hj hs => (k.block j (Nat.lt_of_lt_of_le hj h.size) hs).trans (h.block j hj hs)⟩
theorem But.mono {S T : List Nat} {a b : World} (h : But S a b) (hs : ∀ k, k ∈ S → k ∈ T) : But T a b := ⟨h.os, h.tape, h.output, h.size, fun k hk hn => h.block k hk (fun e => hn (hs k e))⟩
theorem But.grown {a b : World} {g : Nat} (h : a.grownBy b (some g)) : But [g] a b := ⟨h.os, h.tape, h.output, h.size, fun k hk hn => h.block k hk (by intro e; cases e; simp at hn)⟩
theorem But.drew {S : List Nat} {a b : World} (h : But S a b) : But S a b.drew := ⟨h.os, h.tape, h.output, h.size, h.block⟩

theorem Tree.At.but {W W' : World} {B : Nat} {t : Tree} {v : Value} {fp S : List Nat} (h : t.At W B v fp) (hb : But S W W') (hd : ∀ g ∈ fp, g ∉ S) : t.At W' B v fp := h.keep fun g hg => hb.block g (h.lt g hg) (hd g hg)
theorem partsAt.but {W W' : World} {B : Nat} {ts : List Tree} {vs : List Value} {fp S : List Nat} (h : partsAt W B ts vs fp) (hb : But S W W') (hd : ∀ g ∈ fp, g ∉ S) : partsAt W' B ts vs fp := h.keep fun g hg => hb.block g (h.lt g hg) (hd g hg)

theorem partsAt.one {W : World} {B : Nat} : ∀ {ts : List Tree} {vs : List Value} {fp : List Nat}, partsAt W B ts vs fp → fp.Nodup → ∀ (i : Nat) t, ts[i]? = some t →
    ∃ v f, vs[i]? = some v ∧ t.At W B v f ∧ f.Nodup ∧ (∀ x ∈ f, x ∈ fp) ∧ ∀ W' t', But f W W' → t'.At W' B v f → partsAt W' B (ts.set i t') vs fp
  | [], vs, fp, h, _, i, t, hi => by cases hi
  | t :: ts, vs, fp, h, hn, 0, t', hi => by
    obtain ⟨v, vs', f, f', rfl, h2, h3, rfl⟩ := h
    cases hi
    obtain ⟨n1, n2, n3⟩ := List.nodup_append.1 hn
    refine ⟨v, f, rfl, h2, n1, fun x hx => List.mem_append_left _ hx, fun W' t' hb ht => ⟨v, vs', f, f', rfl, ht, h3.but hb fun g hg hf => n3 g hf g hg rfl, rfl⟩⟩
  | t :: ts, vs, fp, h, hn, i + 1, t', hi => by
    obtain ⟨v, vs', f, f', rfl, h2, h3, rfl⟩ := h
    obtain ⟨n1, n2, n3⟩ := List.nodup_append.1 hn
    obtain ⟨v1, f1, e1, e2, e3, e4, e5⟩ := partsAt.one h3 n2 i t' hi
    exact ⟨v1, f1, e1, e2, e3, fun x hx => List.mem_append_right _ (e4 x hx), fun W' t'' hb ht => ⟨v, vs', f, f', rfl, h2.but hb fun g hg hf => n3 g hg g (e4 g hf) rfl, e5 W' t'' hb ht, rfl⟩⟩

/-- The first so many parts are moved. -/
def movedTo : List Tree → Int → Int → Int → Nat → List Tree
  | ts, _, _, _, 0 => ts
  | [], _, _, _, _ + 1 => []
  | t :: ts, k, x, y, n + 1 => t.moved x y :: (if k = 2 then movedTo ts k (x + (t.box.ext k + 1)) y n else movedTo ts k x (y + (t.box.ext k + 1)) n)
/-- How far behind the first the part with this number begins. -/
def offs : List Tree → Int → Nat → Int
  | _, _, 0 => 0
  | [], _, _ + 1 => 0
  | t :: ts, k, n + 1 => t.box.ext k + 1 + offs ts k n
def xAt (ts : List Tree) (k x : Int) (i : Nat) : Int := if k = 2 then x + offs ts k i else x
def yAt (ts : List Tree) (k y : Int) (i : Nat) : Int := if k = 2 then y else y + offs ts k i

theorem movedTo_get : ∀ (ts : List Tree) (k x y : Int) (i : Nat), (movedTo ts k x y i)[i]? = ts[i]?
  | ts, k, x, y, 0 => by cases ts <;> rfl
  | [], k, x, y, i + 1 => rfl
  | t :: ts, k, x, y, i + 1 => by
    unfold movedTo
    split
    · exact movedTo_get ts k _ _ i
    · exact movedTo_get ts k _ _ i
theorem movedTo_succ : ∀ (ts : List Tree) (k x y : Int) (i : Nat) (t : Tree), ts[i]? = some t → (movedTo ts k x y i).set i (t.moved (xAt ts k x i) (yAt ts k y i)) = movedTo ts k x y (i + 1)
  | [], k, x, y, i, t, h => by simp at h
  | a :: ts, k, x, y, 0, t, h => by
    cases h
    have e1 : xAt (a :: ts) k x 0 = x := by unfold xAt offs; split <;> simp
    have e2 : yAt (a :: ts) k y 0 = y := by unfold yAt offs; split <;> simp
    rw [e1, e2]
    show a.moved x y :: ts = a.moved x y :: (if k = 2 then movedTo ts k (x + (a.box.ext k + 1)) y 0 else movedTo ts k x (y + (a.box.ext k + 1)) 0)
    have z : ∀ x y, movedTo ts k x y 0 = ts := fun x y => by cases ts <;> rfl
    rw [z, z, ite_self]
  | a :: ts, k, x, y, i + 1, t, h => by
    have h' : ts[i]? = some t := h
    by_cases hk : k = 2
    · have ih := movedTo_succ ts k (x + (a.box.ext k + 1)) y i t h'
      have e1 : xAt (a :: ts) k x (i + 1) = xAt ts k (x + (a.box.ext k + 1)) i := by
        unfold xAt
        rw [if_pos hk, if_pos hk, offs]
        omega
      have e2 : yAt (a :: ts) k y (i + 1) = yAt ts k y i := by
        unfold yAt
        rw [if_pos hk, if_pos hk]
      rw [e1, e2]
      conv => lhs; unfold movedTo
      conv => rhs; unfold movedTo
      rw [if_pos hk, if_pos hk, List.set_cons_succ, ih]
    · have ih := movedTo_succ ts k x (y + (a.box.ext k + 1)) i t h'
      have e1 : xAt (a :: ts) k x (i + 1) = xAt ts k x i := by
        unfold xAt
        rw [if_neg hk, if_neg hk]
      have e2 : yAt (a :: ts) k y (i + 1) = yAt ts k (y + (a.box.ext k + 1)) i := by
        unfold yAt
        rw [if_neg hk, if_neg hk, offs]
        omega
      rw [e1, e2]
      conv => lhs; unfold movedTo
      conv => rhs; unfold movedTo
      rw [if_neg hk, if_neg hk, List.set_cons_succ, ih]
theorem movedTo_all : ∀ (ts : List Tree) (k x y : Int), movedTo ts k x y ts.length = movedAll ts k x y
  | [], k, x, y => rfl
  | t :: ts, k, x, y => by
    rw [List.length_cons]
    unfold movedTo movedAll
    rw [movedTo_all ts, movedTo_all ts]
theorem offs_succ : ∀ (ts : List Tree) (k : Int) (i : Nat) (t : Tree), ts[i]? = some t → offs ts k (i + 1) = offs ts k i + (t.box.ext k + 1)
  | [], k, i, t, h => by simp at h
  | a :: ts, k, 0, t, h => by
    cases h
    show a.box.ext k + 1 + offs ts k 0 = 0 + _
    have : offs ts k 0 = 0 := by cases ts <;> rfl
    omega
  | a :: ts, k, i + 1, t, h => by
    have := offs_succ ts k i t h
    show a.box.ext k + 1 + offs ts k (i + 1) = a.box.ext k + 1 + offs ts k i + _
    omega
theorem extAll_low : ∀ (ts : List Tree) (k : Int), (∀ t ∈ ts, 1 ≤ t.box.ext k) → -1 ≤ extAll ts k
  | [], k, h => by unfold extAll; omega
  | t :: ts, k, h => by
    have := extAll_low ts k fun t ht => h t (List.mem_cons_of_mem _ ht)
    have h1 := h t List.mem_cons_self
    unfold extAll
    omega
theorem offs_le : ∀ (ts : List Tree) (k : Int) (i : Nat) (t : Tree), (∀ t ∈ ts, 1 ≤ t.box.ext k) → ts[i]? = some t → 0 ≤ offs ts k i ∧ offs ts k i + t.box.ext k ≤ extAll ts k
  | [], k, i, t, hp, h => by simp at h
  | a :: ts, k, 0, t, hp, h => by
    cases h
    have := extAll_low ts k fun t ht => hp t (List.mem_cons_of_mem _ ht)
    show (0 : Int) ≤ 0 ∧ 0 + _ ≤ a.box.ext k + 1 + extAll ts k
    omega
  | a :: ts, k, i + 1, t, hp, h => by
    have := offs_le ts k i t (fun t ht => hp t (List.mem_cons_of_mem _ ht)) h
    have h1 := hp a List.mem_cons_self
    show (0 : Int) ≤ a.box.ext k + 1 + offs ts k i ∧ a.box.ext k + 1 + offs ts k i + _ ≤ a.box.ext k + 1 + extAll ts k
    omega

end Go.Proofs.Ytcjcekaahooamaa
