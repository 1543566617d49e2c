/-
  Layouts: a pane is moved, told as a cell, laid down; the layout of one pane.
  Layouts: one part of a tree is changed, the others stay; how far the parts stand when the first so many are moved.
  Layouts: move, of every tree.
-/
import Derived.Test.YtlaelkcmeaiajaaCMe
import Derived.Test.YtlaelkcmeaiajaaCSo
import Derived.RegionTactic
import Derived.Deep.RegionWith
import Derived.Deep.DrawnRows
import Derived.Deep.RegionHeld3
import Derived.Laws.AppendOwn
namespace Go.Proofs.Ytlaelkcmeaiajaa
open Go.RowKit
set_option linter.unusedVariables false
set_option maxRecDepth 20000

theorem l_move (g : Nat) (W : World) : (method 248 48 (.pointer (some ⟨g, 0, none⟩)) "mullion/layout.move").run Try.prog W = .ok (104, .pointer (some ⟨g, 0, none⟩)) W := by kernel_rfl
theorem l_tell (g : Nat) (W : World) : (method 248 48 (.pointer (some ⟨g, 0, none⟩)) "mullion/layout.tell").run Try.prog W = .ok (107, .pointer (some ⟨g, 0, none⟩)) W := by kernel_rfl

theorem LeafAt.set {W : World} {g : Nat} {b b' : Box} {p : Int} (h : LeafAt W g b p) (o : Nat) (v : Value) (hv : (leafV b p).setIfInBounds o v = leafV b' p) : LeafAt (W.setCell ⟨g, o, none⟩ v) g b' p := by
  have hlt : g < W.heap.size := lt_of_block h
  have h' : W.heap[g] = .cells (leafV b p) 54 (0, 0) := by unfold LeafAt at h; simpa [Array.getElem?_eq_getElem hlt] using h
  show (W.heap.modify g _)[g]? = _
  rw [Array.getElem?_eq_getElem (by simpa using hlt), Array.getElem_modify_self, h', ← hv]
  rfl

theorem leaf_moves (g : Nat) (b : Box) (p : Int) (x y : Int) (w : World) (h : LeafAt w g b p) :
    Calls Try.prog 104 #[.pointer (some ⟨g, 0, none⟩), .int .i64 x, .int .i64 y] w fun e w' => e = .returned (.tuple #[]) ∧ LeafAt w' g { b with x := x, y := y } p ∧ w.grownBy w' (some g) := by
  obtain ⟨q0, q1, q2, q3, hf⟩ := h.box
  have f0 := hf 0 (by omega)
  have f1 := hf 1 (by omega)
  have HL : Hid (LeafAt w g b p) := h
  clear h hf
  go_enter Try.func104, Try.ntmps104
  go_wp2
  refine ⟨rfl, .tuple #[], (by simp [results, Try.results104, go_sem]), rfl, (HL.out.set 0 (.int .i64 x) (b' := { b with x := x }) rfl).set 1 (.int .i64 y) (b' := { b with x := x, y := y }) rfl, ⟨rfl, rfl, rfl, by simp [World.setCell], fun k _ hr => ?_⟩⟩
  exact (Below.heap_setCell _ _ _ _ (fun e => hr (by simp [e]))).trans (Below.heap_setCell _ _ _ _ (fun e => hr (by simp [e])))

theorem box_cell (g : Nat) (b : Box) (d k p : Int) (w : World) (h : BoxAt w g b) (hlt : g < w.heap.size) :
    Calls Try.prog 109 #[.pointer (some ⟨g, 0, none⟩), .int .i64 d, .int .i64 k, .int .i64 p] w fun e w' => e = .returned (.agg #[.int .i64 d, .int .i64 k, .int .i64 b.x, .int .i64 b.y, .int .i64 b.w, .int .i64 b.h, .int .i64 p]) ∧ Below w.heap.size w w' := by
  obtain ⟨q0, q1, q2, q3, _⟩ := h
  go_enter Try.func109, Try.ntmps109
  go_wp2_with fail
  go_region_held3 (fun W' => W'.cell? ⟨g, 0, none⟩ = some (.int .i64 b.x) ∧ W'.cell? ⟨g, 1, none⟩ = some (.int .i64 b.y) ∧ W'.cell? ⟨g, 2, none⟩ = some (.int .i64 b.w) ∧ W'.cell? ⟨g, 3, none⟩ = some (.int .i64 b.h)) (go_keep) (fail)
  all_goals go_wp2
  all_goals refine bodyPost_ret (v := .agg #[.int .i64 d, .int .i64 k, .int .i64 b.x, .int .i64 b.y, .int .i64 b.w, .int .i64 b.h, .int .i64 p]) (by simp [results, Try.results109, go_sem]) rfl ?_
  all_goals exact ⟨rfl, ((Below.refl _ _).alloc (Nat.le_refl _) _).drew⟩

end Go.Proofs.Ytlaelkcmeaiajaa

namespace Go.Proofs.Ytlaelkcmeaiajaa
open Go.RowKit
set_option linter.unusedVariables false
set_option maxRecDepth 20000

/-- But for these blocks nothing that was there has turned. -/
structure But (S : List Nat) (w w' : World) : Prop where
  os : w'.os = w.os
  tape : w'.tape = w.tape
  output : w'.output = w.output
  size : w.heap.size ≤ w'.heap.size
  block : ∀ k, k < w.heap.size → k ∉ S → w'.heap[k]? = w.heap[k]?
theorem But.refl (S : List Nat) (w : World) : But S w w := ⟨rfl, rfl, rfl, Nat.le_refl _, fun _ _ _ => rfl⟩
theorem But.trans {S : List Nat} {a b c : World} (h : But S a b) (k : But S b c) : But S a c :=
  ⟨k.os.trans h.os, k.tape.trans h.tape, k.output.trans h.output, Nat.le_trans h.size k.size, fun j hj hs => (k.block j (Nat.lt_of_lt_of_le hj h.size) hs).trans (h.block j hj hs)⟩
theorem But.mono {S T : List Nat} {a b : World} (h : But S a b) (hs : ∀ k, k ∈ S → k ∈ T) : But T a b := ⟨h.os, h.tape, h.output, h.size, fun k hk hn => h.block k hk (fun e => hn (hs k e))⟩
theorem But.grown {a b : World} {g : Nat} (h : a.grownBy b (some g)) : But [g] a b := ⟨h.os, h.tape, h.output, h.size, fun k hk hn => h.block k hk (by intro e; cases e; simp at hn)⟩
theorem But.drew {S : List Nat} {a b : World} (h : But S a b) : But S a b.drew := ⟨h.os, h.tape, h.output, h.size, h.block⟩

theorem Tree.At.but {W W' : World} {B : Nat} {t : Tree} {v : Value} {fp S : List Nat} (h : t.At W B v fp) (hb : But S W W') (hd : ∀ g ∈ fp, g ∉ S) : t.At W' B v fp := h.keep fun g hg => hb.block g (h.lt g hg) (hd g hg)
theorem partsAt.but {W W' : World} {B : Nat} {ts : List Tree} {vs : List Value} {fp S : List Nat} (h : partsAt W B ts vs fp) (hb : But S W W') (hd : ∀ g ∈ fp, g ∉ S) : partsAt W' B ts vs fp := h.keep fun g hg => hb.block g (h.lt g hg) (hd g hg)

theorem partsAt.one {W : World} {B : Nat} : ∀ {ts : List Tree} {vs : List Value} {fp : List Nat}, partsAt W B ts vs fp → fp.Nodup → ∀ (i : Nat) t, ts[i]? = some t →
    ∃ v f, vs[i]? = some v ∧ t.At W B v f ∧ f.Nodup ∧ (∀ x ∈ f, x ∈ fp) ∧ ∀ W' t', But f W W' → t'.At W' B v f → partsAt W' B (ts.set i t') vs fp
  | [], vs, fp, h, _, i, t, hi => by cases hi
  | t :: ts, vs, fp, h, hn, 0, t', hi => by
    obtain ⟨v, vs', f, f', rfl, h2, h3, rfl⟩ := h
    cases hi
    obtain ⟨n1, n2, n3⟩ := List.nodup_append.1 hn
    refine ⟨v, f, rfl, h2, n1, fun x hx => List.mem_append_left _ hx, fun W' t' hb ht => ⟨v, vs', f, f', rfl, ht, h3.but hb fun g hg hf => n3 g hf g hg rfl, rfl⟩⟩
  | t :: ts, vs, fp, h, hn, i + 1, t', hi => by
    obtain ⟨v, vs', f, f', rfl, h2, h3, rfl⟩ := h
    obtain ⟨n1, n2, n3⟩ := List.nodup_append.1 hn
    obtain ⟨v1, f1, e1, e2, e3, e4, e5⟩ := partsAt.one h3 n2 i t' hi
    exact ⟨v1, f1, e1, e2, e3, fun x hx => List.mem_append_right _ (e4 x hx), fun W' t'' hb ht => ⟨v, vs', f, f', rfl, h2.but hb fun g hg hf => n3 g hg g (e4 g hf) rfl, e5 W' t'' hb ht, rfl⟩⟩

/-- The first so many parts are moved. -/
def movedTo : List Tree → Int → Int → Int → Nat → List Tree
  | ts, _, _, _, 0 => ts
  | [], _, _, _, _ + 1 => []
  | t :: ts, k, x, y, n + 1 => t.moved x y :: (if k = 2 then movedTo ts k (x + (t.box.ext k + 1)) y n else movedTo ts k x (y + (t.box.ext k + 1)) n)
/-- How far behind the first the part with this number begins. -/
def offs : List Tree → Int → Nat → Int
  | _, _, 0 => 0
  | [], _, _ + 1 => 0
  | t :: ts, k, n + 1 => t.box.ext k + 1 + offs ts k n
def xAt (ts : List Tree) (k x : Int) (i : Nat) : Int := if k = 2 then x + offs ts k i else x
def yAt (ts : List Tree) (k y : Int) (i : Nat) : Int := if k = 2 then y else y + offs ts k i

theorem movedTo_get : ∀ (ts : List Tree) (k x y : Int) (i : Nat), (movedTo ts k x y i)[i]? = ts[i]?
  | ts, k, x, y, 0 => by cases ts <;> rfl
  | [], k, x, y, i + 1 => rfl
  | t :: ts, k, x, y, i + 1 => by
    unfold movedTo
    split
    · exact movedTo_get ts k _ _ i
    · exact movedTo_get ts k _ _ i
theorem movedTo_succ : ∀ (ts : List Tree) (k x y : Int) (i : Nat) (t : Tree), ts[i]? = some t → (movedTo ts k x y i).set i (t.moved (xAt ts k x i) (yAt ts k y i)) = movedTo ts k x y (i + 1)
  | [], k, x, y, i, t, h => by simp at h
  | a :: ts, k, x, y, 0, t, h => by
    cases h
    have e1 : xAt (a :: ts) k x 0 = x := by unfold xAt offs; split <;> simp
    have e2 : yAt (a :: ts) k y 0 = y := by unfold yAt offs; split <;> simp
    rw [e1, e2]
    show a.moved x y :: ts = a.moved x y :: (if k = 2 then movedTo ts k (x + (a.box.ext k + 1)) y 0 else movedTo ts k x (y + (a.box.ext k + 1)) 0)
    have z : ∀ x y, movedTo ts k x y 0 = ts := fun x y => by cases ts <;> rfl
    rw [z, z, ite_self]
  | a :: ts, k, x, y, i + 1, t, h => by
    have h' : ts[i]? = some t := h
    by_cases hk : k = 2
    · have ih := movedTo_succ ts k (x + (a.box.ext k + 1)) y i t h'
      have e1 : xAt (a :: ts) k x (i + 1) = xAt ts k (x + (a.box.ext k + 1)) i := by
        unfold xAt
        rw [if_pos hk, if_pos hk, offs]
        omega
      have e2 : yAt (a :: ts) k y (i + 1) = yAt ts k y i := by
        unfold yAt
        rw [if_pos hk, if_pos hk]
      rw [e1, e2]
      conv => lhs; unfold movedTo
      conv => rhs; unfold movedTo
      rw [if_pos hk, if_pos hk, List.set_cons_succ, ih]
    · have ih := movedTo_succ ts k x (y + (a.box.ext k + 1)) i t h'
      have e1 : xAt (a :: ts) k x (i + 1) = xAt ts k x i := by
        unfold xAt
        rw [if_neg hk, if_neg hk]
      have e2 : yAt (a :: ts) k y (i + 1) = yAt ts k (y + (a.box.ext k + 1)) i := by
        unfold yAt
        rw [if_neg hk, if_neg hk, offs]
        omega
      rw [e1, e2]
      conv => lhs; unfold movedTo
      conv => rhs; unfold movedTo
      rw [if_neg hk, if_neg hk, List.set_cons_succ, ih]
theorem movedTo_all : ∀ (ts : List Tree) (k x y : Int), movedTo ts k x y ts.length = movedAll ts k x y
  | [], k, x, y => rfl
  | t :: ts, k, x, y => by
    rw [List.length_cons]
    unfold movedTo movedAll
    rw [movedTo_all ts, movedTo_all ts]
theorem offs_succ : ∀ (ts : List Tree) (k : Int) (i : Nat) (t : Tree), ts[i]? = some t → offs ts k (i + 1) = offs ts k i + (t.box.ext k + 1)
  | [], k, i, t, h => by simp at h
  | a :: ts, k, 0, t, h => by
    cases h
    show a.box.ext k + 1 + offs ts k 0 = 0 + _
    have : offs ts k 0 = 0 := by cases ts <;> rfl
    omega
  | a :: ts, k, i + 1, t, h => by
    have := offs_succ ts k i t h
    show a.box.ext k + 1 + offs ts k (i + 1) = a.box.ext k + 1 + offs ts k i + _
    omega
theorem extAll_low : ∀ (ts : List Tree) (k : Int), (∀ t ∈ ts, 1 ≤ t.box.ext k) → -1 ≤ extAll ts k
  | [], k, h => by unfold extAll; omega
  | t :: ts, k, h => by
    have := extAll_low ts k fun t ht => h t (List.mem_cons_of_mem _ ht)
    have h1 := h t List.mem_cons_self
    unfold extAll
    omega
theorem offs_le : ∀ (ts : List Tree) (k : Int) (i : Nat) (t : Tree), (∀ t ∈ ts, 1 ≤ t.box.ext k) → ts[i]? = some t → 0 ≤ offs ts k i ∧ offs ts k i + t.box.ext k ≤ extAll ts k
  | [], k, i, t, hp, h => by simp at h
  | a :: ts, k, 0, t, hp, h => by
    cases h
    have := extAll_low ts k fun t ht => hp t (List.mem_cons_of_mem _ ht)
    show (0 : Int) ≤ 0 ∧ 0 + _ ≤ a.box.ext k + 1 + extAll ts k
    omega
  | a :: ts, k, i + 1, t, hp, h => by
    have := offs_le ts k i t (fun t ht => hp t (List.mem_cons_of_mem _ ht)) h
    have h1 := hp a List.mem_cons_self
    show (0 : Int) ≤ a.box.ext k + 1 + offs ts k i ∧ a.box.ext k + 1 + offs ts k i + _ ≤ a.box.ext k + 1 + extAll ts k
    omega

end Go.Proofs.Ytlaelkcmeaiajaa

namespace Go.Proofs.Ytlaelkcmeaiajaa
open Go.RowKit
set_option linter.unusedVariables false
set_option maxRecDepth 100000

theorem SplitAt.set {W : World} {g : Nat} {b b' : Box} {k : Int} {sl : Value} (h : SplitAt W g b k sl) (o : Nat) (v : Value) (hv : (splitV b k sl).setIfInBounds o v = splitV b' k sl) : SplitAt (W.setCell ⟨g, o, none⟩ v) g b' k sl := by
  have hlt : g < W.heap.size := lt_of_block h
  have h' : W.heap[g] = .cells (splitV b k sl) 90 (0, 0) := by unfold SplitAt at h; simpa [Array.getElem?_eq_getElem hlt] using h
  show (W.heap.modify g _)[g]? = _
  rw [Array.getElem?_eq_getElem (by simpa using hlt), Array.getElem_modify_self, h', ← hv]
  rfl
theorem split_moves (g : Nat) (b : Box) (k : Int) (sl : Value) (x y : Int) (w : World) (h : SplitAt w g b k sl) :
    Calls Try.prog 104 #[.pointer (some ⟨g, 0, none⟩), .int .i64 x, .int .i64 y] w fun e w' => e = .returned (.tuple #[]) ∧ SplitAt w' g { b with x := x, y := y } k sl ∧ w.grownBy w' (some g) := by
  obtain ⟨q0, q1, q2, q3, hf⟩ := h.box
  have f0 := hf 0 (by omega)
  have f1 := hf 1 (by omega)
  have HL : Hid (SplitAt w g b k sl) := h
  clear h hf
  go_enter Try.func104, Try.ntmps104
  go_wp2
  refine ⟨rfl, .tuple #[], (by simp [results, Try.results104, go_sem]), rfl, (HL.out.set 0 (.int .i64 x) (b' := { b with x := x }) rfl).set 1 (.int .i64 y) (b' := { b with x := x, y := y }) rfl, ⟨rfl, rfl, rfl, by simp [World.setCell], fun k _ hr => ?_⟩⟩
  exact (Below.heap_setCell _ _ _ _ (fun e => hr (by simp [e]))).trans (Below.heap_setCell _ _ _ _ (fun e => hr (by simp [e])))

/-- What move wants of a part. -/
structure PartM (B : Nat) (v : Value) (t : Tree) (fp : List Nat) (T : TypeId) (gi : Nat) (Fm : FuncId) : Prop where
  val : v = .iface T (.pointer (some ⟨gi, 0, none⟩))
  mM : ∀ W, (method 248 T (.pointer (some ⟨gi, 0, none⟩)) "mullion/layout.move").run Try.prog W = .ok (Fm, .pointer (some ⟨gi, 0, none⟩)) W
  mE : ∀ W, (method 248 T (.pointer (some ⟨gi, 0, none⟩)) "mullion/layout.extent").run Try.prog W = .ok (35, .pointer (some ⟨gi, 0, none⟩)) W
  nE : ∀ W, (nilAhead 248 T (.pointer (some ⟨gi, 0, none⟩)) "mullion/layout.extent").run Try.prog W = .ok (some false) W
  fM : ∀ a c d W, (callFunc Fm #[a, c, d]).run Try.prog W = .ok (.enter Fm #[a, c, d]) W
  cM : ∀ X x y, t.At X B v fp → (-1000000 ≤ x ∧ x + t.box.w ≤ 1000000) → (-1000000 ≤ y ∧ y + t.box.h ≤ 1000000) → Calls Try.prog Fm #[.pointer (some ⟨gi, 0, none⟩), .int .i64 x, .int .i64 y] X fun e w' => e = .returned (.tuple #[]) ∧ (t.moved x y).At w' B v fp ∧ But fp X w'
  cE : ∀ X x y j, (t.moved x y).At X B v fp → Calls Try.prog 35 #[.pointer (some ⟨gi, 0, none⟩), .int .i64 j] X fun e w' => e = .returned (.int .i64 (t.box.ext j)) ∧ X = w'
def Tree.Moves (t : Tree) : Prop := ∀ B v fp W, t.At W B v fp → fp.Nodup → t.sound = true → ∃ T gi Fm, PartM B v t fp T gi Fm

/-- How a split stands when so many of its parts are moved. -/
structure MovedTo (w : World) (g : Nat) (b : Box) (k : Int) (sl : Value) (vs : List Value) (fs : List Nat) (ts : List Tree) (B : Nat) (x y : Int) (i : Nat) (wr : World) : Prop where
  own : SplitAt wr g { b with x := x, y := y } k sl
  row : wr.ownsRow B 45 1 sl vs.length vs
  parts : partsAt wr B (movedTo ts k x y i) vs fs
  but : But (g :: fs) w wr

theorem MovedTo.below {w : World} {g : Nat} {b : Box} {k : Int} {sl : Value} {vs : List Value} {fs : List Nat} {ts : List Tree} {B : Nat} {x y : Int} {i : Nat} {wr X : World} (h : MovedTo w g b k sl vs fs ts B x y i wr) (hb : Below wr.heap.size wr X) : MovedTo w g b k sl vs fs ts B x y i X :=
  ⟨h.own.below hb, own_below h.row hb, h.parts.below hb, h.but.trans ⟨hb.os, hb.tape, hb.output, hb.size, fun q hq _ => hb.block q hq⟩⟩
theorem xAt_zero (ts : List Tree) (k x : Int) : xAt ts k x 0 = x := by
  have z : offs ts k 0 = 0 := by cases ts <;> rfl
  unfold xAt
  rw [z]
  split <;> omega
theorem yAt_zero (ts : List Tree) (k y : Int) : yAt ts k y 0 = y := by
  have z : offs ts k 0 = 0 := by cases ts <;> rfl
  unfold yAt
  rw [z]
  split <;> omega
theorem xAt_succ (ts : List Tree) (k x : Int) (i : Nat) (t : Tree) (h : ts[i]? = some t) : xAt ts k x (i + 1) = if k = 2 then xAt ts k x i + (t.box.ext k + 1) else xAt ts k x i := by
  unfold xAt
  rw [offs_succ ts k i t h]
  split <;> omega
theorem yAt_succ (ts : List Tree) (k y : Int) (i : Nat) (t : Tree) (h : ts[i]? = some t) : yAt ts k y (i + 1) = if k = 2 then yAt ts k y i else yAt ts k y i + (t.box.ext k + 1) := by
  unfold yAt
  rw [offs_succ ts k i t h]
  split <;> omega
theorem ext_both (ts : List Tree) (b : Box) (k : Int) (i : Nat) (t : Tree) (h : ts[i]? = some t) (hs : soundAll ts b k = true) : (1 ≤ t.box.w ∧ t.box.w ≤ 1000) ∧ (1 ≤ t.box.h ∧ t.box.h ≤ 1000) := by
  have := soundAll_at ts b k i t h hs
  rw [Bool.and_eq_true] at this
  exact t.sound_sides this.1
theorem ext_side (ts : List Tree) (b : Box) (k : Int) (i : Nat) (t : Tree) (h : ts[i]? = some t) (hs : soundAll ts b k = true) : 1 ≤ t.box.ext k ∧ t.box.ext k ≤ 1000 := by
  have := ext_both ts b k i t h hs
  unfold Box.ext
  split
  · exact this.1
  · exact this.2
theorem moves_small {x y w h : Int} (hx : -1000000 ≤ x ∧ x + w ≤ 1000000) (hy : -1000000 ≤ y ∧ y + h ≤ 1000000) (hs : (1 ≤ w ∧ w ≤ 1000) ∧ (1 ≤ h ∧ h ≤ 1000)) : (-1000000 ≤ x ∧ x ≤ 1000000) ∧ (-1000000 ≤ y ∧ y ≤ 1000000) := by omega

/-- The next part: what it is, where it goes, how the split stands behind it. -/
theorem moves_one {w : World} {g : Nat} {b : Box} {k : Int} {pg n cap : Nat} {vs : List Value} {fs : List Nat} {ts : List Tree} {B : Nat} {x y : Int} {i : Nat} {wr : World} {t : Tree} (hnd : (g :: ((Value.slice (some ⟨pg, 0, none⟩) n cap).ownBlock.toList ++ fs)).Nodup) (IH : ∀ t ∈ ts, t.Moves) (hall : soundAll ts b k = true) (hext : extAll ts k = b.ext k) (hk : k = 2 ∨ k = 3)
    (hx : -1000000 ≤ x ∧ x + b.w ≤ 1000000) (hy : -1000000 ≤ y ∧ y + b.h ≤ 1000000) (ht : ts[i]? = some t) (h : MovedTo w g b k (.slice (some ⟨pg, 0, none⟩) n cap) vs fs ts B x y i wr) :
    ∃ v T gi Fm f, vs[i]? = some v ∧ PartM B v t f T gi Fm ∧ (-1000000 ≤ xAt ts k x i ∧ xAt ts k x i + t.box.w ≤ 1000000) ∧ (-1000000 ≤ yAt ts k y i ∧ yAt ts k y i + t.box.h ≤ 1000000) ∧ t.At wr B v f ∧
      ∀ w', (t.moved (xAt ts k x i) (yAt ts k y i)).At w' B v f → But f wr w' → MovedTo w g b k (.slice (some ⟨pg, 0, none⟩) n cap) vs fs ts B x y (i + 1) w' := by
  obtain ⟨n1, n2⟩ := List.nodup_cons.1 hnd
  obtain ⟨n3, n4, n5⟩ := List.nodup_append.1 n2
  have hg : (movedTo ts k x y i)[i]? = some t := (movedTo_get ts k x y i).trans ht
  obtain ⟨v, f, e1, e2, e3, e4, e5⟩ := partsAt.one h.parts n4 i t hg
  have hsd := soundAll_at ts b k i t ht hall
  rw [Bool.and_eq_true, Bool.and_eq_true, decide_eq_true_eq] at hsd
  obtain ⟨T, gi, Fm, hp⟩ := IH t (List.mem_of_getElem? ht) B v f wr e2 e3 hsd.1
  have hpos : ∀ t ∈ ts, 1 ≤ t.box.ext k := by
    intro t' ht'
    obtain ⟨j, hj⟩ := List.getElem?_of_mem ht'
    exact (ext_side ts b k j t' hj hall).1
  have ho := offs_le ts k i t hpos ht
  rw [hext] at ho
  have hac := hsd.2.2
  refine ⟨v, T, gi, Fm, f, e1, hp, ?_, ?_, e2, fun w' h1 h2 => ⟨?_, ?_, ?_, ?_⟩⟩
  · rcases hk with rfl | rfl
    · unfold xAt
      rw [if_pos rfl]
      change 0 ≤ offs ts 2 i ∧ offs ts 2 i + t.box.w ≤ b.w at ho
      omega
    · unfold xAt
      rw [if_neg (by decide)]
      change t.box.w = b.w at hac
      omega
  · rcases hk with rfl | rfl
    · unfold yAt
      rw [if_pos rfl]
      change t.box.h = b.h at hac
      omega
    · unfold yAt
      rw [if_neg (by decide)]
      change 0 ≤ offs ts 3 i ∧ offs ts 3 i + t.box.h ≤ b.h at ho
      omega
  · exact (h2.block g (lt_of_block h.own) fun e => n1 (List.mem_append_right _ (e4 g e))).trans h.own
  · exact own_kept h.row fun q hq => h2.block q (own_lt h.row q hq) fun e => n5 q hq q (e4 q e) rfl
  · rw [← movedTo_succ ts k x y i t ht]
    exact e5 w' _ h2 h1
  · exact h.but.trans (h2.mono fun q hq => List.mem_cons_of_mem _ (e4 q hq))

set_option maxHeartbeats 2000000 in
theorem move_split (g : Nat) (b : Box) (k : Int) (hk : k = 2 ∨ k = 3) (sl : Value) (vs : List Value) (fs : List Nat) (ts : List Tree) (B : Nat) (w : World) (hS : SplitAt w g b k sl) (hR : w.ownsRow B 45 1 sl vs.length vs) (hP : partsAt w B ts vs fs) (hnd : (g :: (sl.ownBlock.toList ++ fs)).Nodup) (hs : (Tree.split b k ts).sound = true) (hl : ts.length ≤ 200) (IH : ∀ t ∈ ts, t.Moves)
    (x y : Int) (hx : -1000000 ≤ x ∧ x + b.w ≤ 1000000) (hy : -1000000 ≤ y ∧ y + b.h ≤ 1000000) :
    Calls Try.prog 112 #[.pointer (some ⟨g, 0, none⟩), .int .i64 x, .int .i64 y] w fun e w' => e = .returned (.tuple #[]) ∧ MovedTo w g b k sl vs fs ts B x y ts.length w' := by
  have hvl := hP.length
  unfold Tree.sound at hs
  simp only [Bool.and_eq_true, decide_eq_true_eq] at hs
  obtain ⟨⟨h2, hw1, hh1⟩, hall, hext⟩ := hs
  obtain ⟨pg, cap, hsl, hseen⟩ := seen_of hS hR (by intro e; rw [e] at hvl; simp at hvl; omega)
  subst hsl
  obtain ⟨n, hn⟩ : ∃ n, vs.length = n := ⟨_, rfl⟩
  have hnl : ts.length = n := by rw [← hn, hvl]
  have HN : Hid (ts.length = n) := hnl
  have HV : Hid (vs.length = n) := hn
  have HIH : Hid (∀ t ∈ ts, t.Moves) := IH
  have HAll : Hid (soundAll ts b k = true) := hall
  have Hext : Hid (extAll ts k = b.ext k) := hext
  have Hnd : Hid ((g :: ((Value.slice (some ⟨pg, 0, none⟩) vs.length cap).ownBlock.toList ++ fs)).Nodup) := hnd
  have HSt : Hid (∀ w', SplitAt w' g { b with x := x, y := y } k (.slice (some ⟨pg, 0, none⟩) vs.length cap) → w.grownBy w' (some g) → MovedTo w g b k (.slice (some ⟨pg, 0, none⟩) vs.length cap) vs fs ts B x y 0 w') := by
    intro w' h1 h2
    have hb := But.grown h2
    have hnd' := List.nodup_cons.1 hnd
    refine ⟨h1, own_kept hR fun q hq => hb.block q (own_lt hR q hq) ?_, ?_, hb.mono (by simp)⟩
    · simp only [List.mem_cons, List.not_mem_nil, or_false]
      intro e
      exact hnd'.1 (List.mem_append_left _ (e ▸ hq))
    · have z : movedTo ts k x y 0 = ts := by cases ts <;> rfl
      rw [z]
      refine hP.but hb fun q hq e => ?_
      simp only [List.mem_cons, List.not_mem_nil, or_false] at e
      exact hnd'.1 (List.mem_append_right _ (e ▸ hq))
  have HM : Hid (Calls Try.prog 104 #[.pointer (some ⟨g, 0, none⟩), .int .i64 x, .int .i64 y] w fun e w' => e = .returned (.tuple #[]) ∧ MovedTo w g b k (.slice (some ⟨pg, 0, none⟩) vs.length cap) vs fs ts B x y 0 w') := (split_moves g b k _ x y w hS).mono fun e w' h => ⟨h.1, HSt.out w' h.2.1 h.2.2⟩
  rw [hnl]
  rw [hn] at HM
  obtain ⟨sl, hsl⟩ : ∃ sl, Value.slice (some ⟨pg, 0, none⟩) vs.length cap = sl := ⟨_, rfl⟩
  rw [hn]
  have hn0 : n ≤ 200 := by omega
  have HS5 : Hid (∀ i wr, MovedTo w g b k (.slice (some ⟨pg, 0, none⟩) n cap) vs fs ts B x y i wr → Seen wr g k (.slice (some ⟨pg, 0, none⟩) n cap) pg vs) := by
    intro i wr h
    obtain ⟨pg', cap', e, h3⟩ := seen_of h.own h.row (by intro e; rw [e] at hvl; simp at hvl; omega)
    cases e
    exact h3
  clear hsl hvl hS hR hP hnd IH hall hext hseen HSt hn hnl h2 hl
  go_enter Try.func112, Try.ntmps112
  go_wp2_with (go_at_call 104; refine HM.out.mono ?_; rintro e w1 ⟨rfl, hm⟩; have HM1 : Hid (MovedTo w g b k (.slice (some ⟨pg, 0, none⟩) n cap) vs fs ts B x y 0 w1) := hm; have c5 := (HS5.out 0 w1 hm).parts; clear hm)
  go_loopw [1, 2, 19] (fun vx vy v wr => ∃ i : Nat, i ≤ n ∧ vx = .int .i64 (xAt ts k x i) ∧ vy = .int .i64 (yAt ts k y i) ∧ v = .int .i64 i ∧ Hid (MovedTo w g b k (.slice (some ⟨pg, 0, none⟩) n cap) vs fs ts B x y i wr)) (fun _ _ v _ => n - (intOf v).toNat)
  case atStart => exact ⟨0, Nat.zero_le _, by rw [xAt_zero], by rw [yAt_zero], rfl, HM1⟩
  case round =>
    obtain ⟨i, hi, rfl, rfl, rfl, HMr⟩ := hrel
    clear c5 HM1
    have HSr := HS5.out _ _ HMr.out
    have r4 := HSr.kind
    have r5 := HSr.parts
    by_cases hlt : i < n
    · obtain ⟨t, ht⟩ : ∃ t, ts[i]? = some t := ⟨_, List.getElem?_eq_getElem (by rw [HN.out]; exact hlt)⟩
      have Hnd' := Hnd.out
      rw [HV.out] at Hnd'
      obtain ⟨v, T, gi, Fm, f, hvi, HPM, hbx, hby, hAt, hnext⟩ := moves_one Hnd' HIH.out HAll.out Hext.out hk hx hy ht HMr.out
      obtain ⟨e1, he1⟩ : ∃ e, t.box.ext k = e := ⟨_, rfl⟩
      have hxs := xAt_succ ts k x i t ht
      have hys := yAt_succ ts k y i t ht
      rw [he1] at hxs hys
      have hes : 1 ≤ e1 ∧ e1 ≤ 1000 := he1 ▸ ext_side ts b k i t ht HAll.out
      obtain ⟨xi, hxi⟩ : ∃ xi, xAt ts k x i = xi := ⟨_, rfl⟩
      obtain ⟨yi, hyi⟩ : ∃ yi, yAt ts k y i = yi := ⟨_, rfl⟩
      rw [hxi] at hxs hbx hnext
      rw [hyi] at hys hby hnext
      rw [hxi, hyi]
      have ri := HSr.row i _ hvi
      have hval := HPM.val
      subst hval
      have m1 := HPM.mM
      have m2 := HPM.mE
      have m3 := HPM.nE
      have m4 := HPM.fM
      have hsw := moves_small hbx hby (ext_both ts b k i t ht HAll.out)
      have w1e : IntKind.i64.wrap (e1 + 1) = e1 + 1 := by rw [IntKind.wrap_i64]; omega
      have w2e : IntKind.i64.wrap (xi + (e1 + 1)) = xi + (e1 + 1) := by rw [IntKind.wrap_i64]; omega
      have w3e : IntKind.i64.wrap (yi + (e1 + 1)) = yi + (e1 + 1) := by rw [IntKind.wrap_i64]; omega
      have Hxs : Hid (xAt ts k x (i + 1) = if k = 2 then xi + (e1 + 1) else xi) := hxs
      have Hys : Hid (yAt ts k y (i + 1) = if k = 2 then yi else yi + (e1 + 1)) := hys
      have HcM : Hid (Calls Try.prog Fm #[.pointer (some ⟨gi, 0, none⟩), .int .i64 xi, .int .i64 yi] wr fun e w' => e = .returned (.tuple #[]) ∧ MovedTo w g b k (.slice (some ⟨pg, 0, none⟩) n cap) vs fs ts B x y (i + 1) w' ∧ (∀ X, Below w'.heap.size w' X → Calls Try.prog 35 #[.pointer (some ⟨gi, 0, none⟩), .int .i64 k] X fun e w' => e = .returned (.int .i64 e1) ∧ X = w')) :=
        (HPM.cM wr xi yi hAt hbx hby).mono fun e w' h => ⟨h.1, hnext w' h.2.1 h.2.2, fun X hX => he1 ▸ HPM.cE X xi yi k (h.2.1.below hX)⟩
      clear hAt hnext HPM hvi hxs hys hxi hyi he1 hbx hby hsw hes Hnd' ht HSr
      go_wp2_with fail
      refine HcM.out.mono ?_
      rintro e w2 ⟨rfl, hM2, hcE⟩
      have HM2 : Hid (MovedTo w g b k (.slice (some ⟨pg, 0, none⟩) n cap) vs fs ts B x y (i + 1) w2) := hM2
      have HcE : Hid (∀ X, Below w2.heap.size w2 X → Calls Try.prog 35 #[.pointer (some ⟨gi, 0, none⟩), .int .i64 k] X fun e w' => e = .returned (.int .i64 e1) ∧ X = w') := hcE
      have r4 := (HS5.out _ _ hM2).kind
      have r5 := (HS5.out _ _ hM2).parts
      clear hM2 hcE
      rcases hk with rfl | rfl
      · go_wp2_with fail
        · skip
          have Hk : Hid (∀ X, Below w2.heap.size w2 X → X.cell? ⟨g, 4, none⟩ = some (.int .i64 2)) := fun X h => ((HS5.out _ _ HM2.out).below h).kind
          have Hc1 : Hid (∀ X, Below w2.heap.size w2 X → Calls Try.prog 35 #[.pointer (some ⟨gi, 0, none⟩), .int .i64 2] X fun e w' => e = .returned (.int .i64 e1) ∧ Below w2.heap.size w2 w') := fun X h => (HcE.out X h).mono fun e w' h2 => ⟨h2.1, h2.2 ▸ h⟩
          clear r4 r5 HcE
          refine wp_region_qw (fun X => Below w2.heap.size w2 X) (by kernel_rfl) (by kernel_rfl) (Below.refl _ _).drew ?_
          repeat (
            refine qw_take (v := ?_) (by rfl) (fun X hX => ?_) ?_
            rotate_left
            · have x4 := Hk.out X hX
              go_simp
              all_goals first | with_reducible rfl | with_reducible exact Hc1.out X hX
            intro K hK
            go_simp
            refine hK.out _ ?_
            clear hK K)
          refine qw_nil ?_
          intro w4 hB4
          have HM4 : Hid (MovedTo w g b 2 (.slice (some ⟨pg, 0, none⟩) n cap) vs fs ts B x y (i + 1) w4) := HM2.out.below hB4
          clear hB4
          go_wp2
          go_roundw
          case rel => exact ⟨i + 1, by omega, by rw [Hxs.out]; simp, by rw [Hys.out]; simp, by go_num, HM4⟩
          case measure => simp [intOf]; omega
      · go_wp2_with fail
        · skip
          have Hk : Hid (∀ X, Below w2.heap.size w2 X → X.cell? ⟨g, 4, none⟩ = some (.int .i64 3)) := fun X h => ((HS5.out _ _ HM2.out).below h).kind
          have Hc1 : Hid (∀ X, Below w2.heap.size w2 X → Calls Try.prog 35 #[.pointer (some ⟨gi, 0, none⟩), .int .i64 3] X fun e w' => e = .returned (.int .i64 e1) ∧ Below w2.heap.size w2 w') := fun X h => (HcE.out X h).mono fun e w' h2 => ⟨h2.1, h2.2 ▸ h⟩
          clear r4 r5 HcE
          refine wp_region_qw (fun X => Below w2.heap.size w2 X) (by kernel_rfl) (by kernel_rfl) (Below.refl _ _).drew ?_
          repeat (
            refine qw_take (v := ?_) (by rfl) (fun X hX => ?_) ?_
            rotate_left
            · have x4 := Hk.out X hX
              go_simp
              all_goals first | with_reducible rfl | with_reducible exact Hc1.out X hX
            intro K hK
            go_simp
            refine hK.out _ ?_
            clear hK K)
          refine qw_nil ?_
          intro w4 hB4
          have HM4 : Hid (MovedTo w g b 3 (.slice (some ⟨pg, 0, none⟩) n cap) vs fs ts B x y (i + 1) w4) := HM2.out.below hB4
          clear hB4
          go_wp2
          go_roundw
          case rel => exact ⟨i + 1, by omega, by rw [Hxs.out]; simp, by rw [Hys.out]; simp, by go_num, HM4⟩
          case measure => simp [intOf]; omega
    · have hin : i = n := by omega
      subst hin
      go_wp2
      refine ⟨rfl, .tuple #[], (by simp [results, Try.results112, go_sem]), rfl, HMr.out⟩

theorem l_fM (a c d : Value) (W : World) : (callFunc 104 #[a, c, d]).run Try.prog W = .ok (.enter 104 #[a, c, d]) W := by kernel_rfl
theorem s_fM (a c d : Value) (W : World) : (callFunc 112 #[a, c, d]).run Try.prog W = .ok (.enter 112 #[a, c, d]) W := by kernel_rfl
theorem s_move (g : Nat) (W : World) : (method 248 72 (.pointer (some ⟨g, 0, none⟩)) "mullion/layout.move").run Try.prog W = .ok (112, .pointer (some ⟨g, 0, none⟩)) W := by kernel_rfl

mutual
theorem Tree.moves : ∀ (t : Tree), t.fine → t.Moves
  | .leaf b p, _ => by
    intro B v fp W h hnd hs
    obtain ⟨g, rfl, h2, rfl⟩ := h
    refine ⟨_, g, _, { val := rfl, mM := l_move g, mE := l_extent g, nE := l_nE g, fM := l_fM, cM := fun X x y hX _ _ => ?_, cE := fun X x y j hX => ?_ }⟩
    · obtain ⟨g', e, h3, e'⟩ := hX
      cases e
      exact (leaf_moves g b p x y X h3).mono fun e w' h4 => ⟨h4.1, ⟨g, rfl, h4.2.1, rfl⟩, But.grown h4.2.2⟩
    · obtain ⟨g', e, h3, e'⟩ := hX
      cases e
      exact (box_extent g _ j X h3.box).mono fun e w' h4 => h4
  | .split b k ts, hfi => by
    intro B v fp W h hnd hs
    have IH := tree_moves ts hfi.2.2
    obtain ⟨g, sl, vs, fs, rfl, h2, h3, h4, rfl⟩ := h
    refine ⟨_, g, _, { val := rfl, mM := s_move g, mE := s_extent g, nE := s_nE g, fM := s_fM, cM := fun X x y hX hx hy => ?_, cE := fun X x y j hX => ?_ }⟩
    · obtain ⟨g', sl', vs', fs', e, k2, k3, k4, e'⟩ := hX
      cases e
      have hnd' := hnd
      rw [e'] at hnd'
      refine (move_split g b k hfi.1 sl' vs' fs' ts B X k2 k3 k4 hnd' hs hfi.2.1 IH x y hx hy).mono fun e w' h5 => ⟨h5.1, ?_, ?_⟩
      · refine ⟨g, sl', vs', fs', rfl, h5.2.own, h5.2.row, ?_, e'⟩
        rw [← movedTo_all]
        exact h5.2.parts
      · refine h5.2.but.mono fun q hq => ?_
        rw [e']
        rcases List.mem_cons.1 hq with rfl | hq
        · exact List.mem_cons_self
        · exact List.mem_cons_of_mem _ (List.mem_append_right _ hq)
    · obtain ⟨g', sl', vs', fs', e, k2, k3, k4, e'⟩ := hX
      cases e
      exact (box_extent g _ j X k2.box).mono fun e w' h5 => h5
theorem tree_moves : ∀ (ts : List Tree), fines ts → ∀ t ∈ ts, t.Moves
  | [], _ => fun t ht => by cases ht
  | a :: ts, h => fun t ht => by
    rcases List.mem_cons.1 ht with e | ht
    · exact e ▸ Tree.moves a h.1
    · exact tree_moves ts h.2 t ht
end

end Go.Proofs.Ytlaelkcmeaiajaa
