/-
  Layouts, by plain functions: a list is a layout for the document as it is for the program.
  Layouts: the document's nodes in memory.
-/
import Derived.Test.YtglncninkocgaabGreatDoorCJ
import Derived.Test.YtglncninkocgaabGreatDoorCK
namespace Go.Proofs.YtglncninkocgaabGreatDoor
open Go.RowKit
set_option linter.unusedVariables false

mutual
theorem sound_ok : ∀ (t : Tree), t.kinds → t.sound = true → (nodeOf t).ok = true
  | .leaf b p, hk, hs => by
    unfold Tree.sound at hs
    simp only [Bool.and_eq_true] at hs
    have h1 := side_of hs.1.1
    have h2 := side_of hs.1.2
    show (((decide (1 ≤ b.w) && decide (1 ≤ b.h)) && (decide ((1 : Int) ≤ 1) && decide ((1 : Int) ≤ 3))) && (if (1 : Int) = 1 then (decide (([] : List Node).length = 0) && idB p) else _)) = true
    rw [if_pos rfl, hs.2]
    simp [h1.1, h2.1]
  | .split b k ts, hk, hs => by
    unfold Tree.sound at hs
    simp only [Bool.and_eq_true, decide_eq_true_eq] at hs
    obtain ⟨⟨h2, hw, hh⟩, hall, hext⟩ := hs
    have h1 := side_of hw
    have h3 := side_of hh
    have hk1 : ¬ k = 1 := by rcases hk.1 with h | h <;> omega
    have hle : ∀ t ∈ ts, t.box.ext k ≤ b.ext k := fun t ht => hext ▸ ext_le_all ts b k hall t ht
    have ho := soundAll_oks ts b k hk.1 hk.2 hall hle
    show (((decide (1 ≤ b.w) && decide (1 ≤ b.h)) && (decide (1 ≤ k) && decide (k ≤ 3))) && (if k = 1 then _ else ((decide (2 ≤ (nodesOf ts).length) && decide ((0 : Int) = 0)) && (oksAll (nodesOf ts) k b.w b.h && decide (extN (nodesOf ts) k = if k = 2 then b.w else b.h))))) = true
    rw [if_neg hk1, ho, nodesOf_length, extN_told, hext]
    have hk2 : 1 ≤ k ∧ k ≤ 3 := by rcases hk.1 with h | h <;> omega
    have he : b.ext k = if k = 2 then b.w else b.h := rfl
    rw [he]
    simp [h1.1, h3.1, hk2, h2]
theorem soundAll_oks : ∀ (ts : List Tree) (b : Box) (k : Int), (k = 2 ∨ k = 3) → kindsAll ts → soundAll ts b k = true → (∀ t ∈ ts, t.box.ext k ≤ b.ext k) → oksAll (nodesOf ts) k b.w b.h = true
  | [], b, k, hk, hks, hs, hle => rfl
  | t :: ts, b, k, hk, hks, hs, hle => by
    unfold soundAll at hs
    simp only [Bool.and_eq_true, decide_eq_true_eq, Bool.not_eq_true'] at hs
    obtain ⟨⟨h1, h2, h3⟩, h4⟩ := hs
    have i1 := sound_ok t hks.1 h1
    have i2 := soundAll_oks ts b k hk hks.2 h4 (fun t ht => hle t (List.mem_cons_of_mem _ ht))
    have i3 := nodeOf_kind t k hk h2
    have i4 := hle t List.mem_cons_self
    show ((((!decide ((nodeOf t).k = k)) && (decide ((nodeOf t).w ≤ b.w) && decide ((nodeOf t).h ≤ b.h))) && ((nodeOf t).ok && (if k = 2 then decide ((nodeOf t).h = b.h) else decide ((nodeOf t).w = b.w)))) && oksAll (nodesOf ts) k b.w b.h) = true
    rw [i1, i2, nodeOf_w, nodeOf_h]
    rcases hk with rfl | rfl
    · have i5 : t.box.h = b.h := h3
      have i6 : t.box.w ≤ b.w := i4
      simp [i3, i5, i6]
    · have i5 : t.box.w = b.w := h3
      have i6 : t.box.h ≤ b.h := i4
      simp [i3, i5, i6]
end

mutual
theorem ok_tree : ∀ (n : Node), n.ok = true → n.w ≤ 1000 → n.h ≤ 1000 → ∃ t, n = nodeOf t ∧ t.sound = true ∧ t.kinds ∧ t.box = ⟨0, 0, n.w, n.h⟩
  | .mk k w h i ks, ho, hw, hh => by
    unfold Node.ok at ho
    simp only [Bool.and_eq_true, decide_eq_true_eq] at ho
    obtain ⟨⟨⟨h1, h2⟩, h3, h4⟩, h5⟩ := ho
    change w ≤ 1000 at hw
    change h ≤ 1000 at hh
    have sw := side_mk h1 hw
    have sh := side_mk h2 hh
    by_cases hk : k = 1
    · rw [if_pos hk] at h5
      simp only [Bool.and_eq_true, decide_eq_true_eq] at h5
      have : ks = [] := List.length_eq_zero_iff.1 h5.1
      subst this hk
      refine ⟨.leaf ⟨0, 0, w, h⟩ i, rfl, ?_, trivial, rfl⟩
      unfold Tree.sound
      simp [sw, sh, h5.2]
    · rw [if_neg hk] at h5
      simp only [Bool.and_eq_true, decide_eq_true_eq] at h5
      obtain ⟨⟨h6, h7⟩, h8, h9⟩ := h5
      have hk2 : k = 2 ∨ k = 3 := by omega
      obtain ⟨ts, e1, e2, e3⟩ := oks_trees ks k w h hk2 hw hh h8
      subst e1 h7
      rw [nodesOf_length] at h6
      rw [extN_told] at h9
      refine ⟨.split ⟨0, 0, w, h⟩ k ts, rfl, ?_, ⟨hk2, e3⟩, rfl⟩
      unfold Tree.sound
      rw [e2, sw, sh, h9]
      have he : (⟨0, 0, w, h⟩ : Box).ext k = if k = 2 then w else h := rfl
      rw [he]
      simp [h6]
theorem oks_trees : ∀ (ks : List Node) (k w h : Int), (k = 2 ∨ k = 3) → w ≤ 1000 → h ≤ 1000 → oksAll ks k w h = true → ∃ ts, ks = nodesOf ts ∧ soundAll ts ⟨0, 0, w, h⟩ k = true ∧ kindsAll ts
  | [], k, w, h, hk, hw, hh, ho => ⟨[], rfl, rfl, trivial⟩
  | n :: r, k, w, h, hk, hw, hh, ho => by
    unfold oksAll at ho
    simp only [Bool.and_eq_true, decide_eq_true_eq, Bool.not_eq_true', decide_eq_false_iff_not] at ho
    obtain ⟨⟨⟨h1, h2, h3⟩, h4, h5⟩, h6⟩ := ho
    obtain ⟨t, e1, e2, e3, e4⟩ := ok_tree n h4 (by omega) (by omega)
    obtain ⟨ts, f1, f2, f3⟩ := oks_trees r k w h hk hw hh h6
    refine ⟨t :: ts, by rw [e1, f1]; rfl, ?_, ⟨e3, f3⟩⟩
    unfold soundAll
    have hki : t.kindIs k = false := by
      cases t with
      | leaf b p => rfl
      | split b j us =>
        subst e1
        exact decide_eq_false h1
    have hac : t.box.ext (acrossK k) = (⟨0, 0, w, h⟩ : Box).ext (acrossK k) := by
      rw [e4]
      rcases hk with rfl | rfl
      · rw [if_pos rfl] at h5
        exact of_decide_eq_true h5
      · rw [if_neg (by decide)] at h5
        exact of_decide_eq_true h5
    rw [e2, hki, hac, f2]
    simp
end

mutual
def layN : Node → Int → Int → Int → List CellV
  | .mk k w h i ks, d, x, y => ⟨d, k, x, y, w, h, i⟩ :: layAllN ks k (d + 1) x y
def layAllN : List Node → Int → Int → Int → Int → List CellV
  | [], _, _, _, _ => []
  | n :: r, k, d, x, y => layN n d x y ++ (if k = 2 then layAllN r k d (x + (n.ext k + 1)) y else layAllN r k d x (y + (n.ext k + 1)))
end
mutual
theorem lay_told : ∀ (t : Tree) (d x y : Int), layN (nodeOf t) d x y = (t.moved x y).tell d
  | .leaf b p, d, x, y => rfl
  | .split b k ts, d, x, y => by
    show (⟨d, k, x, y, b.w, b.h, 0⟩ : CellV) :: layAllN (nodesOf ts) k (d + 1) x y = ⟨d, k, x, y, b.w, b.h, 0⟩ :: tellAll (movedAll ts k x y) (d + 1)
    rw [layAll_told ts k (d + 1) x y]
theorem layAll_told : ∀ (ts : List Tree) (k d x y : Int), layAllN (nodesOf ts) k d x y = tellAll (movedAll ts k x y) d
  | [], k, d, x, y => rfl
  | t :: ts, k, d, x, y => by
    show layN (nodeOf t) d x y ++ (if k = 2 then layAllN (nodesOf ts) k d (x + ((nodeOf t).ext k + 1)) y else layAllN (nodesOf ts) k d x (y + ((nodeOf t).ext k + 1))) = (t.moved x y).tell d ++ tellAll (if k = 2 then movedAll ts k (x + (t.box.ext k + 1)) y else movedAll ts k x (y + (t.box.ext k + 1))) d
    rw [lay_told t d x y, nodeOf_ext]
    by_cases hk : k = 2
    · rw [if_pos hk, if_pos hk, layAll_told ts]
    · rw [if_neg hk, if_neg hk, layAll_told ts]
end
mutual
theorem moved_moved : ∀ (t : Tree) (x y a b : Int), (t.moved a b).moved x y = t.moved x y
  | .leaf b p, x, y, _, _ => rfl
  | .split b k ts, x, y, a, c => by
    show Tree.split { b with x := x, y := y } k (movedAll (movedAll ts k a c) k x y) = .split { b with x := x, y := y } k (movedAll ts k x y)
    rw [movedAll_moved ts]
theorem movedAll_moved : ∀ (ts : List Tree) (k x y a c : Int), movedAll (movedAll ts k a c) k x y = movedAll ts k x y
  | [], k, x, y, a, c => rfl
  | t :: ts, k, x, y, a, c => by
    show movedAll (t.moved a c :: (if k = 2 then movedAll ts k (a + (t.box.ext k + 1)) c else movedAll ts k a (c + (t.box.ext k + 1)))) k x y = t.moved x y :: (if k = 2 then movedAll ts k (x + (t.box.ext k + 1)) y else movedAll ts k x (y + (t.box.ext k + 1)))
    by_cases hk : k = 2
    · rw [if_pos hk, if_pos hk]
      show (t.moved a c).moved x y :: (if k = 2 then movedAll _ k (x + ((t.moved a c).box.ext k + 1)) y else _) = _
      rw [if_pos hk, moved_moved t, Tree.ext_moved, movedAll_moved ts]
    · rw [if_neg hk, if_neg hk]
      show (t.moved a c).moved x y :: (if k = 2 then _ else movedAll _ k x (y + ((t.moved a c).box.ext k + 1))) = _
      rw [if_neg hk, moved_moved t, Tree.ext_moved, movedAll_moved ts]
end
mutual
theorem kinds_moved : ∀ (t : Tree) (x y : Int), t.kinds → (t.moved x y).kinds
  | .leaf b p, x, y, h => trivial
  | .split b k ts, x, y, h => ⟨h.1, kindsAll_moved ts k x y h.2⟩
theorem kindsAll_moved : ∀ (ts : List Tree) (k x y : Int), kindsAll ts → kindsAll (movedAll ts k x y)
  | [], k, x, y, h => trivial
  | t :: ts, k, x, y, h => by
    refine ⟨kinds_moved t x y h.1, ?_⟩
    split
    · exact kindsAll_moved ts k _ _ h.2
    · exact kindsAll_moved ts k _ _ h.2
end
mutual
theorem node_moved : ∀ (t : Tree) (x y : Int), nodeOf (t.moved x y) = nodeOf t
  | .leaf b p, x, y => rfl
  | .split b k ts, x, y => by
    show Node.mk k b.w b.h 0 (nodesOf (movedAll ts k x y)) = .mk k b.w b.h 0 (nodesOf ts)
    rw [nodes_moved ts]
theorem nodes_moved : ∀ (ts : List Tree) (k x y : Int), nodesOf (movedAll ts k x y) = nodesOf ts
  | [], k, x, y => rfl
  | t :: ts, k, x, y => by
    show nodeOf (t.moved x y) :: nodesOf (if k = 2 then movedAll ts k (x + (t.box.ext k + 1)) y else movedAll ts k x (y + (t.box.ext k + 1))) = nodeOf t :: nodesOf ts
    rw [node_moved t]
    split
    · rw [nodes_moved ts]
    · rw [nodes_moved ts]
end
theorem box_moved (t : Tree) (x y : Int) : (t.moved x y).box = { t.box with x := x, y := y } := by cases t <;> rfl

theorem kindIs_moved (t : Tree) (x y k : Int) : (t.moved x y).kindIs k = t.kindIs k := by cases t <;> rfl
theorem movedAll_length : ∀ (ts : List Tree) (k x y : Int), (movedAll ts k x y).length = ts.length
  | [], k, x, y => rfl
  | t :: ts, k, x, y => by
    show (if k = 2 then movedAll ts k (x + (t.box.ext k + 1)) y else movedAll ts k x (y + (t.box.ext k + 1))).length + 1 = ts.length + 1
    split
    · rw [movedAll_length ts]
    · rw [movedAll_length ts]
theorem extAll_moved : ∀ (ts : List Tree) (k x y : Int), extAll (movedAll ts k x y) k = extAll ts k
  | [], k, x, y => rfl
  | t :: ts, k, x, y => by
    show (t.moved x y).box.ext k + 1 + extAll (if k = 2 then movedAll ts k (x + (t.box.ext k + 1)) y else movedAll ts k x (y + (t.box.ext k + 1))) k = t.box.ext k + 1 + extAll ts k
    rw [Tree.ext_moved]
    split
    · rw [extAll_moved ts]
    · rw [extAll_moved ts]
mutual
/-- Sound is said of the sizes alone. -/
theorem sound_movedE : ∀ (t : Tree) (x y : Int), (t.moved x y).sound = t.sound
  | .leaf b p, x, y => rfl
  | .split b k ts, x, y => by
    show ((decide (2 ≤ (movedAll ts k x y).length) && (sideB b.w && sideB b.h)) && (soundAll (movedAll ts k x y) { b with x := x, y := y } k && decide (extAll (movedAll ts k x y) k = b.ext k))) = ((decide (2 ≤ ts.length) && (sideB b.w && sideB b.h)) && (soundAll ts b k && decide (extAll ts k = b.ext k)))
    rw [movedAll_length, extAll_moved, soundAll_moved ts k x y b { b with x := x, y := y } fun _ => rfl]
theorem soundAll_moved : ∀ (ts : List Tree) (k x y : Int) (b b' : Box), (∀ d, b'.ext d = b.ext d) → soundAll (movedAll ts k x y) b' k = soundAll ts b k
  | [], k, x, y, b, b', h => rfl
  | t :: ts, k, x, y, b, b', h => by
    show (((t.moved x y).sound && (!(t.moved x y).kindIs k && decide ((t.moved x y).box.ext (acrossK k) = b'.ext (acrossK k)))) && soundAll (if k = 2 then movedAll ts k (x + (t.box.ext k + 1)) y else movedAll ts k x (y + (t.box.ext k + 1))) b' k) = ((t.sound && (!t.kindIs k && decide (t.box.ext (acrossK k) = b.ext (acrossK k)))) && soundAll ts b k)
    rw [sound_movedE t, kindIs_moved, Tree.ext_moved, h]
    split
    · rw [soundAll_moved ts k _ _ b b' h]
    · rw [soundAll_moved ts k _ _ b b' h]
end
theorem sound_moved (t : Tree) (x y : Int) (hk : t.kinds) (h : t.sound = true) : (t.moved x y).sound = true := (sound_movedE t x y).trans h

theorem takes_kinds : ∀ (m : Nat) (l : List CellV) (d : Int), l.length ≤ m → (∀ t r, takeF l d = some (t, r) → t.kinds) ∧ kindsAll (takeAllF l d).1 := by
  intro m
  induction m with
  | zero =>
    intro l d hm
    have : l = [] := List.length_eq_zero_iff.1 (by omega)
    subst this
    refine ⟨fun t r h => ?_, ?_⟩
    · rw [takeF_nil] at h; cases h
    · rw [takeAllF_eq, takeF_nil]
      trivial
  | succ m ih =>
    intro l d hm
    have one : ∀ t r, takeF l d = some (t, r) → t.kinds := by
      intro t r h
      cases l with
      | nil => rw [takeF_nil] at h; cases h
      | cons c l =>
        rw [List.length_cons] at hm
        obtain ⟨_, k1⟩ := ih l (d + 1) (by omega)
        rw [takeF_cons] at h
        split at h
        · split at h
          · cases h
            trivial
          · split at h
            · rename_i h23
              cases h
              exact ⟨h23, k1⟩
            · cases h
        · cases h
    refine ⟨one, ?_⟩
    rw [takeAllF_eq]
    cases h : takeF l d with
    | none => trivial
    | some p =>
      obtain ⟨t, r⟩ := p
      have hr := takeF_shorter l d t r h
      exact ⟨one t r h, (ih r d (by omega)).2⟩

/-- What a layout is. -/
structure IsLay (l : List CellV) (t : Tree) : Prop where
  kinds : t.kinds
  sound : t.sound = true
  moved : t.moved 0 0 = t
  tell : t.tell 0 = l
  few : fewB (idsOf l) = true

theorem readF_lay {l : List CellV} {t : Tree} (h : readF l = some t) : IsLay l t := by
  unfold readF at h
  split at h
  · cases h
  · split at h
    · cases h
    · rename_i t' r ht
      split at h
      · rename_i hc
        cases h
        have hk := (takes_kinds l.length l 0 (Nat.le_refl _)).1 t' r ht
        exact ⟨kinds_moved t' 0 0 hk, sound_moved t' 0 0 hk hc.1, moved_moved t' 0 0 0 0, hc.2.1, hc.2.2⟩
      · cases h
theorem few_len {zs : List Int} (h : fewB zs = true) : zs.length ≤ 32 ∧ zs.Nodup := by
  unfold fewB at h
  simpa using h
theorem IsLay.size {l : List CellV} {t : Tree} (h : IsLay l t) : l.length ≤ 63 := by
  have h1 := size_ids t h.kinds h.sound
  rw [ids_told t 0 h.kinds, h.tell] at h1
  have h2 := (few_len h.few).1
  have h3 := Tree.tell_length t 0
  rw [h.tell] at h3
  omega
theorem lay_readF {l : List CellV} {t : Tree} (h : IsLay l t) : readF l = some t := by
  have ht : takeF l 0 = some (t, []) := by
    have := take_told t 0 [] h.kinds (.inl rfl)
    rwa [List.append_nil, h.tell] at this
  rw [readF_some (by have := h.size; omega) ht, if_pos ⟨h.sound, by rw [h.moved, h.tell], h.few⟩, h.moved]
theorem IsLay.grow {l : List CellV} {t : Tree} (h : IsLay l t) {c : CellV} {r : List CellV} (hl : l = c :: r) : growT 200 c r = (nodeOf t, []) := by
  have h3 := Tree.tell_length t 0
  rw [h.tell] at h3
  have h4 := h.size
  exact grow_told t 0 200 [] c r (by omega) (.inl rfl) (by rw [List.append_nil, h.tell, hl])
theorem IsLay.steps {l : List CellV} {t : Tree} (h : IsLay l t) {c : CellV} {r : List CellV} (hl : l = c :: r) : c.depth = 0 ∧ c.w ≤ 1000 ∧ c.h ≤ 1000 ∧ stepsOk 0 r = true := by
  have hs := t.sound_sides h.sound
  have ht := h.tell
  cases t with
  | leaf b p =>
    rw [hl] at ht
    cases ht
    exact ⟨rfl, hs.1.2, hs.2.2, rfl⟩
  | split b k ts =>
    rw [hl] at ht
    cases ht
    refine ⟨rfl, hs.1.2, hs.2.2, ?_⟩
    have := steps_tellAll ts 1 0 [] (by omega) (by omega) (fun q _ => rfl)
    rwa [List.append_nil] at this

end Go.Proofs.YtglncninkocgaabGreatDoor

namespace Go.Proofs.YtglncninkocgaabGreatDoor
open Go.RowKit
set_option linter.unusedVariables false
set_option maxRecDepth 100000

/-- The cells of a node. -/
def nodeL (n : Node) (sl : Value) : List Value := [.int .i64 n.k, .int .i64 n.w, .int .i64 n.h, .int .i64 n.i, sl]
def nodeV (n : Node) (sl : Value) : Array Value := #[.int .i64 n.k, .int .i64 n.w, .int .i64 n.h, .int .i64 n.i, sl]
theorem nodeL_get (n : Node) (sl : Value) (j : Nat) : (nodeL n sl)[j]? = (nodeV n sl)[j]? := by unfold nodeL nodeV; simp
def IsSl (v : Value) : Prop := ∃ a n c, v = .slice a n c
mutual
/-- A node lies in memory: the list of its children, the blocks. -/
def Node.In (W : World) : Node → Value → List Nat → Prop
  | .mk _ _ _ _ ks, sl, fp => ∃ cs fs, W.ownsRow 0 56 5 sl ks.length cs ∧ nodesIn W ks cs fs ∧ fp = sl.ownBlock.toList ++ fs
def nodesIn (W : World) : List Node → List Value → List Nat → Prop
  | [], cs, fp => cs = [] ∧ fp = []
  | n :: r, cs, fp => ∃ sl cs' f f', cs = nodeL n sl ++ cs' ∧ n.In W sl f ∧ nodesIn W r cs' f' ∧ fp = f ++ f'
end

theorem own_kept5 {W W' : World} {B s : Nat} {t : TypeId} {sl : Value} {n : Nat} {vs : List Value} (h : W.ownsRow B t s sl n vs) (hk : ∀ g ∈ sl.ownBlock.toList, W'.heap[g]? = W.heap[g]?) : W'.ownsRow B t s sl n vs := by
  refine ⟨h.1, ?_⟩
  rcases h.2 with h0 | ⟨g, cap, cur, rfl, hb, hg, r⟩
  · exact .inl h0
  · exact .inr ⟨g, cap, cur, rfl, hb, (hk g (by simp [Value.ownBlock])).trans hg, r⟩
theorem own_lt5 {W : World} {B s : Nat} {t : TypeId} {sl : Value} {n : Nat} {vs : List Value} (h : W.ownsRow B t s sl n vs) : ∀ g ∈ sl.ownBlock.toList, g < W.heap.size := fun g hg => (World.ownsRow.lt h g (by simpa using hg)).2
theorem own_sl5 {W : World} {B s : Nat} {t : TypeId} {sl : Value} {n : Nat} {vs : List Value} (h : W.ownsRow B t s sl n vs) : ∃ a c, sl = .slice a n c := by
  rcases h.2 with ⟨h0, h1⟩ | ⟨g, cap, cur, rfl, _⟩
  · exact ⟨none, 0, by rw [h0, h1]⟩
  · exact ⟨_, _, rfl⟩
mutual
theorem Node.In.keep {W W' : World} : ∀ {n : Node} {sl : Value} {fp : List Nat}, n.In W sl fp → (∀ g ∈ fp, W'.heap[g]? = W.heap[g]?) → n.In W' sl fp
  | .mk _ _ _ _ ks, sl, fp, h, hk => by
    obtain ⟨cs, fs, h1, h2, rfl⟩ := h
    exact ⟨cs, fs, own_kept5 h1 (fun q hq => hk q (List.mem_append_left _ hq)), nodesIn.keep h2 (fun q hq => hk q (List.mem_append_right _ hq)), rfl⟩
theorem nodesIn.keep {W W' : World} : ∀ {ns : List Node} {cs : List Value} {fp : List Nat}, nodesIn W ns cs fp → (∀ g ∈ fp, W'.heap[g]? = W.heap[g]?) → nodesIn W' ns cs fp
  | [], cs, fp, h, hk => h
  | n :: r, cs, fp, h, hk => by
    obtain ⟨sl, cs', f, f', h1, h2, h3, rfl⟩ := h
    exact ⟨sl, cs', f, f', h1, Node.In.keep h2 (fun q hq => hk q (List.mem_append_left _ hq)), nodesIn.keep h3 (fun q hq => hk q (List.mem_append_right _ hq)), rfl⟩
end
mutual
theorem Node.In.lt {W : World} : ∀ {n : Node} {sl : Value} {fp : List Nat}, n.In W sl fp → ∀ g ∈ fp, g < W.heap.size
  | .mk _ _ _ _ ks, sl, fp, h => by
    obtain ⟨cs, fs, h1, h2, rfl⟩ := h
    intro g hg
    rcases List.mem_append.1 hg with hg | hg
    · exact own_lt5 h1 g hg
    · exact nodesIn.lt h2 g hg
theorem nodesIn.lt {W : World} : ∀ {ns : List Node} {cs : List Value} {fp : List Nat}, nodesIn W ns cs fp → ∀ g ∈ fp, g < W.heap.size
  | [], cs, fp, h => by
    obtain ⟨_, rfl⟩ := h
    intro g hg
    cases hg
  | n :: r, cs, fp, h => by
    obtain ⟨sl, cs', f, f', h1, h2, h3, rfl⟩ := h
    intro g hg
    rcases List.mem_append.1 hg with hg | hg
    · exact Node.In.lt h2 g hg
    · exact nodesIn.lt h3 g hg
end
theorem Node.In.below {W W' : World} {n : Node} {sl : Value} {fp : List Nat} (h : n.In W sl fp) (hb : Below W.heap.size W W') : n.In W' sl fp := h.keep fun g hg => hb.block g (h.lt g hg)
theorem nodesIn.below {W W' : World} {ns : List Node} {cs : List Value} {fp : List Nat} (h : nodesIn W ns cs fp) (hb : Below W.heap.size W W') : nodesIn W' ns cs fp := h.keep fun g hg => hb.block g (h.lt g hg)
theorem Node.In.sl {W : World} {n : Node} {sl : Value} {fp : List Nat} (h : n.In W sl fp) : ∃ a c, sl = .slice a n.ks.length c := by
  cases n with
  | mk k w h' i ks =>
    obtain ⟨cs, fs, h1, _⟩ := h
    exact own_sl5 h1
theorem nodesIn.length {W : World} : ∀ {ns : List Node} {cs : List Value} {fp : List Nat}, nodesIn W ns cs fp → cs.length = ns.length * 5
  | [], cs, fp, h => by rw [h.1]; rfl
  | n :: r, cs, fp, h => by
    obtain ⟨sl, cs', f, f', rfl, h2, h3, rfl⟩ := h
    rw [List.length_append, nodesIn.length h3, List.length_cons]
    show 5 + _ = _
    omega
theorem nodesIn.get {W : World} : ∀ {ns : List Node} {cs : List Value} {fp : List Nat}, nodesIn W ns cs fp → ∀ (i : Nat) (n : Node), ns[i]? = some n → ∃ sl f, n.In W sl f ∧ (∀ q ∈ f, q ∈ fp) ∧ ∀ j, j < 5 → cs[i * 5 + j]? = (nodeL n sl)[j]?
  | [], cs, fp, h, i, n, hi => by cases hi
  | a :: r, cs, fp, h, 0, n, hi => by
    obtain ⟨sl, cs', f, f', rfl, h2, h3, rfl⟩ := h
    cases hi
    refine ⟨sl, f, h2, fun q hq => List.mem_append_left _ hq, fun j hj => ?_⟩
    rw [Nat.zero_mul, Nat.zero_add, List.getElem?_append_left (by show j < 5; exact hj)]
  | a :: r, cs, fp, h, i + 1, n, hi => by
    obtain ⟨sl, cs', f, f', rfl, h2, h3, rfl⟩ := h
    obtain ⟨sl1, f1, e1, e2, e3⟩ := nodesIn.get h3 i n hi
    refine ⟨sl1, f1, e1, fun q hq => List.mem_append_right _ (e2 q hq), fun j hj => ?_⟩
    rw [← e3 j hj, List.getElem?_append_right (by show 5 ≤ (i + 1) * 5 + j; omega)]
    show cs'[(i + 1) * 5 + j - 5]? = _
    rw [show (i + 1) * 5 + j - 5 = i * 5 + j by omega]
theorem nodesIn.snoc {W : World} {n : Node} {sl : Value} {f : List Nat} (h2 : n.In W sl f) : ∀ {ns : List Node} {cs : List Value} {fs : List Nat}, nodesIn W ns cs fs → nodesIn W (ns ++ [n]) (cs ++ nodeL n sl) (fs ++ f)
  | [], cs, fs, h => by
    obtain ⟨rfl, rfl⟩ := h
    exact ⟨sl, [], f, [], by simp, h2, ⟨rfl, rfl⟩, by simp⟩
  | a :: ns, cs, fs, h => by
    obtain ⟨sl1, cs', f1, f', rfl, h3, h4, rfl⟩ := h
    exact ⟨sl1, cs' ++ nodeL n sl, f1, f' ++ f, by simp, h3, nodesIn.snoc h2 h4, by simp⟩

/-- Where the children of a node lie. -/
structure KidIn (W : World) (b off : Nat) (n : Node) (sl : Value) : Prop where
  q0 : W.cell? ⟨b, off, none⟩ = some (.int .i64 n.k)
  q1 : W.cell? ⟨b, off + 1, none⟩ = some (.int .i64 n.w)
  q2 : W.cell? ⟨b, off + 2, none⟩ = some (.int .i64 n.h)
  q3 : W.cell? ⟨b, off + 3, none⟩ = some (.int .i64 n.i)
  q4 : W.cell? ⟨b, off + 4, none⟩ = some sl
theorem Node.In.kids {W : World} {k w h i : Int} {ks : List Node} {sl : Value} {fp : List Nat} (hn : (Node.mk k w h i ks).In W sl fp) (hne : ks ≠ []) : ∃ g cap, sl = .slice (some ⟨g, 0, none⟩) ks.length cap ∧ g < W.heap.size ∧ ∀ (j : Nat) (n : Node), ks[j]? = some n → ∃ sl' f, n.In W sl' f ∧ KidIn W g (j * 5) n sl' := by
  obtain ⟨cs, fs, h1, h2, rfl⟩ := hn
  rcases h1.2 with ⟨h0, h3⟩ | ⟨g, cap, cur, rfl, _, hg, _, _, h5, h6⟩
  · exact absurd (List.length_eq_zero_iff.1 h3) hne
  · refine ⟨g, cap, rfl, lt_of_block hg, fun j n hj => ?_⟩
    obtain ⟨sl', f, e1, e2, e3⟩ := h2.get j n hj
    have hlt : j < ks.length := (List.getElem?_eq_some_iff.1 hj).1
    have hc : ∀ o, o < 5 → W.cell? ⟨g, j * 5 + o, none⟩ = (nodeL n sl')[o]? := by
      intro o ho
      rw [cell_atL hg, ← e3 o ho, ← h6, List.getElem?_take_of_lt (by omega)]
      simp
    exact ⟨sl', f, e1, hc 0 (by omega), hc 1 (by omega), hc 2 (by omega), hc 3 (by omega), hc 4 (by omega)⟩

theorem infoNode : (Tryz.prog.info? 56).map (fun i => (i.zero, i.size, i.bytes)) = some (some (.agg #[.int .i64 0, .int .i64 0, .int .i64 0, .int .i64 0, .slice none 0 0]), 5, 56) := by kernel_rfl
theorem wpList_append_node {ops : Array Oper} {rest : List Oper} {o : Oper} {a : Act} {Q : Exit → Act → World → Prop} (w : World) (hgd : o.guard = none) (s x : Operand)
    (ho : o.op = .call { callee := .builtin .append, args := #[s, x], argTypes := #[54, 54] })
    (v : Value) (m : Nat) (cs : List Value) (n : Node) (sa : Option Addr) (sn sc : Nat) (hs : a.eval s = v) (hown : w.ownsRow 0 56 5 v m cs) (hx : a.eval x = .slice (some ⟨w.heap.size, 0, none⟩) 1 1) (hlen : m ≤ 1000000)
    (h : ∀ v' w', w'.ownsRow 0 56 5 v' (m + 1) (cs ++ nodeL n (.slice sa sn sc)) → (w.alloc (.cells (nodeV n (.slice sa sn sc)) 56)).grownBy w' v.ownBlock → (v'.ownBlock = v.ownBlock ∨ v'.ownBlock = some (w.alloc (.cells (nodeV n (.slice sa sn sc)) 56)).heap.size) → wpList Tryz.prog ops Q rest (a.put o.dst v') w') : wpList Tryz.prog ops Q (o :: rest) a (w.alloc (.cells (nodeV n (.slice sa sn sc)) 56)) := by
  obtain ⟨i0, hi, hz0, hz1, hz2⟩ := info_partsL infoNode
  refine wpList_append_own_at _ hgd s x 54 ho 0 56 i0 _ 5 56 Tryz.underlying54 hi hz0 hz1 hz2 rfl (by decide) v m cs hs (World.ownsRow.alloc hown _) ⟨w.heap.size, 0, none⟩ 1 1 (nodeL n (.slice sa sn sc)) hx rfl ?_ ?_ ?_ ?_ (Nat.zero_le _) ?_
  · intro j u hu
    rw [show (⟨w.heap.size, 0, none⟩ : Addr).add j = ⟨w.heap.size, j, none⟩ by unfold Addr.add; split <;> simp_all, cell_newL, ← nodeL_get]
    exact hu
  · intro u hu
    have hu' : u ∈ [Value.int .i64 n.k, .int .i64 n.w, .int .i64 n.h, .int .i64 n.i, .slice sa sn sc] := hu
    simp only [List.mem_cons, List.not_mem_nil, or_false] at hu'
    rcases hu' with rfl | rfl | rfl | rfl | rfl <;> rfl
  · unfold maxLen; omega
  · omega
  · intro v' w' h2 h3 _ h5
    exact h v' w' h2 h3 h5

/-- What grows, without fuel. -/
theorem grows_shorter : ∀ (m : Nat), (∀ c r, (growT m c r).2.length ≤ r.length) ∧ (∀ d r, (growAllT m d r).2.length ≤ r.length)
  | 0 => ⟨fun c r => Nat.le_refl _, fun d r => Nat.le_refl _⟩
  | m + 1 => by
    obtain ⟨i1, i2⟩ := grows_shorter m
    refine ⟨fun c r => i2 c.depth r, fun d r => ?_⟩
    cases r with
    | nil => exact Nat.le_refl _
    | cons c r =>
      unfold growAllT
      simp only []
      split
      · have h1 := i1 c r
        have h2 := i2 d (growT m c r).2
        rw [List.length_cons]
        simp only []
        omega
      · exact Nat.le_refl _
theorem grows_fuel : ∀ (q : Nat), (∀ m m' c r, r.length < q → 2 * r.length + 1 ≤ m → 2 * r.length + 1 ≤ m' → growT m c r = growT m' c r) ∧ (∀ m m' d r, r.length < q → 2 * r.length ≤ m → 2 * r.length ≤ m' → growAllT m d r = growAllT m' d r)
  | 0 => ⟨fun _ _ _ _ h => by omega, fun _ _ _ _ h => by omega⟩
  | q + 1 => by
    obtain ⟨i1, i2⟩ := grows_fuel q
    have two : ∀ m m' d r, r.length < q + 1 → 2 * r.length ≤ m → 2 * r.length ≤ m' → growAllT m d r = growAllT m' d r := by
      intro m m' d r hr hm hm'
      cases r with
      | nil => cases m <;> cases m' <;> rfl
      | cons c r =>
        rw [List.length_cons] at hr hm hm'
        obtain ⟨k, rfl⟩ : ∃ k, m = k + 1 := ⟨m - 1, by omega⟩
        obtain ⟨k', rfl⟩ : ∃ k, m' = k + 1 := ⟨m' - 1, by omega⟩
        unfold growAllT
        simp only []
        have h1 := i1 k k' c r (by omega) (by omega) (by omega)
        have h2 := (grows_shorter k').1 c r
        rw [h1, i2 k k' d (growT k' c r).2 (by omega) (by omega) (by omega)]
    refine ⟨fun m m' c r hr hm hm' => ?_, two⟩
    obtain ⟨k, rfl⟩ : ∃ k, m = k + 1 := ⟨m - 1, by omega⟩
    obtain ⟨k', rfl⟩ : ∃ k, m' = k + 1 := ⟨m' - 1, by omega⟩
    unfold growT
    rw [two k k' c.depth r hr (by omega) (by omega)]
def growF (c : CellV) (r : List CellV) : Node × List CellV := growT (2 * r.length + 1) c r
def growAllF (d : Int) (r : List CellV) : List Node × List CellV := growAllT (2 * r.length) d r
theorem growF_eq (c : CellV) (r : List CellV) : growF c r = (.mk c.kind c.w c.h c.p (growAllF c.depth r).1, (growAllF c.depth r).2) := by
  unfold growF growAllF growT
  rfl
theorem growAllF_nil (d : Int) : growAllF d [] = ([], []) := rfl
theorem growF_shorter (c : CellV) (r : List CellV) : (growF c r).2.length ≤ r.length := (grows_shorter _).1 c r
theorem growAllF_cons (d : Int) (c : CellV) (r : List CellV) : growAllF d (c :: r) = if d < c.depth then ((growF c r).1 :: (growAllF d (growF c r).2).1, (growAllF d (growF c r).2).2) else ([], c :: r) := by
  have hs := growF_shorter c r
  unfold growF at hs ⊢
  unfold growAllF
  rw [show 2 * (c :: r).length = (2 * r.length + 1) + 1 by rw [List.length_cons]; omega]
  conv => lhs; unfold growAllT
  simp only []
  rw [(grows_fuel (r.length + 1)).2 (2 * r.length + 1) (2 * (growT (2 * r.length + 1) c r).2.length) d (growT (2 * r.length + 1) c r).2 (by omega) (by omega) (by omega)]
theorem IsLay.growF {l : List CellV} {t : Tree} (h : IsLay l t) {c : CellV} {r : List CellV} (hl : l = c :: r) : Go.Proofs.YtglncninkocgaabGreatDoor.growF c r = (nodeOf t, []) := by
  rw [← h.grow hl]
  have := h.size
  rw [hl, List.length_cons] at this
  exact (grows_fuel (r.length + 1)).1 _ 200 c r (by omega) (by omega) (by omega)

end Go.Proofs.YtglncninkocgaabGreatDoor
