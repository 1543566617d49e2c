/-
  Layouts, by plain functions: trees of boxes; their extents, rooms, places, lists; what a list lays down.
  Layouts: kinds and panes of a tree.
  Layouts, by plain functions: what a list begins with, without fuel.
  Lists of numbers: sorted and cut to one of each they are as long as before where none stands twice.
-/
import Derived.WalkKit
import Derived.Lib.SlicesCompact
import Derived.Lib.RowBridge
namespace Go.Proofs.Ytlaelkcmeaiajaa
open Go.RowKit
set_option linter.unusedVariables false

/-- Where a part lies. -/
structure Box where
  x : Int
  y : Int
  w : Int
  h : Int
/-- A cell of a list. -/
structure CellV where
  depth : Int
  kind : Int
  x : Int
  y : Int
  w : Int
  h : Int
  p : Int
  deriving DecidableEq
def CellV.vals (c : CellV) : Array Value := #[.int .i64 c.depth, .int .i64 c.kind, .int .i64 c.x, .int .i64 c.y, .int .i64 c.w, .int .i64 c.h, .int .i64 c.p]

/-- The extent in a direction: 2 stands for the width, any other for the height. -/
def Box.ext (b : Box) (k : Int) : Int := if k = 2 then b.w else b.h
def acrossK (k : Int) : Int := if k = 2 then 3 else 2
def sideB (n : Int) : Bool := decide (1 ≤ n) && decide (n ≤ 1000)
def idB (n : Int) : Bool := decide (1 ≤ n) && decide (n ≤ 4611686018427387904)

inductive Tree where
  | leaf (b : Box) (p : Int)
  | split (b : Box) (k : Int) (ts : List Tree)

def Tree.box : Tree → Box
  | .leaf b _ => b
  | .split b _ _ => b
def Tree.kindIs : Tree → Int → Bool
  | .leaf _ _, _ => false
  | .split _ k _, j => decide (k = j)

mutual
def Tree.size : Tree → Nat
  | .leaf _ _ => 1
  | .split _ _ ts => 1 + sizes ts
def sizes : List Tree → Nat
  | [] => 0
  | t :: ts => t.size + sizes ts
end

mutual
/-- How much a part can give. -/
def Tree.room : Tree → Int → Int
  | .leaf b _, j => b.ext j - 1
  | .split _ k ts, j => if j = k then roomAll ts j else roomLeast ts j
def roomAll : List Tree → Int → Int
  | [], _ => 0
  | t :: ts, j => t.room j + roomAll ts j
def roomLeast : List Tree → Int → Int
  | [], _ => 1000
  | t :: ts, j => min (t.room j) (roomLeast ts j)
end

mutual
/-- Every part at its place. -/
def Tree.moved : Tree → Int → Int → Tree
  | .leaf b p, x, y => .leaf { b with x := x, y := y } p
  | .split b k ts, x, y => .split { b with x := x, y := y } k (movedAll ts k x y)
def movedAll : List Tree → Int → Int → Int → List Tree
  | [], _, _, _ => []
  | t :: ts, k, x, y => t.moved x y :: (if k = 2 then movedAll ts k (x + (t.box.ext k + 1)) y else movedAll ts k x (y + (t.box.ext k + 1)))
end

mutual
/-- The tree as a list. -/
def Tree.tell : Tree → Int → List CellV
  | .leaf b p, d => [⟨d, 1, b.x, b.y, b.w, b.h, p⟩]
  | .split b k ts, d => ⟨d, k, b.x, b.y, b.w, b.h, 0⟩ :: tellAll ts (d + 1)
def tellAll : List Tree → Int → List CellV
  | [], _ => []
  | t :: ts, d => t.tell d ++ tellAll ts d
end

/-- The sum of the extents, with the borders between. -/
def extAll : List Tree → Int → Int
  | [], _ => -1
  | t :: ts, k => t.box.ext k + 1 + extAll ts k

mutual
def Tree.sound : Tree → Bool
  | .leaf b p => (sideB b.w && sideB b.h) && idB p
  | .split b k ts => (decide (2 ≤ ts.length) && (sideB b.w && sideB b.h)) && (soundAll ts b k && decide (extAll ts k = b.ext k))
def soundAll : List Tree → Box → Int → Bool
  | [], _, _ => true
  | t :: ts, b, k => (t.sound && (!t.kindIs k && decide (t.box.ext (acrossK k) = b.ext (acrossK k)))) && soundAll ts b k
end

/-- What a list begins with, if it stands so deep: as many steps as there are cells are enough. -/
def CellV.box (c : CellV) : Box := ⟨c.x, c.y, c.w, c.h⟩
mutual
def takeT : Nat → List CellV → Int → Option (Tree × List CellV)
  | 0, _, _ => none
  | _, [], _ => none
  | n + 1, c :: l, d =>
    if c.depth = d then
      if c.kind = 1 then some (.leaf c.box c.p, l)
      else if c.kind = 2 ∨ c.kind = 3 then some (.split c.box c.kind (takeAllT n l (d + 1)).1, (takeAllT n l (d + 1)).2)
      else none
    else none
def takeAllT : Nat → List CellV → Int → List Tree × List CellV
  | 0, l, _ => ([], l)
  | n + 1, l, d => match takeT n l d with
    | none => ([], l)
    | some (t, r) => (t :: (takeAllT n r d).1, (takeAllT n r d).2)
end

theorem Tree.ext_moved (t : Tree) (x y k : Int) : (t.moved x y).box.ext k = t.box.ext k := by cases t <;> rfl

end Go.Proofs.Ytlaelkcmeaiajaa

namespace Go.Proofs.Ytlaelkcmeaiajaa
open Go.RowKit
set_option linter.unusedVariables false

mutual
def Tree.kinds : Tree → Prop
  | .leaf _ _ => True
  | .split _ k ts => (k = 2 ∨ k = 3) ∧ kindsAll ts
def kindsAll : List Tree → Prop
  | [] => True
  | t :: ts => t.kinds ∧ kindsAll ts
end
mutual
/-- The ids of a tree's panes. -/
def Tree.idl : Tree → List Int
  | .leaf _ p => [p]
  | .split _ _ ts => idls ts
def idls : List Tree → List Int
  | [] => []
  | t :: ts => t.idl ++ idls ts
end

end Go.Proofs.Ytlaelkcmeaiajaa

namespace Go.Proofs.Ytlaelkcmeaiajaa
open Go.RowKit
set_option linter.unusedVariables false

theorem takes_shorter : ∀ (n : Nat), (∀ l d t r, takeT n l d = some (t, r) → r.length < l.length) ∧ (∀ l d, (takeAllT n l d).2.length ≤ l.length)
  | 0 => by
    refine ⟨fun l d t r h => ?_, fun l d => ?_⟩
    · unfold takeT at h; cases h
    · unfold takeAllT; exact Nat.le_refl _
  | n + 1 => by
    obtain ⟨ih1, ih2⟩ := takes_shorter n
    refine ⟨fun l d t r h => ?_, fun l d => ?_⟩
    · cases l with
      | nil => unfold takeT at h; cases h
      | cons c l =>
        unfold takeT at h
        split at h
        · split at h
          · cases h; exact Nat.lt_succ_self _
          · split at h
            · cases h
              exact Nat.lt_succ_of_le (ih2 l (d + 1))
            · cases h
        · cases h
    · unfold takeAllT
      split
      · exact Nat.le_refl _
      · rename_i t r h
        exact Nat.le_trans (ih2 r d) (Nat.le_of_lt (ih1 l d t r h))

theorem takes_fuel : ∀ (m : Nat), (∀ n n' l d, l.length < m → 2 * l.length + 1 ≤ n → 2 * l.length + 1 ≤ n' → takeT n l d = takeT n' l d) ∧ (∀ n n' l d, l.length < m → 2 * l.length + 2 ≤ n → 2 * l.length + 2 ≤ n' → takeAllT n l d = takeAllT n' l d)
  | 0 => ⟨fun _ _ _ _ h => by omega, fun _ _ _ _ h => by omega⟩
  | m + 1 => by
    obtain ⟨ih1, ih2⟩ := takes_fuel m
    have one : ∀ n n' l d, l.length < m + 1 → 2 * l.length + 1 ≤ n → 2 * l.length + 1 ≤ n' → takeT n l d = takeT n' l d := by
      intro n n' l d hl hn hn'
      obtain ⟨k, rfl⟩ : ∃ k, n = k + 1 := ⟨n - 1, by omega⟩
      obtain ⟨k', rfl⟩ : ∃ k', n' = k' + 1 := ⟨n' - 1, by omega⟩
      cases l with
      | nil => unfold takeT; rfl
      | cons c l =>
        rw [List.length_cons] at hl hn hn'
        have := ih2 k k' l (d + 1) (by omega) (by omega) (by omega)
        unfold takeT
        rw [this]
    refine ⟨one, fun n n' l d hl hn hn' => ?_⟩
    obtain ⟨k, rfl⟩ : ∃ k, n = k + 1 := ⟨n - 1, by omega⟩
    obtain ⟨k', rfl⟩ : ∃ k', n' = k' + 1 := ⟨n' - 1, by omega⟩
    have h1 := one k k' l d hl (by omega) (by omega)
    unfold takeAllT
    rw [h1]
    cases h : takeT k' l d with
    | none => rfl
    | some p =>
      obtain ⟨t, r⟩ := p
      have hr := (takes_shorter k').1 l d t r h
      have h2 := ih2 k k' r d (by omega) (by omega) (by omega)
      show (t :: (takeAllT k r d).1, (takeAllT k r d).2) = _
      rw [h2]

/-- What a list begins with, if it stands so deep. -/
def takeF (l : List CellV) (d : Int) : Option (Tree × List CellV) := takeT (2 * l.length + 1) l d
def takeAllF (l : List CellV) (d : Int) : List Tree × List CellV := takeAllT (2 * l.length + 2) l d
theorem takeF_nil (d : Int) : takeF [] d = none := by unfold takeF takeT; rfl
theorem takeF_cons (c : CellV) (l : List CellV) (d : Int) : takeF (c :: l) d =
    if c.depth = d then
      if c.kind = 1 then some (.leaf c.box c.p, l)
      else if c.kind = 2 ∨ c.kind = 3 then some (.split c.box c.kind (takeAllF l (d + 1)).1, (takeAllF l (d + 1)).2)
      else none
    else none := by
  unfold takeF takeAllF
  rw [show 2 * (c :: l).length + 1 = (2 * l.length + 2) + 1 by simp; omega]
  conv => lhs; unfold takeT
theorem takeAllF_eq (l : List CellV) (d : Int) : takeAllF l d = match takeF l d with
    | none => ([], l)
    | some (t, r) => (t :: (takeAllF r d).1, (takeAllF r d).2) := by
  unfold takeF
  conv => lhs; unfold takeAllF takeAllT
  cases h : takeT (2 * l.length + 1) l d with
  | none => rfl
  | some p =>
    obtain ⟨t, r⟩ := p
    have hr := (takes_shorter _).1 l d t r h
    have h2 := (takes_fuel (r.length + 1)).2 (2 * l.length + 1) (2 * r.length + 2) r d (by omega) (by omega) (by omega)
    show (t :: (takeAllT (2 * l.length + 1) r d).1, (takeAllT (2 * l.length + 1) r d).2) = _
    rw [h2]
    rfl
theorem takeF_shorter (l : List CellV) (d : Int) (t : Tree) (r : List CellV) (h : takeF l d = some (t, r)) : r.length < l.length := (takes_shorter _).1 l d t r h

end Go.Proofs.Ytlaelkcmeaiajaa

namespace Go.Proofs.Ytlaelkcmeaiajaa
set_option linter.unusedVariables false

def sortI (zs : List Int) : List Int := zs.mergeSort fun x y => decide (x ≤ y)
theorem sortI_length (zs : List Int) : (sortI zs).length = zs.length := List.length_mergeSort zs
theorem sortI_perm (zs : List Int) : (sortI zs).Perm zs := List.mergeSort_perm zs _
theorem sortI_sorted (zs : List Int) : (sortI zs).Pairwise (· ≤ ·) := by
  have h := List.pairwise_mergeSort (le := fun x y : Int => decide (x ≤ y)) (fun a b c h1 h2 => by simp at *; omega) (fun a b => by simp; omega) zs
  exact h.imp fun h => by simpa using h

theorem keeps_all_of {zs : List Int} (h : (Go.Lib.compact zs).length = zs.length) : ∀ j, j < zs.length → Go.Lib.keeps zs.toArray j = true := by
  unfold Go.Lib.compact Go.Lib.compactUpTo at h
  rw [List.length_map] at h
  have h2 : ((List.range zs.length).filter (Go.Lib.keeps zs.toArray)).length = (List.range zs.length).length := by rw [h]; simp
  intro j hj
  exact List.length_filter_eq_length_iff.1 h2 j (List.mem_range.2 hj)
theorem keeps_of_lt {zs : List Int} (h : zs.Pairwise (· < ·)) : ∀ j, j < zs.length → Go.Lib.keeps zs.toArray j = true := by
  intro j hj
  cases j with
  | zero => exact Go.Lib.keeps_lt_one _ 0 (by omega)
  | succ j =>
    refine Go.Lib.keeps_pos ?_
    have := (List.pairwise_iff_getElem.1 h) j (j + 1) (by omega) hj (by omega)
    rw [getElem!_pos zs.toArray (j + 1) (by simpa using hj), Nat.add_sub_cancel, getElem!_pos zs.toArray j (by simp; omega)]
    simp only [List.getElem_toArray]
    omega
theorem lt_of_keeps {zs : List Int} (hs : zs.Pairwise (· ≤ ·)) (h : ∀ j, j < zs.length → Go.Lib.keeps zs.toArray j = true) : zs.Pairwise (· < ·) := by
  rw [List.pairwise_iff_getElem] at hs ⊢
  intro i j hi hj hij
  obtain ⟨k, rfl⟩ : ∃ k, j = k + 1 := ⟨j - 1, by omega⟩
  have hk := h (k + 1) hj
  unfold Go.Lib.keeps at hk
  rw [decide_eq_true_eq] at hk
  rcases hk with hk | hk
  · omega
  · rw [getElem!_pos zs.toArray (k + 1) (by simpa using hj), Nat.add_sub_cancel, getElem!_pos zs.toArray k (by simp; omega)] at hk
    simp only [List.getElem_toArray] at hk
    have h1 := hs k (k + 1) (by omega) hj (by omega)
    by_cases e : i = k
    · subst e; omega
    · have := hs i k hi (by omega) (by omega)
      omega
theorem compact_nodup (zs : List Int) : decide ((Go.Lib.compact (sortI zs)).length = (sortI zs).length) = decide zs.Nodup := by
  rw [decide_eq_decide]
  constructor
  · intro h
    have := lt_of_keeps (sortI_sorted zs) (keeps_all_of h)
    have hn : (sortI zs).Nodup := this.imp fun h => by omega
    exact (sortI_perm zs).nodup_iff.1 hn
  · intro h
    have hn : (sortI zs).Nodup := (sortI_perm zs).nodup_iff.2 h
    have hl : (sortI zs).Pairwise (· < ·) := by
      have h1 := sortI_sorted zs
      have h2 : (sortI zs).Pairwise (· ≠ ·) := hn
      exact (List.Pairwise.and h1 h2).imp fun h => by omega
    rw [Go.Lib.compact_all _ (keeps_of_lt hl)]

end Go.Proofs.Ytlaelkcmeaiajaa
