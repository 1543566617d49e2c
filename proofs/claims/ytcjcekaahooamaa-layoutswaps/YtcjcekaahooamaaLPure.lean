/-
  Layouts, by plain functions: trees of boxes; their extents, rooms, places, lists; what a list lays down.
-/
import Derived.WalkKit
namespace Go.Proofs.Ytcjcekaahooamaa
open Go.RowKit
set_option linter.unusedVariables false

/-- Where a part lies. -/
structure Box where
  x : Int
  y : Int
  w : Int
  h : Int
/-- A cell of a list. -/
structure CellV where
  depth : Int
  kind : Int
  x : Int
  y : Int
  w : Int
  h : Int
  p : Int
  deriving DecidableEq
def CellV.vals (c : CellV) : Array Value := #[.int .i64 c.depth, .int .i64 c.kind, .int .i64 c.x, .int .i64 c.y, .int .i64 c.w, .int .i64 c.h, .int .i64 c.p]

/-- The extent in a direction: 2 stands for the width, any other for the height. -/
def Box.ext (b : Box) (k : Int) : Int := if k = 2 then b.w else b.h
def acrossK (k : Int) : Int := if k = 2 then 3 else 2
def sideB (n : Int) : Bool := decide (1 ≤ n) && decide (n ≤ 1000)
def idB (n : Int) : Bool := decide (1 ≤ n) && decide (n ≤ 4611686018427387904)

inductive Tree where
  | leaf (b : Box) (p : Int)
  | split (b : Box) (k : Int) (ts : List Tree)

def Tree.box : Tree → Box
  | .leaf b _ => b
  | .split b _ _ => b
def Tree.kindIs : Tree → Int → Bool
  | .leaf _ _, _ => false
  | .split _ k _, j => decide (k = j)

mutual
def Tree.size : Tree → Nat
  | .leaf _ _ => 1
  | .split _ _ ts => 1 + sizes ts
def sizes : List Tree → Nat
  | [] => 0
  | t :: ts => t.size + sizes ts
end

mutual
/-- How much a part can give. -/
def Tree.room : Tree → Int → Int
  | .leaf b _, j => b.ext j - 1
  | .split _ k ts, j => if j = k then roomAll ts j else roomLeast ts j
def roomAll : List Tree → Int → Int
  | [], _ => 0
  | t :: ts, j => t.room j + roomAll ts j
def roomLeast : List Tree → Int → Int
  | [], _ => 1000
  | t :: ts, j => min (t.room j) (roomLeast ts j)
end

mutual
/-- Every part at its place. -/
def Tree.moved : Tree → Int → Int → Tree
  | .leaf b p, x, y => .leaf { b with x := x, y := y } p
  | .split b k ts, x, y => .split { b with x := x, y := y } k (movedAll ts k x y)
def movedAll : List Tree → Int → Int → Int → List Tree
  | [], _, _, _ => []
  | t :: ts, k, x, y => t.moved x y :: (if k = 2 then movedAll ts k (x + (t.box.ext k + 1)) y else movedAll ts k x (y + (t.box.ext k + 1)))
end

mutual
/-- The tree as a list. -/
def Tree.tell : Tree → Int → List CellV
  | .leaf b p, d => [⟨d, 1, b.x, b.y, b.w, b.h, p⟩]
  | .split b k ts, d => ⟨d, k, b.x, b.y, b.w, b.h, 0⟩ :: tellAll ts (d + 1)
def tellAll : List Tree → Int → List CellV
  | [], _ => []
  | t :: ts, d => t.tell d ++ tellAll ts d
end

/-- The sum of the extents, with the borders between. -/
def extAll : List Tree → Int → Int
  | [], _ => -1
  | t :: ts, k => t.box.ext k + 1 + extAll ts k

mutual
def Tree.sound : Tree → Bool
  | .leaf b p => (sideB b.w && sideB b.h) && idB p
  | .split b k ts => (decide (2 ≤ ts.length) && (sideB b.w && sideB b.h)) && (soundAll ts b k && decide (extAll ts k = b.ext k))
def soundAll : List Tree → Box → Int → Bool
  | [], _, _ => true
  | t :: ts, b, k => (t.sound && (!t.kindIs k && decide (t.box.ext (acrossK k) = b.ext (acrossK k)))) && soundAll ts b k
end

/-- What a list begins with, if it stands so deep: as many steps as there are cells are enough. -/
def CellV.box (c : CellV) : Box := ⟨c.x, c.y, c.w, c.h⟩
mutual
def takeT : Nat → List CellV → Int → Option (Tree × List CellV)
  | 0, _, _ => none
  | _, [], _ => none
  | n + 1, c :: l, d =>
    if c.depth = d then
      if c.kind = 1 then some (.leaf c.box c.p, l)
      else if c.kind = 2 ∨ c.kind = 3 then some (.split c.box c.kind (takeAllT n l (d + 1)).1, (takeAllT n l (d + 1)).2)
      else none
    else none
def takeAllT : Nat → List CellV → Int → List Tree × List CellV
  | 0, l, _ => ([], l)
  | n + 1, l, d => match takeT n l d with
    | none => ([], l)
    | some (t, r) => (t :: (takeAllT n r d).1, (takeAllT n r d).2)
end

theorem Tree.ext_moved (t : Tree) (x y k : Int) : (t.moved x y).box.ext k = t.box.ext k := by cases t <;> rfl

end Go.Proofs.Ytcjcekaahooamaa
