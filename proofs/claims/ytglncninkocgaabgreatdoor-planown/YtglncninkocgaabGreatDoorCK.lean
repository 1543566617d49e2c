/-
  Layouts: the small calls of a split: isCut, half, wanted, with, a leaf's stretch and way, mayJoin, inOrder, replace at the root.
  Layouts: join, of parts none of which is of that kind.
  Layouts: the layout of one pane is read, checked, cut.
-/
import Derived.Test.YtglncninkocgaabGreatDoorCJ
namespace Go.Proofs.YtglncninkocgaabGreatDoor
open Go.RowKit
set_option linter.unusedVariables false
set_option maxRecDepth 100000

def halfF (s : Int) : Int := (s - 1) / 2
def wantedF (z s : Int) : Int := if z < 1 then halfF s else z
/-- May a new pane have that id? -/
def joinE (l : List CellV) (id : Int) : Int := if idB id = false ∨ (idsOf l).contains id = true then 43 else if (idsOf l).length = 32 then 45 else 0
theorem joinE_val (l : List CellV) (id : Int) (a c : Bool) (n : Nat) (ha : idB id = a) (hc : (idsOf l).contains id = c) (hn : (idsOf l).length = n) : joinE l id = if a = false ∨ c = true then 43 else if n = 32 then 45 else 0 := by
  unfold joinE
  rw [ha, hc, hn]
/-- A box like this one, but for its extent. -/
def Box.with (b : Box) (k n : Int) : Box := b.str k (n - b.ext k)
end Go.Proofs.YtglncninkocgaabGreatDoor

namespace Go.Proofs.YtglncninkocgaabGreatDoor
open Go.RowKit
set_option linter.unusedVariables false
set_option maxRecDepth 100000

theorem wpList_append_partB {ops : Array Oper} {rest : List Oper} {o : Oper} {a : Act} {Q : Exit → Act → World → Prop} (w : World) (hgd : o.guard = none) (s x : Operand)
    (ho : o.op = .call { callee := .builtin .append, args := #[s, x], argTypes := #[102, 102] })
    (B : Nat) (v : Value) (vs : List Value) (T : TypeId) (g : Nat) (hs : a.eval s = v) (hown : w.ownsRow B 72 1 v vs.length vs) (hx : a.eval x = .slice (some ⟨w.heap.size, 0, none⟩) 1 1) (hlen : vs.length ≤ 16777216) (hB : B ≤ w.heap.size)
    (h : ∀ v' w', w'.ownsRow B 72 1 v' (vs.length + 1) (vs ++ [.iface T (.pointer (some ⟨g, 0, none⟩))]) → (w.alloc (.cells #[.iface T (.pointer (some ⟨g, 0, none⟩))] 72)).grownBy w' v.ownBlock → wpList Tryz.prog ops Q rest (a.put o.dst v') w') : wpList Tryz.prog ops Q (o :: rest) a (w.alloc (.cells #[.iface T (.pointer (some ⟨g, 0, none⟩))] 72)) := by
  obtain ⟨i0, hi, hz0, hz1, hz2⟩ := info_partsL infoPart
  refine wpList_append_own_at _ hgd s x 102 ho B 72 i0 .nilIface 1 16 Tryz.underlying102 hi hz0 hz1 hz2 rfl (by decide) v vs.length vs hs (World.ownsRow.alloc hown _) ⟨w.heap.size, 0, none⟩ 1 1 [.iface T (.pointer (some ⟨g, 0, none⟩))] hx rfl ?_ ?_ ?_ ?_ ?_ ?_
  · intro j u hu
    rw [show (⟨w.heap.size, 0, none⟩ : Addr).add j = ⟨w.heap.size, j, none⟩ by unfold Addr.add; split <;> simp_all, cell_newL]
    simpa using hu
  · intro u hu
    simp only [List.mem_cons, List.not_mem_nil, or_false] at hu
    subst hu
    rfl
  · unfold maxLen; omega
  · omega
  · have : (w.alloc (.cells #[.iface T (.pointer (some ⟨g, 0, none⟩))] 72)).heap.size = w.heap.size + 1 := by simp
    omega
  · intro v' w' h2 h3 _ h5
    exact h v' w' h2 h3

theorem SplitAt.setSl {W : World} {g : Nat} {b : Box} {k : Int} {sl : Value} (h : SplitAt W g b k sl) (sl' : Value) : SplitAt (W.setCell ⟨g, 5, none⟩ sl') g b k sl' := by
  have hlt : g < W.heap.size := lt_of_block h
  have h' : W.heap[g] = .cells (splitV b k sl) 107 (0, 0) := by unfold SplitAt at h; simpa [Array.getElem?_eq_getElem hlt] using h
  show (W.heap.modify g _)[g]? = _
  rw [Array.getElem?_eq_getElem (by simpa using hlt), Array.getElem_modify_self, h']
  rfl

/-- How far join has come. -/
structure JoinTo (w : World) (k : Int) (vs : List Value) (sl : Value) (wr : World) : Prop where
  own : SplitAt wr w.heap.size ⟨0, 0, 0, 0⟩ k sl
  row : wr.ownsRow (w.heap.size + 1) 72 1 sl vs.length vs
  below : Below w.heap.size w wr

theorem JoinTo.start (w : World) (k : Int) : JoinTo w k [] (.slice none 0 0) (w.alloc (.cells #[.int .i64 0, .int .i64 0, .int .i64 0, .int .i64 0, .int .i64 k, .slice none 0 0] 107)) :=
  ⟨heap_alloc_new _ _, World.ownsRow_nil _ _ _ _, (Below.refl _ _).alloc (Nat.le_refl _) _⟩
theorem JoinTo.lt {w : World} {k : Int} {vs : List Value} {sl : Value} {wr : World} (h : JoinTo w k vs sl wr) : w.heap.size < wr.heap.size := lt_of_block h.own

theorem JoinTo.next {w : World} {k : Int} {vs : List Value} {sl : Value} {wr : World} (h : JoinTo w k vs sl wr) {o : Obj} {sl' u : Value} {w' : World} (h1 : w'.ownsRow (w.heap.size + 1) 72 1 sl' (vs.length + 1) (vs ++ [u])) (h2 : (wr.alloc o).grownBy w' sl.ownBlock) :
    SplitAt w' w.heap.size ⟨0, 0, 0, 0⟩ k sl ∧ JoinTo w k (vs ++ [u]) sl' (w'.setCell ⟨w.heap.size, 5, none⟩ sl') := by
  have hlt := h.lt
  have hsz : (wr.alloc o).heap.size = wr.heap.size + 1 := by simp
  have hne : ∀ q, sl.ownBlock = some q → w.heap.size + 1 ≤ q := fun q hq => (World.ownsRow.lt h.row q hq).1
  have hs : SplitAt w' w.heap.size ⟨0, 0, 0, 0⟩ k sl := by
    refine (h2.block w.heap.size (by omega) fun e => ?_).trans ((((Below.refl wr.heap.size wr).alloc (Nat.le_refl _) o).block _ hlt).trans h.own)
    have := hne _ e.symm
    omega
  refine ⟨hs, hs.setSl sl', ?_, ?_⟩
  · have hk : ∀ q ∈ sl'.ownBlock.toList, (w'.setCell ⟨w.heap.size, 5, none⟩ sl').heap[q]? = w'.heap[q]? := fun q hq => by
      refine Below.heap_setCell _ _ _ _ fun e => ?_
      have := (World.ownsRow.lt h1 q (by simpa using hq)).1
      have e' : q = w.heap.size := by simpa using e
      omega
    have := own_kept h1 hk
    simpa using this
  · have hb : Below w.heap.size w w' := by
      have h0 : Below w.heap.size w (wr.alloc o) := h.below.alloc h.below.size o
      refine ⟨h2.os.trans h0.os, h2.tape.trans h0.tape, h2.output.trans h0.output, Nat.le_trans h0.size h2.size, fun q hq => (h2.block q (by have := h0.size; omega) fun e => ?_).trans (h0.block q hq)⟩
      have := hne _ e.symm
      omega
    exact below_grown hb (grownBy_set _ _ _ _) (Nat.le_refl _)

end Go.Proofs.YtglncninkocgaabGreatDoor

namespace Go.Proofs.YtglncninkocgaabGreatDoor
open Go.RowKit
set_option linter.unusedVariables false
set_option maxRecDepth 100000

def oneCell (x y p : Int) : CellV := ⟨0, 1, 0, 0, x, y, p⟩
theorem new_sides {x y p : Int} (h : newErr x y p = 0) : (sideB x = true ∧ sideB y = true) ∧ idB p = true := by
  unfold newErr at h
  cases h1 : sideB x <;> cases h2 : sideB y <;> cases h3 : idB p <;> simp_all
theorem readF_one (x y p : Int) (h : newErr x y p = 0) : readF [oneCell x y p] = some (.leaf ⟨0, 0, x, y⟩ p) := by
  obtain ⟨⟨hx, hy⟩, hp⟩ := new_sides h
  have ht : takeF [oneCell x y p] 0 = some (.leaf ⟨0, 0, x, y⟩ p, []) := by
    rw [takeF_cons]
    rfl
  rw [readF_some (by simp) ht, if_pos ⟨by unfold Tree.sound; simp [hx, hy, hp], rfl, rfl⟩]
  rfl
theorem check_one (x y p : Int) (h : newErr x y p = 0) : checkE [oneCell x y p] = 0 := by
  unfold checkE
  rw [readF_one x y p h]
  rfl
theorem check_nil : checkE [] = 40 := by
  unfold checkE
  rw [readF_none (takeF_nil 0)]
  rfl
theorem joinE_one (x y p id : Int) (hi : idB id = true) (hne : id ≠ p) : joinE [oneCell x y p] id = 0 := by
  have h1 : idsOf [oneCell x y p] = [p] := rfl
  unfold joinE
  rw [h1, hi]
  simp [hne]

theorem l_way (g : Nat) (W : World) : (method 290 99 (.pointer (some ⟨g, 0, none⟩)) "mullion/layout.way").run Tryz.prog W = .ok (134, .pointer (some ⟨g, 0, none⟩)) W := by kernel_rfl
/-- One pane cut in two, side by side. -/
def twoTree (x y p id : Int) : Tree := .split ⟨0, 0, x, y⟩ 2 [.leaf ⟨0, 0, x - halfF x - 1, y⟩ p, .leaf ⟨0, 0, halfF x, y⟩ id]
def twoCells (x y p id : Int) : List CellV := [⟨0, 2, 0, 0, x, y, 0⟩, ⟨1, 1, 0, 0, x - halfF x - 1, y, p⟩, ⟨1, 1, x - halfF x, 0, halfF x, y, id⟩]
theorem side_of {n : Int} (h : sideB n = true) : 1 ≤ n ∧ n ≤ 1000 := by
  unfold sideB at h
  simpa using h
theorem side_mk {n : Int} (h1 : 1 ≤ n) (h2 : n ≤ 1000) : sideB n = true := by
  unfold sideB
  simp [h1, h2]
theorem two_sound (x y p id : Int) (h : newErr x y p = 0) (h3 : 3 ≤ x) (hi : idB id = true) : (twoTree x y p id).sound = true := by
  obtain ⟨⟨hx, hy⟩, hp⟩ := new_sides h
  have hxs := side_of hx
  have ha : sideB (halfF x) = true := side_mk (by unfold halfF; omega) (by unfold halfF; omega)
  have hb : sideB (x - halfF x - 1) = true := side_mk (by unfold halfF; omega) (by unfold halfF; omega)
  unfold twoTree
  simp [Tree.sound, soundAll, Tree.kindIs, Tree.box, extAll, Box.ext, acrossK, hx, hy, hp, hi, ha, hb]
  omega
theorem two_tell (x y p id : Int) : ((twoTree x y p id).moved 0 0).tell 0 = twoCells x y p id := by
  unfold twoTree twoCells
  simp [Tree.moved, movedAll, Tree.tell, tellAll, Tree.box, Box.ext]
theorem two_around (x y p id : Int) : aroundB [.leaf ⟨0, 0, x - halfF x - 1, y⟩ p, .leaf ⟨0, 0, halfF x, y⟩ id] 2 = ⟨0, 0, x, y⟩ := by
  unfold aroundB
  simp [extAll, Tree.box, Box.ext]
  omega

end Go.Proofs.YtglncninkocgaabGreatDoor
