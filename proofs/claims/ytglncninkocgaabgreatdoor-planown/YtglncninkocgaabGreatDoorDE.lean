/-
  Layouts: the statements' twin and kept.
  Plans: Repane of the program, for every list and every panes.
-/
import Derived.Test.YtglncninkocgaabGreatDoorCP
import Derived.Test.YtglncninkocgaabGreatDoorCZD
import Derived.Test.YtglncninkocgaabGreatDoorDD
import Derived.Test.YtglncninkocgaabGreatDoorDC
import Derived.Test.YtglncninkocgaabGreatDoorCT
import Derived.Deep.LoopGhost
namespace Go.Proofs.YtglncninkocgaabGreatDoor
open Go.RowKit
set_option linter.unusedVariables false
set_option maxRecDepth 100000

def mark (n : Int) : CellV := ⟨0, 0, 0, 0, 0, 0, n⟩
def marks : List CellV := [mark 201, mark 202, mark 203]

/-- A list that came in, appended to nothing. -/
theorem wpList_append_first {ops : Array Oper} {rest : List Oper} {o : Oper} {a : Act} {Q : Exit → Act → World → Prop} (w : World) (hgd : o.guard = none) (s x : Operand)
    (ho : o.op = .call { callee := .builtin .append, args := #[s, x], argTypes := #[22, 22] })
    (v : Value) (l : List CellV) (hs : a.eval s = .slice none 0 0) (hx : a.eval x = v) (hv : CellsIn w v l) (hn : v = .slice none 0 0 ∨ ∃ a n c, v = .slice (some a) n c) (hlen : l.length * 56 ≤ 140737488351232)
    (h : ∀ v' w', CeOwns w' w.heap.size v' l → w.grownBy w' none → wpList Tryz.prog ops Q rest (a.put o.dst v') w') : wpList Tryz.prog ops Q (o :: rest) a w := by
  obtain ⟨i0, hi, hz0, hz1, hz2⟩ := info_partsL infoCe
  obtain ⟨ad, cap, h1, h2, h3⟩ := hv.shape
  rcases hn with rfl | ⟨a', n', c', hv'⟩
  · have hl : l = [] := List.length_eq_zero_iff.1 (by injection h1 with _ e _; exact e.symm)
    subst hl
    refine wpList_append_own_none hgd s x 22 ho w.heap.size 36 i0 7 Tryz.underlying22 hi _ 0 [] hs (World.ownsRow_nil _ _ _ _) hx ?_
    exact h _ w (World.ownsRow_nil _ _ _ _) ⟨rfl, rfl, rfl, Nat.le_refl _, fun _ _ _ => rfl⟩
  · subst hv'
    cases h1
    refine wpList_append_own_at _ hgd s x 22 ho w.heap.size 36 i0 (.agg zeroCell.vals) 7 56 Tryz.underlying22 hi hz0 hz1 hz2 rfl (by decide) _ 0 [] hs (World.ownsRow_nil _ _ _ _) a' l.length cap (ceCells l) hx (ceCells_length l) ?_ (ceCells_one l) ?_ ?_ (Nat.le_refl _) ?_
    · intro j u hu
      rcases h3 with rfl | ⟨b, off, e, h4⟩
      · simp [ceCells] at hu
      · cases e
        rw [add_plainL]
        exact h4 j u hu
    · unfold maxLen; omega
    · omega
    · intro v' w' k2 k3 _ _
      refine h v' w' ?_ k3
      unfold CeOwns
      simpa using k2

theorem wpList_append_marks {ops : Array Oper} {rest : List Oper} {o : Oper} {a : Act} {Q : Exit → Act → World → Prop} (w : World) (hgd : o.guard = none) (s x : Operand)
    (ho : o.op = .call { callee := .builtin .append, args := #[s, x], argTypes := #[22, 22] })
    (B : Nat) (v : Value) (l : List CellV) (hs : a.eval s = v) (hown : CeOwns w B v l) (hx : a.eval x = .slice (some ⟨w.heap.size, 0, none⟩) 3 3) (hlen : l.length * 56 ≤ 140737488351232) (hB : B ≤ w.heap.size)
    (h : ∀ v' w', CeOwns w' B v' (l ++ marks) → (w.alloc (.cells (ceCells marks).toArray 36)).grownBy w' v.ownBlock → wpList Tryz.prog ops Q rest (a.put o.dst v') w') : wpList Tryz.prog ops Q (o :: rest) a (w.alloc (.cells (ceCells marks).toArray 36)) := by
  obtain ⟨i0, hi, hz0, hz1, hz2⟩ := info_partsL infoCe
  refine wpList_append_own_at _ hgd s x 22 ho B 36 i0 (.agg zeroCell.vals) 7 56 Tryz.underlying22 hi hz0 hz1 hz2 rfl (by decide) v l.length (ceCells l) hs (World.ownsRow.alloc hown _) ⟨w.heap.size, 0, none⟩ 3 3 (ceCells marks) hx rfl ?_ (ceCells_one _) ?_ ?_ ?_ ?_
  · intro j u hu
    rw [add_plainL, Nat.zero_add, cell_newL]
    simpa using hu
  · unfold maxLen; omega
  · omega
  · have : (w.alloc (.cells (ceCells marks).toArray 36)).heap.size = w.heap.size + 1 := by simp
    omega
  · intro v' w' k2 k3 _ _
    refine h v' w' ?_ k3
    unfold CeOwns
    rw [ceCells_append, List.length_append]
    exact k2

/-- What twin gives. -/
structure TwinAt (w : World) (g cap : Nat) (l : List CellV) : Prop where
  seen : SeenIn w g 0 (l ++ marks)
  cap : l.length + 3 ≤ cap
  lt : g < w.heap.size
theorem TwinAt.below {w w' : World} {g cap : Nat} {l : List CellV} (h : TwinAt w g cap l) (hb : Below w.heap.size w w') : TwinAt w' g cap l := ⟨h.seen.below hb, h.cap, Nat.lt_of_lt_of_le h.lt hb.size⟩
theorem HeadIn.cells {w : World} {b off : Nat} {c : CellV} (h : HeadIn w b off c) (o : Nat) (u : Value) (hu : c.vals[o]? = some u) : w.cell? ⟨b, off + o, none⟩ = some u := by
  have hj : o < 7 := (Array.getElem?_eq_some_iff.1 hu).1
  match o, hj with
  | 0, _ => cases hu; exact h.q0
  | 1, _ => cases hu; exact h.q1
  | 2, _ => cases hu; exact h.q2
  | 3, _ => cases hu; exact h.q3
  | 4, _ => cases hu; exact h.q4
  | 5, _ => cases hu; exact h.q5
  | 6, _ => cases hu; exact h.q6
theorem TwinAt.cellsIn {w : World} {g cap : Nat} {l : List CellV} (h : TwinAt w g cap l) : CellsIn w (.slice (some ⟨g, 0, none⟩) l.length cap) l := by
  refine ⟨_, _, rfl, by have := h.cap; omega, .inr ⟨g, 0, rfl, fun j u hu => ?_⟩⟩
  obtain ⟨i, c, o, e1, e2, e3, e4⟩ := ceCells_split l j u hu
  have hi : i < l.length := (List.getElem?_eq_some_iff.1 e1).1
  have hc := h.seen i c (by rw [List.getElem?_append_left hi]; exact e1)
  have := hc.cells o u e4
  rw [e3]
  rw [show 0 + (i * 7 + o) = 0 + i * 7 + o by omega]
  exact this

theorem owns_shape {w : World} {B : Nat} {v : Value} {l : List CellV} (h : CeOwns w B v l) (hl : l ≠ []) : ∃ g cap, v = .slice (some ⟨g, 0, none⟩) l.length cap ∧ B ≤ g ∧ l.length ≤ cap ∧ g < w.heap.size ∧ SeenIn w g 0 l := by
  obtain ⟨b, off, cap, e, hc, hs⟩ := h.cellsIn.seen hl
  rcases h.2 with ⟨h0, h1⟩ | ⟨g, cap', cur, e', hb, hg, r⟩
  · exact absurd (List.length_eq_zero_iff.1 h1) hl
  · rw [e'] at e
    cases e
    exact ⟨_, _, e', hb, hc, lt_of_block hg, hs⟩

end Go.Proofs.YtglncninkocgaabGreatDoor

namespace Go.Proofs.YtglncninkocgaabGreatDoor
open Go.RowKit
set_option linter.unusedVariables false
set_option maxRecDepth 20000

/-- A list of numbers that came in. -/
structure IntsIn (w : World) (v : Value) (zs : List Int) : Prop where
  shape : ∃ ad cap, v = .slice ad zs.length cap ∧ (zs = [] ∨ ∃ b off, ad = some ⟨b, off, none⟩ ∧ ∀ (j : Nat) x, zs[j]? = some x → w.cell? ⟨b, off + j, none⟩ = some (.int .i64 x))
theorem IntsIn.below {w w' : World} {v : Value} {zs : List Int} (h : IntsIn w v zs) (hb : Below w.heap.size w w') : IntsIn w' v zs := by
  obtain ⟨ad, cap, h1, h3⟩ := h.shape
  refine ⟨ad, cap, h1, h3.imp id ?_⟩
  rintro ⟨b, off, rfl, h4⟩
  exact ⟨b, off, rfl, fun j x hx => (hb.cell (p := ⟨b, off + j, none⟩) (World.block_lt_of_cell? w _ (h4 j x hx))).trans (h4 j x hx)⟩

/-- A list of cells laid behind a list of one's own. -/
theorem wpList_append_cells {ops : Array Oper} {rest : List Oper} {o : Oper} {a : Act} {Q : Exit → Act → World → Prop} (w : World) (hgd : o.guard = none) (s x : Operand)
    (ho : o.op = .call { callee := .builtin .append, args := #[s, x], argTypes := #[22, 22] })
    (B : Nat) (v0 : Value) (l0 : List CellV) (hs : a.eval s = v0) (hown : CeOwns w B v0 l0) (hB : B ≤ w.heap.size)
    (v : Value) (l : List CellV) (hx : a.eval x = v) (hv : CellsIn w v l) (hn : v = .slice none 0 0 ∨ ∃ a n c, v = .slice (some a) n c) (hlen : (l0.length + l.length) * 56 ≤ 140737488351232)
    (h : ∀ v' w', CeOwns w' B v' (l0 ++ l) → w.grownBy w' v0.ownBlock → wpList Tryz.prog ops Q rest (a.put o.dst v') w') : wpList Tryz.prog ops Q (o :: rest) a w := by
  obtain ⟨i0, hi, hz0, hz1, hz2⟩ := info_partsL infoCe
  obtain ⟨ad, cap, h1, h2, h3⟩ := hv.shape
  rcases hn with rfl | ⟨a', n', c', hv'⟩
  · have hl : l = [] := List.length_eq_zero_iff.1 (by injection h1 with _ e _; exact e.symm)
    subst hl
    refine wpList_append_own_none hgd s x 22 ho B 36 i0 7 Tryz.underlying22 hi _ l0.length (ceCells l0) hs hown hx ?_
    exact h _ w (by rw [List.append_nil]; exact hown) ⟨rfl, rfl, rfl, Nat.le_refl _, fun _ _ _ => rfl⟩
  · subst hv'
    cases h1
    refine wpList_append_own_at _ hgd s x 22 ho B 36 i0 (.agg zeroCell.vals) 7 56 Tryz.underlying22 hi hz0 hz1 hz2 rfl (by decide) _ l0.length (ceCells l0) hs hown a' l.length cap (ceCells l) hx (ceCells_length l) ?_ (ceCells_one l) ?_ ?_ hB ?_
    · intro j u hu
      rcases h3 with rfl | ⟨b, off, e, h4⟩
      · simp [ceCells] at hu
      · cases e
        rw [add_plainL]
        exact h4 j u hu
    · unfold maxLen; omega
    · omega
    · intro v' w' k2 k3 _ _
      refine h v' w' ?_ k3
      unfold CeOwns
      rw [ceCells_append, List.length_append]
      exact k2

theorem not_nilC (a : Addr) (n cap : Nat) (w : World) : (binOp .eql 22 (.slice (some a) n cap) (.slice none 0 0)).run Tryz.prog w = .ok (.bool false) w := by kernel_rfl

theorem clone_cells (b off n cap : Nat) (l : List CellV) (w : World) (h : CellsIn w (.slice (some ⟨b, off, none⟩) n cap) l) (hn : n ≤ 1000) (hl : l.length = n) : Calls Tryz.prog 24 #[.slice (some ⟨b, off, none⟩) n cap] w fun e w' => ∃ sl, e = .returned sl ∧ CeOwns w' w.heap.size sl l ∧ Below w.heap.size w w' := by
  have HV : Hid (CellsIn (w.alloc (.cells #[] 36)) (.slice (some ⟨b, off, none⟩) n cap) l) := h.below ((Below.refl _ _).alloc (Nat.le_refl _) _)
  have HO0 : Hid (CeOwns (w.alloc (.cells #[] 36)) w.heap.size (.slice (some ⟨w.heap.size, 0, none⟩) 0 0) []) := World.ownsRow_lit w #[] 0 (Nat.le_refl _) (by decide) (by simp)
  have HB : Hid (w.heap.size ≤ (w.alloc (.cells #[] 36)).heap.size) := by show _ ≤ _; simp
  have HL := hidden hl
  have eqn := not_nilC ⟨b, off, none⟩ n cap
  clear h hl
  go_enter Tryz.func24, Tryz.ntmps24
  go_wp2_with (at_builtin; refine wpList_append_cells _ rfl _ _ rfl w.heap.size (.slice (some ⟨w.heap.size, 0, none⟩) 0 0) [] ?y1 HO0.out HB.out (.slice (some ⟨b, off, none⟩) n cap) l ?y2 HV.out (.inr ⟨_, _, _, rfl⟩) ?y3 ?_; (case y1 => simp [Act.eval]); (case y2 => simp [Act.eval]); (case y3 => rw [HL.out]; simp; omega); intro v' w' k2 k3; have HE := hidden k2; have HG := hidden k3; clear k2 k3)
  go_ret
  exact ⟨_, rfl, HE.out, below_grown ((Below.refl _ _).alloc (Nat.le_refl _) _) HG.out (Nat.le_refl _)⟩
end Go.Proofs.YtglncninkocgaabGreatDoor
