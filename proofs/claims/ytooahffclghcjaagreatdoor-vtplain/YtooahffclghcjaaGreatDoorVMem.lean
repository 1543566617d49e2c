/-
  A screen in memory.
-/
import Derived.Test.YtooahffclghcjaaGreatDoorQRow
import Derived.Test.YtooahffclghcjaaGreatDoorProg
import Derived.WalkKit
namespace Go.Proofs.YtooahffclghcjaaGreatDoor
open Go.RowKit
set_option linter.unusedVariables false
set_option maxRecDepth 100000

theorem gen_exit {E : Exit → Act → World → Prop} {x : Exit} {a : Act} {w : World} (R : World → Prop) (h : R w) (hG : ∀ Y, R Y → E x a Y) : E x a w := hG w h
theorem gen_wp {P : Program} {c : Code} {Q : Exit → Act → World → Prop} {a : Act} {w : World} (R : World → Prop) (h : R w) (hG : ∀ Y, R Y → Code.wp P c Q a Y) : Code.wp P c Q a w := hG w h
theorem hidK {p : Prop} (h : p) : Hid p := h
/-- A cursor. -/
structure Cu where
  x : Int
  y : Int
  fo : Int
  ba : Int
  ma : Int
  org : Bool
  l0 : Bool
  l1 : Bool
  us : Int
  wt : Bool
/-- A screen, lists as they lie in memory. -/
structure Sc where
  w : Int
  h : Int
  rows : Value
  kept : Cu
  cur : Cu
  ins : Bool
  nl : Bool
  wrap : Bool
  app : Bool
  br : Bool
  hid : Bool
  st : Int
  held : Value
  b0 : Int
  b1 : Int
  b2 : Int
  b3 : Int
  hv : Int
  wn : Int
  main : Value
  lim : Int
  past : Value
  top : Int
  bot : Int
  stops : Value
  last : Int
  title : ByteArray
  bells : Int
  ans : Value
def Sc.cells (s : Sc) : Array Value := #[.int .i64 s.w, .int .i64 s.h, s.rows,
  .int .i64 s.kept.x, .int .i64 s.kept.y, .int .i64 s.kept.fo, .int .i64 s.kept.ba, .int .i64 s.kept.ma, .bool s.kept.org, .bool s.kept.l0, .bool s.kept.l1, .int .i64 s.kept.us, .bool s.kept.wt,
  .int .i64 s.cur.x, .int .i64 s.cur.y, .int .i64 s.cur.fo, .int .i64 s.cur.ba, .int .i64 s.cur.ma, .bool s.cur.org, .bool s.cur.l0, .bool s.cur.l1, .int .i64 s.cur.us, .bool s.cur.wt,
  .bool s.ins, .bool s.nl, .bool s.wrap, .bool s.app, .bool s.br, .bool s.hid,
  .int .i64 s.st, s.held, .int .u8 s.b0, .int .u8 s.b1, .int .u8 s.b2, .int .u8 s.b3, .int .i64 s.hv, .int .i64 s.wn,
  s.main, .int .i64 s.lim, s.past, .int .i64 s.top, .int .i64 s.bot, s.stops, .int .i32 s.last, .string s.title, .int .i64 s.bells, s.ans]
def ScAt (w : World) (b : Nat) (s : Sc) : Prop := w.heap[b]? = some (.cells s.cells 62 (0, 0))
theorem ScAt.c {w : World} {b : Nat} {s : Sc} (h : ScAt w b s) (i : Nat) : w.cell? ⟨b, i, none⟩ = s.cells[i]? := cell_atT h i
theorem ScAt.free {w : World} {b : Nat} {s : Sc} (h : ScAt w b s) (i : Nat) : w.frozen? ⟨b, i, none⟩ = false := free_atT h i
theorem ScAt.lt {w : World} {b : Nat} {s : Sc} (h : ScAt w b s) : b < w.heap.size := lt_of_block h
theorem ScAt.set {w : World} {b : Nat} {s : Sc} (h : ScAt w b s) (i : Nat) (v : Value) {s' : Sc} (he : s.cells.setIfInBounds i v = s'.cells) : ScAt (w.setCell ⟨b, i, none⟩ v) b s' := by
  unfold ScAt
  rw [← he]
  exact heap_setCell_same w b i _ _ _ h
theorem put_at {w : World} {b : Nat} {cs : Array Value} {T : TypeId} (h : w.heap[b]? = some (.cells cs T (0, 0))) (i : Nat) (v : Value) : (w.setCell ⟨b, i, none⟩ v).heap[b]? = some (.cells (cs.setIfInBounds i v) T (0, 0)) := heap_setCell_same w b i _ _ _ h
theorem put_other {w : World} {b c : Nat} {o : Option Obj} (h : w.heap[b]? = o) (hc : b ≠ c) (i : Nat) (v : Value) : (w.setCell ⟨c, i, none⟩ v).heap[b]? = o := (Below.heap_setCell _ _ _ _ (fun e => hc e)).trans h
theorem alloc_at {w : World} {b : Nat} {o : Obj} (h : w.heap[b]? = some o) (p : Obj) : (w.alloc p).heap[b]? = some o := by rw [Below.heap_alloc _ _ _ (lt_of_block h)]; exact h
theorem ScAt.fin {w : World} {b : Nat} {s : Sc} {cs : Array Value} (h : w.heap[b]? = some (.cells cs 62 (0, 0))) (he : cs = s.cells) : ScAt w b s := by unfold ScAt; rw [← he]; exact h
theorem But.drew {S : List Nat} {w w' : World} (h : But S w w') : But S w w'.drew := ⟨h.os, h.tape, h.output, h.size, h.block⟩
theorem But.one {w : World} {b : Nat} (i : Nat) (v : Value) : But [b] w (w.setCell ⟨b, i, none⟩ v) := (But.refl _ _).setCell (p := ⟨b, i, none⟩) (.inl (by simp)) v
theorem But.next {w w' : World} {b : Nat} (h : But [b] w w') (i : Nat) (v : Value) : But [b] w (w'.setCell ⟨b, i, none⟩ v) := h.setCell (p := ⟨b, i, none⟩) (.inl (by simp)) v
theorem setCells_all (b : Nat) (T : TypeId) : ∀ (vs : List Value) (o : Nat) (w : World) (cur : Array Value), w.heap[b]? = some (.cells cur T (0, 0)) → o + vs.length = cur.size → (w.setCells b o vs).heap[b]? = some (.cells (cur.toList.take o ++ vs).toArray T (0, 0))
  | [], o, w, cur, h, hs => by
    have h1 : cur.toList.take o = cur.toList := List.take_of_length_le (by simp at hs ⊢; omega)
    rw [List.append_nil, h1]
    exact h
  | v :: r, o, w, cur, h, hs => by
    simp only [List.length_cons] at hs
    rw [World.setCells, setCells_all b T r (o + 1) (w.setCell ⟨b, o, none⟩ v) _ (heap_setCell_same w b o _ _ _ h) (by simp; omega)]
    congr 3
    have hl : (cur.toList.take o).length = o := by simp; omega
    rw [Array.toList_setIfInBounds, List.set_eq_take_append_cons_drop, if_pos (by simp; omega), List.take_append, hl, List.take_of_length_le (by omega), Nat.add_sub_cancel_left]
    simp
theorem cell_off (w : World) (b i j : Nat) (v : Value) (h : i ≠ j) : (w.setCell ⟨b, i, none⟩ v).cell? ⟨b, j, none⟩ = w.cell? ⟨b, j, none⟩ := World.cell?_setCell_other w _ _ v (fun e => h (by injection e))
theorem ScAt.keep {w w' : World} {b : Nat} {s : Sc} (h : ScAt w b s) (hk : w'.heap[b]? = w.heap[b]?) : ScAt w' b s := hk.trans h
theorem ScAt.below {w w' : World} {b : Nat} {s : Sc} (h : ScAt w b s) (hb : Below w.heap.size w w') : ScAt w' b s := h.keep (hb.block b h.lt)
theorem ScAt.but {w w' : World} {S : List Nat} {b : Nat} {s : Sc} (h : ScAt w b s) (hb : But S w w') (hS : b ∉ S) : ScAt w' b s := h.keep (hb.block b h.lt hS)
theorem ScAt.drewN {w : World} {b : Nat} {s : Sc} (h : ScAt w b s) (n : Nat) : ScAt (w.drewN n) b s := h
theorem ScAt.c0 {w : World} {b : Nat} {s : Sc} (h : ScAt w b s) : w.cell? ⟨b, 0, none⟩ = some (.int .i64 s.w) := h.c 0
theorem ScAt.c1 {w : World} {b : Nat} {s : Sc} (h : ScAt w b s) : w.cell? ⟨b, 1, none⟩ = some (.int .i64 s.h) := h.c 1
theorem ScAt.c2 {w : World} {b : Nat} {s : Sc} (h : ScAt w b s) : w.cell? ⟨b, 2, none⟩ = some s.rows := h.c 2
theorem ScAt.c3 {w : World} {b : Nat} {s : Sc} (h : ScAt w b s) : w.cell? ⟨b, 3, none⟩ = some (.int .i64 s.kept.x) := h.c 3
theorem ScAt.c4 {w : World} {b : Nat} {s : Sc} (h : ScAt w b s) : w.cell? ⟨b, 4, none⟩ = some (.int .i64 s.kept.y) := h.c 4
theorem ScAt.c5 {w : World} {b : Nat} {s : Sc} (h : ScAt w b s) : w.cell? ⟨b, 5, none⟩ = some (.int .i64 s.kept.fo) := h.c 5
theorem ScAt.c6 {w : World} {b : Nat} {s : Sc} (h : ScAt w b s) : w.cell? ⟨b, 6, none⟩ = some (.int .i64 s.kept.ba) := h.c 6
theorem ScAt.c7 {w : World} {b : Nat} {s : Sc} (h : ScAt w b s) : w.cell? ⟨b, 7, none⟩ = some (.int .i64 s.kept.ma) := h.c 7
theorem ScAt.c8 {w : World} {b : Nat} {s : Sc} (h : ScAt w b s) : w.cell? ⟨b, 8, none⟩ = some (.bool s.kept.org) := h.c 8
theorem ScAt.c9 {w : World} {b : Nat} {s : Sc} (h : ScAt w b s) : w.cell? ⟨b, 9, none⟩ = some (.bool s.kept.l0) := h.c 9
theorem ScAt.c10 {w : World} {b : Nat} {s : Sc} (h : ScAt w b s) : w.cell? ⟨b, 10, none⟩ = some (.bool s.kept.l1) := h.c 10
theorem ScAt.c11 {w : World} {b : Nat} {s : Sc} (h : ScAt w b s) : w.cell? ⟨b, 11, none⟩ = some (.int .i64 s.kept.us) := h.c 11
theorem ScAt.c12 {w : World} {b : Nat} {s : Sc} (h : ScAt w b s) : w.cell? ⟨b, 12, none⟩ = some (.bool s.kept.wt) := h.c 12
theorem ScAt.c13 {w : World} {b : Nat} {s : Sc} (h : ScAt w b s) : w.cell? ⟨b, 13, none⟩ = some (.int .i64 s.cur.x) := h.c 13
theorem ScAt.c14 {w : World} {b : Nat} {s : Sc} (h : ScAt w b s) : w.cell? ⟨b, 14, none⟩ = some (.int .i64 s.cur.y) := h.c 14
theorem ScAt.c15 {w : World} {b : Nat} {s : Sc} (h : ScAt w b s) : w.cell? ⟨b, 15, none⟩ = some (.int .i64 s.cur.fo) := h.c 15
theorem ScAt.c16 {w : World} {b : Nat} {s : Sc} (h : ScAt w b s) : w.cell? ⟨b, 16, none⟩ = some (.int .i64 s.cur.ba) := h.c 16
theorem ScAt.c17 {w : World} {b : Nat} {s : Sc} (h : ScAt w b s) : w.cell? ⟨b, 17, none⟩ = some (.int .i64 s.cur.ma) := h.c 17
theorem ScAt.c18 {w : World} {b : Nat} {s : Sc} (h : ScAt w b s) : w.cell? ⟨b, 18, none⟩ = some (.bool s.cur.org) := h.c 18
theorem ScAt.c19 {w : World} {b : Nat} {s : Sc} (h : ScAt w b s) : w.cell? ⟨b, 19, none⟩ = some (.bool s.cur.l0) := h.c 19
theorem ScAt.c20 {w : World} {b : Nat} {s : Sc} (h : ScAt w b s) : w.cell? ⟨b, 20, none⟩ = some (.bool s.cur.l1) := h.c 20
theorem ScAt.c21 {w : World} {b : Nat} {s : Sc} (h : ScAt w b s) : w.cell? ⟨b, 21, none⟩ = some (.int .i64 s.cur.us) := h.c 21
theorem ScAt.c22 {w : World} {b : Nat} {s : Sc} (h : ScAt w b s) : w.cell? ⟨b, 22, none⟩ = some (.bool s.cur.wt) := h.c 22
theorem ScAt.c23 {w : World} {b : Nat} {s : Sc} (h : ScAt w b s) : w.cell? ⟨b, 23, none⟩ = some (.bool s.ins) := h.c 23
theorem ScAt.c24 {w : World} {b : Nat} {s : Sc} (h : ScAt w b s) : w.cell? ⟨b, 24, none⟩ = some (.bool s.nl) := h.c 24
theorem ScAt.c25 {w : World} {b : Nat} {s : Sc} (h : ScAt w b s) : w.cell? ⟨b, 25, none⟩ = some (.bool s.wrap) := h.c 25
theorem ScAt.c26 {w : World} {b : Nat} {s : Sc} (h : ScAt w b s) : w.cell? ⟨b, 26, none⟩ = some (.bool s.app) := h.c 26
theorem ScAt.c27 {w : World} {b : Nat} {s : Sc} (h : ScAt w b s) : w.cell? ⟨b, 27, none⟩ = some (.bool s.br) := h.c 27
theorem ScAt.c28 {w : World} {b : Nat} {s : Sc} (h : ScAt w b s) : w.cell? ⟨b, 28, none⟩ = some (.bool s.hid) := h.c 28
theorem ScAt.c29 {w : World} {b : Nat} {s : Sc} (h : ScAt w b s) : w.cell? ⟨b, 29, none⟩ = some (.int .i64 s.st) := h.c 29
theorem ScAt.c30 {w : World} {b : Nat} {s : Sc} (h : ScAt w b s) : w.cell? ⟨b, 30, none⟩ = some s.held := h.c 30
theorem ScAt.c31 {w : World} {b : Nat} {s : Sc} (h : ScAt w b s) : w.cell? ⟨b, 31, none⟩ = some (.int .u8 s.b0) := h.c 31
theorem ScAt.c32 {w : World} {b : Nat} {s : Sc} (h : ScAt w b s) : w.cell? ⟨b, 32, none⟩ = some (.int .u8 s.b1) := h.c 32
theorem ScAt.c33 {w : World} {b : Nat} {s : Sc} (h : ScAt w b s) : w.cell? ⟨b, 33, none⟩ = some (.int .u8 s.b2) := h.c 33
theorem ScAt.c34 {w : World} {b : Nat} {s : Sc} (h : ScAt w b s) : w.cell? ⟨b, 34, none⟩ = some (.int .u8 s.b3) := h.c 34
theorem ScAt.c35 {w : World} {b : Nat} {s : Sc} (h : ScAt w b s) : w.cell? ⟨b, 35, none⟩ = some (.int .i64 s.hv) := h.c 35
theorem ScAt.c36 {w : World} {b : Nat} {s : Sc} (h : ScAt w b s) : w.cell? ⟨b, 36, none⟩ = some (.int .i64 s.wn) := h.c 36
theorem ScAt.c37 {w : World} {b : Nat} {s : Sc} (h : ScAt w b s) : w.cell? ⟨b, 37, none⟩ = some s.main := h.c 37
theorem ScAt.c38 {w : World} {b : Nat} {s : Sc} (h : ScAt w b s) : w.cell? ⟨b, 38, none⟩ = some (.int .i64 s.lim) := h.c 38
theorem ScAt.c39 {w : World} {b : Nat} {s : Sc} (h : ScAt w b s) : w.cell? ⟨b, 39, none⟩ = some s.past := h.c 39
theorem ScAt.c40 {w : World} {b : Nat} {s : Sc} (h : ScAt w b s) : w.cell? ⟨b, 40, none⟩ = some (.int .i64 s.top) := h.c 40
theorem ScAt.c41 {w : World} {b : Nat} {s : Sc} (h : ScAt w b s) : w.cell? ⟨b, 41, none⟩ = some (.int .i64 s.bot) := h.c 41
theorem ScAt.c42 {w : World} {b : Nat} {s : Sc} (h : ScAt w b s) : w.cell? ⟨b, 42, none⟩ = some s.stops := h.c 42
theorem ScAt.c43 {w : World} {b : Nat} {s : Sc} (h : ScAt w b s) : w.cell? ⟨b, 43, none⟩ = some (.int .i32 s.last) := h.c 43
theorem ScAt.c44 {w : World} {b : Nat} {s : Sc} (h : ScAt w b s) : w.cell? ⟨b, 44, none⟩ = some (.string s.title) := h.c 44
theorem ScAt.c45 {w : World} {b : Nat} {s : Sc} (h : ScAt w b s) : w.cell? ⟨b, 45, none⟩ = some (.int .i64 s.bells) := h.c 45
theorem ScAt.c46 {w : World} {b : Nat} {s : Sc} (h : ScAt w b s) : w.cell? ⟨b, 46, none⟩ = some s.ans := h.c 46

end Go.Proofs.YtooahffclghcjaaGreatDoor
