/-
  The tail: one call to both: Append.
-/
import Derived.Test.YteeakldeimhjjabTNewsW
import Derived.WalkKit
import Derived.Deep.RegionHeld3
namespace Go.Proofs.Yteeakldeimhjjab
open Go.RowKit Go.Lib
set_option linter.unusedVariables false
set_option maxRecDepth 100000

/-- A call, as it is handed in. -/
def opV (k : Int) (t : ByteArray) (a b : Int) : Value := .agg #[.int .i64 k, .string t, .int .i64 a, .int .i64 b]
/-- The start and the bytes behind an Append; behind a call. -/
def appS (lim st : Nat) (l : List UInt8) (t : ByteArray) : Nat := if st + l.length + t.size > 4611686018427387904 then st else st + (l.length + t.size - lim)
def appL (lim st : Nat) (l : List UInt8) (t : ByteArray) : List UInt8 := if st + l.length + t.size > 4611686018427387904 then l else lastN lim (l ++ t.data.toList)
def stepS (k : Int) (lim st : Nat) (l : List UInt8) (t : ByteArray) : Nat := if k = 0 then appS lim st l t else st
def stepL (k : Int) (lim st : Nat) (l : List UInt8) (t : ByteArray) : List UInt8 := if k = 0 then appL lim st l t else l
/-- What a call leaves. -/
def Went (w w' : World) (b : Nat) (v : Value) (lim st : Nat) (l : List UInt8) : Prop :=
  ∃ v', Side w' b v' lim st l ∧ But (foot b v) w w' ∧ (v'.ownBlock = v.ownBlock ∨ ∀ k, v'.ownBlock = some k → w.heap.size ≤ k)

theorem heap_three (w : World) (o p q : Obj) : (((w.alloc o).alloc p).alloc q).heap[w.heap.size]? = some o ∧ (((w.alloc o).alloc p).alloc q).heap[w.heap.size + 1]? = some p ∧ (((w.alloc o).alloc p).alloc q).heap[w.heap.size + 2]? = some q ∧ (((w.alloc o).alloc p).alloc q).heap.size = w.heap.size + 3 ∧ Below w.heap.size w (((w.alloc o).alloc p).alloc q) := by
  obtain ⟨h1, h2, h3⟩ := heap_two w o p
  refine ⟨?_, ?_, ?_, by simp, (((Below.refl _ w).alloc (Nat.le_refl _) o).alloc (by simp) p).alloc (by simp; omega) q⟩
  · rw [Below.heap_alloc _ _ _ (by rw [h3]; omega)]; exact h1
  · rw [Below.heap_alloc _ _ _ (by rw [h3]; omega)]; exact h2
  · have := heap_alloc_new ((w.alloc o).alloc p) q
    rw [h3] at this
    exact this

/-- The call's own three blocks, and the Log, in a later world. -/
structure Here (w W : World) (b : Nat) (v : Value) (lim st : Nat) (l : List UInt8) (R O Z : Obj) : Prop where
  r : W.heap[w.heap.size]? = some R
  o : W.heap[w.heap.size + 1]? = some O
  z : W.heap[w.heap.size + 2]? = some Z
  size : w.heap.size + 3 ≤ W.heap.size
  but : But (foot b v) w W
theorem Here.start {w : World} {b : Nat} {v : Value} {lim st : Nat} {l : List UInt8} (R O Z : Obj) : Here w (((w.alloc R).alloc O).alloc Z) b v lim st l R O Z := by
  obtain ⟨h1, h2, h3, h4, h5⟩ := heap_three w R O Z
  exact ⟨h1, h2, h3, by omega, .of h5⟩
theorem Here.below {w W W' : World} {b : Nat} {v : Value} {lim st : Nat} {l : List UInt8} {R O Z : Obj} (h : Here w W b v lim st l R O Z) (hb : Below W.heap.size W W') : Here w W' b v lim st l R O Z := by
  have h1 := h.size
  refine ⟨(hb.block _ (by omega)).trans h.r, (hb.block _ (by omega)).trans h.o, (hb.block _ (by omega)).trans h.z, Nat.le_trans h.size hb.size, h.but.trans (.of hb)⟩
/-- .. behind what turns the Log. -/
theorem Here.but_log {w W W' : World} {b : Nat} {v : Value} {lim st : Nat} {l : List UInt8} {R O Z : Obj} (h : Here w W b v lim st l R O Z) (hlt : ∀ k ∈ foot b v, k < w.heap.size) (hb : But (foot b v) W W') : Here w W' b v lim st l R O Z := by
  have h1 := h.size
  have h2 : ∀ j, w.heap.size ≤ j → j ∉ foot b v := fun j hj hh => by have := hlt j hh; omega
  exact ⟨(hb.block _ (by omega) (h2 _ (by omega))).trans h.r, (hb.block _ (by omega) (h2 _ (by omega))).trans h.o, (hb.block _ (by omega) (h2 _ (by omega))).trans h.z, Nat.le_trans h.size hb.size, h.but.trans hb⟩

theorem app_side {lim st : Nat} {l : List UInt8} {t : ByteArray} (hl : l.length ≤ lim) (hm : st + l.length ≤ 4611686018427387904) : appS lim st l t + (appL lim st l t).length = (if st + l.length + t.size > 4611686018427387904 then st + l.length else st + l.length + t.size) ∧ appS lim st l t + (appL lim st l t).length ≤ 4611686018427387904 := by
  unfold appS appL
  by_cases h : st + l.length + t.size > 4611686018427387904
  · rw [if_pos h, if_pos h, if_pos h]
    exact ⟨rfl, hm⟩
  · rw [if_neg h, if_neg h, if_neg h, lastN_length, List.length_append, ← Lib.size_eq]
    omega

/-- Append, to a Log and to the document's. -/
theorem append_side {b : Nat} {v : Value} {lim st : Nat} {l : List UInt8} {t : ByteArray} {w : World} (h : Side w b v lim st l) (ht : t.size ≤ 9223372036854775807) :
    Calls Try.prog 17 #[.pointer (some ⟨b, 0, none⟩), .string t] w fun x w' => x = .returned (.int .i64 (if st + l.length + t.size > 4611686018427387904 then 2 else 0)) ∧ Went w w' b v lim (appS lim st l t) (appL lim st l t) := by
  have hA := app_side (t := t) h.log.len h.most
  refine (append_any h.log ht).mono ?_
  intro x w' hx
  by_cases hc : st + l.length + t.size > 4611686018427387904
  · rw [if_pos hc] at hx hA ⊢
    obtain ⟨rfl, rfl⟩ := hx
    refine ⟨rfl, v, ⟨?_, hA.2⟩, But.refl _ _, .inl rfl⟩
    rw [hA.1]
    unfold appL
    rw [if_pos hc]
    exact h.log
  · rw [if_neg hc] at hx hA ⊢
    obtain ⟨rfl, v', h1, h2, h3⟩ := hx
    refine ⟨rfl, v', ⟨?_, hA.2⟩, h2, h3⟩
    rw [hA.1]
    unfold appL
    rw [if_neg hc]
    exact h1
theorem refAppend_side (lim st : Nat) (l : List UInt8) (t : ByteArray) (w : World) (hl : l.length ≤ lim) (hlim : lim ≤ 65536) (hm : st + l.length ≤ 4611686018427387904) (ht : t.size ≤ 9223372036854775807) :
    Calls Try.prog 18 #[refN lim st l, .string t] w fun x w' => x = .returned (.tuple #[refN lim (appS lim st l t) (appL lim st l t), .int .i64 (if st + l.length + t.size > 4611686018427387904 then 2 else 0)]) ∧ Below w.heap.size w w' := by
  refine (refAppend_any lim st l t w hl hlim hm ht).mono ?_
  rintro x w' ⟨rfl, hb⟩
  refine ⟨?_, hb⟩
  unfold refApp appS appL refN refV
  by_cases hc : st + l.length + t.size > 4611686018427387904
  · simp only [if_pos hc]
  · simp only [if_neg hc]

end Go.Proofs.Yteeakldeimhjjab
