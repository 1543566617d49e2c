/-
  Binds, the document's beginning: its lists of words (pure).
  Binds, the document's New.
-/
import Derived.Test.YtbonnjilbocldaaGreatDoorIJ
import Derived.Deep.RegionHeld3
import Derived.Deep.DeepCutAuto
namespace Go.Proofs.YtbonnjilbocldaaGreatDoor
open Go.RowKit Go.Maps
set_option linter.unusedVariables false
set_option maxRecDepth 100000

def n22 : List ByteArray := [⟨#[99]⟩, ⟨#[110]⟩, ⟨#[112]⟩, ⟨#[108]⟩, ⟨#[38]⟩, ⟨#[34]⟩, ⟨#[37]⟩, ⟨#[111]⟩, ⟨#[59]⟩, ⟨#[120]⟩, ⟨#[122]⟩, ⟨#[33]⟩, ⟨#[100]⟩, ⟨#[41]⟩, ⟨#[40]⟩, ⟨#[91]⟩, ⟨#[93]⟩, ⟨#[61]⟩, ⟨#[63]⟩, ⟨#[58]⟩, ⟨#[44]⟩, ⟨#[83, 112, 97, 99, 101]⟩]
def l22 : List ByteArray := [⟨#[110, 101, 119, 45, 119, 105, 110, 100, 111, 119]⟩, ⟨#[115, 101, 108, 101, 99, 116, 45, 119, 105, 110, 100, 111, 119, 32, 45, 110]⟩, ⟨#[115, 101, 108, 101, 99, 116, 45, 119, 105, 110, 100, 111, 119, 32, 45, 112]⟩, ⟨#[115, 101, 108, 101, 99, 116, 45, 119, 105, 110, 100, 111, 119, 32, 45, 108]⟩, ⟨#[107, 105, 108, 108, 45, 119, 105, 110, 100, 111, 119]⟩, ⟨#[115, 112, 108, 105, 116, 45, 119, 105, 110, 100, 111, 119]⟩, ⟨#[115, 112, 108, 105, 116, 45, 119, 105, 110, 100, 111, 119, 32, 45, 104]⟩, ⟨#[115, 101, 108, 101, 99, 116, 45, 112, 97, 110, 101, 32, 45, 116, 32, 43]⟩, ⟨#[115, 101, 108, 101, 99, 116, 45, 112, 97, 110, 101, 32, 45, 108]⟩, ⟨#[107, 105, 108, 108, 45, 112, 97, 110, 101]⟩, ⟨#[114, 101, 115, 105, 122, 101, 45, 112, 97, 110, 101, 32, 45, 90]⟩, ⟨#[98, 114, 101, 97, 107, 45, 112, 97, 110, 101]⟩, ⟨#[100, 101, 116, 97, 99, 104, 45, 99, 108, 105, 101, 110, 116]⟩, ⟨#[115, 119, 105, 116, 99, 104, 45, 99, 108, 105, 101, 110, 116, 32, 45, 110]⟩, ⟨#[115, 119, 105, 116, 99, 104, 45, 99, 108, 105, 101, 110, 116, 32, 45, 112]⟩, ⟨#[99, 111, 112, 121, 45, 109, 111, 100, 101]⟩, ⟨#[112, 97, 115, 116, 101, 45, 98, 117, 102, 102, 101, 114]⟩, ⟨#[108, 105, 115, 116, 45, 98, 117, 102, 102, 101, 114, 115]⟩, ⟨#[108, 105, 115, 116, 45, 107, 101, 121, 115]⟩, ⟨#[99, 111, 109, 109, 97, 110, 100, 45, 112, 114, 111, 109, 112, 116]⟩, ⟨#[99, 111, 109, 109, 97, 110, 100, 45, 112, 114, 111, 109, 112, 116, 32, 34, 114, 101, 110, 97, 109, 101, 45, 119, 105, 110, 100, 111, 119, 32, 34]⟩, ⟨#[115, 101, 108, 101, 99, 116, 45, 108, 97, 121, 111, 117, 116, 32, 116, 105, 108, 101, 100]⟩]
def w4 : List ByteArray := [⟨#[85, 112]⟩, ⟨#[68, 111, 119, 110]⟩, ⟨#[76, 101, 102, 116]⟩, ⟨#[82, 105, 103, 104, 116]⟩]
def f4 : List ByteArray := [⟨#[45, 85]⟩, ⟨#[45, 68]⟩, ⟨#[45, 76]⟩, ⟨#[45, 82]⟩]
def k20 : List ByteArray := [⟨#[85, 112]⟩, ⟨#[68, 111, 119, 110]⟩, ⟨#[76, 101, 102, 116]⟩, ⟨#[82, 105, 103, 104, 116]⟩, ⟨#[80, 97, 103, 101, 85, 112]⟩, ⟨#[80, 97, 103, 101, 68, 111, 119, 110]⟩, ⟨#[67, 45, 97]⟩, ⟨#[67, 45, 101]⟩, ⟨#[77, 45, 102]⟩, ⟨#[77, 45, 98]⟩, ⟨#[77, 45, 60]⟩, ⟨#[77, 45, 62]⟩, ⟨#[67, 45, 83, 112, 97, 99, 101]⟩, ⟨#[67, 45, 119]⟩, ⟨#[77, 45, 119]⟩, ⟨#[110]⟩, ⟨#[78]⟩, ⟨#[67, 45, 103]⟩, ⟨#[113]⟩, ⟨#[69, 115, 99, 97, 112, 101]⟩]
def d20 : List ByteArray := [⟨#[99, 117, 114, 115, 111, 114, 45, 117, 112]⟩, ⟨#[99, 117, 114, 115, 111, 114, 45, 100, 111, 119, 110]⟩, ⟨#[99, 117, 114, 115, 111, 114, 45, 108, 101, 102, 116]⟩, ⟨#[99, 117, 114, 115, 111, 114, 45, 114, 105, 103, 104, 116]⟩, ⟨#[112, 97, 103, 101, 45, 117, 112]⟩, ⟨#[112, 97, 103, 101, 45, 100, 111, 119, 110]⟩, ⟨#[115, 116, 97, 114, 116, 45, 111, 102, 45, 108, 105, 110, 101]⟩, ⟨#[101, 110, 100, 45, 111, 102, 45, 108, 105, 110, 101]⟩, ⟨#[110, 101, 120, 116, 45, 119, 111, 114, 100]⟩, ⟨#[112, 114, 101, 118, 105, 111, 117, 115, 45, 119, 111, 114, 100]⟩, ⟨#[104, 105, 115, 116, 111, 114, 121, 45, 116, 111, 112]⟩, ⟨#[104, 105, 115, 116, 111, 114, 121, 45, 98, 111, 116, 116, 111, 109]⟩, ⟨#[98, 101, 103, 105, 110, 45, 115, 101, 108, 101, 99, 116, 105, 111, 110]⟩, ⟨#[99, 111, 112, 121, 45, 115, 101, 108, 101, 99, 116, 105, 111, 110]⟩, ⟨#[99, 111, 112, 121, 45, 115, 101, 108, 101, 99, 116, 105, 111, 110]⟩, ⟨#[115, 101, 97, 114, 99, 104, 45, 97, 103, 97, 105, 110]⟩, ⟨#[115, 101, 97, 114, 99, 104, 45, 114, 101, 118, 101, 114, 115, 101]⟩, ⟨#[99, 108, 101, 97, 114, 45, 115, 101, 108, 101, 99, 116, 105, 111, 110]⟩, ⟨#[99, 97, 110, 99, 101, 108]⟩, ⟨#[99, 97, 110, 99, 101, 108]⟩]
def digS' : ByteArray := ⟨#[115, 101, 108, 101, 99, 116, 45, 119, 105, 110, 100, 111, 119, 32, 45, 116, 32, 58]⟩
def wayS : ByteArray := ⟨#[115, 101, 108, 101, 99, 116, 45, 112, 97, 110, 101, 32]⟩
def cS : ByteArray := ⟨#[67, 45]⟩
def rsS : ByteArray := ⟨#[114, 101, 115, 105, 122, 101, 45, 112, 97, 110, 101, 32]⟩
def cpS : ByteArray := ⟨#[99, 111, 112, 121, 32]⟩
def g10 : List ByteArray := (List.range 10).map fun k : Nat => str (digF (k : Int))
def chkD (f : Nat → Nat) (tb : ByteArray) (rp : Bool) (keys lines : List ByteArray) : Bool :=
  (List.range keys.length).all fun k => match docR[f k]?, keys[k]?, lines[k]? with
    | some (t, p, r), some a, some b => t.data.toList == tb.data.toList && p == rp && r.key.data.toList == a.data.toList && r.line.data.toList == b.data.toList
    | _, _, _ => false
theorem chk_at {f : Nat → Nat} {tb : ByteArray} {rp : Bool} {keys lines : List ByteArray} (h : chkD f tb rp keys lines = true) {k : Nat} (hk : k < keys.length) : ∃ r, docR[f k]? = some (tb, rp, r) ∧ keys[k]? = some r.key ∧ lines[k]? = some r.line := by
  have h1 := List.all_eq_true.1 h k (List.mem_range.2 hk)
  split at h1
  · rename_i t p r a b h2 h3 h4
    simp only [Bool.and_eq_true, beq_iff_eq] at h1
    obtain ⟨⟨⟨e1, e2⟩, e3⟩, e4⟩ := h1
    have q1 : t = tb := ByteArray.ext (Array.ext' e1)
    have q3 : r.key = a := ByteArray.ext (Array.ext' e3)
    have q4 : r.line = b := ByteArray.ext (Array.ext' e4)
    subst q1 e2 q3 q4
    exact ⟨r, h2, h3, h4⟩
  · cases h1
theorem chk1 : chkD (fun k => k) prefixS false n22 l22 = true := by kernel_rfl
theorem chk2 : chkD (fun k => 22 + k) prefixS false g10 (g10.map (digS' ++ ·)) = true := by kernel_rfl
theorem chk3 : chkD (fun k => 32 + 2 * k) prefixS true w4 (f4.map (wayS ++ ·)) = true := by kernel_rfl
theorem chk4 : chkD (fun k => 32 + 2 * k + 1) prefixS true (w4.map (cS ++ ·)) (f4.map (rsS ++ ·)) = true := by kernel_rfl
theorem chk5 : chkD (fun k => 40 + k) copyS false k20 (d20.map (cpS ++ ·)) = true := by kernel_rfl
theorem strs_at {l : List ByteArray} {k : Nat} {x : ByteArray} (h : l[k]? = some x) : ((l.map Value.string).toArray)[k]? = some (.string x) := by
  rw [List.getElem?_toArray, List.getElem?_map, h]
  rfl
theorem map_at {l : List ByteArray} {k : Nat} {p x y : ByteArray} (h : (l.map (p ++ ·))[k]? = some y) (hx : l[k]? = some x) : p ++ x = y := by
  rw [List.getElem?_map, hx] at h
  exact Option.some.inj h
/-- The tables that are being made. -/
structure Nq (w Y : World) (Q0 Q1 : Nat) (a : Option Addr) (n c j : Nat) : Prop where
  below : Below w.heap.size w Y
  q0 : Y.heap[Q0]? = some (.cells #[.slice none 0 0] 33 (0, 0))
  q1 : Y.heap[Q1]? = some (.cells #[.slice a n c] 33 (0, 0))
  see : SeeE Y (.slice a n c) (docL.take j)
  dc : ∃ D, Dc D (docL.take j)
  lo : w.heap.size ≤ Q0 ∧ w.heap.size ≤ Q1 ∧ Q0 ≠ Q1
theorem Nq.more {w Y X : World} {Q0 Q1 : Nat} {a : Option Addr} {n c j : Nat} (h : Nq w Y Q0 Q1 a n c j) (hb : Below Y.heap.size Y X) : Nq w X Q0 Q1 a n c j := ⟨below_step h.below hb, kp hb h.q0, kp hb h.q1, h.see.below hb, h.dc, h.lo⟩
theorem nq_step {w Y : World} {Q0 Q1 : Nat} {a : Option Addr} {n c j : Nat} (h : Nq w Y Q0 Q1 a n c j) {tb : ByteArray} {rp : Bool} {r : Rw} (hj : docR[j]? = some (tb, rp, r)) :
    Calls Tryz.prog 29 #[.agg #[.slice a n c], .string tb, .string r.key, .string r.line, .bool rp] Y fun e w' => ∃ a' n' c', e = .returned (.agg #[.slice a' n' c']) ∧ Nq w (w'.setCell ⟨Q1, 0, none⟩ (.slice a' n' c')) Q0 Q1 a' n' c' (j + 1) ∧ Below Y.heap.size Y w' := by
  obtain ⟨D, hD⟩ := h.dc
  obtain ⟨h1, h2, h3, h4, h5, h6⟩ := doc_step hD hj
  refine (rwith_any h.see hD tb r.key r.line rp r.c r.m h3 h4 h2 h5).mono ?_
  rintro e w' ⟨v', rfl, hse, hb⟩
  obtain ⟨a', c', rfl⟩ := hse.shape'
  have hd := hD.bnd h2
  rw [h1] at hse hd ⊢
  refine ⟨_, _, _, rfl, ⟨(below_step h.below hb).setCell h.lo.2.1 _, put_other (kp hb h.q0) h.lo.2.2 _ _, put_at (kp hb h.q1) 0 _, hse.set1 (kp hb h.q1) _, ⟨_, hd⟩, h.lo⟩, hb⟩
/-- The tables that are being made, and two lists of words. -/
structure Nb (w Y : World) (Q0 Q1 : Nat) (a : Option Addr) (n c j B1 B2 : Nat) (l1 l2 : List ByteArray) : Prop where
  nq : Nq w Y Q0 Q1 a n c j
  x1 : Y.heap[B1]? = some (.cells (l1.map Value.string).toArray 9 (0, 0))
  x2 : Y.heap[B2]? = some (.cells (l2.map Value.string).toArray 9 (0, 0))
theorem Nb.more {w Y X : World} {Q0 Q1 : Nat} {a : Option Addr} {n c j B1 B2 : Nat} {l1 l2 : List ByteArray} (h : Nb w Y Q0 Q1 a n c j B1 B2 l1 l2) (hb : Below Y.heap.size Y X) : Nb w X Q0 Q1 a n c j B1 B2 l1 l2 := ⟨h.nq.more hb, kp hb h.x1, kp hb h.x2⟩
theorem nb_step {w Y : World} {Q0 Q1 : Nat} {a : Option Addr} {n c j B1 B2 : Nat} {l1 l2 : List ByteArray} (h : Nb w Y Q0 Q1 a n c j B1 B2 l1 l2) {tb : ByteArray} {rp : Bool} {r : Rw} (hj : docR[j]? = some (tb, rp, r)) :
    Calls Tryz.prog 29 #[.agg #[.slice a n c], .string tb, .string r.key, .string r.line, .bool rp] Y fun e w' => ∃ a' n' c', e = .returned (.agg #[.slice a' n' c']) ∧ Nb w (w'.setCell ⟨Q1, 0, none⟩ (.slice a' n' c')) Q0 Q1 a' n' c' (j + 1) B1 B2 l1 l2 ∧ Below Y.heap.size Y w' := by
  refine (nq_step h.nq hj).mono ?_
  rintro e w' ⟨a', n', c', rfl, hn, hb⟩
  have h1 := kp hb h.x1
  have h2 := kp hb h.x2
  have h3 := kp hb h.nq.q1
  exact ⟨a', n', c', rfl, ⟨hn, put_other h1 (kind_ne h1 h3 (by decide)) _ _, put_other h2 (kind_ne h2 h3 (by decide)) _ _⟩, hb⟩
theorem size_le {l : List ByteArray} {k m : Nat} {x : ByteArray} (h : l.all (fun b => decide (b.size ≤ m)) = true) (hx : l[k]? = some x) : x.size ≤ m := by
  have := List.all_eq_true.1 h x (List.mem_of_getElem? hx)
  simpa using this
end Go.Proofs.YtbonnjilbocldaaGreatDoor

namespace Go.Proofs.YtbonnjilbocldaaGreatDoor
open Go.RowKit
set_option linter.unusedVariables false
set_option maxRecDepth 100000

theorem first_nb {w Y : World} {Q0 Q1 : Nat} {a : Option Addr} {n c j i B1 B2 : Nat} {l1 l2 : List ByteArray} (e : j = i) (h : Nb w Y Q0 Q1 a n c j B1 B2 l1 l2) : Hid (Nb w Y Q0 Q1 a n c i B1 B2 l1 l2) := by
  subst e
  exact h
set_option maxHeartbeats 16000000 in
theorem rnew_any {w : World} : Calls Tryz.prog 8 #[] w fun e w' => ∃ v, e = .returned (.agg #[v]) ∧ SeeE w' v docL ∧ Below w.heap.size w w' := by
  obtain ⟨W1, hW1⟩ : ∃ W, w.alloc (.cells #[.slice none 0 0] 33) = W := ⟨_, rfl⟩
  obtain ⟨Wa, hWa⟩ : ∃ W, W1.alloc (.cells #[.slice none 0 0] 33) = W := ⟨_, rfl⟩
  obtain ⟨Q0, hQ0⟩ : ∃ Q, w.heap.size = Q := ⟨_, rfl⟩
  obtain ⟨Q1, hQ1⟩ : ∃ Q, W1.heap.size = Q := ⟨_, rfl⟩
  obtain ⟨W2, hW2⟩ : ∃ W, Wa.setCell ⟨Q1, 0, none⟩ (.slice none 0 0) = W := ⟨_, rfl⟩
  have aa : Wa.heap[Q1]? = some (.cells #[.slice none 0 0] 33 (0, 0)) := by rw [← hWa, ← hQ1]; exact heap_alloc_new W1 _
  have xc := cell_at aa 0
  have xf := free_at aa 0
  have b1 : Below w.heap.size w W1 := by rw [← hW1]; exact (Below.refl _ _).alloc (Nat.le_refl _) _
  have b2 : Below W1.heap.size W1 W2 := by rw [← hW2, ← hWa, ← hQ1]; exact ((Below.refl _ _).alloc (Nat.le_refl _) _).setCell (Nat.le_refl _) _
  have a1 : W1.heap[Q0]? = some (.cells #[.slice none 0 0] 33 (0, 0)) := by rw [← hW1, ← hQ0]; exact heap_alloc_new w _
  have a2 : W2.heap[Q1]? = some (.cells #[.slice none 0 0] 33 (0, 0)) := by rw [← hW2]; exact put_at aa 0 _
  obtain ⟨W3, hW3⟩ : ∃ W, W2.alloc (.cells #[.string ⟨#[99]⟩, .string ⟨#[110]⟩, .string ⟨#[112]⟩, .string ⟨#[108]⟩, .string ⟨#[38]⟩, .string ⟨#[34]⟩, .string ⟨#[37]⟩, .string ⟨#[111]⟩, .string ⟨#[59]⟩, .string ⟨#[120]⟩, .string ⟨#[122]⟩, .string ⟨#[33]⟩, .string ⟨#[100]⟩, .string ⟨#[41]⟩, .string ⟨#[40]⟩, .string ⟨#[91]⟩, .string ⟨#[93]⟩, .string ⟨#[61]⟩, .string ⟨#[63]⟩, .string ⟨#[58]⟩, .string ⟨#[44]⟩, .string ⟨#[83, 112, 97, 99, 101]⟩] 9) = W := ⟨_, rfl⟩
  obtain ⟨B1, hB1⟩ : ∃ Q, W2.heap.size = Q := ⟨_, rfl⟩
  have hbW3 : Below W2.heap.size W2 W3 := by rw [← hW3]; exact (Below.refl _ _).alloc (Nat.le_refl _) _
  have haW3 : W3.heap[B1]? = some (.cells (n22.map Value.string).toArray 9 (0, 0)) := by rw [← hW3, ← hB1]; exact heap_alloc_new W2 _
  obtain ⟨W4, hW4⟩ : ∃ W, W3.alloc (.cells #[.string ⟨#[110, 101, 119, 45, 119, 105, 110, 100, 111, 119]⟩, .string ⟨#[115, 101, 108, 101, 99, 116, 45, 119, 105, 110, 100, 111, 119, 32, 45, 110]⟩, .string ⟨#[115, 101, 108, 101, 99, 116, 45, 119, 105, 110, 100, 111, 119, 32, 45, 112]⟩, .string ⟨#[115, 101, 108, 101, 99, 116, 45, 119, 105, 110, 100, 111, 119, 32, 45, 108]⟩, .string ⟨#[107, 105, 108, 108, 45, 119, 105, 110, 100, 111, 119]⟩, .string ⟨#[115, 112, 108, 105, 116, 45, 119, 105, 110, 100, 111, 119]⟩, .string ⟨#[115, 112, 108, 105, 116, 45, 119, 105, 110, 100, 111, 119, 32, 45, 104]⟩, .string ⟨#[115, 101, 108, 101, 99, 116, 45, 112, 97, 110, 101, 32, 45, 116, 32, 43]⟩, .string ⟨#[115, 101, 108, 101, 99, 116, 45, 112, 97, 110, 101, 32, 45, 108]⟩, .string ⟨#[107, 105, 108, 108, 45, 112, 97, 110, 101]⟩, .string ⟨#[114, 101, 115, 105, 122, 101, 45, 112, 97, 110, 101, 32, 45, 90]⟩, .string ⟨#[98, 114, 101, 97, 107, 45, 112, 97, 110, 101]⟩, .string ⟨#[100, 101, 116, 97, 99, 104, 45, 99, 108, 105, 101, 110, 116]⟩, .string ⟨#[115, 119, 105, 116, 99, 104, 45, 99, 108, 105, 101, 110, 116, 32, 45, 110]⟩, .string ⟨#[115, 119, 105, 116, 99, 104, 45, 99, 108, 105, 101, 110, 116, 32, 45, 112]⟩, .string ⟨#[99, 111, 112, 121, 45, 109, 111, 100, 101]⟩, .string ⟨#[112, 97, 115, 116, 101, 45, 98, 117, 102, 102, 101, 114]⟩, .string ⟨#[108, 105, 115, 116, 45, 98, 117, 102, 102, 101, 114, 115]⟩, .string ⟨#[108, 105, 115, 116, 45, 107, 101, 121, 115]⟩, .string ⟨#[99, 111, 109, 109, 97, 110, 100, 45, 112, 114, 111, 109, 112, 116]⟩, .string ⟨#[99, 111, 109, 109, 97, 110, 100, 45, 112, 114, 111, 109, 112, 116, 32, 34, 114, 101, 110, 97, 109, 101, 45, 119, 105, 110, 100, 111, 119, 32, 34]⟩, .string ⟨#[115, 101, 108, 101, 99, 116, 45, 108, 97, 121, 111, 117, 116, 32, 116, 105, 108, 101, 100]⟩] 9) = W := ⟨_, rfl⟩
  obtain ⟨B2, hB2⟩ : ∃ Q, W3.heap.size = Q := ⟨_, rfl⟩
  have hbW4 : Below W3.heap.size W3 W4 := by rw [← hW4]; exact (Below.refl _ _).alloc (Nat.le_refl _) _
  have haW4 : W4.heap[B2]? = some (.cells (l22.map Value.string).toArray 9 (0, 0)) := by rw [← hW4, ← hB2]; exact heap_alloc_new W3 _
  have hb24 := below_step hbW3 hbW4
  have HN0 : Hid (Nb w W4 Q0 Q1 none 0 0 0 B1 B2 n22 l22) := ⟨⟨below_step (below_step b1 b2) hb24, kp hb24 (kp b2 a1), kp hb24 a2, (show SeeE W4 (.slice none 0 0) [] from (EntsAt.nil W4 0).see), ⟨_, dc_empty⟩, by have := b1.size; have := lt_block a1; omega⟩, kp hbW4 haW3, haW4⟩
  clear aa b1 b2 a1 a2 hbW3 haW3 hbW4 haW4 hb24
  go_enter Tryz.func8, Tryz.ntmps8
  go_wp2_with fail
  clear xc xf hW1 hWa hW2 hW3 hW4 hQ0 hQ1 hB1 hB2
  go_loopw [4] (fun iv wr => ∃ (k : Nat) (a : Option Addr) (n c : Nat), k ≤ 22 ∧ iv = .int .i64 k ∧ Hid (Nb w wr Q0 Q1 a n c k B1 B2 n22 l22)) (fun iv _ => 22 - (intOf iv).toNat)
  case atStart => exact ⟨0, none, 0, 0, by omega, rfl, HN0⟩
  case round =>
    clear HN0
    obtain ⟨k, a, n, c, hk, rfl, HR⟩ := hrel
    have q10 : wr.cell? ⟨Q1, 0, none⟩ = some (.slice a n c) := cell_at HR.out.nq.q1 0
    by_cases hlt : k < 22
    · have i1 : (k : Int) < 22 := by omega
      obtain ⟨r, hr1, hr2, hr3⟩ := chk_at chk1 (k := k) hlt
      have HXc := hidK HR.out
      have HE : Hid (∀ X a n c j, Nb w X Q0 Q1 a n c j B1 B2 n22 l22 → X.cell? ⟨B1, k, none⟩ = some (.string r.key) ∧ X.cell? ⟨B2, k, none⟩ = some (.string r.line)) := fun X a n c j hX => ⟨(cell_at hX.x1 k).trans (strs_at hr2), (cell_at hX.x2 k).trans (strs_at hr3)⟩
      have HC1 : Hid (∀ X a n c, Nb w X Q0 Q1 a n c (k) B1 B2 n22 l22 → Calls Tryz.prog 29 #[.agg #[.slice a n c], .string ⟨#[112, 114, 101, 102, 105, 120]⟩, .string r.key, .string r.line, .bool false] X fun e w' => ∃ a' n' c', e = .returned (.agg #[.slice a' n' c']) ∧ Nb w (w'.setCell ⟨Q1, 0, none⟩ (.slice a' n' c')) Q0 Q1 a' n' c' (k + 1) B1 B2 n22 l22 ∧ Below X.heap.size X w') := fun X a n c hX => by
        exact nb_step hX hr1
      clear hr1 hr2 hr3 HR
      go_wp2_with fail
      refine wp_region_held_drew (S := (fun X => X.cell? ⟨B1, k, none⟩ = some (.string r.key) ∧ X.cell? ⟨B2, k, none⟩ = some (.string r.line))) (by kernel_rfl) ?sA (fun hHeld => ?_)
      case sA => ((try dsimp only); first | exact HE.out _ _ _ _ _ HXc.out | exact HE.out _ _ _ _ _ (HXc.out.more (Below.refl _ _).drew) | exact HE.out _ _ _ _ _ HN1.out)
      have HXn := hidK (HXc.out.more (Below.refl _ _).drew)
      clear HXc
      have HXc := hidK HXn.out
      clear HXn
      refine wpAnyH_take (i := 1) (oi := { dst := some 23, op := Op.move (Operand.tmp 2), type := 55, pos := "ref.go:37", after := #[], guard := none }) (v := ?vA1n1) rfl (by kernel_rfl) (by kernel_rfl) (by kernel_rfl) (fun _ _ _ h => h) (Or.inl ⟨by rfl, ?yA1n1⟩) (by assumption) ?rA1n1
      case yA1n1 => (intro w hSw; (try dsimp only at hSw); first | (go_simp; done) | (go_simp; with_reducible rfl))
      try simp only [Act.put, List.setIfInBounds_toArray, List.set_cons_zero, List.set_cons_succ]
      refine wpAnyH_take (i := 2) (oi := { dst := some 24, op := Op.move (Operand.tmp 4), type := 3, pos := "ref.go:37", after := #[], guard := none }) (v := ?vA2n2) rfl (by kernel_rfl) (by kernel_rfl) (by kernel_rfl) (fun _ _ _ h => h) (Or.inl ⟨by rfl, ?yA2n2⟩) (by assumption) ?rA2n2
      case yA2n2 => (intro w hSw; (try dsimp only at hSw); first | (go_simp; done) | (go_simp; with_reducible rfl))
      try simp only [Act.put, List.setIfInBounds_toArray, List.set_cons_zero, List.set_cons_succ]
      refine wpAnyH_take (i := 3) (oi := { dst := some 25, op := Op.indexAddr 55 (Operand.tmp 23) (Operand.tmp 24), type := 0, pos := "ref.go:37", after := #[{ on := 1, ground := Ground.data }, { on := 2, ground := Ground.data }], guard := none }) (v := ?vA3n3) rfl (by kernel_rfl) (by kernel_rfl) (by kernel_rfl) (fun _ _ _ h => h) (Or.inl ⟨by rfl, ?yA3n3⟩) (by assumption) ?rA3n3
      case yA3n3 => (intro w hSw; (try dsimp only at hSw); first | (go_simp; done) | (go_simp; with_reducible rfl))
      try simp only [Act.put, List.setIfInBounds_toArray, List.set_cons_zero, List.set_cons_succ]
      refine wpAnyH_take (i := 4) (oi := { dst := some 26, op := Op.load 9 (Operand.tmp 25), type := 9, pos := "ref.go:37", after := #[{ on := 3, ground := Ground.data }], guard := none }) (v := ?vA4n4) rfl (by kernel_rfl) (by kernel_rfl) (by kernel_rfl) (fun _ _ _ h => h) (Or.inl ⟨by rfl, ?yA4n4⟩) (by assumption) ?rA4n4
      case yA4n4 => (intro w hSw; (try dsimp only at hSw); first | (go_simp; done) | (go_simp; with_reducible rfl))
      try simp only [Act.put, List.setIfInBounds_toArray, List.set_cons_zero, List.set_cons_succ]
      refine wpAnyH_take (i := 5) (oi := { dst := some 27, op := Op.move (Operand.tmp 3), type := 55, pos := "ref.go:37", after := #[], guard := none }) (v := ?vA5n5) rfl (by kernel_rfl) (by kernel_rfl) (by kernel_rfl) (fun _ _ _ h => h) (Or.inl ⟨by rfl, ?yA5n5⟩) (by assumption) ?rA5n5
      case yA5n5 => (intro w hSw; (try dsimp only at hSw); first | (go_simp; done) | (go_simp; with_reducible rfl))
      try simp only [Act.put, List.setIfInBounds_toArray, List.set_cons_zero, List.set_cons_succ]
      refine wpAnyH_take (i := 6) (oi := { dst := some 28, op := Op.move (Operand.tmp 4), type := 3, pos := "ref.go:37", after := #[], guard := none }) (v := ?vA6n6) rfl (by kernel_rfl) (by kernel_rfl) (by kernel_rfl) (fun _ _ _ h => h) (Or.inl ⟨by rfl, ?yA6n6⟩) (by assumption) ?rA6n6
      case yA6n6 => (intro w hSw; (try dsimp only at hSw); first | (go_simp; done) | (go_simp; with_reducible rfl))
      try simp only [Act.put, List.setIfInBounds_toArray, List.set_cons_zero, List.set_cons_succ]
      refine wpAnyH_take (i := 7) (oi := { dst := some 29, op := Op.indexAddr 55 (Operand.tmp 27) (Operand.tmp 28), type := 0, pos := "ref.go:37", after := #[{ on := 5, ground := Ground.data }, { on := 6, ground := Ground.data }], guard := none }) (v := ?vA7n7) rfl (by kernel_rfl) (by kernel_rfl) (by kernel_rfl) (fun _ _ _ h => h) (Or.inl ⟨by rfl, ?yA7n7⟩) (by assumption) ?rA7n7
      case yA7n7 => (intro w hSw; (try dsimp only at hSw); first | (go_simp; done) | (go_simp; with_reducible rfl))
      try simp only [Act.put, List.setIfInBounds_toArray, List.set_cons_zero, List.set_cons_succ]
      refine wpAnyH_take (i := 8) (oi := { dst := some 30, op := Op.load 9 (Operand.tmp 29), type := 9, pos := "ref.go:37", after := #[{ on := 7, ground := Ground.data }], guard := none }) (v := ?vA8n8) rfl (by kernel_rfl) (by kernel_rfl) (by kernel_rfl) (fun _ _ _ h => h) (Or.inl ⟨by rfl, ?yA8n8⟩) (by assumption) ?rA8n8
      case yA8n8 => (intro w hSw; (try dsimp only at hSw); first | (go_simp; done) | (go_simp; with_reducible rfl))
      try simp only [Act.put, List.setIfInBounds_toArray, List.set_cons_zero, List.set_cons_succ]
      refine wpAnyH_ready (rs := [0]) (by kernel_rfl) (by simp) (AllReadyH.cons (o := { dst := some 22, op := Op.load 33 (Operand.tmp 1), type := 33, pos := "ref.go:37", after := #[], guard := none }) rfl (fun K hK => ?bAn9q0) AllReadyH.nil)
      go_simp
      refine hK.out _ _ ?kAn9o0 (fun hHeld9 => ?_)
      case kAn9o0 => ((try dsimp only); first | exact HE.out _ _ _ _ _ HXc.out | exact HE.out _ _ _ _ _ (HXc.out.more (Below.refl _ _).drew) | exact HE.out _ _ _ _ _ HN1.out)
      clear hK K
      skip
      try simp only [Act.put, List.setIfInBounds_toArray, List.set_cons_zero, List.set_cons_succ]
      refine wpAnyH_ready (rs := [9]) (by kernel_rfl) (by simp) (AllReadyH.cons (o := { dst := some 31, op := Op.call { callee := Callee.value (Operand.func 29), args := #[Operand.tmp 22, Operand.const (Value.string { data := #[112, 114, 101, 102, 105, 120] }), Operand.tmp 26, Operand.tmp 30, Operand.const (Value.bool false)], argTypes := #[33, 9, 9, 9, 4] }, type := 33, pos := "ref.go:37", after := #[{ on := 0, ground := Ground.data }, { on := 4, ground := Ground.data }, { on := 8, ground := Ground.data }], guard := none }) rfl (fun K hK => ?bAn10q0) AllReadyH.nil)
      go_simp
      go_wp2_with (refine (HC1.out _ _ _ _ HXc.out).mono ?_; rintro e X ⟨a', n', c', rfl, h1, h2⟩; have HN1 := hidK h1; have HXn := hidK (HXc.out.more h2); clear HXc; have HXc := hidK HXn.out; clear HXn h1 h2; have y10 := cell_at HXc.out.nq.q1 0; have y11 := free_at HXc.out.nq.q1 0)
      refine hK.out _ _ ?kAn10o9 (fun hHeld10 => ?_)
      case kAn10o9 => ((try dsimp only); first | exact HE.out _ _ _ _ _ HXc.out | exact HE.out _ _ _ _ _ (HXc.out.more (Below.refl _ _).drew) | exact HE.out _ _ _ _ _ HN1.out)
      clear hK K
      try simp only [Act.put, List.setIfInBounds_toArray, List.set_cons_zero, List.set_cons_succ]
      refine wpAnyH_ready (rs := [10]) (by kernel_rfl) (by simp) (AllReadyH.cons (o := { dst := none, op := Op.store 33 (Operand.tmp 1) (Operand.tmp 31), type := 0, pos := "ref.go:37", after := #[{ on := 9, ground := Ground.data }, { on := 9, ground := Ground.chain }, { on := 0, ground := Ground.phase }, { on := 1, ground := Ground.phase }, { on := 2, ground := Ground.phase }, { on := 3, ground := Ground.phase }, { on := 4, ground := Ground.phase }, { on := 5, ground := Ground.phase }, { on := 6, ground := Ground.phase }, { on := 7, ground := Ground.phase }, { on := 8, ground := Ground.phase }, { on := 9, ground := Ground.phase }], guard := none }) rfl (fun K hK => ?bAn11q0) AllReadyH.nil)
      go_simp
      refine hK.out _ _ ?kAn11o10 (fun hHeld11 => ?_)
      case kAn11o10 => ((try dsimp only); first | exact HE.out _ _ _ _ _ HXc.out | exact HE.out _ _ _ _ _ (HXc.out.more (Below.refl _ _).drew) | exact HE.out _ _ _ _ _ HN1.out)
      clear hK K
      skip
      try simp only [Act.put, List.setIfInBounds_toArray, List.set_cons_zero, List.set_cons_succ]
      refine wpAnyH_done (by kernel_rfl) ?_ _
      go_wp2_with fail
      exact ⟨⟨k + 1, a', n', c', by omega, by first | rfl | simp | (simp; omega), first_nb (by omega) HN1.out⟩, by simp [intOf]; omega⟩
    · have ek : k = 22 := by omega
      have HRn : Hid (Nq w wr Q0 Q1 a n c 22) := by
        have h := HR.out.nq
        rw [ek] at h
        exact h
      have j1 : ¬ (k : Int) < 22 := by omega
      obtain ⟨kz, hkz⟩ : ∃ kz : Int, (k : Int) = kz := ⟨_, rfl⟩
      rw [hkz] at j1 ⊢
      clear HR hk hlt ek hkz
      have HQ := hidK HRn.out
      go_wp2_with fail
      go_loopw [5] (fun iv wr => ∃ (k : Nat) (a : Option Addr) (n c : Nat), k ≤ 10 ∧ iv = .int .i64 k ∧ Hid (Nq w wr Q0 Q1 a n c (22 + k))) (fun iv _ => 10 - (intOf iv).toNat)
      case atStart => exact ⟨0, a, n, c, by omega, rfl, HQ⟩
      case round =>
        clear HQ q10
        obtain ⟨k, a, n, c, hk, rfl, HR⟩ := hrel
        by_cases hlt : k < 10
        · have i1 : (k : Int) < 10 := by omega
          obtain ⟨r, hr1, hr2, hr3⟩ := chk_at chk2 (k := k) hlt
          have hq : str (digF (k : Int)) = r.key := by
            unfold g10 at hr2
            rw [List.getElem?_map, List.getElem?_range hlt] at hr2
            exact Option.some.inj hr2
          have hq2 := map_at hr3 hr2
          have hp := rput_any (k : Int) (by omega) (by omega) wr
          rw [hq] at hp
          have hsz : r.key.size ≤ 1 := size_le (l := g10) (by kernel_rfl) hr2
          have hq10 : ∀ X, Below wr.heap.size wr X → Nq w X Q0 Q1 a n c (22 + k) := fun X hX => HR.out.more hX
          have HQx := hidK hq10
          have HC : Hid (∀ Y, Below wr.heap.size wr Y → Calls Tryz.prog 29 #[.agg #[.slice a n c], .string ⟨#[112, 114, 101, 102, 105, 120]⟩, .string r.key, .string (digS' ++ r.key), .bool false] Y fun e w' => ∃ a' n' c', e = .returned (.agg #[.slice a' n' c']) ∧ Nq w (w'.setCell ⟨Q1, 0, none⟩ (.slice a' n' c')) Q0 Q1 a' n' c' (22 + (k + 1)) ∧ Below Y.heap.size Y w') := fun Y hY => by
            rw [hq2]
            exact nq_step (HR.out.more hY) hr1
          have i3 : ¬ 9223372036854775807 < 18 + r.key.size := by omega
          unfold digS' at HC
          clear hr1 hr2 hr3 hq hq2 hq10
          go_wp2_with fail
          refine hp.mono ?_
          rintro e X1 ⟨rfl, hbx⟩
          have HBx := hidK hbx
          have x10 := cell_at (HQx.out _ hbx).q1 0
          have x11 := free_at (HQx.out _ hbx).q1 0
          clear hp hbx
          go_wp2_with fail
          refine (HC.out _ HBx.out).mono ?_
          rintro e X2 ⟨a', n', c', rfl, h1, h2⟩
          have HN := hidK h1
          have hq1 := kp h2 (HQx.out _ HBx.out).q1
          have y10 := cell_at hq1 0
          have y11 := free_at hq1 0
          clear h1 h2 hq1 x10 x11 HC
          go_wp2_with fail
          go_roundw
          case rel => exact ⟨k + 1, a', n', c', by omega, by first | rfl | go_num, HN⟩
          case measure => simp [intOf]; omega
        · have ek : k = 10 := by omega
          have HRn : Hid (Nq w wr Q0 Q1 a n c 32) := by
            have h := HR.out
            rw [ek] at h
            exact h
          have j1 : ¬ (k : Int) < 10 := by omega
          obtain ⟨kz, hkz⟩ : ∃ kz : Int, (k : Int) = kz := ⟨_, rfl⟩
          rw [hkz] at j1 ⊢
          clear HR hk hlt ek hkz
          obtain ⟨V, hV⟩ : ∃ V, V = wr := ⟨_, rfl⟩
          subst hV
          obtain ⟨V3, hV3⟩ : ∃ W, V.alloc (.cells #[.string ⟨#[85, 112]⟩, .string ⟨#[68, 111, 119, 110]⟩, .string ⟨#[76, 101, 102, 116]⟩, .string ⟨#[82, 105, 103, 104, 116]⟩] 9) = W := ⟨_, rfl⟩
          obtain ⟨B3, hB3⟩ : ∃ Q, V.heap.size = Q := ⟨_, rfl⟩
          have hbV3 : Below V.heap.size V V3 := by rw [← hV3]; exact (Below.refl _ _).alloc (Nat.le_refl _) _
          have haV3 : V3.heap[B3]? = some (.cells (w4.map Value.string).toArray 9 (0, 0)) := by rw [← hV3, ← hB3]; exact heap_alloc_new V _
          obtain ⟨V4, hV4⟩ : ∃ W, V3.alloc (.cells #[.string ⟨#[45, 85]⟩, .string ⟨#[45, 68]⟩, .string ⟨#[45, 76]⟩, .string ⟨#[45, 82]⟩] 9) = W := ⟨_, rfl⟩
          obtain ⟨B4, hB4⟩ : ∃ Q, V3.heap.size = Q := ⟨_, rfl⟩
          have hbV4 : Below V3.heap.size V3 V4 := by rw [← hV4]; exact (Below.refl _ _).alloc (Nat.le_refl _) _
          have haV4 : V4.heap[B4]? = some (.cells (f4.map Value.string).toArray 9 (0, 0)) := by rw [← hV4, ← hB4]; exact heap_alloc_new V3 _
          have HB0 : Hid (Nb w V4 Q0 Q1 a n c 32 B3 B4 w4 f4) := ⟨HRn.out.more (below_step hbV3 hbV4), kp hbV4 haV3, haV4⟩
          clear HRn hbV3 haV3 hbV4 haV4
          go_wp2_with fail
          clear hV3 hV4 hB3 hB4
          go_loopw [9] (fun iv wr => ∃ (k : Nat) (a : Option Addr) (n c : Nat), k ≤ 4 ∧ iv = .int .i64 k ∧ Hid (Nb w wr Q0 Q1 a n c (32 + 2 * k) B3 B4 w4 f4)) (fun iv _ => 4 - (intOf iv).toNat)
          case atStart => exact ⟨0, a, n, c, by omega, rfl, HB0⟩
          case round =>
            clear HB0
            obtain ⟨k, a, n, c, hk, rfl, HR⟩ := hrel
            have q10 : wr.cell? ⟨Q1, 0, none⟩ = some (.slice a n c) := cell_at HR.out.nq.q1 0
            by_cases hlt : k < 4
            · have i1 : (k : Int) < 4 := by omega
              obtain ⟨r, hr1, hr2, hr3⟩ := chk_at chk3 (k := k) hlt
              obtain ⟨r2, hs1, hs2, hs3⟩ := chk_at chk4 (k := k) (by rw [List.length_map]; exact hlt)
              obtain ⟨fl, hfl⟩ : ∃ x, f4[k]? = some x := ⟨_, List.getElem?_eq_getElem (by exact hlt)⟩
              have m1 := map_at hr3 hfl
              have m2 := map_at hs2 hr2
              have m3 := map_at hs3 hfl
              have z1 : r.key.size ≤ 10 := size_le (l := w4) (by kernel_rfl) hr2
              have z2 : fl.size ≤ 10 := size_le (l := f4) (by kernel_rfl) hfl
              have i3 : ¬ 9223372036854775807 < 12 + fl.size := by omega
              have i4 : ¬ 9223372036854775807 < 2 + r.key.size := by omega
              have i5 : ¬ 9223372036854775807 < 12 + fl.size := by omega
              have HXc := hidK HR.out
              have HE : Hid (∀ X a n c j, Nb w X Q0 Q1 a n c j B3 B4 w4 f4 → X.cell? ⟨B3, k, none⟩ = some (.string r.key) ∧ X.cell? ⟨B4, k, none⟩ = some (.string fl)) := fun X a n c j hX => ⟨(cell_at hX.x1 k).trans (strs_at hr2), (cell_at hX.x2 k).trans (strs_at hfl)⟩
              have HC1 : Hid (∀ X a n c, Nb w X Q0 Q1 a n c (32 + 2 * k) B3 B4 w4 f4 → Calls Tryz.prog 29 #[.agg #[.slice a n c], .string ⟨#[112, 114, 101, 102, 105, 120]⟩, .string r.key, .string (wayS ++ fl), .bool true] X fun e w' => ∃ a' n' c', e = .returned (.agg #[.slice a' n' c']) ∧ Nb w (w'.setCell ⟨Q1, 0, none⟩ (.slice a' n' c')) Q0 Q1 a' n' c' (32 + 2 * k + 1) B3 B4 w4 f4 ∧ Below X.heap.size X w') := fun X a n c hX => by
                rw [m1]
                exact nb_step hX hr1
              have HC2 : Hid (∀ X a n c, Nb w X Q0 Q1 a n c (32 + 2 * k + 1) B3 B4 w4 f4 → Calls Tryz.prog 29 #[.agg #[.slice a n c], .string ⟨#[112, 114, 101, 102, 105, 120]⟩, .string (cS ++ r.key), .string (rsS ++ fl), .bool true] X fun e w' => ∃ a' n' c', e = .returned (.agg #[.slice a' n' c']) ∧ Nb w (w'.setCell ⟨Q1, 0, none⟩ (.slice a' n' c')) Q0 Q1 a' n' c' (32 + 2 * k + 1 + 1) B3 B4 w4 f4 ∧ Below X.heap.size X w') := fun X a n c hX => by
                rw [m2, m3]
                exact nb_step hX hs1
              unfold wayS at HC1
              unfold cS rsS at HC2
              clear hr1 hr2 hr3 hs1 hs2 hs3 hfl m1 m2 m3 z1 z2 HR
              go_wp2_with fail
              go_cut [1] (fun v X => v = .pointer (some ⟨Q1, 0, none⟩) ∧ ∃ a' n' c', Hid (Nb w X Q0 Q1 a' n' c' (32 + 2 * k + 1) B3 B4 w4 f4))
              case first =>
                refine wp_region_held_drew (S := (fun X => X.cell? ⟨B3, k, none⟩ = some (.string r.key) ∧ X.cell? ⟨B4, k, none⟩ = some (.string fl))) (by kernel_rfl) ?sB (fun hHeld => ?_)
                case sB => ((try dsimp only); first | exact HE.out _ _ _ _ _ HXc.out | exact HE.out _ _ _ _ _ (HXc.out.more (Below.refl _ _).drew) | exact HE.out _ _ _ _ _ HN1.out)
                have HXn := hidK (HXc.out.more (Below.refl _ _).drew)
                clear HXc
                have HXc := hidK HXn.out
                clear HXn
                refine wpAnyH_take (i := 1) (oi := { dst := some 50, op := Op.move (Operand.tmp 7), type := 55, pos := "ref.go:46", after := #[], guard := none }) (v := ?vB1n1) rfl (by kernel_rfl) (by kernel_rfl) (by kernel_rfl) (fun _ _ _ h => h) (Or.inl ⟨by rfl, ?yB1n1⟩) (by assumption) ?rB1n1
                case yB1n1 => (intro w hSw; (try dsimp only at hSw); first | (go_simp; done) | (go_simp; with_reducible rfl))
                try simp only [Act.put, List.setIfInBounds_toArray, List.set_cons_zero, List.set_cons_succ]
                refine wpAnyH_take (i := 2) (oi := { dst := some 51, op := Op.move (Operand.tmp 9), type := 3, pos := "ref.go:46", after := #[], guard := none }) (v := ?vB2n2) rfl (by kernel_rfl) (by kernel_rfl) (by kernel_rfl) (fun _ _ _ h => h) (Or.inl ⟨by rfl, ?yB2n2⟩) (by assumption) ?rB2n2
                case yB2n2 => (intro w hSw; (try dsimp only at hSw); first | (go_simp; done) | (go_simp; with_reducible rfl))
                try simp only [Act.put, List.setIfInBounds_toArray, List.set_cons_zero, List.set_cons_succ]
                refine wpAnyH_take (i := 3) (oi := { dst := some 52, op := Op.indexAddr 55 (Operand.tmp 50) (Operand.tmp 51), type := 0, pos := "ref.go:46", after := #[{ on := 1, ground := Ground.data }, { on := 2, ground := Ground.data }], guard := none }) (v := ?vB3n3) rfl (by kernel_rfl) (by kernel_rfl) (by kernel_rfl) (fun _ _ _ h => h) (Or.inl ⟨by rfl, ?yB3n3⟩) (by assumption) ?rB3n3
                case yB3n3 => (intro w hSw; (try dsimp only at hSw); first | (go_simp; done) | (go_simp; with_reducible rfl))
                try simp only [Act.put, List.setIfInBounds_toArray, List.set_cons_zero, List.set_cons_succ]
                refine wpAnyH_take (i := 4) (oi := { dst := some 53, op := Op.load 9 (Operand.tmp 52), type := 9, pos := "ref.go:46", after := #[{ on := 3, ground := Ground.data }], guard := none }) (v := ?vB4n4) rfl (by kernel_rfl) (by kernel_rfl) (by kernel_rfl) (fun _ _ _ h => h) (Or.inl ⟨by rfl, ?yB4n4⟩) (by assumption) ?rB4n4
                case yB4n4 => (intro w hSw; (try dsimp only at hSw); first | (go_simp; done) | (go_simp; with_reducible rfl))
                try simp only [Act.put, List.setIfInBounds_toArray, List.set_cons_zero, List.set_cons_succ]
                refine wpAnyH_take (i := 5) (oi := { dst := some 54, op := Op.move (Operand.tmp 8), type := 55, pos := "ref.go:46", after := #[], guard := none }) (v := ?vB5n5) rfl (by kernel_rfl) (by kernel_rfl) (by kernel_rfl) (fun _ _ _ h => h) (Or.inl ⟨by rfl, ?yB5n5⟩) (by assumption) ?rB5n5
                case yB5n5 => (intro w hSw; (try dsimp only at hSw); first | (go_simp; done) | (go_simp; with_reducible rfl))
                try simp only [Act.put, List.setIfInBounds_toArray, List.set_cons_zero, List.set_cons_succ]
                refine wpAnyH_take (i := 6) (oi := { dst := some 55, op := Op.move (Operand.tmp 9), type := 3, pos := "ref.go:46", after := #[], guard := none }) (v := ?vB6n6) rfl (by kernel_rfl) (by kernel_rfl) (by kernel_rfl) (fun _ _ _ h => h) (Or.inl ⟨by rfl, ?yB6n6⟩) (by assumption) ?rB6n6
                case yB6n6 => (intro w hSw; (try dsimp only at hSw); first | (go_simp; done) | (go_simp; with_reducible rfl))
                try simp only [Act.put, List.setIfInBounds_toArray, List.set_cons_zero, List.set_cons_succ]
                refine wpAnyH_take (i := 7) (oi := { dst := some 56, op := Op.indexAddr 55 (Operand.tmp 54) (Operand.tmp 55), type := 0, pos := "ref.go:46", after := #[{ on := 5, ground := Ground.data }, { on := 6, ground := Ground.data }], guard := none }) (v := ?vB7n7) rfl (by kernel_rfl) (by kernel_rfl) (by kernel_rfl) (fun _ _ _ h => h) (Or.inl ⟨by rfl, ?yB7n7⟩) (by assumption) ?rB7n7
                case yB7n7 => (intro w hSw; (try dsimp only at hSw); first | (go_simp; done) | (go_simp; with_reducible rfl))
                try simp only [Act.put, List.setIfInBounds_toArray, List.set_cons_zero, List.set_cons_succ]
                refine wpAnyH_take (i := 8) (oi := { dst := some 57, op := Op.load 9 (Operand.tmp 56), type := 9, pos := "ref.go:46", after := #[{ on := 7, ground := Ground.data }], guard := none }) (v := ?vB8n8) rfl (by kernel_rfl) (by kernel_rfl) (by kernel_rfl) (fun _ _ _ h => h) (Or.inl ⟨by rfl, ?yB8n8⟩) (by assumption) ?rB8n8
                case yB8n8 => (intro w hSw; (try dsimp only at hSw); first | (go_simp; done) | (go_simp; with_reducible rfl))
                try simp only [Act.put, List.setIfInBounds_toArray, List.set_cons_zero, List.set_cons_succ]
                refine wpAnyH_take (i := 9) (oi := { dst := some 58, op := Op.binOp BinOp.add 9 (Operand.const (Value.string { data := #[115, 101, 108, 101, 99, 116, 45, 112, 97, 110, 101, 32] })) (Operand.tmp 57) 9, type := 9, pos := "ref.go:46", after := #[{ on := 8, ground := Ground.data }], guard := none }) (v := ?vB9n9) rfl (by kernel_rfl) (by kernel_rfl) (by kernel_rfl) (fun _ _ _ h => h) (Or.inl ⟨by rfl, ?yB9n9⟩) (by assumption) ?rB9n9
                case yB9n9 => (intro w hSw; (try dsimp only at hSw); first | (go_simp; done) | (go_simp; with_reducible rfl))
                try simp only [Act.put, List.setIfInBounds_toArray, List.set_cons_zero, List.set_cons_succ]
                refine wpAnyH_ready (rs := [0]) (by kernel_rfl) (by simp) (AllReadyH.cons (o := { dst := some 49, op := Op.load 33 (Operand.tmp 1), type := 33, pos := "ref.go:46", after := #[], guard := none }) rfl (fun K hK => ?bBn10q0) AllReadyH.nil)
                go_simp
                refine hK.out _ _ ?kBn10o0 (fun hHeld10 => ?_)
                case kBn10o0 => ((try dsimp only); first | exact HE.out _ _ _ _ _ HXc.out | exact HE.out _ _ _ _ _ (HXc.out.more (Below.refl _ _).drew) | exact HE.out _ _ _ _ _ HN1.out)
                clear hK K
                skip
                try simp only [Act.put, List.setIfInBounds_toArray, List.set_cons_zero, List.set_cons_succ]
                refine wpAnyH_ready (rs := [10]) (by kernel_rfl) (by simp) (AllReadyH.cons (o := { dst := some 59, op := Op.call { callee := Callee.value (Operand.func 29), args := #[Operand.tmp 49, Operand.const (Value.string { data := #[112, 114, 101, 102, 105, 120] }), Operand.tmp 53, Operand.tmp 58, Operand.const (Value.bool true)], argTypes := #[33, 9, 9, 9, 4] }, type := 33, pos := "ref.go:46", after := #[{ on := 0, ground := Ground.data }, { on := 4, ground := Ground.data }, { on := 9, ground := Ground.data }], guard := none }) rfl (fun K hK => ?bBn11q0) AllReadyH.nil)
                go_simp
                go_wp2_with (refine (HC1.out _ _ _ _ HXc.out).mono ?_; rintro e X ⟨a', n', c', rfl, h1, h2⟩; have HN1 := hidK h1; have HXn := hidK (HXc.out.more h2); clear HXc; have HXc := hidK HXn.out; clear HXn h1 h2; have y10 := cell_at HXc.out.nq.q1 0; have y11 := free_at HXc.out.nq.q1 0)
                refine hK.out _ _ ?kBn11o10 (fun hHeld11 => ?_)
                case kBn11o10 => ((try dsimp only); first | exact HE.out _ _ _ _ _ HXc.out | exact HE.out _ _ _ _ _ (HXc.out.more (Below.refl _ _).drew) | exact HE.out _ _ _ _ _ HN1.out)
                clear hK K
                try simp only [Act.put, List.setIfInBounds_toArray, List.set_cons_zero, List.set_cons_succ]
                refine wpAnyH_ready (rs := [11]) (by kernel_rfl) (by simp) (AllReadyH.cons (o := { dst := none, op := Op.store 33 (Operand.tmp 1) (Operand.tmp 59), type := 0, pos := "ref.go:46", after := #[{ on := 10, ground := Ground.data }, { on := 10, ground := Ground.chain }, { on := 0, ground := Ground.phase }, { on := 1, ground := Ground.phase }, { on := 2, ground := Ground.phase }, { on := 3, ground := Ground.phase }, { on := 4, ground := Ground.phase }, { on := 5, ground := Ground.phase }, { on := 6, ground := Ground.phase }, { on := 7, ground := Ground.phase }, { on := 8, ground := Ground.phase }, { on := 9, ground := Ground.phase }, { on := 10, ground := Ground.phase }], guard := none }) rfl (fun K hK => ?bBn12q0) AllReadyH.nil)
                go_simp
                refine hK.out _ _ ?kBn12o11 (fun hHeld12 => ?_)
                case kBn12o11 => ((try dsimp only); first | exact HE.out _ _ _ _ _ HXc.out | exact HE.out _ _ _ _ _ (HXc.out.more (Below.refl _ _).drew) | exact HE.out _ _ _ _ _ HN1.out)
                clear hK K
                skip
                try simp only [Act.put, List.setIfInBounds_toArray, List.set_cons_zero, List.set_cons_succ]
                refine wpAnyH_done (by kernel_rfl) ?_ _
                go_wp2_with fail
                go_meet
                case rel => exact ⟨rfl, a', n', c', HN1⟩
              case rest =>
                obtain ⟨rfl, a2, n2, c2, HM⟩ := hcut
                clear HXc q10
                obtain ⟨Y, hY⟩ : ∃ Y, Y = wc := ⟨_, rfl⟩
                subst hY
                have HXc := hidK HM.out
                have d10 : Y.cell? ⟨Q1, 0, none⟩ = some (.slice a2 n2 c2) := cell_at HM.out.nq.q1 0
                clear HC1 HM
                go_wp2_with fail
                refine wp_region_held_drew (S := (fun X => X.cell? ⟨B3, k, none⟩ = some (.string r.key) ∧ X.cell? ⟨B4, k, none⟩ = some (.string fl))) (by kernel_rfl) ?sC (fun hHeld => ?_)
                case sC => ((try dsimp only); first | exact HE.out _ _ _ _ _ HXc.out | exact HE.out _ _ _ _ _ (HXc.out.more (Below.refl _ _).drew) | exact HE.out _ _ _ _ _ HN1.out)
                have HXn := hidK (HXc.out.more (Below.refl _ _).drew)
                clear HXc
                have HXc := hidK HXn.out
                clear HXn
                refine wpAnyH_take (i := 1) (oi := { dst := some 61, op := Op.move (Operand.tmp 7), type := 55, pos := "ref.go:47", after := #[], guard := none }) (v := ?vC1n1) rfl (by kernel_rfl) (by kernel_rfl) (by kernel_rfl) (fun _ _ _ h => h) (Or.inl ⟨by rfl, ?yC1n1⟩) (by assumption) ?rC1n1
                case yC1n1 => (intro w hSw; (try dsimp only at hSw); first | (go_simp; done) | (go_simp; with_reducible rfl))
                try simp only [Act.put, List.setIfInBounds_toArray, List.set_cons_zero, List.set_cons_succ]
                refine wpAnyH_take (i := 2) (oi := { dst := some 62, op := Op.move (Operand.tmp 9), type := 3, pos := "ref.go:47", after := #[], guard := none }) (v := ?vC2n2) rfl (by kernel_rfl) (by kernel_rfl) (by kernel_rfl) (fun _ _ _ h => h) (Or.inl ⟨by rfl, ?yC2n2⟩) (by assumption) ?rC2n2
                case yC2n2 => (intro w hSw; (try dsimp only at hSw); first | (go_simp; done) | (go_simp; with_reducible rfl))
                try simp only [Act.put, List.setIfInBounds_toArray, List.set_cons_zero, List.set_cons_succ]
                refine wpAnyH_take (i := 3) (oi := { dst := some 63, op := Op.indexAddr 55 (Operand.tmp 61) (Operand.tmp 62), type := 0, pos := "ref.go:47", after := #[{ on := 1, ground := Ground.data }, { on := 2, ground := Ground.data }], guard := none }) (v := ?vC3n3) rfl (by kernel_rfl) (by kernel_rfl) (by kernel_rfl) (fun _ _ _ h => h) (Or.inl ⟨by rfl, ?yC3n3⟩) (by assumption) ?rC3n3
                case yC3n3 => (intro w hSw; (try dsimp only at hSw); first | (go_simp; done) | (go_simp; with_reducible rfl))
                try simp only [Act.put, List.setIfInBounds_toArray, List.set_cons_zero, List.set_cons_succ]
                refine wpAnyH_take (i := 4) (oi := { dst := some 64, op := Op.load 9 (Operand.tmp 63), type := 9, pos := "ref.go:47", after := #[{ on := 3, ground := Ground.data }], guard := none }) (v := ?vC4n4) rfl (by kernel_rfl) (by kernel_rfl) (by kernel_rfl) (fun _ _ _ h => h) (Or.inl ⟨by rfl, ?yC4n4⟩) (by assumption) ?rC4n4
                case yC4n4 => (intro w hSw; (try dsimp only at hSw); first | (go_simp; done) | (go_simp; with_reducible rfl))
                try simp only [Act.put, List.setIfInBounds_toArray, List.set_cons_zero, List.set_cons_succ]
                refine wpAnyH_take (i := 5) (oi := { dst := some 65, op := Op.binOp BinOp.add 9 (Operand.const (Value.string { data := #[67, 45] })) (Operand.tmp 64) 9, type := 9, pos := "ref.go:47", after := #[{ on := 4, ground := Ground.data }], guard := none }) (v := ?vC5n5) rfl (by kernel_rfl) (by kernel_rfl) (by kernel_rfl) (fun _ _ _ h => h) (Or.inl ⟨by rfl, ?yC5n5⟩) (by assumption) ?rC5n5
                case yC5n5 => (intro w hSw; (try dsimp only at hSw); first | (go_simp; done) | (go_simp; with_reducible rfl))
                try simp only [Act.put, List.setIfInBounds_toArray, List.set_cons_zero, List.set_cons_succ]
                refine wpAnyH_take (i := 6) (oi := { dst := some 66, op := Op.move (Operand.tmp 8), type := 55, pos := "ref.go:47", after := #[], guard := none }) (v := ?vC6n6) rfl (by kernel_rfl) (by kernel_rfl) (by kernel_rfl) (fun _ _ _ h => h) (Or.inl ⟨by rfl, ?yC6n6⟩) (by assumption) ?rC6n6
                case yC6n6 => (intro w hSw; (try dsimp only at hSw); first | (go_simp; done) | (go_simp; with_reducible rfl))
                try simp only [Act.put, List.setIfInBounds_toArray, List.set_cons_zero, List.set_cons_succ]
                refine wpAnyH_take (i := 7) (oi := { dst := some 67, op := Op.move (Operand.tmp 9), type := 3, pos := "ref.go:47", after := #[], guard := none }) (v := ?vC7n7) rfl (by kernel_rfl) (by kernel_rfl) (by kernel_rfl) (fun _ _ _ h => h) (Or.inl ⟨by rfl, ?yC7n7⟩) (by assumption) ?rC7n7
                case yC7n7 => (intro w hSw; (try dsimp only at hSw); first | (go_simp; done) | (go_simp; with_reducible rfl))
                try simp only [Act.put, List.setIfInBounds_toArray, List.set_cons_zero, List.set_cons_succ]
                refine wpAnyH_take (i := 8) (oi := { dst := some 68, op := Op.indexAddr 55 (Operand.tmp 66) (Operand.tmp 67), type := 0, pos := "ref.go:47", after := #[{ on := 6, ground := Ground.data }, { on := 7, ground := Ground.data }], guard := none }) (v := ?vC8n8) rfl (by kernel_rfl) (by kernel_rfl) (by kernel_rfl) (fun _ _ _ h => h) (Or.inl ⟨by rfl, ?yC8n8⟩) (by assumption) ?rC8n8
                case yC8n8 => (intro w hSw; (try dsimp only at hSw); first | (go_simp; done) | (go_simp; with_reducible rfl))
                try simp only [Act.put, List.setIfInBounds_toArray, List.set_cons_zero, List.set_cons_succ]
                refine wpAnyH_take (i := 9) (oi := { dst := some 69, op := Op.load 9 (Operand.tmp 68), type := 9, pos := "ref.go:47", after := #[{ on := 8, ground := Ground.data }], guard := none }) (v := ?vC9n9) rfl (by kernel_rfl) (by kernel_rfl) (by kernel_rfl) (fun _ _ _ h => h) (Or.inl ⟨by rfl, ?yC9n9⟩) (by assumption) ?rC9n9
                case yC9n9 => (intro w hSw; (try dsimp only at hSw); first | (go_simp; done) | (go_simp; with_reducible rfl))
                try simp only [Act.put, List.setIfInBounds_toArray, List.set_cons_zero, List.set_cons_succ]
                refine wpAnyH_take (i := 10) (oi := { dst := some 70, op := Op.binOp BinOp.add 9 (Operand.const (Value.string { data := #[114, 101, 115, 105, 122, 101, 45, 112, 97, 110, 101, 32] })) (Operand.tmp 69) 9, type := 9, pos := "ref.go:47", after := #[{ on := 9, ground := Ground.data }], guard := none }) (v := ?vC10n10) rfl (by kernel_rfl) (by kernel_rfl) (by kernel_rfl) (fun _ _ _ h => h) (Or.inl ⟨by rfl, ?yC10n10⟩) (by assumption) ?rC10n10
                case yC10n10 => (intro w hSw; (try dsimp only at hSw); first | (go_simp; done) | (go_simp; with_reducible rfl))
                try simp only [Act.put, List.setIfInBounds_toArray, List.set_cons_zero, List.set_cons_succ]
                refine wpAnyH_ready (rs := [0]) (by kernel_rfl) (by simp) (AllReadyH.cons (o := { dst := some 60, op := Op.load 33 (Operand.tmp 1), type := 33, pos := "ref.go:47", after := #[], guard := none }) rfl (fun K hK => ?bCn11q0) AllReadyH.nil)
                go_simp
                refine hK.out _ _ ?kCn11o0 (fun hHeld11 => ?_)
                case kCn11o0 => ((try dsimp only); first | exact HE.out _ _ _ _ _ HXc.out | exact HE.out _ _ _ _ _ (HXc.out.more (Below.refl _ _).drew) | exact HE.out _ _ _ _ _ HN1.out)
                clear hK K
                skip
                try simp only [Act.put, List.setIfInBounds_toArray, List.set_cons_zero, List.set_cons_succ]
                refine wpAnyH_ready (rs := [11]) (by kernel_rfl) (by simp) (AllReadyH.cons (o := { dst := some 71, op := Op.call { callee := Callee.value (Operand.func 29), args := #[Operand.tmp 60, Operand.const (Value.string { data := #[112, 114, 101, 102, 105, 120] }), Operand.tmp 65, Operand.tmp 70, Operand.const (Value.bool true)], argTypes := #[33, 9, 9, 9, 4] }, type := 33, pos := "ref.go:47", after := #[{ on := 0, ground := Ground.data }, { on := 5, ground := Ground.data }, { on := 10, ground := Ground.data }], guard := none }) rfl (fun K hK => ?bCn12q0) AllReadyH.nil)
                go_simp
                go_wp2_with (refine (HC2.out _ _ _ _ HXc.out).mono ?_; rintro e X ⟨a', n', c', rfl, h1, h2⟩; have HN1 := hidK h1; have HXn := hidK (HXc.out.more h2); clear HXc; have HXc := hidK HXn.out; clear HXn h1 h2; have y10 := cell_at HXc.out.nq.q1 0; have y11 := free_at HXc.out.nq.q1 0)
                refine hK.out _ _ ?kCn12o11 (fun hHeld12 => ?_)
                case kCn12o11 => ((try dsimp only); first | exact HE.out _ _ _ _ _ HXc.out | exact HE.out _ _ _ _ _ (HXc.out.more (Below.refl _ _).drew) | exact HE.out _ _ _ _ _ HN1.out)
                clear hK K
                try simp only [Act.put, List.setIfInBounds_toArray, List.set_cons_zero, List.set_cons_succ]
                refine wpAnyH_ready (rs := [12]) (by kernel_rfl) (by simp) (AllReadyH.cons (o := { dst := none, op := Op.store 33 (Operand.tmp 1) (Operand.tmp 71), type := 0, pos := "ref.go:47", after := #[{ on := 11, ground := Ground.data }, { on := 11, ground := Ground.chain }, { on := 0, ground := Ground.phase }, { on := 1, ground := Ground.phase }, { on := 2, ground := Ground.phase }, { on := 3, ground := Ground.phase }, { on := 4, ground := Ground.phase }, { on := 5, ground := Ground.phase }, { on := 6, ground := Ground.phase }, { on := 7, ground := Ground.phase }, { on := 8, ground := Ground.phase }, { on := 9, ground := Ground.phase }, { on := 10, ground := Ground.phase }, { on := 11, ground := Ground.phase }], guard := none }) rfl (fun K hK => ?bCn13q0) AllReadyH.nil)
                go_simp
                refine hK.out _ _ ?kCn13o12 (fun hHeld13 => ?_)
                case kCn13o12 => ((try dsimp only); first | exact HE.out _ _ _ _ _ HXc.out | exact HE.out _ _ _ _ _ (HXc.out.more (Below.refl _ _).drew) | exact HE.out _ _ _ _ _ HN1.out)
                clear hK K
                skip
                try simp only [Act.put, List.setIfInBounds_toArray, List.set_cons_zero, List.set_cons_succ]
                refine wpAnyH_done (by kernel_rfl) ?_ _
                go_wp2_with fail
                exact ⟨⟨k + 1, a', n', c', by omega, by first | rfl | simp | (simp; omega), first_nb (by omega) HN1.out⟩, by simp [intOf]; omega⟩
            · have ek : k = 4 := by omega
              have HRn : Hid (Nq w wr Q0 Q1 a n c 40) := by
                have h := HR.out.nq
                rw [ek] at h
                exact h
              have j1 : ¬ (k : Int) < 4 := by omega
              obtain ⟨kz, hkz⟩ : ∃ kz : Int, (k : Int) = kz := ⟨_, rfl⟩
              rw [hkz] at j1 ⊢
              clear HR hk hlt ek hkz
              obtain ⟨V, hV⟩ : ∃ V, V = wr := ⟨_, rfl⟩
              subst hV
              obtain ⟨V3, hV3⟩ : ∃ W, V.alloc (.cells #[.string ⟨#[85, 112]⟩, .string ⟨#[68, 111, 119, 110]⟩, .string ⟨#[76, 101, 102, 116]⟩, .string ⟨#[82, 105, 103, 104, 116]⟩, .string ⟨#[80, 97, 103, 101, 85, 112]⟩, .string ⟨#[80, 97, 103, 101, 68, 111, 119, 110]⟩, .string ⟨#[67, 45, 97]⟩, .string ⟨#[67, 45, 101]⟩, .string ⟨#[77, 45, 102]⟩, .string ⟨#[77, 45, 98]⟩, .string ⟨#[77, 45, 60]⟩, .string ⟨#[77, 45, 62]⟩, .string ⟨#[67, 45, 83, 112, 97, 99, 101]⟩, .string ⟨#[67, 45, 119]⟩, .string ⟨#[77, 45, 119]⟩, .string ⟨#[110]⟩, .string ⟨#[78]⟩, .string ⟨#[67, 45, 103]⟩, .string ⟨#[113]⟩, .string ⟨#[69, 115, 99, 97, 112, 101]⟩] 9) = W := ⟨_, rfl⟩
              obtain ⟨B5, hB5⟩ : ∃ Q, V.heap.size = Q := ⟨_, rfl⟩
              have hbV3 : Below V.heap.size V V3 := by rw [← hV3]; exact (Below.refl _ _).alloc (Nat.le_refl _) _
              have haV3 : V3.heap[B5]? = some (.cells (k20.map Value.string).toArray 9 (0, 0)) := by rw [← hV3, ← hB5]; exact heap_alloc_new V _
              obtain ⟨V4, hV4⟩ : ∃ W, V3.alloc (.cells #[.string ⟨#[99, 117, 114, 115, 111, 114, 45, 117, 112]⟩, .string ⟨#[99, 117, 114, 115, 111, 114, 45, 100, 111, 119, 110]⟩, .string ⟨#[99, 117, 114, 115, 111, 114, 45, 108, 101, 102, 116]⟩, .string ⟨#[99, 117, 114, 115, 111, 114, 45, 114, 105, 103, 104, 116]⟩, .string ⟨#[112, 97, 103, 101, 45, 117, 112]⟩, .string ⟨#[112, 97, 103, 101, 45, 100, 111, 119, 110]⟩, .string ⟨#[115, 116, 97, 114, 116, 45, 111, 102, 45, 108, 105, 110, 101]⟩, .string ⟨#[101, 110, 100, 45, 111, 102, 45, 108, 105, 110, 101]⟩, .string ⟨#[110, 101, 120, 116, 45, 119, 111, 114, 100]⟩, .string ⟨#[112, 114, 101, 118, 105, 111, 117, 115, 45, 119, 111, 114, 100]⟩, .string ⟨#[104, 105, 115, 116, 111, 114, 121, 45, 116, 111, 112]⟩, .string ⟨#[104, 105, 115, 116, 111, 114, 121, 45, 98, 111, 116, 116, 111, 109]⟩, .string ⟨#[98, 101, 103, 105, 110, 45, 115, 101, 108, 101, 99, 116, 105, 111, 110]⟩, .string ⟨#[99, 111, 112, 121, 45, 115, 101, 108, 101, 99, 116, 105, 111, 110]⟩, .string ⟨#[99, 111, 112, 121, 45, 115, 101, 108, 101, 99, 116, 105, 111, 110]⟩, .string ⟨#[115, 101, 97, 114, 99, 104, 45, 97, 103, 97, 105, 110]⟩, .string ⟨#[115, 101, 97, 114, 99, 104, 45, 114, 101, 118, 101, 114, 115, 101]⟩, .string ⟨#[99, 108, 101, 97, 114, 45, 115, 101, 108, 101, 99, 116, 105, 111, 110]⟩, .string ⟨#[99, 97, 110, 99, 101, 108]⟩, .string ⟨#[99, 97, 110, 99, 101, 108]⟩] 9) = W := ⟨_, rfl⟩
              obtain ⟨B6, hB6⟩ : ∃ Q, V3.heap.size = Q := ⟨_, rfl⟩
              have hbV4 : Below V3.heap.size V3 V4 := by rw [← hV4]; exact (Below.refl _ _).alloc (Nat.le_refl _) _
              have haV4 : V4.heap[B6]? = some (.cells (d20.map Value.string).toArray 9 (0, 0)) := by rw [← hV4, ← hB6]; exact heap_alloc_new V3 _
              have HB0 : Hid (Nb w V4 Q0 Q1 a n c 40 B5 B6 k20 d20) := ⟨HRn.out.more (below_step hbV3 hbV4), kp hbV4 haV3, haV4⟩
              clear HRn hbV3 haV3 hbV4 haV4
              go_wp2_with fail
              clear hV3 hV4 hB5 hB6
              go_loopw [12] (fun iv wr => ∃ (k : Nat) (a : Option Addr) (n c : Nat), k ≤ 20 ∧ iv = .int .i64 k ∧ Hid (Nb w wr Q0 Q1 a n c (40 + k) B5 B6 k20 d20)) (fun iv _ => 20 - (intOf iv).toNat)
              case atStart => exact ⟨0, a, n, c, by omega, rfl, HB0⟩
              case round =>
                clear HB0
                obtain ⟨k, a, n, c, hk, rfl, HR⟩ := hrel
                have q10 : wr.cell? ⟨Q1, 0, none⟩ = some (.slice a n c) := cell_at HR.out.nq.q1 0
                by_cases hlt : k < 20
                · have i1 : (k : Int) < 20 := by omega
                  obtain ⟨r, hr1, hr2, hr3⟩ := chk_at chk5 (k := k) hlt
                  obtain ⟨fl, hfl⟩ : ∃ x, d20[k]? = some x := ⟨_, List.getElem?_eq_getElem (by exact hlt)⟩
                  have m1 := map_at hr3 hfl
                  have z2 : fl.size ≤ 100 := size_le (l := d20) (by kernel_rfl) hfl
                  have i3 : ¬ 9223372036854775807 < 5 + fl.size := by omega
                  have HXc := hidK HR.out
                  have HE : Hid (∀ X a n c j, Nb w X Q0 Q1 a n c j B5 B6 k20 d20 → X.cell? ⟨B5, k, none⟩ = some (.string r.key) ∧ X.cell? ⟨B6, k, none⟩ = some (.string fl)) := fun X a n c j hX => ⟨(cell_at hX.x1 k).trans (strs_at hr2), (cell_at hX.x2 k).trans (strs_at hfl)⟩
                  have HC1 : Hid (∀ X a n c, Nb w X Q0 Q1 a n c (40 + k) B5 B6 k20 d20 → Calls Tryz.prog 29 #[.agg #[.slice a n c], .string ⟨#[99, 111, 112, 121, 45, 109, 111, 100, 101]⟩, .string r.key, .string (cpS ++ fl), .bool false] X fun e w' => ∃ a' n' c', e = .returned (.agg #[.slice a' n' c']) ∧ Nb w (w'.setCell ⟨Q1, 0, none⟩ (.slice a' n' c')) Q0 Q1 a' n' c' (40 + k + 1) B5 B6 k20 d20 ∧ Below X.heap.size X w') := fun X a n c hX => by
                    rw [m1]
                    exact nb_step hX hr1
                  unfold cpS at HC1
                  clear hr1 hr2 hr3 hfl m1 z2 HR
                  go_wp2_with fail
                  refine wp_region_held_drew (S := (fun X => X.cell? ⟨B5, k, none⟩ = some (.string r.key) ∧ X.cell? ⟨B6, k, none⟩ = some (.string fl))) (by kernel_rfl) ?sD (fun hHeld => ?_)
                  case sD => ((try dsimp only); first | exact HE.out _ _ _ _ _ HXc.out | exact HE.out _ _ _ _ _ (HXc.out.more (Below.refl _ _).drew) | exact HE.out _ _ _ _ _ HN1.out)
                  have HXn := hidK (HXc.out.more (Below.refl _ _).drew)
                  clear HXc
                  have HXc := hidK HXn.out
                  clear HXn
                  refine wpAnyH_take (i := 1) (oi := { dst := some 81, op := Op.move (Operand.tmp 10), type := 55, pos := "ref.go:52", after := #[], guard := none }) (v := ?vD1n1) rfl (by kernel_rfl) (by kernel_rfl) (by kernel_rfl) (fun _ _ _ h => h) (Or.inl ⟨by rfl, ?yD1n1⟩) (by assumption) ?rD1n1
                  case yD1n1 => (intro w hSw; (try dsimp only at hSw); first | (go_simp; done) | (go_simp; with_reducible rfl))
                  try simp only [Act.put, List.setIfInBounds_toArray, List.set_cons_zero, List.set_cons_succ]
                  refine wpAnyH_take (i := 2) (oi := { dst := some 82, op := Op.move (Operand.tmp 12), type := 3, pos := "ref.go:52", after := #[], guard := none }) (v := ?vD2n2) rfl (by kernel_rfl) (by kernel_rfl) (by kernel_rfl) (fun _ _ _ h => h) (Or.inl ⟨by rfl, ?yD2n2⟩) (by assumption) ?rD2n2
                  case yD2n2 => (intro w hSw; (try dsimp only at hSw); first | (go_simp; done) | (go_simp; with_reducible rfl))
                  try simp only [Act.put, List.setIfInBounds_toArray, List.set_cons_zero, List.set_cons_succ]
                  refine wpAnyH_take (i := 3) (oi := { dst := some 83, op := Op.indexAddr 55 (Operand.tmp 81) (Operand.tmp 82), type := 0, pos := "ref.go:52", after := #[{ on := 1, ground := Ground.data }, { on := 2, ground := Ground.data }], guard := none }) (v := ?vD3n3) rfl (by kernel_rfl) (by kernel_rfl) (by kernel_rfl) (fun _ _ _ h => h) (Or.inl ⟨by rfl, ?yD3n3⟩) (by assumption) ?rD3n3
                  case yD3n3 => (intro w hSw; (try dsimp only at hSw); first | (go_simp; done) | (go_simp; with_reducible rfl))
                  try simp only [Act.put, List.setIfInBounds_toArray, List.set_cons_zero, List.set_cons_succ]
                  refine wpAnyH_take (i := 4) (oi := { dst := some 84, op := Op.load 9 (Operand.tmp 83), type := 9, pos := "ref.go:52", after := #[{ on := 3, ground := Ground.data }], guard := none }) (v := ?vD4n4) rfl (by kernel_rfl) (by kernel_rfl) (by kernel_rfl) (fun _ _ _ h => h) (Or.inl ⟨by rfl, ?yD4n4⟩) (by assumption) ?rD4n4
                  case yD4n4 => (intro w hSw; (try dsimp only at hSw); first | (go_simp; done) | (go_simp; with_reducible rfl))
                  try simp only [Act.put, List.setIfInBounds_toArray, List.set_cons_zero, List.set_cons_succ]
                  refine wpAnyH_take (i := 5) (oi := { dst := some 85, op := Op.move (Operand.tmp 11), type := 55, pos := "ref.go:52", after := #[], guard := none }) (v := ?vD5n5) rfl (by kernel_rfl) (by kernel_rfl) (by kernel_rfl) (fun _ _ _ h => h) (Or.inl ⟨by rfl, ?yD5n5⟩) (by assumption) ?rD5n5
                  case yD5n5 => (intro w hSw; (try dsimp only at hSw); first | (go_simp; done) | (go_simp; with_reducible rfl))
                  try simp only [Act.put, List.setIfInBounds_toArray, List.set_cons_zero, List.set_cons_succ]
                  refine wpAnyH_take (i := 6) (oi := { dst := some 86, op := Op.move (Operand.tmp 12), type := 3, pos := "ref.go:52", after := #[], guard := none }) (v := ?vD6n6) rfl (by kernel_rfl) (by kernel_rfl) (by kernel_rfl) (fun _ _ _ h => h) (Or.inl ⟨by rfl, ?yD6n6⟩) (by assumption) ?rD6n6
                  case yD6n6 => (intro w hSw; (try dsimp only at hSw); first | (go_simp; done) | (go_simp; with_reducible rfl))
                  try simp only [Act.put, List.setIfInBounds_toArray, List.set_cons_zero, List.set_cons_succ]
                  refine wpAnyH_take (i := 7) (oi := { dst := some 87, op := Op.indexAddr 55 (Operand.tmp 85) (Operand.tmp 86), type := 0, pos := "ref.go:52", after := #[{ on := 5, ground := Ground.data }, { on := 6, ground := Ground.data }], guard := none }) (v := ?vD7n7) rfl (by kernel_rfl) (by kernel_rfl) (by kernel_rfl) (fun _ _ _ h => h) (Or.inl ⟨by rfl, ?yD7n7⟩) (by assumption) ?rD7n7
                  case yD7n7 => (intro w hSw; (try dsimp only at hSw); first | (go_simp; done) | (go_simp; with_reducible rfl))
                  try simp only [Act.put, List.setIfInBounds_toArray, List.set_cons_zero, List.set_cons_succ]
                  refine wpAnyH_take (i := 8) (oi := { dst := some 88, op := Op.load 9 (Operand.tmp 87), type := 9, pos := "ref.go:52", after := #[{ on := 7, ground := Ground.data }], guard := none }) (v := ?vD8n8) rfl (by kernel_rfl) (by kernel_rfl) (by kernel_rfl) (fun _ _ _ h => h) (Or.inl ⟨by rfl, ?yD8n8⟩) (by assumption) ?rD8n8
                  case yD8n8 => (intro w hSw; (try dsimp only at hSw); first | (go_simp; done) | (go_simp; with_reducible rfl))
                  try simp only [Act.put, List.setIfInBounds_toArray, List.set_cons_zero, List.set_cons_succ]
                  refine wpAnyH_take (i := 9) (oi := { dst := some 89, op := Op.binOp BinOp.add 9 (Operand.const (Value.string { data := #[99, 111, 112, 121, 32] })) (Operand.tmp 88) 9, type := 9, pos := "ref.go:52", after := #[{ on := 8, ground := Ground.data }], guard := none }) (v := ?vD9n9) rfl (by kernel_rfl) (by kernel_rfl) (by kernel_rfl) (fun _ _ _ h => h) (Or.inl ⟨by rfl, ?yD9n9⟩) (by assumption) ?rD9n9
                  case yD9n9 => (intro w hSw; (try dsimp only at hSw); first | (go_simp; done) | (go_simp; with_reducible rfl))
                  try simp only [Act.put, List.setIfInBounds_toArray, List.set_cons_zero, List.set_cons_succ]
                  refine wpAnyH_ready (rs := [0]) (by kernel_rfl) (by simp) (AllReadyH.cons (o := { dst := some 80, op := Op.load 33 (Operand.tmp 1), type := 33, pos := "ref.go:52", after := #[], guard := none }) rfl (fun K hK => ?bDn10q0) AllReadyH.nil)
                  go_simp
                  refine hK.out _ _ ?kDn10o0 (fun hHeld10 => ?_)
                  case kDn10o0 => ((try dsimp only); first | exact HE.out _ _ _ _ _ HXc.out | exact HE.out _ _ _ _ _ (HXc.out.more (Below.refl _ _).drew) | exact HE.out _ _ _ _ _ HN1.out)
                  clear hK K
                  skip
                  try simp only [Act.put, List.setIfInBounds_toArray, List.set_cons_zero, List.set_cons_succ]
                  refine wpAnyH_ready (rs := [10]) (by kernel_rfl) (by simp) (AllReadyH.cons (o := { dst := some 90, op := Op.call { callee := Callee.value (Operand.func 29), args := #[Operand.tmp 80, Operand.const (Value.string { data := #[99, 111, 112, 121, 45, 109, 111, 100, 101] }), Operand.tmp 84, Operand.tmp 89, Operand.const (Value.bool false)], argTypes := #[33, 9, 9, 9, 4] }, type := 33, pos := "ref.go:52", after := #[{ on := 0, ground := Ground.data }, { on := 4, ground := Ground.data }, { on := 9, ground := Ground.data }], guard := none }) rfl (fun K hK => ?bDn11q0) AllReadyH.nil)
                  go_simp
                  go_wp2_with (refine (HC1.out _ _ _ _ HXc.out).mono ?_; rintro e X ⟨a', n', c', rfl, h1, h2⟩; have HN1 := hidK h1; have HXn := hidK (HXc.out.more h2); clear HXc; have HXc := hidK HXn.out; clear HXn h1 h2; have y10 := cell_at HXc.out.nq.q1 0; have y11 := free_at HXc.out.nq.q1 0)
                  refine hK.out _ _ ?kDn11o10 (fun hHeld11 => ?_)
                  case kDn11o10 => ((try dsimp only); first | exact HE.out _ _ _ _ _ HXc.out | exact HE.out _ _ _ _ _ (HXc.out.more (Below.refl _ _).drew) | exact HE.out _ _ _ _ _ HN1.out)
                  clear hK K
                  try simp only [Act.put, List.setIfInBounds_toArray, List.set_cons_zero, List.set_cons_succ]
                  refine wpAnyH_ready (rs := [11]) (by kernel_rfl) (by simp) (AllReadyH.cons (o := { dst := none, op := Op.store 33 (Operand.tmp 1) (Operand.tmp 90), type := 0, pos := "ref.go:52", after := #[{ on := 10, ground := Ground.data }, { on := 10, ground := Ground.chain }, { on := 0, ground := Ground.phase }, { on := 1, ground := Ground.phase }, { on := 2, ground := Ground.phase }, { on := 3, ground := Ground.phase }, { on := 4, ground := Ground.phase }, { on := 5, ground := Ground.phase }, { on := 6, ground := Ground.phase }, { on := 7, ground := Ground.phase }, { on := 8, ground := Ground.phase }, { on := 9, ground := Ground.phase }, { on := 10, ground := Ground.phase }], guard := none }) rfl (fun K hK => ?bDn12q0) AllReadyH.nil)
                  go_simp
                  refine hK.out _ _ ?kDn12o11 (fun hHeld12 => ?_)
                  case kDn12o11 => ((try dsimp only); first | exact HE.out _ _ _ _ _ HXc.out | exact HE.out _ _ _ _ _ (HXc.out.more (Below.refl _ _).drew) | exact HE.out _ _ _ _ _ HN1.out)
                  clear hK K
                  skip
                  try simp only [Act.put, List.setIfInBounds_toArray, List.set_cons_zero, List.set_cons_succ]
                  refine wpAnyH_done (by kernel_rfl) ?_ _
                  go_wp2_with fail
                  exact ⟨⟨k + 1, a', n', c', by omega, by first | rfl | simp | (simp; omega), first_nb (by omega) HN1.out⟩, by simp [intOf]; omega⟩
                · obtain rfl : k = 20 := by omega
                  have z0 := cell_at HR.out.nq.q0 0
                  have f0 := free_at HR.out.nq.q0 0
                  have HQ := hidK HR.out.nq
                  clear HR
                  go_wp2_with fail
                  refine ret_cell1 rfl rfl (two_at HQ.out.q0 _) Tryz.underlying33 rfl infoTabs rfl ⟨.slice a n c, rfl, ?_, HQ.out.below.setCell HQ.out.lo.1 _⟩
                  have h := HQ.out.see
                  rw [List.take_of_length_le (by rw [docL_len]; exact Nat.le_refl _)] at h
                  exact h.set1 HQ.out.q0 _
end Go.Proofs.YtbonnjilbocldaaGreatDoor
