/-
  Layouts: the document's grown, of every list.
-/
import Derived.Test.YtcjcekaahooamaaLRefM
namespace Go.Proofs.Ytcjcekaahooamaa
open Go.RowKit
set_option linter.unusedVariables false
set_option maxRecDepth 100000

/-- What grown leaves. -/
def GrowGood (l : List CellV) (c : CellV) (r : List CellV) (w : World) (e : Ending) (w' : World) : Prop :=
  ∃ sa sn sc fp pre, e = .returned (.tuple #[.agg (nodeV (growF c r).1 (.slice sa sn sc)), .int .i64 (pre : List CellV).length]) ∧ l = pre ++ (growF c r).2 ∧ (growF c r).1.In w' (.slice sa sn sc) fp ∧ fp.Nodup ∧ (∀ q ∈ fp, w.heap.size ≤ q) ∧ Below w.heap.size w w'

/-- How far grown has come. -/
structure GrowTo (l : List CellV) (c : CellV) (r0 : List CellV) (w : World) (sl : Value) (ts : List Node) (pre r : List CellV) (wr : World) : Prop where
  res : wr.heap[w.heap.size]? = some (.cells #[.int .i64 0, .int .i64 0, .int .i64 0, .int .i64 0, .slice none 0 0] 48 (0, 0))
  cel : wr.heap[w.heap.size + 1]? = some (.cells #[.int .i64 c.depth, .int .i64 c.kind, .int .i64 c.x, .int .i64 c.y, .int .i64 c.w, .int .i64 c.h, .int .i64 c.p] 33 (0, 0))
  nod : wr.heap[w.heap.size + 2]? = some (.cells #[.int .i64 c.kind, .int .i64 c.w, .int .i64 c.h, .int .i64 c.p, sl] 48 (0, 0))
  row : ∃ cs fs, wr.ownsRow 0 48 5 sl ts.length cs ∧ nodesIn wr ts cs fs ∧ (sl.ownBlock.toList ++ fs).Nodup ∧ ∀ q ∈ sl.ownBlock.toList ++ fs, w.heap.size + 3 ≤ q
  eq : growAllF c.depth r0 = (ts ++ (growAllF c.depth r).1, (growAllF c.depth r).2)
  at_ : l = pre ++ r
  below : Below w.heap.size w wr
  len : ts.length + r.length ≤ r0.length

theorem block3 (w : World) (o1 o2 o3 : Obj) : (((w.alloc o1).alloc o2).alloc o3).heap[w.heap.size]? = (w.alloc o1).heap[w.heap.size]? ∧ (((w.alloc o1).alloc o2).alloc o3).heap[w.heap.size + 1]? = ((w.alloc o1).alloc o2).heap[w.heap.size + 1]? := by
  have b1 := (Below.refl ((w.alloc o1).heap.size) (w.alloc o1)).alloc (Nat.le_refl _) o2
  have b2 := (Below.refl (((w.alloc o1).alloc o2).heap.size) ((w.alloc o1).alloc o2)).alloc (Nat.le_refl _) o3
  refine ⟨(b2.block _ (by simp; omega)).trans (b1.block _ (by simp)), b2.block _ (by simp)⟩
theorem GrowTo.start (l : List CellV) (c : CellV) (r0 pre : List CellV) (w : World) (hl : l = pre ++ r0) :
    GrowTo l c r0 w (.slice none 0 0) [] pre r0 (((w.alloc (.cells #[.int .i64 0, .int .i64 0, .int .i64 0, .int .i64 0, .slice none 0 0] 48)).alloc (.cells #[.int .i64 c.depth, .int .i64 c.kind, .int .i64 c.x, .int .i64 c.y, .int .i64 c.w, .int .i64 c.h, .int .i64 c.p] 33)).alloc (.cells #[.int .i64 c.kind, .int .i64 c.w, .int .i64 c.h, .int .i64 c.p, .slice none 0 0] 48)) := by
  have h3 := block3 w (.cells #[.int .i64 0, .int .i64 0, .int .i64 0, .int .i64 0, .slice none 0 0] 48) (.cells #[.int .i64 c.depth, .int .i64 c.kind, .int .i64 c.x, .int .i64 c.y, .int .i64 c.w, .int .i64 c.h, .int .i64 c.p] 33) (.cells #[.int .i64 c.kind, .int .i64 c.w, .int .i64 c.h, .int .i64 c.p, .slice none 0 0] 48)
  refine ⟨h3.1.trans (heap_alloc_new _ _), h3.2.trans ?_, ?_, ⟨[], [], World.ownsRow_nil _ _ _ _, ⟨rfl, rfl⟩, by simp [Value.ownBlock], by simp [Value.ownBlock]⟩, by simp, hl, ?_, by simp⟩
  · exact block_new _ _ (by simp) _ _
  · exact block_new _ _ (by simp) _ _
  · exact (((Below.refl _ _).alloc (Nat.le_refl _) _).alloc (by simp) _).alloc (by simp; omega) _

theorem GrowTo.done {l : List CellV} {c : CellV} {r0 : List CellV} {w : World} {sl : Value} {ts : List Node} {pre r : List CellV} {wr : World} (h : GrowTo l c r0 w sl ts pre r wr) (hr : growAllF c.depth r = ([], r)) : growF c r0 = (.mk c.kind c.w c.h c.p ts, r) := by
  rw [growF_eq, h.eq, hr]
  simp

theorem GrowTo.next {l : List CellV} {c : CellV} {r0 : List CellV} {w : World} {sl : Value} {ts : List Node} {pre : List CellV} {c' : CellV} {r1 : List CellV} {wr : World} (h : GrowTo l c r0 w sl ts pre (c' :: r1) wr) (hd : c.depth < c'.depth) {sa : Option Addr} {sn sc : Nat} {fp : List Nat} {pre' : List CellV} {w2 : World} (hl : l = pre' ++ (growF c' r1).2) (hN : (growF c' r1).1.In w2 (.slice sa sn sc) fp) (hnd : fp.Nodup) (hfp : ∀ q ∈ fp, wr.heap.size ≤ q) (hb : Below wr.heap.size wr w2) (o : Obj) :
    w2.heap[w.heap.size + 2]? = some (.cells #[.int .i64 c.kind, .int .i64 c.w, .int .i64 c.h, .int .i64 c.p, sl] 48 (0, 0)) ∧ ∃ cs, (w2.alloc o).ownsRow 0 48 5 sl ts.length cs ∧ ts.length ≤ 1000000 + r0.length ∧ ∀ o' sl' w5, w5.ownsRow 0 48 5 sl' (ts.length + 1) (cs ++ nodeL (growF c' r1).1 (.slice sa sn sc)) → ((w2.alloc o).alloc o').grownBy w5 sl.ownBlock → (sl'.ownBlock = sl.ownBlock ∨ sl'.ownBlock = some ((w2.alloc o).alloc o').heap.size) →
      w5.heap[w.heap.size + 2]? = some (.cells #[.int .i64 c.kind, .int .i64 c.w, .int .i64 c.h, .int .i64 c.p, sl] 48 (0, 0)) ∧ GrowTo l c r0 w sl' (ts ++ [(growF c' r1).1]) pre' (growF c' r1).2 (w5.setCell ⟨w.heap.size + 2, 4, none⟩ sl') := by
  obtain ⟨cs, fs, h1, h2, h3, h4⟩ := h.row
  have hlt2 : w.heap.size + 2 < wr.heap.size := lt_of_block h.nod
  have hsz2 := hb.size
  have hsz3 : (w2.alloc o).heap.size = w2.heap.size + 1 := by simp
  have hlen := h.len
  rw [List.length_cons] at hlen
  have hsh := growF_shorter c' r1
  refine ⟨(hb.block _ hlt2).trans h.nod, cs, World.ownsRow.alloc (own_kept5 h1 fun q hq => hb.block q (own_lt5 h1 q hq)) o, by omega, fun o' sl' w5 k1 k2 k3 => ?_⟩
  have hsz4 : ((w2.alloc o).alloc o').heap.size = w2.heap.size + 2 := by simp
  have hk0 : ∀ q, q < w2.heap.size → q ∉ sl.ownBlock.toList → w5.heap[q]? = w2.heap[q]? := fun q hq hn => (k2.block q (by omega) (by intro e; exact hn (by rw [← e]; simp))).trans ((((Below.refl w2.heap.size w2).alloc (Nat.le_refl _) o).alloc (by omega) o').block q hq)
  have hlow := own_lt5 h1
  obtain ⟨n1, n2, n3⟩ := List.nodup_append.1 h3
  have hkr : ∀ q, q < wr.heap.size → q ∉ sl.ownBlock.toList → w5.heap[q]? = wr.heap[q]? := fun q hq hn => (hk0 q (by omega) hn).trans (hb.block q hq)
  have hsmall : ∀ q, q < w.heap.size + 3 → q ∉ sl.ownBlock.toList := fun q hq hm => by
    have := h4 q (List.mem_append_left _ hm)
    omega
  have hnod : w5.heap[w.heap.size + 2]? = some (.cells #[.int .i64 c.kind, .int .i64 c.w, .int .i64 c.h, .int .i64 c.p, sl] 48 (0, 0)) := (hkr _ (by omega) (hsmall _ (by omega))).trans h.nod
  have hset : ∀ q, q ≠ w.heap.size + 2 → (w5.setCell ⟨w.heap.size + 2, 4, none⟩ sl').heap[q]? = w5.heap[q]? := fun q hq => Below.heap_setCell _ _ _ _ hq
  have hown' : ∀ q ∈ sl'.ownBlock.toList, w.heap.size + 3 ≤ q := by
    intro q hq
    rcases k3 with k3 | k3
    · rw [k3] at hq
      exact h4 q (List.mem_append_left _ hq)
    · rw [k3] at hq
      simp at hq
      omega
  refine ⟨hnod, ?_, ?_, ?_, ⟨cs ++ nodeL (growF c' r1).1 (.slice sa sn sc), fs ++ fp, ?_, nodesIn.snoc (hN.keep fun q hq => (hset q ?_).trans (hk0 q (hN.lt q hq) fun e => ?_)) (h2.keep fun q hq => (hset q ?_).trans (hkr q (h2.lt q hq) fun e => ?_)), ?_, ?_⟩, ?_, hl, ?_, ?_⟩
  · exact (hset _ (by omega)).trans ((hkr _ (by omega) (hsmall _ (by omega))).trans h.res)
  · exact (hset _ (by omega)).trans ((hkr _ (by omega) (hsmall _ (by omega))).trans h.cel)
  · have hlt : w.heap.size + 2 < w5.heap.size := lt_of_block hnod
    have h' : w5.heap[w.heap.size + 2] = .cells #[.int .i64 c.kind, .int .i64 c.w, .int .i64 c.h, .int .i64 c.p, sl] 48 (0, 0) := by simpa [Array.getElem?_eq_getElem hlt] using hnod
    show (w5.heap.modify (w.heap.size + 2) _)[w.heap.size + 2]? = _
    rw [Array.getElem?_eq_getElem (by simpa using hlt), Array.getElem_modify_self, h']
    rfl
  · have := own_kept5 k1 (W' := w5.setCell ⟨w.heap.size + 2, 4, none⟩ sl') fun q hq => hset q (by have := hown' q hq; omega)
    simpa using this
  · have := hfp q hq; omega
  · have := hlow q e; have := hfp q hq; omega
  · have := h4 q (List.mem_append_right _ hq); omega
  · exact n3 q e q hq rfl
  · have hdd : (fs ++ fp).Nodup := by
      refine List.nodup_append.2 ⟨n2, hnd, fun a ha b hb' e => ?_⟩
      have := h2.lt a ha
      have := hfp b hb'
      omega
    refine List.nodup_append.2 ⟨by cases sl'.ownBlock <;> simp, hdd, fun a ha b hb' e => ?_⟩
    subst e
    rcases k3 with k3 | k3
    · rw [k3] at ha
      rcases List.mem_append.1 hb' with hb' | hb'
      · exact n3 a ha a hb' rfl
      · have := hlow a ha; have := hfp a hb'; omega
    · rw [k3] at ha
      simp at ha
      rcases List.mem_append.1 hb' with hb' | hb'
      · have := h2.lt a hb'; omega
      · have := hN.lt a hb'; omega
  · intro q hq
    rcases List.mem_append.1 hq with hq | hq
    · exact hown' q hq
    · rcases List.mem_append.1 hq with hq | hq
      · exact h4 q (List.mem_append_right _ hq)
      · have := hfp q hq; omega
  · rw [h.eq, growAllF_cons, if_pos hd]
    simp
  · have hb5 : Below w.heap.size w w5 := ⟨k2.os.trans (hb.os.trans h.below.os), k2.tape.trans (hb.tape.trans h.below.tape), k2.output.trans (hb.output.trans h.below.output), by have := k2.size; have := h.below.size; omega, fun q hq => (hkr q (by omega) (hsmall q (by omega))).trans (h.below.block q hq)⟩
    exact below_grown hb5 (grownBy_set _ _ _ _) (by omega)
  · rw [List.length_append]
    simp
    omega

end Go.Proofs.Ytcjcekaahooamaa
