/-
  Layouts: one child of a node of the document is put in another's place, in memory of one's own.
  Layouts: the document's stretch, walked.
  Layouts: the document's stretch: a pane, or nothing to do.
  Layouts: the document's stretch: across, the width.
  Layouts: the document's stretch: across, the height.
  Layouts: the document's stretch: along a row.
  Layouts: the document's stretch: along a column.
  Layouts: the document's stretch, of every tree.
-/
import Derived.Test.YtnepemlagnnngaaCNx
import Derived.Test.YtnepemlagnnngaaCSt
import Derived.Test.YtnepemlagnnngaaCSw
import Derived.Laws.OwnMore
import Derived.Deep.RegionWith
namespace Go.Proofs.Ytnepemlagnnngaa
open Go.RowKit
set_option linter.unusedVariables false
set_option maxRecDepth 20000

def set5L (cs : List Value) (o : Nat) (n : Node) (sl : Value) : List Value := ((((cs.set o (.int .i64 n.k)).set (o + 1) (.int .i64 n.w)).set (o + 2) (.int .i64 n.h)).set (o + 3) (.int .i64 n.i)).set (o + 4) sl
theorem set5L_zero (a : Node) (sa : Value) (cs : List Value) (n : Node) (sl : Value) : set5L (nodeL a sa ++ cs) 0 n sl = nodeL n sl ++ cs := rfl
theorem set5L_succ (a : Node) (sa : Value) (cs : List Value) (i : Nat) (n : Node) (sl : Value) : set5L (nodeL a sa ++ cs) ((i + 1) * 5) n sl = nodeL a sa ++ set5L cs (i * 5) n sl := by
  have e : ∀ (xs : List Value) (o : Nat) (v : Value), (nodeL a sa ++ xs).set (o + 5) v = nodeL a sa ++ xs.set o v := fun xs o v => rfl
  unfold set5L
  rw [show (i + 1) * 5 = i * 5 + 5 by omega, show i * 5 + 5 + 1 = i * 5 + 1 + 5 by omega, show i * 5 + 5 + 2 = i * 5 + 2 + 5 by omega, show i * 5 + 5 + 3 = i * 5 + 3 + 5 by omega, show i * 5 + 5 + 4 = i * 5 + 4 + 5 by omega, e, e, e, e, e]

theorem nodesIn.one {W : World} : ∀ {ns : List Node} {cs : List Value} {fp : List Nat}, nodesIn W ns cs fp → ∀ (i : Nat) (n : Node), ns[i]? = some n →
    ∃ sl f, n.In W sl f ∧ (∀ q ∈ f, q ∈ fp) ∧ ∀ W' n' sl' f', (∀ q ∈ fp, W'.heap[q]? = W.heap[q]?) → n'.In W' sl' f' → ∃ fp', nodesIn W' (ns.set i n') (set5L cs (i * 5) n' sl') fp' ∧ ∀ q ∈ fp', q ∈ fp ∨ q ∈ f'
  | [], cs, fp, h, i, n, hi => by cases hi
  | a :: r, cs, fp, h, 0, n, hi => by
    obtain ⟨sl, cs', f, f', rfl, h2, h3, rfl⟩ := h
    cases hi
    refine ⟨sl, f, h2, fun q hq => List.mem_append_left _ hq, fun W' n' sl' f1 hk hn' => ⟨f1 ++ f', ?_, fun q hq => ?_⟩⟩
    · rw [Nat.zero_mul, set5L_zero]
      exact ⟨sl', cs', f1, f', rfl, hn', h3.keep fun q hq => hk q (List.mem_append_right _ hq), rfl⟩
    · rcases List.mem_append.1 hq with hq | hq
      · exact .inr hq
      · exact .inl (List.mem_append_right _ hq)
  | a :: r, cs, fp, h, i + 1, n, hi => by
    obtain ⟨sl, cs', f, f', rfl, h2, h3, rfl⟩ := h
    obtain ⟨sl1, f1, e1, e2, e3⟩ := nodesIn.one h3 i n hi
    refine ⟨sl1, f1, e1, fun q hq => List.mem_append_right _ (e2 q hq), fun W' n' sl' f2 hk hn' => ?_⟩
    obtain ⟨fp', g1, g2⟩ := e3 W' n' sl' f2 (fun q hq => hk q (List.mem_append_right _ hq)) hn'
    refine ⟨f ++ fp', ?_, fun q hq => ?_⟩
    · rw [set5L_succ]
      exact ⟨sl, _, f, fp', rfl, h2.keep fun q hq => hk q (List.mem_append_left _ hq), g1, rfl⟩
    · rcases List.mem_append.1 hq with hq | hq
      · exact .inl (List.mem_append_left _ hq)
      · rcases g2 q hq with h | h
        · exact .inl (List.mem_append_right _ h)
        · exact .inr h
theorem nodesIn.oneCell {W : World} : ∀ {ns : List Node} {cs : List Value} {fp : List Nat}, nodesIn W ns cs fp → ∀ u ∈ cs, u.oneCell' = true
  | [], cs, fp, h => by
    obtain ⟨rfl, _⟩ := h
    intro u hu
    cases hu
  | n :: r, cs, fp, h => by
    obtain ⟨sl, cs', f, f', rfl, h2, h3, rfl⟩ := h
    intro u hu
    rcases List.mem_append.1 hu with hu | hu
    · obtain ⟨a, c, rfl⟩ := h2.sl
      have hu' : u ∈ [Value.int .i64 n.k, .int .i64 n.w, .int .i64 n.h, .int .i64 n.i, .slice a n.ks.length c] := hu
      simp only [List.mem_cons, List.not_mem_nil, or_false] at hu'
      rcases hu' with rfl | rfl | rfl | rfl | rfl <;> rfl
    · exact nodesIn.oneCell h3 u hu
theorem nodesOf_set : ∀ (ts : List Tree) (i : Nat) (t : Tree), nodesOf (ts.set i t) = (nodesOf ts).set i (nodeOf t)
  | [], i, t => rfl
  | a :: ts, 0, t => rfl
  | a :: ts, i + 1, t => by
    show nodeOf a :: nodesOf (ts.set i t) = nodeOf a :: (nodesOf ts).set i (nodeOf t)
    rw [nodesOf_set ts i t]

/-- Five cells of a block are written. -/
def set5at (W : World) (g o : Nat) (n : Node) (sl : Value) : World := ((((W.setCell ⟨g, o, none⟩ (.int .i64 n.k)).setCell ⟨g, o + 1, none⟩ (.int .i64 n.w)).setCell ⟨g, o + 2, none⟩ (.int .i64 n.h)).setCell ⟨g, o + 3, none⟩ (.int .i64 n.i)).setCell ⟨g, o + 4, none⟩ sl
theorem set5at_block (W : World) (g o : Nat) (n : Node) (sl : Value) (q : Nat) (hq : q ≠ g) : (set5at W g o n sl).heap[q]? = W.heap[q]? :=
  (Below.heap_setCell _ _ _ _ hq).trans ((Below.heap_setCell _ _ _ _ hq).trans ((Below.heap_setCell _ _ _ _ hq).trans ((Below.heap_setCell _ _ _ _ hq).trans (Below.heap_setCell _ _ _ _ hq))))
theorem set5at_below {W0 W : World} (h : Below W0.heap.size W0 W) (g o : Nat) (hg : W0.heap.size ≤ g) (n : Node) (sl : Value) : Below W0.heap.size W0 (set5at W g o n sl) :=
  below_grown (below_grown (below_grown (below_grown (below_grown h (grownBy_set _ _ _ _) hg) (grownBy_set _ _ _ _) hg) (grownBy_set _ _ _ _) hg) (grownBy_set _ _ _ _) hg) (grownBy_set _ _ _ _) hg
theorem set5at_row {W : World} {B g n cap : Nat} {cs : List Value} (h : W.ownsRow B 80 5 (.slice (some ⟨g, 0, none⟩) n cap) n cs) (o : Nat) (nd : Node) (sl : Value) : (set5at W g o nd sl).ownsRow B 80 5 (.slice (some ⟨g, 0, none⟩) n cap) n (set5L cs o nd sl) :=
  (World.ownsRow.stored (World.ownsRow.stored (World.ownsRow.stored (World.ownsRow.stored (World.ownsRow.stored h o _).1 (o + 1) _).1 (o + 2) _).1 (o + 3) _).1 (o + 4) _).1

/-- The children of a node that is being made. -/
structure KidsAt (g L cap : Nat) (fp : List Nat) (us : List Tree) (wr : World) : Prop where
  row : ∃ cs fs, wr.ownsRow 0 80 5 (.slice (some ⟨g, 0, none⟩) L cap) L cs ∧ nodesIn wr (nodesOf us) cs fs ∧ ∀ q ∈ fs, q ∈ fp ∨ g < q
  old : ∀ q ∈ fp, q < g
  len : us.length = L
theorem KidsAt.lt {g L cap : Nat} {fp : List Nat} {us : List Tree} {wr : World} (h : KidsAt g L cap fp us wr) : g < wr.heap.size := by
  obtain ⟨cs, fs, h1, _⟩ := h.row
  exact own_lt5 h1 g (by simp [Value.ownBlock])
theorem KidsAt.below {g L cap : Nat} {fp : List Nat} {us : List Tree} {wr X : World} (h : KidsAt g L cap fp us wr) (hb : Below wr.heap.size wr X) : KidsAt g L cap fp us X := by
  obtain ⟨cs, fs, h1, h2, h3⟩ := h.row
  exact ⟨⟨cs, fs, own_kept5 h1 fun q hq => hb.block q (own_lt5 h1 q hq), h2.below hb, h3⟩, h.old, h.len⟩
theorem KidsAt.keep {g L cap : Nat} {fp : List Nat} {us : List Tree} {wr X : World} (h : KidsAt g L cap fp us wr) (hb : ∀ q, q ∈ fp ∨ g ≤ q → X.heap[q]? = wr.heap[q]?) : KidsAt g L cap fp us X := by
  obtain ⟨cs, fs, h1, h2, h3⟩ := h.row
  refine ⟨⟨cs, fs, own_kept5 h1 fun q hq => ?_, h2.keep fun q hq => ?_, h3⟩, h.old, h.len⟩
  · have : q = g := by simpa [Value.ownBlock, eq_comm] using hq
    exact hb q (.inr (by omega))
  · rcases h3 q hq with h | h
    · exact hb q (.inl h)
    · exact hb q (.inr (by omega))
/-- What is handed over as a node's children, when all is done. -/
theorem KidsAt.node {g L cap : Nat} {fp : List Nat} {us : List Tree} {wr : World} (h : KidsAt g L cap fp us wr) (k wd ht i : Int) : ∃ fp', (Node.mk k wd ht i (nodesOf us)).In wr (.slice (some ⟨g, 0, none⟩) L cap) fp' ∧ ∀ q ∈ fp', q ∈ fp ∨ g ≤ q := by
  obtain ⟨cs, fs, h1, h2, h3⟩ := h.row
  refine ⟨_, ⟨cs, fs, by rw [nodesOf_length, h.len]; exact h1, h2, rfl⟩, fun q hq => ?_⟩
  rcases List.mem_append.1 hq with hq | hq
  · have : q = g := by simpa [Value.ownBlock, eq_comm] using hq
    exact .inr (by omega)
  · rcases h3 q hq with h | h
    · exact .inl h
    · exact .inr (by omega)
/-- One child: where it lies, and what stands when another is put in its place. -/
theorem KidsAt.one {g L cap : Nat} {fp : List Nat} {us : List Tree} {wr : World} (h : KidsAt g L cap fp us wr) (i : Nat) (t : Tree) (ht : us[i]? = some t) :
    ∃ sa sn sc f, (nodeOf t).In wr (.slice sa sn sc) f ∧ KidIn wr g (i * 5) (nodeOf t) (.slice sa sn sc) ∧
      ∀ X t' sl' f', Below wr.heap.size wr X → (nodeOf t').In X sl' f' → (∀ q ∈ f', q ∈ f ∨ wr.heap.size ≤ q) → KidsAt g L cap fp (us.set i t') (set5at X g (i * 5) (nodeOf t') sl') := by
  have hlt := h.lt
  obtain ⟨cs, fs, h1, h2, h3⟩ := h.row
  obtain ⟨sl, f, e1, e2, e3⟩ := nodesIn.one h2 i (nodeOf t) (nodesOf_get us i t ht)
  have hin : (Node.mk 2 0 0 0 (nodesOf us)).In wr (.slice (some ⟨g, 0, none⟩) L cap) ((Value.slice (some ⟨g, 0, none⟩) L cap).ownBlock.toList ++ fs) := ⟨cs, fs, by rw [nodesOf_length, h.len]; exact h1, h2, rfl⟩
  have hi : i < us.length := (List.getElem?_eq_some_iff.1 ht).1
  have hilt : i < L := by rw [← h.len]; exact hi
  obtain ⟨sl2, f2, g1, g2, g3⟩ := h2.get i (nodeOf t) (nodesOf_get us i t ht)
  have hcell : ∀ o, o < 5 → wr.cell? ⟨g, i * 5 + o, none⟩ = (nodeL (nodeOf t) sl2)[o]? := fun o ho => by
    rw [World.ownsRow.cellAt h1 (i * 5 + o) (by omega), g3 o ho]
  obtain ⟨ad, c, hsl⟩ := g1.sl
  subst hsl
  refine ⟨ad, _, c, f2, g1, ⟨hcell 0 (by omega), hcell 1 (by omega), hcell 2 (by omega), hcell 3 (by omega), hcell 4 (by omega)⟩, fun X t' sl' f' hb hn hf => ?_⟩
  have hfg : ∀ q ∈ f', q ≠ g := fun q hq => by
    rcases hf q hq with h4 | h4
    · rcases h3 q (g2 q h4) with h5 | h5
      · have := h.old q h5
        omega
      · omega
    · omega
  have hkeep : ∀ q ∈ fs, (set5at X g (i * 5) (nodeOf t') sl').heap[q]? = wr.heap[q]? := fun q hq => by
    rw [set5at_block _ _ _ _ _ q (by rcases h3 q hq with h5 | h5; · have := h.old q h5; omega
                                     · omega)]
    exact hb.block q (h2.lt q hq)
  obtain ⟨fp', k1, k2⟩ := e3 _ (nodeOf t') sl' f' hkeep (hn.keep fun q hq => set5at_block _ _ _ _ _ q (hfg q hq))
  refine ⟨⟨_, fp', set5at_row (own_kept5 h1 fun q hq => hb.block q (own_lt5 h1 q hq)) (i * 5) (nodeOf t') sl', ?_, fun q hq => ?_⟩, h.old, by rw [List.length_set]; exact h.len⟩
  · rw [nodesOf_set]
    exact k1
  · rcases k2 q hq with h6 | h6
    · exact h3 q h6
    · rcases hf q h6 with h7 | h7
      · exact h3 q (g2 q h7)
      · exact .inr (by omega)

end Go.Proofs.Ytnepemlagnnngaa

namespace Go.Proofs.Ytnepemlagnnngaa
open Go.RowKit
set_option linter.unusedVariables false
set_option maxRecDepth 100000

def StrN (t' : Tree) (fp : List Nat) (w : World) (e : Ending) (w' : World) : Prop := ∃ sa sn sc fp', e = .returned (.agg (nodeV (nodeOf t') (.slice sa sn sc))) ∧ (nodeOf t').In w' (.slice sa sn sc) fp' ∧ (∀ q ∈ fp', q ∈ fp ∨ w.heap.size ≤ q) ∧ Below w.heap.size w w'
/-- The node that is made: the one handed in, the answer, the new one, its children. -/
structure Mid (w : World) (k wd ht k' wd' ht' i : Int) (sl sl' : Value) (wr : World) : Prop where
  par : wr.heap[w.heap.size]? = some (.cells #[.int .i64 k, .int .i64 wd, .int .i64 ht, .int .i64 i, sl] 80 (0, 0))
  res : wr.heap[w.heap.size + 1]? = some (.cells zeroN 80 (0, 0))
  new : wr.heap[w.heap.size + 1 + 1]? = some (.cells #[.int .i64 k', .int .i64 wd', .int .i64 ht', .int .i64 i, sl'] 80 (0, 0))
  below : Below w.heap.size w wr
theorem Mid.start (w : World) (k wd ht k' wd' ht' i : Int) (sl : Value) : Mid w k wd ht k' wd' ht' i sl sl (((w.alloc (.cells #[.int .i64 k, .int .i64 wd, .int .i64 ht, .int .i64 i, sl] 80)).alloc (.cells zeroN 80)).alloc (.cells #[.int .i64 k', .int .i64 wd', .int .i64 ht', .int .i64 i, sl] 80)) := by
  obtain ⟨A, hA⟩ : ∃ o, Obj.cells #[Value.int .i64 k, .int .i64 wd, .int .i64 ht, .int .i64 i, sl] 80 = o := ⟨_, rfl⟩
  obtain ⟨C, hC⟩ : ∃ o, Obj.cells zeroN 80 = o := ⟨_, rfl⟩
  obtain ⟨D, hD⟩ : ∃ o, Obj.cells #[Value.int .i64 k', .int .i64 wd', .int .i64 ht', .int .i64 i, sl] 80 = o := ⟨_, rfl⟩
  have s1 : (w.alloc A).heap.size = w.heap.size + 1 := by simp
  have s2 : ((w.alloc A).alloc C).heap.size = w.heap.size + 1 + 1 := by simp
  have b1 : Below w.heap.size w (w.alloc A) := (Below.refl _ _).alloc (Nat.le_refl _) _
  have b2 : Below w.heap.size w ((w.alloc A).alloc C) := b1.alloc (by omega) _
  have b3 : Below w.heap.size w (((w.alloc A).alloc C).alloc D) := b2.alloc (by omega) _
  rw [hA, hC, hD]
  refine ⟨?_, ?_, ?_, b3⟩
  · rw [hA]
    exact (Below.heap_alloc _ _ _ (by omega)).trans ((Below.heap_alloc _ _ _ (by omega)).trans (heap_alloc_new _ _))
  · rw [hC]
    have h := heap_alloc_new (w.alloc A) C
    rw [s1] at h
    exact (Below.heap_alloc _ _ _ (by omega)).trans h
  · rw [hD]
    have h := heap_alloc_new ((w.alloc A).alloc C) D
    rw [s2] at h
    exact h

theorem heap_set4 {W : World} {g : Nat} {a b c d e : Value} {t : TypeId} (h : W.heap[g]? = some (.cells #[a, b, c, d, e] t (0, 0))) (v : Value) : (W.setCell ⟨g, 4, none⟩ v).heap[g]? = some (.cells #[a, b, c, d, v] t (0, 0)) := by
  have hlt : g < W.heap.size := lt_of_block h
  have h' : W.heap[g] = .cells #[a, b, c, d, e] t (0, 0) := by simpa [Array.getElem?_eq_getElem hlt] using h
  show (W.heap.modify g _)[g]? = _
  rw [Array.getElem?_eq_getElem (by simpa using hlt), Array.getElem_modify_self, h']
  rfl
theorem Mid.copied {w : World} {k wd ht k' wd' ht' i : Int} {sl : Value} {W w6 : World} (h : Mid w k wd ht k' wd' ht' i sl sl W) (hg : W.grownBy w6 none) (v : Value) : Mid w k wd ht k' wd' ht' i sl v (w6.setCell ⟨w.heap.size + 1 + 1, 4, none⟩ v) := by
  have h1 : ∀ q, q < W.heap.size → w6.heap[q]? = W.heap[q]? := fun q hq => hg.block q hq (by simp)
  have hnew := (h1 _ (lt_of_block h.new)).trans h.new
  refine ⟨?_, ?_, heap_set4 hnew v, ?_⟩
  · exact (Below.heap_setCell _ _ _ _ (by show w.heap.size ≠ w.heap.size + 1 + 1; omega)).trans ((h1 _ (lt_of_block h.par)).trans h.par)
  · exact (Below.heap_setCell _ _ _ _ (by show w.heap.size + 1 ≠ w.heap.size + 1 + 1; omega)).trans ((h1 _ (lt_of_block h.res)).trans h.res)
  · have hb : Below w.heap.size w w6 := ⟨hg.os.trans h.below.os, hg.tape.trans h.below.tape, hg.output.trans h.below.output, Nat.le_trans h.below.size hg.size, fun q hq => (h1 q (Nat.lt_of_lt_of_le hq h.below.size)).trans (h.below.block q hq)⟩
    exact below_grown hb (grownBy_set _ _ _ _) (by omega)
theorem KidsAt.start {w W w6 : World} {sl : Value} {fp : List Nat} {ts : List Tree} {k wd ht k' wd' ht' i : Int} (hIn : (Node.mk k wd ht i (nodesOf ts)).In w sl fp) (hM : Mid w k wd ht k' wd' ht' i sl sl W) (hW : W.heap.size = w.heap.size + 3) (hg : W.grownBy w6 none) {cs : List Value} {fs : List Nat} (hfs : fs ⊆ fp) (hN : nodesIn w (nodesOf ts) cs fs) {v : Value} (hr : w6.ownsRow W.heap.size 80 5 v ts.length cs) (h0 : 0 < ts.length) :
    ∃ g cap, v = .slice (some ⟨g, 0, none⟩) ts.length cap ∧ w.heap.size + 2 < g ∧ KidsAt g ts.length cap fp ts (w6.setCell ⟨w.heap.size + 1 + 1, 4, none⟩ v) := by
  rcases hr.2 with ⟨_, h1⟩ | ⟨g, cap, cur, rfl, hb, hgc, r⟩
  · omega
  · have hlt : ∀ q ∈ fp, q < w.heap.size := hIn.lt
    refine ⟨g, cap, rfl, by omega, ⟨⟨cs, fs, ?_, ?_, fun q hq => .inl (hfs hq)⟩, fun q hq => ?_, rfl⟩⟩
    · refine own_kept5 (W := w6) ⟨hr.1, .inr ⟨g, cap, cur, rfl, Nat.zero_le _, hgc, r⟩⟩ fun q hq => ?_
      have : q = g := by simpa [Value.ownBlock, eq_comm] using hq
      exact Below.heap_setCell _ _ _ _ (by show q ≠ w.heap.size + 1 + 1; omega)
    · refine hN.keep fun q hq => ?_
      have hq' := hlt q (hfs hq)
      exact (Below.heap_setCell _ _ _ _ (by show q ≠ w.heap.size + 1 + 1; omega)).trans ((hg.block q (by omega) (by simp)).trans (hM.below.block q hq'))
    · have := hlt q hq
      omega

theorem Mid.keep {w : World} {k wd ht k' wd' ht' i : Int} {sl sl' : Value} {wr X : World} (h : Mid w k wd ht k' wd' ht' i sl sl' wr) (hb : ∀ q, q ≤ w.heap.size + 2 → X.heap[q]? = wr.heap[q]?) (hB : Below w.heap.size w X) : Mid w k wd ht k' wd' ht' i sl sl' X :=
  ⟨(hb _ (by omega)).trans h.par, (hb _ (by omega)).trans h.res, (hb _ (by omega)).trans h.new, hB⟩
theorem strN_end {w : World} {k wd ht k' wd' ht' i : Int} {sl : Value} {g L cap : Nat} {fp : List Nat} {rs : List Tree} {wr : World} {t' : Tree} (hK : KidsAt g L cap fp rs wr) (hM : Mid w k wd ht k' wd' ht' i sl (.slice (some ⟨g, 0, none⟩) L cap) wr) (hg : w.heap.size + 2 < g) (hlt : ∀ q ∈ fp, q < w.heap.size) (hn : nodeOf t' = .mk k' wd' ht' i (nodesOf rs)) (v0 v1 v2 v3 v4 : Value) :
    StrN t' fp w (.returned (.agg #[.int .i64 k', .int .i64 wd', .int .i64 ht', .int .i64 i, .slice (some ⟨g, 0, none⟩) L cap])) (set5 wr (w.heap.size + 1) v0 v1 v2 v3 v4) := by
  obtain ⟨fp', h1, h2⟩ := (hK.keep (X := set5 wr (w.heap.size + 1) v0 v1 v2 v3 v4) fun q hq => set5_block _ _ _ _ _ _ _ q (by
    rcases hq with h | h
    · have := hlt q h
      omega
    · omega)).node k' wd' ht' i
  refine ⟨some ⟨g, 0, none⟩, L, cap, fp', ?_, ?_, fun q hq => ?_, set5_below hM.below _ (by omega) _ _ _ _ _⟩
  · rw [hn]
    rfl
  · rw [hn]
    exact h1
  · rcases h2 q hq with h | h
    · exact .inl h
    · exact .inr (by omega)

theorem Mid.below' {w : World} {k wd ht k' wd' ht' i : Int} {sl sl' : Value} {wr X : World} (h : Mid w k wd ht k' wd' ht' i sl sl' wr) (hX : Below wr.heap.size wr X) : Mid w k wd ht k' wd' ht' i sl sl' X := h.keep (fun q hq => hX.block q (by have := lt_of_block h.new; omega)) (below_step h.below hX)
/-- A round of the document's dealing. -/
structure DealN (w : World) (k wd ht wd' ht' : Int) (sl : Value) (g L cap : Nat) (fp : List Nat) (N : Nat) (rs : List Tree) (m i : Nat) (n : Int) (wr : World) (us : List Tree) : Prop where
  deal : Deal k m us i n rs
  kids : KidsAt g L cap fp us wr
  mid : Mid w k wd ht k wd' ht' 0 sl (.slice (some ⟨g, 0, none⟩) L cap) wr
  small : ∀ t ∈ us, t.size ≤ N
  lt : i < L
theorem DealN.below {w : World} {k wd ht wd' ht' : Int} {sl : Value} {g L cap : Nat} {fp : List Nat} {N : Nat} {rs : List Tree} {m i : Nat} {n : Int} {wr X : World} {us : List Tree} (h : DealN w k wd ht wd' ht' sl g L cap fp N rs m i n wr us) (hX : Below wr.heap.size wr X) : DealN w k wd ht wd' ht' sl g L cap fp N rs m i n X us := ⟨h.deal, h.kids.below hX, h.mid.below' hX, h.small, h.lt⟩
theorem kid_cells {w : World} {g L cap : Nat} {i : Nat} {wr : World} {nn : Node} {sl : Value} (hg : g < wr.heap.size) (hm : w.heap.size + 1 + 1 < wr.heap.size) (fz : ∀ o, wr.frozen? ⟨g, o, none⟩ = false) (hk : KidIn wr g (i * 5) nn sl) (b4 : wr.cell? ⟨w.heap.size + 1 + 1, 4, none⟩ = some (.slice (some ⟨g, 0, none⟩) L cap)) : ∀ X, Below wr.heap.size wr X → (∀ o, X.frozen? ⟨g, o, none⟩ = false) ∧ KidIn X g (i * 5) nn sl ∧ X.cell? ⟨w.heap.size + 1 + 1, 4, none⟩ = some (.slice (some ⟨g, 0, none⟩) L cap) := fun X hX => by
  have hc : ∀ o, X.cell? ⟨g, o, none⟩ = wr.cell? ⟨g, o, none⟩ := fun o => hX.cell (p := ⟨g, o, none⟩) hg
  have hf : ∀ o, X.frozen? ⟨g, o, none⟩ = wr.frozen? ⟨g, o, none⟩ := fun o => by unfold World.frozen?; rw [hX.block g hg]
  exact ⟨fun o => (hf o).trans (fz o), ⟨(hc _).trans hk.q0, (hc _).trans hk.q1, (hc _).trans hk.q2, (hc _).trans hk.q3, (hc _).trans hk.q4⟩, (hX.cell (p := ⟨w.heap.size + 1 + 1, 4, none⟩) hm).trans b4⟩
def DealQN (w : World) (k wd ht wd' ht' : Int) (sl : Value) (g L cap : Nat) (fp : List Nat) (N : Nat) (rs : List Tree) (vi vn : Value) (wr : World) (m : Nat) : Prop := ∃ (i : Nat) (n : Int) (us : List Tree), vi = .int .i64 i ∧ vn = .int .i64 n ∧ DealN w k wd ht wd' ht' sl g L cap fp N rs m i n wr us

end Go.Proofs.Ytnepemlagnnngaa

namespace Go.Proofs.Ytnepemlagnnngaa
open Go.RowKit
set_option linter.unusedVariables false
set_option maxRecDepth 100000

theorem mid_cells {w : World} {k wd ht k' wd' ht' i : Int} {sl v : Value} {w6 : World} (h : Mid w k wd ht k' wd' ht' i sl v (w6.setCell ⟨w.heap.size + 1 + 1, 4, none⟩ v)) :
    w6.cell? ⟨w.heap.size, 0, none⟩ = some (.int .i64 k) ∧ w6.cell? ⟨w.heap.size + 1 + 1, 0, none⟩ = some (.int .i64 k') ∧ w6.cell? ⟨w.heap.size + 1 + 1, 1, none⟩ = some (.int .i64 wd') ∧ w6.cell? ⟨w.heap.size + 1 + 1, 2, none⟩ = some (.int .i64 ht') ∧ w6.cell? ⟨w.heap.size + 1 + 1, 3, none⟩ = some (.int .i64 i) ∧ (w6.cell? ⟨w.heap.size + 1, 0, none⟩ = some (.int .i64 0) ∧ w6.cell? ⟨w.heap.size + 1, 1, none⟩ = some (.int .i64 0) ∧ w6.cell? ⟨w.heap.size + 1, 2, none⟩ = some (.int .i64 0) ∧ w6.cell? ⟨w.heap.size + 1, 3, none⟩ = some (.int .i64 0) ∧ w6.cell? ⟨w.heap.size + 1, 4, none⟩ = some (.slice none 0 0)) ∧ (∀ o, w6.frozen? ⟨w.heap.size + 1, o, none⟩ = false) := by
  have a0 : w6.heap[w.heap.size]? = _ := (Below.heap_setCell _ _ _ _ (by show w.heap.size ≠ w.heap.size + 1 + 1; omega)).symm.trans h.par
  have a1 : w6.heap[w.heap.size + 1]? = _ := (Below.heap_setCell _ _ _ _ (by show w.heap.size + 1 ≠ w.heap.size + 1 + 1; omega)).symm.trans h.res
  have a2 : ∀ o, o ≠ 4 → w6.cell? ⟨w.heap.size + 1 + 1, o, none⟩ = _ := fun o ho => (set_other w6 (w.heap.size + 1 + 1) 4 o v (Ne.symm ho)).symm.trans (cell_atL h.new o)
  exact ⟨cell_atL a0 0, a2 0 (by decide), a2 1 (by decide), a2 2 (by decide), a2 3 (by decide), ⟨cell_atL a1 0, cell_atL a1 1, cell_atL a1 2, cell_atL a1 3, cell_atL a1 4⟩, fun o => free_atL a1 o⟩
/-- What is answered of a node that was handed in, its children copied. -/
def NodeN (n' : Node) (fp : List Nat) (w : World) (e : Ending) (w' : World) : Prop := ∃ sa sn sc fp', e = .returned (.agg (nodeV n' (.slice sa sn sc))) ∧ n'.In w' (.slice sa sn sc) fp' ∧ (∀ q ∈ fp', q ∈ fp ∨ w.heap.size ≤ q) ∧ Below w.heap.size w w'
theorem copy_end {w : World} {k wd ht k' wd' ht' i : Int} {sl : Value} {ks : List Node} {fp fs : List Nat} {cs : List Value} {w6 W : World} {sa : Option Addr} {sn sc : Nat} (hM : Mid w k wd ht k' wd' ht' i sl sl W) (hW : W.heap.size = w.heap.size + 3) (hg : W.grownBy w6 none) (hlt : ∀ q ∈ fp, q < w.heap.size) (hfs : fs ⊆ fp) (hN : nodesIn w ks cs fs) (hr : w6.ownsRow (w.heap.size + 3) 80 5 (.slice sa sn sc) ks.length cs) (v0 v1 v2 v3 v4 : Value) :
    NodeN (.mk k' wd' ht' i ks) fp w (.returned (.agg #[.int .i64 k', .int .i64 wd', .int .i64 ht', .int .i64 i, .slice sa sn sc])) (set5 (w6.setCell ⟨w.heap.size + 1 + 1, 4, none⟩ (.slice sa sn sc)) (w.heap.size + 1) v0 v1 v2 v3 v4) := by
  have hown : ∀ q ∈ (Value.slice sa sn sc).ownBlock.toList, w.heap.size + 3 ≤ q := fun q hq => (World.ownsRow.lt hr q (by simpa using hq)).1
  have hk : ∀ q, q < w.heap.size ∨ w.heap.size + 3 ≤ q → (set5 (w6.setCell ⟨w.heap.size + 1 + 1, 4, none⟩ (.slice sa sn sc)) (w.heap.size + 1) v0 v1 v2 v3 v4).heap[q]? = w6.heap[q]? := fun q hq => (set5_block _ _ _ _ _ _ _ q (by omega)).trans (Below.heap_setCell _ _ _ _ (by show q ≠ w.heap.size + 1 + 1; omega))
  have h1 : ∀ q, q < W.heap.size → w6.heap[q]? = W.heap[q]? := fun q hq => hg.block q hq (by simp)
  have hb : Below w.heap.size w w6 := ⟨hg.os.trans hM.below.os, hg.tape.trans hM.below.tape, hg.output.trans hM.below.output, Nat.le_trans hM.below.size hg.size, fun q hq => (h1 q (Nat.lt_of_lt_of_le hq hM.below.size)).trans (hM.below.block q hq)⟩
  have hr0 : w6.ownsRow 0 80 5 (.slice sa sn sc) ks.length cs := by
    rcases hr with ⟨a, b | ⟨g, cap, cur, e, _, c⟩⟩
    · exact ⟨a, .inl b⟩
    · exact ⟨a, .inr ⟨g, cap, cur, e, Nat.zero_le _, c⟩⟩
  refine ⟨sa, sn, sc, (Value.slice sa sn sc).ownBlock.toList ++ fs, rfl, ⟨cs, fs, own_kept5 hr0 fun q hq => hk q (.inr (hown q hq)), hN.keep fun q hq => ?_, rfl⟩, fun q hq => ?_, set5_below (below_grown hb (grownBy_set _ _ _ _) (by omega)) _ (by omega) _ _ _ _ _⟩
  · have := hlt q (hfs hq)
    exact (hk q (.inl this)).trans (hb.block q this)
  · rcases List.mem_append.1 hq with hq | hq
    · exact .inr (by have := hown q hq; omega)
    · exact .inl (hfs hq)

end Go.Proofs.Ytnepemlagnnngaa

namespace Go.Proofs.Ytnepemlagnnngaa
open Go.RowKit
set_option linter.unusedVariables false
set_option maxRecDepth 100000

end Go.Proofs.Ytnepemlagnnngaa

namespace Go.Proofs.Ytnepemlagnnngaa
open Go.RowKit
set_option linter.unusedVariables false
set_option maxRecDepth 100000

end Go.Proofs.Ytnepemlagnnngaa

namespace Go.Proofs.Ytnepemlagnnngaa
open Go.RowKit
set_option linter.unusedVariables false
set_option maxRecDepth 100000

end Go.Proofs.Ytnepemlagnnngaa

namespace Go.Proofs.Ytnepemlagnnngaa
open Go.RowKit
set_option linter.unusedVariables false
set_option maxRecDepth 100000

end Go.Proofs.Ytnepemlagnnngaa

namespace Go.Proofs.Ytnepemlagnnngaa
open Go.RowKit
set_option linter.unusedVariables false
set_option maxRecDepth 20000

end Go.Proofs.Ytnepemlagnnngaa
