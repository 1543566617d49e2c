/-
  Layouts: a node's children while they are put in.
  Layouts: rows of panes in the document.
-/
import Derived.Test.YtjnmjoigmbpodaaCAl
import Derived.Laws.OwnMore
namespace Go.Proofs.Ytjnmjoigmbpodaa
open Go.RowKit
set_option linter.unusedVariables false
set_option maxRecDepth 100000

theorem nodesOf_get : ∀ (ts : List Tree) (i : Nat) (t : Tree), ts[i]? = some t → (nodesOf ts)[i]? = some (nodeOf t)
  | [], _, _, h => by simp at h
  | a :: ts, 0, t, h => by
    have : a = t := by simpa using h
    rw [this]
    rfl
  | a :: ts, i + 1, t, h => nodesOf_get ts i t (by simpa using h)
def set5L (cs : List Value) (o : Nat) (n : Node) (sl : Value) : List Value := ((((cs.set o (.int .i64 n.k)).set (o + 1) (.int .i64 n.w)).set (o + 2) (.int .i64 n.h)).set (o + 3) (.int .i64 n.i)).set (o + 4) sl
theorem set5L_zero (a : Node) (sa : Value) (cs : List Value) (n : Node) (sl : Value) : set5L (nodeL a sa ++ cs) 0 n sl = nodeL n sl ++ cs := rfl
theorem set5L_succ (a : Node) (sa : Value) (cs : List Value) (i : Nat) (n : Node) (sl : Value) : set5L (nodeL a sa ++ cs) ((i + 1) * 5) n sl = nodeL a sa ++ set5L cs (i * 5) n sl := by
  have e : ∀ (xs : List Value) (o : Nat) (v : Value), (nodeL a sa ++ xs).set (o + 5) v = nodeL a sa ++ xs.set o v := fun xs o v => rfl
  unfold set5L
  rw [show (i + 1) * 5 = i * 5 + 5 by omega, show i * 5 + 5 + 1 = i * 5 + 1 + 5 by omega, show i * 5 + 5 + 2 = i * 5 + 2 + 5 by omega, show i * 5 + 5 + 3 = i * 5 + 3 + 5 by omega, show i * 5 + 5 + 4 = i * 5 + 4 + 5 by omega, e, e, e, e, e]
theorem nodesIn.one {W : World} : ∀ {ns : List Node} {cs : List Value} {fp : List Nat}, nodesIn W ns cs fp → ∀ (i : Nat) (n : Node), ns[i]? = some n →
    ∃ sl f, n.In W sl f ∧ (∀ q ∈ f, q ∈ fp) ∧ ∀ W' n' sl' f', (∀ q ∈ fp, W'.heap[q]? = W.heap[q]?) → n'.In W' sl' f' → ∃ fp', nodesIn W' (ns.set i n') (set5L cs (i * 5) n' sl') fp' ∧ ∀ q ∈ fp', q ∈ fp ∨ q ∈ f'
  | [], cs, fp, h, i, n, hi => by cases hi
  | a :: r, cs, fp, h, 0, n, hi => by
    obtain ⟨sl, cs', f, f', rfl, h2, h3, rfl⟩ := h
    cases hi
    refine ⟨sl, f, h2, fun q hq => List.mem_append_left _ hq, fun W' n' sl' f1 hk hn' => ⟨f1 ++ f', ?_, fun q hq => ?_⟩⟩
    · rw [Nat.zero_mul, set5L_zero]
      exact ⟨sl', cs', f1, f', rfl, hn', h3.keep fun q hq => hk q (List.mem_append_right _ hq), rfl⟩
    · rcases List.mem_append.1 hq with hq | hq
      · exact .inr hq
      · exact .inl (List.mem_append_right _ hq)
  | a :: r, cs, fp, h, i + 1, n, hi => by
    obtain ⟨sl, cs', f, f', rfl, h2, h3, rfl⟩ := h
    obtain ⟨sl1, f1, e1, e2, e3⟩ := nodesIn.one h3 i n hi
    refine ⟨sl1, f1, e1, fun q hq => List.mem_append_right _ (e2 q hq), fun W' n' sl' f2 hk hn' => ?_⟩
    obtain ⟨fp', g1, g2⟩ := e3 W' n' sl' f2 (fun q hq => hk q (List.mem_append_right _ hq)) hn'
    refine ⟨f ++ fp', ?_, fun q hq => ?_⟩
    · rw [set5L_succ]
      exact ⟨sl, _, f, fp', rfl, h2.keep fun q hq => hk q (List.mem_append_left _ hq), g1, rfl⟩
    · rcases List.mem_append.1 hq with hq | hq
      · exact .inl (List.mem_append_left _ hq)
      · rcases g2 q hq with h | h
        · exact .inl (List.mem_append_right _ h)
        · exact .inr h
theorem nodesOf_set : ∀ (ts : List Tree) (i : Nat) (t : Tree), nodesOf (ts.set i t) = (nodesOf ts).set i (nodeOf t)
  | [], i, t => rfl
  | a :: ts, 0, t => rfl
  | a :: ts, i + 1, t => by
    show nodeOf a :: nodesOf (ts.set i t) = nodeOf a :: (nodesOf ts).set i (nodeOf t)
    rw [nodesOf_set ts i t]
/-- Five cells of a block are written. -/
def set5at (W : World) (g o : Nat) (n : Node) (sl : Value) : World := ((((W.setCell ⟨g, o, none⟩ (.int .i64 n.k)).setCell ⟨g, o + 1, none⟩ (.int .i64 n.w)).setCell ⟨g, o + 2, none⟩ (.int .i64 n.h)).setCell ⟨g, o + 3, none⟩ (.int .i64 n.i)).setCell ⟨g, o + 4, none⟩ sl
theorem set5at_block (W : World) (g o : Nat) (n : Node) (sl : Value) (q : Nat) (hq : q ≠ g) : (set5at W g o n sl).heap[q]? = W.heap[q]? :=
  (Below.heap_setCell _ _ _ _ hq).trans ((Below.heap_setCell _ _ _ _ hq).trans ((Below.heap_setCell _ _ _ _ hq).trans ((Below.heap_setCell _ _ _ _ hq).trans (Below.heap_setCell _ _ _ _ hq))))
theorem set5at_below {W0 W : World} (h : Below W0.heap.size W0 W) (g o : Nat) (hg : W0.heap.size ≤ g) (n : Node) (sl : Value) : Below W0.heap.size W0 (set5at W g o n sl) :=
  below_grown (below_grown (below_grown (below_grown (below_grown h (grownBy_set _ _ _ _) hg) (grownBy_set _ _ _ _) hg) (grownBy_set _ _ _ _) hg) (grownBy_set _ _ _ _) hg) (grownBy_set _ _ _ _) hg
theorem set5at_row {W : World} {B g n cap : Nat} {cs : List Value} (h : W.ownsRow B 67 5 (.slice (some ⟨g, 0, none⟩) n cap) n cs) (o : Nat) (nd : Node) (sl : Value) : (set5at W g o nd sl).ownsRow B 67 5 (.slice (some ⟨g, 0, none⟩) n cap) n (set5L cs o nd sl) :=
  (World.ownsRow.stored (World.ownsRow.stored (World.ownsRow.stored (World.ownsRow.stored (World.ownsRow.stored h o _).1 (o + 1) _).1 (o + 2) _).1 (o + 3) _).1 (o + 4) _).1
/-- The children of a node that is being made. -/
structure KidsAt (g L cap : Nat) (fp : List Nat) (us : List Tree) (wr : World) : Prop where
  row : ∃ cs fs, wr.ownsRow 0 67 5 (.slice (some ⟨g, 0, none⟩) L cap) L cs ∧ nodesIn wr (nodesOf us) cs fs ∧ ∀ q ∈ fs, q ∈ fp ∨ g < q
  old : ∀ q ∈ fp, q < g
  len : us.length = L
theorem KidsAt.lt {g L cap : Nat} {fp : List Nat} {us : List Tree} {wr : World} (h : KidsAt g L cap fp us wr) : g < wr.heap.size := by
  obtain ⟨cs, fs, h1, _⟩ := h.row
  exact own_lt5 h1 g (by simp [Value.ownBlock])
theorem KidsAt.below {g L cap : Nat} {fp : List Nat} {us : List Tree} {wr X : World} (h : KidsAt g L cap fp us wr) (hb : Below wr.heap.size wr X) : KidsAt g L cap fp us X := by
  obtain ⟨cs, fs, h1, h2, h3⟩ := h.row
  exact ⟨⟨cs, fs, own_kept5 h1 fun q hq => hb.block q (own_lt5 h1 q hq), h2.below hb, h3⟩, h.old, h.len⟩
theorem KidsAt.keep {g L cap : Nat} {fp : List Nat} {us : List Tree} {wr X : World} (h : KidsAt g L cap fp us wr) (hb : ∀ q, q ∈ fp ∨ g ≤ q → X.heap[q]? = wr.heap[q]?) : KidsAt g L cap fp us X := by
  obtain ⟨cs, fs, h1, h2, h3⟩ := h.row
  refine ⟨⟨cs, fs, own_kept5 h1 fun q hq => ?_, h2.keep fun q hq => ?_, h3⟩, h.old, h.len⟩
  · have : q = g := by simpa [Value.ownBlock, eq_comm] using hq
    exact hb q (.inr (by omega))
  · rcases h3 q hq with h | h
    · exact hb q (.inl h)
    · exact hb q (.inr (by omega))
/-- What is handed over as a node's children, when all is done. -/
theorem KidsAt.node {g L cap : Nat} {fp : List Nat} {us : List Tree} {wr : World} (h : KidsAt g L cap fp us wr) (k wd ht i : Int) : ∃ fp', (Node.mk k wd ht i (nodesOf us)).In wr (.slice (some ⟨g, 0, none⟩) L cap) fp' ∧ ∀ q ∈ fp', q ∈ fp ∨ g ≤ q := by
  obtain ⟨cs, fs, h1, h2, h3⟩ := h.row
  refine ⟨_, ⟨cs, fs, by rw [nodesOf_length, h.len]; exact h1, h2, rfl⟩, fun q hq => ?_⟩
  rcases List.mem_append.1 hq with hq | hq
  · have : q = g := by simpa [Value.ownBlock, eq_comm] using hq
    exact .inr (by omega)
  · rcases h3 q hq with h | h
    · exact .inl h
    · exact .inr (by omega)
/-- One child: where it lies, and what stands when another is put in its place. -/
theorem KidsAt.one {g L cap : Nat} {fp : List Nat} {us : List Tree} {wr : World} (h : KidsAt g L cap fp us wr) (i : Nat) (t : Tree) (ht : us[i]? = some t) :
    ∃ sa sn sc f, (nodeOf t).In wr (.slice sa sn sc) f ∧ KidIn wr g (i * 5) (nodeOf t) (.slice sa sn sc) ∧
      ∀ X t' sl' f', Below wr.heap.size wr X → (nodeOf t').In X sl' f' → (∀ q ∈ f', q ∈ f ∨ wr.heap.size ≤ q) → KidsAt g L cap fp (us.set i t') (set5at X g (i * 5) (nodeOf t') sl') := by
  have hlt := h.lt
  obtain ⟨cs, fs, h1, h2, h3⟩ := h.row
  obtain ⟨sl, f, e1, e2, e3⟩ := nodesIn.one h2 i (nodeOf t) (nodesOf_get us i t ht)
  have hin : (Node.mk 2 0 0 0 (nodesOf us)).In wr (.slice (some ⟨g, 0, none⟩) L cap) ((Value.slice (some ⟨g, 0, none⟩) L cap).ownBlock.toList ++ fs) := ⟨cs, fs, by rw [nodesOf_length, h.len]; exact h1, h2, rfl⟩
  have hi : i < us.length := (List.getElem?_eq_some_iff.1 ht).1
  have hilt : i < L := by rw [← h.len]; exact hi
  obtain ⟨sl2, f2, g1, g2, g3⟩ := h2.get i (nodeOf t) (nodesOf_get us i t ht)
  have hcell : ∀ o, o < 5 → wr.cell? ⟨g, i * 5 + o, none⟩ = (nodeL (nodeOf t) sl2)[o]? := fun o ho => by
    rw [World.ownsRow.cellAt h1 (i * 5 + o) (by omega), g3 o ho]
  obtain ⟨ad, c, hsl⟩ := g1.sl
  subst hsl
  refine ⟨ad, _, c, f2, g1, ⟨hcell 0 (by omega), hcell 1 (by omega), hcell 2 (by omega), hcell 3 (by omega), hcell 4 (by omega)⟩, fun X t' sl' f' hb hn hf => ?_⟩
  have hfg : ∀ q ∈ f', q ≠ g := fun q hq => by
    rcases hf q hq with h4 | h4
    · rcases h3 q (g2 q h4) with h5 | h5
      · have := h.old q h5
        omega
      · omega
    · omega
  have hkeep : ∀ q ∈ fs, (set5at X g (i * 5) (nodeOf t') sl').heap[q]? = wr.heap[q]? := fun q hq => by
    rw [set5at_block _ _ _ _ _ q (by rcases h3 q hq with h5 | h5; · have := h.old q h5; omega
                                     · omega)]
    exact hb.block q (h2.lt q hq)
  obtain ⟨fp', k1, k2⟩ := e3 _ (nodeOf t') sl' f' hkeep (hn.keep fun q hq => set5at_block _ _ _ _ _ q (hfg q hq))
  refine ⟨⟨_, fp', set5at_row (own_kept5 h1 fun q hq => hb.block q (own_lt5 h1 q hq)) (i * 5) (nodeOf t') sl', ?_, fun q hq => ?_⟩, h.old, by rw [List.length_set]; exact h.len⟩
  · rw [nodesOf_set]
    exact k1
  · rcases k2 q hq with h6 | h6
    · exact h3 q h6
    · rcases hf q h6 with h7 | h7
      · exact h3 q (g2 q h7)
      · exact .inr (by omega)

end Go.Proofs.Ytjnmjoigmbpodaa

namespace Go.Proofs.Ytjnmjoigmbpodaa
open Go.RowKit
set_option linter.unusedVariables false
set_option maxRecDepth 100000

/-- What stands for each part. -/
def partsL (i : Nat) : List Int := (List.range i).map fun (j : Nat) => (j : Int)
theorem partsL_snoc (i : Nat) : partsL (i + 1) = partsL i ++ [(i : Int)] := by
  unfold partsL
  rw [List.range_succ, List.map_append]
  rfl
theorem partsL_length (i : Nat) : (partsL i).length = i := by
  unfold partsL
  rw [List.length_map, List.length_range]
theorem partsL_get (r i : Nat) (h : i < r) : (partsL r)[i]? = some (i : Int) := by
  unfold partsL
  rw [List.getElem?_map, List.getElem?_range h]
  rfl
theorem rows_all (b : Box) (r : Int) (c : Nat) : ∀ (m : Nat) (zs : List Int) (i : Int), (∀ j : Nat, j < m → fitsB 2 ((zs.drop (j * c)).take c).length (b.with 3 (shareF b.h r (i + j))) = true) → rowsB b r c zs m i = true
  | 0, _, _, _ => rfl
  | m + 1, zs, i, h => by
    have h0 := h 0 (by omega)
    rw [Nat.zero_mul, List.drop_zero, show i + ((0 : Nat) : Int) = i by simp] at h0
    show (_ && rowsB b r c (zs.drop c) m (i + 1)) = true
    rw [h0, rows_all b r c m (zs.drop c) (i + 1) fun j hj => ?_]
    · rfl
    · have := h (j + 1) (by omega)
      rw [List.drop_drop, show i + 1 + (j : Int) = i + ((j + 1 : Nat) : Int) by omega, show c + j * c = (j + 1) * c by rw [Nat.add_mul]; omega]
      exact this
theorem rows_bad (b : Box) (r : Int) (c : Nat) : ∀ (m : Nat) (zs : List Int) (i : Int) (j : Nat), j < m → fitsB 2 ((zs.drop (j * c)).take c).length (b.with 3 (shareF b.h r (i + j))) = false → rowsB b r c zs m i = false
  | 0, _, _, _, h, _ => absurd h (Nat.not_lt_zero _)
  | m + 1, zs, i, 0, _, h => by
    rw [Nat.zero_mul, List.drop_zero, show i + ((0 : Nat) : Int) = i by simp] at h
    show (_ && rowsB b r c (zs.drop c) m (i + 1)) = false
    rw [h, Bool.false_and]
  | m + 1, zs, i, j + 1, hj, h => by
    show (_ && rowsB b r c (zs.drop c) m (i + 1)) = false
    rw [rows_bad b r c m (zs.drop c) (i + 1) j (by omega) ?_, Bool.and_false]
    rw [List.drop_drop, show i + 1 + (j : Int) = i + ((j + 1 : Nat) : Int) by omega, show c + j * c = (j + 1) * c by rw [Nat.add_mul]; omega]
    exact h
/-- How far the rows have come. -/
structure TileTo (w : World) (wd ht : Int) (gN gK r cap : Nat) (us0 rows : List Tree) (i : Nat) (us : List Tree) (wr : World) : Prop where
  res : wr.heap[w.heap.size]? = some (.cells zeroN 67 (0, 0))
  nod : wr.heap[gN]? = some (.cells #[.int .i64 3, .int .i64 wd, .int .i64 ht, .int .i64 0, .slice (some ⟨gK, 0, none⟩) r cap] 67 (0, 0))
  kids : KidsAt gK r cap [] us wr
  done : ∀ j : Nat, j < i → us[j]? = rows[j]?
  left : ∀ j : Nat, i ≤ j → us[j]? = us0[j]?
  below : Below w.heap.size w wr
  apart : w.heap.size < gK ∧ gK < gN
theorem TileTo.below' {w : World} {wd ht : Int} {gN gK r cap : Nat} {us0 rows : List Tree} {i : Nat} {us : List Tree} {wr X : World} (h : TileTo w wd ht gN gK r cap us0 rows i us wr) (hb : Below wr.heap.size wr X) : TileTo w wd ht gN gK r cap us0 rows i us X :=
  ⟨(hb.block _ (lt_of_block h.res)).trans h.res, (hb.block _ (lt_of_block h.nod)).trans h.nod, h.kids.below hb, h.done, h.left, below_step h.below hb, h.apart⟩
theorem TileTo.next {w : World} {wd ht : Int} {gN gK r cap : Nat} {us0 rows : List Tree} {i : Nat} {us : List Tree} {wr X : World} (h : TileTo w wd ht gN gK r cap us0 rows i us wr) (hX : Below wr.heap.size wr X) (hi : i < r) {t : Tree} (ht' : rows[i]? = some t) {sl : Value} {f : List Nat} (hIn : (nodeOf t).In X sl f) (hf : ∀ q ∈ f, wr.heap.size ≤ q) : TileTo w wd ht gN gK r cap us0 rows (i + 1) (us.set i t) (set5at X gK (i * 5) (nodeOf t) sl) := by
  obtain ⟨u, hu⟩ : ∃ u, us[i]? = some u := ⟨_, List.getElem?_eq_getElem (by rw [h.kids.len]; exact hi)⟩
  obtain ⟨_, _, _, _, _, _, hk⟩ := h.kids.one i u hu
  have hx := h.below' hX
  have ha := h.apart
  refine ⟨?_, ?_, hk X t sl f hX hIn fun q hq => .inr (hf q hq), fun j hj => ?_, fun j hj => ?_, ?_, ha⟩
  · rw [set5at_block _ _ _ _ _ _ (by omega)]; exact hx.res
  · rw [set5at_block _ _ _ _ _ _ (by omega)]; exact hx.nod
  · by_cases e : i = j
    · subst e
      rw [List.getElem?_set_self (by rw [h.kids.len]; exact hi), ht']
    · rw [List.getElem?_set_ne e]
      exact h.done j (by omega)
  · rw [List.getElem?_set_ne (by omega)]
    exact h.left j (by omega)
  · exact set5at_below hx.below gK (i * 5) (by omega) _ _

end Go.Proofs.Ytjnmjoigmbpodaa
