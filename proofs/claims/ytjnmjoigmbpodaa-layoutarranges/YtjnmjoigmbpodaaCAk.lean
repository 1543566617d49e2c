/-
  Layouts: panes side by side, by shares, in the document.
-/
import Derived.Test.YtjnmjoigmbpodaaCAj
namespace Go.Proofs.Ytjnmjoigmbpodaa
open Go.RowKit
set_option linter.unusedVariables false
set_option maxRecDepth 100000

/-- Nodes without children, cell by cell. -/
def leafCells (ns : List Node) : List Value := ns.flatMap fun n => nodeL n (.slice none 0 0)
theorem leafCells_length (ns : List Node) : (leafCells ns).length = ns.length * 5 := by
  induction ns with
  | nil => rfl
  | cons n ns ih =>
    unfold leafCells at ih ⊢
    rw [List.flatMap_cons, List.length_append, ih, List.length_cons]
    show 5 + _ = _
    omega
theorem leafCells_snoc (ns : List Node) (n : Node) : leafCells (ns ++ [n]) = leafCells ns ++ nodeL n (.slice none 0 0) := by
  unfold leafCells
  rw [List.flatMap_append]
  simp
theorem leaf_In (W : World) (n : Node) (h : n.ks = []) : n.In W (.slice none 0 0) [] := by
  cases n with
  | mk k w h i ks =>
    have : ks = [] := h
    subst this
    exact ⟨[], [], World.ownsRow_nil _ _ _ _, ⟨rfl, rfl⟩, rfl⟩
theorem leaf_nodesIn (W : World) : ∀ (ns : List Node), (∀ n ∈ ns, n.ks = []) → nodesIn W ns (leafCells ns) []
  | [], _ => ⟨rfl, rfl⟩
  | n :: ns, h => ⟨.slice none 0 0, leafCells ns, [], [], rfl, leaf_In W n (h n (by simp)), leaf_nodesIn W ns fun m hm => h m (List.mem_cons_of_mem _ hm), rfl⟩
theorem nodes_snoc (ts : List Tree) (t : Tree) : nodesOf (ts ++ [t]) = nodesOf ts ++ [nodeOf t] := by
  induction ts with
  | nil => rfl
  | cons a ts ih => show nodeOf a :: nodesOf (ts ++ [t]) = _; rw [ih]; rfl
theorem shareL_leafs (k : Int) (b : Box) (n : Int) : ∀ (zs : List Int) (i : Int), ∀ m ∈ nodesOf (shareL k b n zs i), m.ks = []
  | [], _, m, hm => by cases hm
  | z :: zs, i, m, hm => by
    have hm' : m ∈ nodeOf (.leaf (b.with k (shareF (b.ext k) n i)) z) :: nodesOf (shareL k b n zs (i + 1)) := hm
    rcases List.mem_cons.1 hm' with h | h
    · rw [h]; rfl
    · exact shareL_leafs k b n zs (i + 1) m h
/-- How far the document's list of panes has come. -/
structure SharedTo (w : World) (k wd ht : Int) (ns : List Node) (sl : Value) (wr : World) : Prop where
  res : wr.heap[w.heap.size]? = some (.cells zeroN 67 (0, 0))
  own : wr.heap[w.heap.size + 1]? = some (.cells #[.int .i64 k, .int .i64 wd, .int .i64 ht, .int .i64 0, sl] 67 (0, 0))
  row : wr.ownsRow (w.heap.size + 2) 67 5 sl ns.length (leafCells ns)
  below : Below w.heap.size w wr
theorem SharedTo.lt {w : World} {k wd ht : Int} {ns : List Node} {sl : Value} {wr : World} (h : SharedTo w k wd ht ns sl wr) : w.heap.size + 2 ≤ wr.heap.size := lt_of_block h.own
theorem own_below5 {W W' : World} {B : Nat} {t : TypeId} {sl : Value} {n : Nat} {vs : List Value} (h : W.ownsRow B t 5 sl n vs) (hb : Below W.heap.size W W') : W'.ownsRow B t 5 sl n vs := own_kept5 h fun g hg => hb.block g (own_lt5 h g hg)
theorem SharedTo.below' {w : World} {k wd ht : Int} {ns : List Node} {sl : Value} {wr X : World} (h : SharedTo w k wd ht ns sl wr) (hb : Below wr.heap.size wr X) : SharedTo w k wd ht ns sl X := by
  have hl := h.lt
  exact ⟨(hb.block _ (by omega)).trans h.res, (hb.block _ (by omega)).trans h.own, own_below5 h.row hb, below_step h.below hb⟩
theorem SharedTo.next {w : World} {k wd ht : Int} {ns : List Node} {sl : Value} {wr X : World} (h : SharedTo w k wd ht ns sl wr) (hX : Below wr.heap.size wr X) {n : Node} {o : Obj} {sl' : Value} {w' : World} (h1 : w'.ownsRow (w.heap.size + 2) 67 5 sl' (ns.length + 1) (leafCells ns ++ nodeL n (.slice none 0 0))) (h2 : (X.alloc o).grownBy w' sl.ownBlock) :
    w'.heap[w.heap.size + 1]? = some (.cells #[.int .i64 k, .int .i64 wd, .int .i64 ht, .int .i64 0, sl] 67 (0, 0)) ∧ SharedTo w k wd ht (ns ++ [n]) sl' (w'.setCell ⟨w.heap.size + 1, 4, none⟩ sl') := by
  have hx := h.below' hX
  have hl := h.lt
  have hxl := hX.size
  have hsz : (X.alloc o).heap.size = X.heap.size + 1 := by simp
  have hne : ∀ q, sl.ownBlock = some q → w.heap.size + 2 ≤ q := fun q hq => (World.ownsRow.lt h.row q hq).1
  have kept : ∀ q, q < w.heap.size + 2 → w'.heap[q]? = X.heap[q]? := fun q hq => (h2.block q (by omega) (fun e => by have := hne _ e.symm; omega)).trans (((Below.refl X.heap.size X).alloc (Nat.le_refl _) o).block q (by omega))
  have ho := (kept _ (by omega)).trans hx.own
  refine ⟨ho, ?_, heap_set4 ho sl', ?_, ?_⟩
  · rw [Below.heap_setCell _ _ _ _ (by simp)]
    exact (kept _ (by omega)).trans hx.res
  · rw [leafCells_snoc, List.length_append]
    refine own_kept5 h1 fun q hq => Below.heap_setCell _ _ _ _ fun e => ?_
    have := (World.ownsRow.lt h1 q (by simpa using hq)).1
    have e' : q = w.heap.size + 1 := by simpa using e
    omega
  · have hb : Below w.heap.size w w' := by
      have h0 : Below w.heap.size w (X.alloc o) := alloc_below hx.below o
      refine ⟨h2.os.trans h0.os, h2.tape.trans h0.tape, h2.output.trans h0.output, Nat.le_trans h0.size h2.size, fun q hq => (h2.block q (by have := h0.size; omega) fun e => ?_).trans (h0.block q hq)⟩
      have := hne _ e.symm
      omega
    exact below_grown hb (grownBy_set _ _ _ _) (by omega)
theorem step_append_nodeB {ops : Array Oper} {o : Oper} {a : Act} {K : Act → World → Prop} {Q : Exit → Act → World → Prop} {E : Prop} (w : World) (hgd : o.guard = none) (s x : Operand)
    (ho : o.op = .call { callee := .builtin .append, args := #[s, x], argTypes := #[65, 65] })
    (B : Nat) (v : Value) (m : Nat) (cs : List Value) (n : Node) (sa : Option Addr) (sn sc : Nat) (hs : a.eval s = v) (hown : w.ownsRow B 67 5 v m cs) (hx : a.eval x = .slice (some ⟨w.heap.size, 0, none⟩) 1 1) (hlen : m ≤ 1000000) (hB : B ≤ w.heap.size)
    (h : ∀ v' w', w'.ownsRow B 67 5 v' (m + 1) (cs ++ nodeL n (.slice sa sn sc)) → (w.alloc (.cells (nodeV n (.slice sa sn sc)) 67)).grownBy w' v.ownBlock → K (a.put o.dst v') w') : if Region.wanted o (yielded ops a.tmps) = true then Oper.wp Try.prog o a (w.alloc (.cells (nodeV n (.slice sa sn sc)) 67)) K Q else E := by
  have hw : Region.wanted o (yielded ops a.tmps) = true := by simp [Region.wanted, hgd]
  rw [if_pos hw]
  obtain ⟨i0, hi, hz0, hz1, hz2⟩ := info_partsL infoNode
  refine wp_append_own _ s x 65 ho B 67 i0 _ 5 56 Try.underlying65 hi hz0 hz1 hz2 rfl (by decide) v m cs hs (World.ownsRow.alloc hown _) ⟨w.heap.size, 0, none⟩ 1 1 (nodeL n (.slice sa sn sc)) hx rfl ?_ ?_ ?_ ?_ ?_ ?_
  · intro j u hu
    rw [show (⟨w.heap.size, 0, none⟩ : Addr).add j = ⟨w.heap.size, j, none⟩ by unfold Addr.add; split <;> simp_all, cell_newL, ← nodeL_get]
    exact hu
  · intro u hu
    have hu' : u ∈ [Value.int .i64 n.k, .int .i64 n.w, .int .i64 n.h, .int .i64 n.i, .slice sa sn sc] := hu
    simp only [List.mem_cons, List.not_mem_nil, or_false] at hu'
    rcases hu' with rfl | rfl | rfl | rfl | rfl <;> rfl
  · unfold maxLen; omega
  · omega
  · have : (w.alloc (.cells (nodeV n (.slice sa sn sc)) 67)).heap.size = w.heap.size + 1 := by simp
    omega
  · intro v' w' h2 h3 _
    exact h v' w' h2 h3

/-- What the document answers: the node, or that there is none. -/
def DocA (ok : Bool) (n : Node) (w : World) (e : Ending) (w' : World) : Prop := Below w.heap.size w w' ∧ ((ok = true ∧ ∃ sa sn sc fp, e = .returned (.tuple #[.agg (nodeV n (.slice sa sn sc)), .bool true]) ∧ n.In w' (.slice sa sn sc) fp ∧ ∀ q ∈ fp, w.heap.size ≤ q) ∨ (ok = false ∧ e = .returned (.tuple #[.agg zeroN, .bool false])))

/-- The same, with all that the node is made of. -/
def DocS (ok : Bool) (n : Node) (w : World) (e : Ending) (w' : World) : Prop := Below w.heap.size w w' ∧ ((ok = true ∧ ∃ sa sn sc fp, e = .returned (.tuple #[.agg (nodeV n (.slice sa sn sc)), .bool true]) ∧ n.In w' (.slice sa sn sc) fp ∧ (∀ q ∈ fp, w.heap.size ≤ q) ∧ fp = (Value.slice sa sn sc).ownBlock.toList) ∨ (ok = false ∧ e = .returned (.tuple #[.agg zeroN, .bool false])))
theorem DocS.doc {ok : Bool} {n : Node} {w : World} {e : Ending} {w' : World} (h : DocS ok n w e w') : DocA ok n w e w' := by
  refine ⟨h.1, ?_⟩
  rcases h.2 with ⟨h1, sa, sn, sc, fp, h2, h3, h4, _⟩ | h1
  · exact .inl ⟨h1, sa, sn, sc, fp, h2, h3, h4⟩
  · exact .inr h1
theorem zero_below (w : World) (o : Obj) : Below w.heap.size w (w.alloc o) := (Below.refl _ _).alloc (Nat.le_refl _) _
theorem zero_below2 (w : World) (o o' : Obj) : Below w.heap.size w ((w.alloc o).alloc o') := alloc_below (zero_below w o) o'
theorem shared_bad (k : Int) (wd ht : Int) (v : Value) (w : World) (hb : wd < 1 ∨ ht < 1) : Calls Try.prog 41 #[v, .int .i64 k, .int .i64 wd, .int .i64 ht] w fun e w' => e = .returned (.tuple #[.agg zeroN, .bool false]) ∧ Below w.heap.size w w' := by
  by_cases h1 : wd < 1
  · have d1 : decide (wd < (1 : Int)) = true := decide_eq_true h1
    go_enter Try.func41, Try.ntmps41
    go_wp2
    exact bodyPost_ret (v := .tuple #[.agg zeroN, .bool false]) (by simp [results, Try.results41, go_sem, zeroN]) rfl ⟨rfl, zero_below _ _⟩
  · have d1 : decide (wd < (1 : Int)) = false := decide_eq_false h1
    have d2 : decide (ht < (1 : Int)) = true := decide_eq_true (by omega)
    go_enter Try.func41, Try.ntmps41
    go_wp2
    exact bodyPost_ret (v := .tuple #[.agg zeroN, .bool false]) (by simp [results, Try.results41, go_sem, zeroN]) rfl ⟨rfl, zero_below _ _⟩
theorem shared_one (k : Int) (wd ht z : Int) (v : Value) (w : World) (h1 : 1 ≤ wd) (h2 : 1 ≤ ht) (hI : IdsIn w v [z]) : Calls Try.prog 41 #[v, .int .i64 k, .int .i64 wd, .int .i64 ht] w fun e w' => e = .returned (.tuple #[.agg (nodeV (.mk 1 wd ht z []) (.slice none 0 0)), .bool true]) ∧ Below w.heap.size w w' := by
  obtain ⟨g, o, cap, rfl, hcap, hz⟩ := hI
  have d1 : decide (wd < (1 : Int)) = false := decide_eq_false (by omega)
  have d2 : decide (ht < (1 : Int)) = false := decide_eq_false (by omega)
  have h0 := hz 0 z rfl
  have hl0 := World.block_lt_of_cell? w _ h0
  obtain ⟨W, hW⟩ : ∃ x, w.alloc (.cells zeroN 67) = x := ⟨_, rfl⟩
  obtain ⟨V, hV⟩ : ∃ x, W.alloc (.cells #[.int .i64 k, .int .i64 wd, .int .i64 ht, .int .i64 0, .slice none 0 0] 67) = x := ⟨_, rfl⟩
  have hWb : Below w.heap.size w W := by rw [← hW]; exact zero_below _ _
  have hVb : Below w.heap.size w V := by rw [← hV]; exact alloc_below hWb _
  have hc : V.heap[w.heap.size]? = some (.cells zeroN 67 (0, 0)) := by
    have hs : W.heap.size = w.heap.size + 1 := by rw [← hW]; simp
    rw [← hV, ((Below.refl W.heap.size W).alloc (Nat.le_refl _) _).block _ (by omega), ← hW]
    exact heap_alloc_new _ _
  have d0 : V.cell? ⟨g, o, none⟩ = some (.int .i64 z) := (hVb.cell (p := ⟨g, o, none⟩) hl0).trans h0
  have q0 : V.cell? ⟨w.heap.size, 0, none⟩ = some (.int .i64 0) := cell_atL hc 0
  have q1 : V.cell? ⟨w.heap.size, 1, none⟩ = some (.int .i64 0) := cell_atL hc 1
  have q2 : V.cell? ⟨w.heap.size, 2, none⟩ = some (.int .i64 0) := cell_atL hc 2
  have q3 : V.cell? ⟨w.heap.size, 3, none⟩ = some (.int .i64 0) := cell_atL hc 3
  have q4 : V.cell? ⟨w.heap.size, 4, none⟩ = some (.slice none 0 0) := cell_atL hc 4
  have f0 : V.frozen? ⟨w.heap.size, 0, none⟩ = false := free_atL hc 0
  have f1 : V.frozen? ⟨w.heap.size, 1, none⟩ = false := free_atL hc 1
  have f2 : V.frozen? ⟨w.heap.size, 2, none⟩ = false := free_atL hc 2
  have f3 : V.frozen? ⟨w.heap.size, 3, none⟩ = false := free_atL hc 3
  have f4 : V.frozen? ⟨w.heap.size, 4, none⟩ = false := free_atL hc 4
  have HVb : Hid (Below w.heap.size w V) := hVb
  unfold zeroN at hW
  have HW : Hid (w.alloc (.cells #[.int .i64 0, .int .i64 0, .int .i64 0, .int .i64 0, .slice none 0 0] 67) = W) := hW
  have HV : Hid (W.alloc (.cells #[.int .i64 k, .int .i64 wd, .int .i64 ht, .int .i64 0, .slice none 0 0] 67) = V) := hV
  clear hW hV hWb hVb hc hz h0 hl0
  go_enter Try.func41, Try.ntmps41
  go_upto_region 1 with fail
  rw [HW.out]
  go_upto_region 4 with fail
  rw [HV.out]
  go_wp2
  exact bodyPost_ret (v := .tuple #[.agg #[.int .i64 1, .int .i64 wd, .int .i64 ht, .int .i64 z, .slice none 0 0], .bool true]) (by simp [results, Try.results41, go_sem, q0, q1, q2, q3, q4]) rfl ⟨rfl, set5_below HVb.out _ (Nat.le_refl _) _ _ _ _ _⟩

/-- The two nodes that shared holds, at its start. -/
theorem shared_start (w : World) (k wd ht : Int) : SharedTo w k wd ht [] (.slice none 0 0) ((w.alloc (.cells #[.int .i64 0, .int .i64 0, .int .i64 0, .int .i64 0, .slice none 0 0] 67)).alloc (.cells #[.int .i64 k, .int .i64 wd, .int .i64 ht, .int .i64 0, .slice none 0 0] 67)) := by
  obtain ⟨W, hW⟩ : ∃ x, w.alloc (.cells #[.int .i64 0, .int .i64 0, .int .i64 0, .int .i64 0, .slice none 0 0] 67) = x := ⟨_, rfl⟩
  have hs : W.heap.size = w.heap.size + 1 := by rw [← hW]; simp
  have hn : W.heap[w.heap.size]? = some (.cells zeroN 67 (0, 0)) := by rw [← hW]; exact heap_alloc_new _ _
  have hb : Below w.heap.size w W := by rw [← hW]; exact zero_below _ _
  rw [hW]
  refine ⟨(((Below.refl W.heap.size W).alloc (Nat.le_refl _) _).block _ (by omega)).trans hn, ?_, World.ownsRow_nil _ _ _ _, alloc_below hb _⟩
  rw [← hs]
  exact heap_alloc_new _ _
theorem SharedTo.cells {w : World} {k wd ht : Int} {ns : List Node} {sl : Value} {wr : World} (h : SharedTo w k wd ht ns sl wr) : (wr.cell? ⟨w.heap.size + 1, 0, none⟩ = some (.int .i64 k) ∧ wr.cell? ⟨w.heap.size + 1, 1, none⟩ = some (.int .i64 wd) ∧ wr.cell? ⟨w.heap.size + 1, 2, none⟩ = some (.int .i64 ht) ∧ wr.cell? ⟨w.heap.size + 1, 3, none⟩ = some (.int .i64 0) ∧ wr.cell? ⟨w.heap.size + 1, 4, none⟩ = some sl) := ⟨cell_atL h.own 0, cell_atL h.own 1, cell_atL h.own 2, cell_atL h.own 3, cell_atL h.own 4⟩
/-- The result's cells. -/
structure ResZ (w wr : World) : Prop where
  q0 : wr.cell? ⟨w.heap.size, 0, none⟩ = some (.int .i64 0)
  q1 : wr.cell? ⟨w.heap.size, 1, none⟩ = some (.int .i64 0)
  q2 : wr.cell? ⟨w.heap.size, 2, none⟩ = some (.int .i64 0)
  q3 : wr.cell? ⟨w.heap.size, 3, none⟩ = some (.int .i64 0)
  q4 : wr.cell? ⟨w.heap.size, 4, none⟩ = some (.slice none 0 0)
  f0 : wr.frozen? ⟨w.heap.size, 0, none⟩ = false
  f1 : wr.frozen? ⟨w.heap.size, 1, none⟩ = false
  f2 : wr.frozen? ⟨w.heap.size, 2, none⟩ = false
  f3 : wr.frozen? ⟨w.heap.size, 3, none⟩ = false
  f4 : wr.frozen? ⟨w.heap.size, 4, none⟩ = false
theorem resZ_of {w wr : World} (h : wr.heap[w.heap.size]? = some (.cells zeroN 67 (0, 0))) : ResZ w wr := ⟨cell_atL h 0, cell_atL h 1, cell_atL h 2, cell_atL h 3, cell_atL h 4, free_atL h 0, free_atL h 1, free_atL h 2, free_atL h 3, free_atL h 4⟩
/-- The node that shared answers. -/
theorem shared_in {w : World} {k wd ht : Int} {ns : List Node} {sl : Value} {wr : World} (h : SharedTo w k wd ht ns sl wr) (hl : ∀ n ∈ ns, n.ks = []) (v0 v1 v2 v3 v4 : Value) : (Node.mk k wd ht 0 ns).In (set5 wr w.heap.size v0 v1 v2 v3 v4) sl (sl.ownBlock.toList ++ []) ∧ (∀ q ∈ sl.ownBlock.toList ++ [], w.heap.size ≤ q) ∧ Below w.heap.size w (set5 wr w.heap.size v0 v1 v2 v3 v4) := by
  have hge : ∀ q ∈ sl.ownBlock.toList, w.heap.size + 2 ≤ q := fun q hq => (World.ownsRow.lt h.row q (by simpa using hq)).1
  have hb := set5_below h.below w.heap.size (Nat.le_refl _) v0 v1 v2 v3 v4
  refine ⟨⟨leafCells ns, [], ⟨h.row.1, ?_⟩, leaf_nodesIn _ ns hl, rfl⟩, fun q hq => by rw [List.append_nil] at hq; have := hge q hq; omega, hb⟩
  have hk : ∀ g ∈ sl.ownBlock.toList, (set5 wr w.heap.size v0 v1 v2 v3 v4).heap[g]? = wr.heap[g]? := fun g hg => by
    have := hge g hg
    unfold set5
    rw [Below.heap_setCell _ _ _ _ (by simp; omega), Below.heap_setCell _ _ _ _ (by simp; omega), Below.heap_setCell _ _ _ _ (by simp; omega), Below.heap_setCell _ _ _ _ (by simp; omega), Below.heap_setCell _ _ _ _ (by simp; omega)]
  have h5 := own_kept5 h.row hk
  rcases h5.2 with h0 | ⟨g, cap, cur, e, _, r⟩
  · exact .inl h0
  · exact .inr ⟨g, cap, cur, e, Nat.zero_le _, r⟩

set_option maxHeartbeats 4000000 in
theorem shared_many (k : Int) (hk : k = 2 ∨ k = 3) (wd ht : Int) (zs : List Int) (v : Value) (w : World) (h1 : 1 ≤ wd ∧ wd ≤ 1000) (h2 : 1 ≤ ht ∧ ht ≤ 1000) (hI : IdsIn w v zs) (hn2 : 2 ≤ zs.length) (hn3 : zs.length ≤ 400) : Calls Try.prog 41 #[v, .int .i64 k, .int .i64 wd, .int .i64 ht] w (DocS (fitsB k zs.length ⟨0, 0, wd, ht⟩) (nodeOf (evenT k zs ⟨0, 0, wd, ht⟩)) w) := by
  obtain ⟨g, o, cap, rfl, hcap, hz⟩ := hI
  have d1 : decide (wd < (1 : Int)) = false := decide_eq_false (by omega)
  have d2 : decide (ht < (1 : Int)) = false := decide_eq_false (by omega)
  obtain ⟨b, hb⟩ : ∃ b : Box, b = ⟨0, 0, wd, ht⟩ := ⟨_, rfl⟩
  rw [← hb]
  obtain ⟨E, hE⟩ : ∃ E, b.ext k = E := ⟨_, rfl⟩
  have hEx : (if k = 2 then wd else ht) = E := by rw [← hE, hb]; rfl
  have hE1 : 1 ≤ E ∧ E ≤ 1000 := by rw [← hEx]; split <;> assumption
  obtain ⟨n, hn⟩ : ∃ n, zs.length = n := ⟨_, rfl⟩
  have HN : Hid (zs.length = n) := hn
  have hev : evenT k zs b = .split b k (shareL k b n zs 0) := by
    match zs, hn2, hn with
    | x :: y :: zs, _, hn => show Tree.split b k (shareL k b ((x :: y :: zs).length : Nat) (x :: y :: zs) 0) = _; rw [hn]
  have hfit : fitsB k zs.length b = decide ((n : Int) ≤ E - (n - 1)) := by
    unfold fitsB
    rw [hn, hE, decide_eq_false (show ¬ (n : Int) = 1 by omega), side_mk hE1.1 hE1.2]
    have : sideB (b.ext (acrossK k)) = true := by
      rw [hb]
      rcases hk with rfl | rfl
      · exact side_mk h2.1 h2.2
      · exact side_mk h1.1 h1.2
    rw [this]
    simp
  rw [hfit, hev]
  have hEV : nodeOf (.split b k (shareL k b n zs 0)) = .mk k wd ht 0 (nodesOf (shareL k b n zs 0)) := by rw [hb]; rfl
  rw [hEV]
  obtain ⟨W, hW⟩ : ∃ x, w.alloc (.cells #[.int .i64 0, .int .i64 0, .int .i64 0, .int .i64 0, .slice none 0 0] 67) = x := ⟨_, rfl⟩
  have hWs : W.heap.size = w.heap.size + 1 := by rw [← hW]; simp
  obtain ⟨V, hV⟩ : ∃ x, W.alloc (.cells #[.int .i64 k, .int .i64 wd, .int .i64 ht, .int .i64 0, .slice none 0 0] 67) = x := ⟨_, rfl⟩
  have HS0 : Hid (SharedTo w k wd ht [] (.slice none 0 0) V) := by rw [← hV, ← hW]; exact shared_start w k wd ht
  have HW : Hid (w.alloc (.cells #[.int .i64 0, .int .i64 0, .int .i64 0, .int .i64 0, .slice none 0 0] 67) = W) := hW
  have HV : Hid (W.alloc (.cells #[.int .i64 k, .int .i64 wd, .int .i64 ht, .int .i64 0, .slice none 0 0] 67) = V) := hV
  obtain ⟨c0, c1, c2, c3, c4⟩ := HS0.out.cells
  have HEx : Hid (∀ X, Calls Try.prog 31 #[.agg #[.int .i64 k, .int .i64 wd, .int .i64 ht, .int .i64 0, .slice none 0 0], .int .i64 k] X fun e w' => e = .returned (.int .i64 E) ∧ Below X.heap.size X w') := fun X => by
    have := ref_extent (.mk k wd ht 0 []) none 0 0 k X
    rw [← hEx]
    exact this
  have hn1 : ((n : Int) == 1) = false := by
    have : (n : Int) ≠ 1 := by omega
    simpa using this
  have w1 : IntKind.i64.wrap ((n : Int) - 1) = (n : Int) - 1 := by rw [IntKind.wrap_i64]; omega
  have w2 : IntKind.i64.wrap (E - ((n : Int) - 1)) = E - ((n : Int) - 1) := by rw [IntKind.wrap_i64]; omega
  rw [hn] at hn2 hn3 hcap ⊢
  obtain ⟨L, hL⟩ : ∃ L, E - ((n : Int) - 1) = L := ⟨_, rfl⟩
  rw [hL] at w2 ⊢
  by_cases hfew : L < (n : Int)
  · have hd : decide (L < (n : Int)) = true := decide_eq_true hfew
    have hd' : decide ((n : Int) ≤ L) = false := decide_eq_false (by omega)
    rw [hd']
    have HZ : Hid (ResZ w V) := resZ_of HS0.out.res
    have HVb : Hid (Below w.heap.size w V) := HS0.out.below
    have HRs : Hid (∀ X, Below V.heap.size V X → ResZ w X) := fun X hX => resZ_of (HS0.out.below' hX).res
    clear hW hV hz hE hEx hev hfit hEV hb hn hd'
    go_enter Try.func41, Try.ntmps41
    go_upto_region 1 with fail
    rw [HW.out]
    go_upto_region 4 with fail
    rw [HV.out]
    go_wp2_with fail
    refine (HEx.out _).mono ?_
    rintro e X ⟨rfl, hbX⟩
    obtain ⟨q0, q1, q2, q3, q4, f0, f1, f2, f3, f4⟩ := HRs.out X hbX
    have HXb : Hid (Below w.heap.size w X) := below_step HVb.out hbX
    clear hbX c0 c1 c2 c3 c4
    go_wp2
    exact bodyPost_ret (v := .tuple #[.agg #[.int .i64 0, .int .i64 0, .int .i64 0, .int .i64 0, .slice none 0 0], .bool false]) (by simp [results, Try.results41, go_sem, q0, q1, q2, q3, q4]) rfl ⟨set5_below HXb.out _ (Nat.le_refl _) _ _ _ _ _, .inr ⟨rfl, rfl⟩⟩
  · have hd : decide (L < (n : Int)) = false := decide_eq_false hfew
    have hd' : decide ((n : Int) ≤ L) = true := decide_eq_true (by omega)
    rw [hd']
    obtain ⟨ts, hts⟩ : ∃ ts, shareL k b n zs 0 = ts := ⟨_, rfl⟩
    have HLf : Hid (∀ m ∈ nodesOf ts, m.ks = []) := by rw [← hts]; exact shareL_leafs k b n zs 0
    have HTl : Hid (ts.length = n) := by show _ = _; rw [← hts, shareL_length, hn]
    have HT : Hid (∀ (i : Nat) z, zs[i]? = some z → ts[i]? = some (.leaf (b.with k (shareF E n i)) z)) := fun i z h => by
      rw [← hts, ← hE]
      have := shareL_get k b n zs 0 i z h
      rw [Int.zero_add] at this
      exact this
    rw [hts]
    have hqs := tdiv_small (L := L) (n := n) (by omega) (by omega)
    obtain ⟨qt, hqt⟩ : ∃ q, L.tdiv n = q := ⟨_, rfl⟩
    obtain ⟨rm, hrm⟩ : ∃ r, L.tmod n = r := ⟨_, rfl⟩
    have HSf : Hid (∀ i : Int, shareF E n i = if i < rm then qt + 1 else qt) := fun i => by unfold shareF; rw [hL, hqt, hrm]
    rw [hqt] at hqs
    have w3 : IntKind.i64.wrap qt = qt := by rw [IntKind.wrap_i64]; omega
    have w4 : IntKind.i64.wrap (qt + 1) = qt + 1 := by rw [IntKind.wrap_i64]; omega
    have hb0 : ((n : Int) == 0) = false := by
      have : (n : Int) ≠ 0 := by omega
      simpa using this
    have HZ : Hid (∀ X, Below w.heap.size w X → ∀ (i : Nat) z, zs[i]? = some z → X.cell? ⟨g, o + i, none⟩ = some (.int .i64 z)) := fun X hX i z h => (hX.cell (p := ⟨g, o + i, none⟩) (World.block_lt_of_cell? w _ (hz i z h))).trans (hz i z h)
    have HSz : Hid (∀ (sa : Option Addr) (sn sc : Nat) (z sh : Int) X, Calls Try.prog 57 #[.agg #[.int .i64 k, .int .i64 wd, .int .i64 ht, .int .i64 0, .slice sa sn sc], .int .i64 z, .int .i64 k, .int .i64 sh] X fun e w' => e = .returned (.agg #[.int .i64 1, .int .i64 (if k = 2 then sh else wd), .int .i64 (if k = 2 then ht else sh), .int .i64 z, .slice none 0 0]) ∧ Below X.heap.size X w') := fun sa sn sc z sh X => sized_any (.mk k wd ht 0 []) sa sn sc z k sh hk X
    have HNd : Hid (∀ z sh : Int, nodeOf (.leaf (b.with k sh) z) = .mk 1 (if k = 2 then sh else wd) (if k = 2 then ht else sh) z []) := fun z sh => by
      rw [hb]
      rcases hk with rfl | rfl
      · show Node.mk 1 (wd + (sh - wd)) ht z [] = _
        rw [show wd + (sh - wd) = sh by omega]
        rfl
      · show Node.mk 1 wd (ht + (sh - ht)) z [] = _
        rw [show ht + (sh - ht) = sh by omega]
        rfl
    clear hW hV hz hE hEx hev hfit hEV hb hn hd' hts hqs hk
    go_enter Try.func41, Try.ntmps41
    go_upto_region 1 with fail
    rw [HW.out]
    go_upto_region 4 with fail
    rw [HV.out]
    go_wp2_with fail
    refine (HEx.out _).mono ?_
    rintro e X ⟨rfl, hbX⟩
    have HSX : Hid (SharedTo w k wd ht [] (.slice none 0 0) X) := HS0.out.below' hbX
    clear hbX c0 c1 c2 c3 c4
    go_wp2
    go_loopw [12] (fun vi wr => ∃ i : Nat, i ≤ n ∧ vi = .int .i64 i ∧ ∃ sl, Hid (SharedTo w k wd ht (nodesOf (ts.take i)) sl wr)) (fun vi _ => n - (intOf vi).toNat)
    case atStart => exact ⟨0, Nat.zero_le _, rfl, _, HSX⟩
    case round =>
      obtain ⟨i, hi, rfl, sl, HJ⟩ := hrel
      by_cases hlt : i < n
      · obtain ⟨z, hz⟩ : ∃ z, zs[i]? = some z := ⟨_, List.getElem?_eq_getElem (by rw [HN.out]; exact hlt)⟩
        have dz := HZ.out wr HJ.out.below i z hz
        obtain ⟨sh, hsh⟩ : ∃ s, shareF E n i = s := ⟨_, rfl⟩
        have hs2 := HSf.out (i : Int)
        rw [hsh] at hs2
        obtain ⟨mw, hmw⟩ : ∃ x, (if k = 2 then sh else wd) = x := ⟨_, rfl⟩
        obtain ⟨mh, hmh⟩ : ∃ x, (if k = 2 then ht else sh) = x := ⟨_, rfl⟩
        have HTk : Hid (nodesOf (ts.take (i + 1)) = nodesOf (ts.take i) ++ [.mk 1 mw mh z []]) := by
          show _ = _
          rw [take_more _ _ _ (HT.out i z hz), nodes_snoc, HNd.out, hsh, hmw, hmh]
        have HSi : Hid (∀ (sa : Option Addr) (sn sc : Nat) X, Calls Try.prog 57 #[.agg #[.int .i64 k, .int .i64 wd, .int .i64 ht, .int .i64 0, .slice sa sn sc], .int .i64 z, .int .i64 k, .int .i64 sh] X fun e w' => e = .returned (.agg #[.int .i64 1, .int .i64 mw, .int .i64 mh, .int .i64 z, .slice none 0 0]) ∧ Below X.heap.size X w') := fun sa sn sc X => by rw [← hmw, ← hmh]; exact HSz.out sa sn sc z sh X
        obtain ⟨sa, sc, hsl⟩ := own_sl5 HJ.out.row
        obtain ⟨sn, hsn⟩ : ∃ x, (nodesOf (ts.take i)).length = x := ⟨_, rfl⟩
        rw [hsn] at hsl
        subst hsl
        have hln : sn ≤ 1000000 := by
          rw [← hsn, nodesOf_length, List.length_take]
          omega
        obtain ⟨e0, e1, e2, e3, e4⟩ := HJ.out.cells
        have HSn : Hid ((nodesOf (ts.take i)).length = sn) := hsn
        have HD : Hid (wr.drew.cell? ⟨w.heap.size + 1, 4, none⟩ = some (.slice sa sn sc)) := e4
        clear hz hsh hmw hmh hsn
        by_cases hlr : (i : Int) < rm
        · rw [if_pos hlr] at hs2
          subst hs2
          have hdr : decide ((i : Int) < rm) = true := decide_eq_true hlr
          go_wp2
          go_region_law (first
            | (refine step_append_nodeB X3 rfl (.tmp 65) (.tmp 74) rfl (w.heap.size + 2) (.slice sa sn sc) sn (leafCells (nodesOf (ts.take i))) (.mk 1 mw mh z []) none 0 0 (by simp [Act.eval]) (by have h := (HJ.out.below' HX3.out).row; rw [HSn.out] at h; exact h) (by simp [Act.eval]) hln (Nat.le_trans HJ.out.lt HX3.out.size) ?_; intro sl' w5 a1 a2; rw [← HSn.out] at a1; have hsl := own_sl5 a1; have hj := HJ.out.next HX3.out a1 a2; have c5 : w5.cell? ⟨w.heap.size + 1, 4, none⟩ = some (.slice sa sn sc) := cell_atL hj.1 4; have g5 : w5.frozen? ⟨w.heap.size + 1, 4, none⟩ = false := free_atL hj.1 4; have HJ5 : Hid (SharedTo w k wd ht (nodesOf (ts.take i) ++ [.mk 1 mw mh z []]) sl' (w5.setCell ⟨w.heap.size + 1, 4, none⟩ sl')) := hj.2; clear a1 a2 hj; obtain ⟨sb, sd, hsl'⟩ := hsl; subst hsl')
            | (go_simp; go_at_call 57; refine (HSi.out _ _ _ _).mono ?_; rintro e X3 ⟨rfl, hb3⟩; have HX3 : Hid (Below wr.heap.size wr X3) := ⟨hb3.os, hb3.tape, hb3.output, hb3.size, hb3.block⟩; obtain ⟨dX, dXa, _⟩ := part_kept HD.out hb3; clear hb3))
          all_goals (
            go_wp2
            go_roundw
            case rel => exact ⟨i + 1, by omega, by go_num, _, by rw [HTk.out]; exact HJ5⟩
            case measure => simp [intOf]; omega)
        · rw [if_neg hlr] at hs2
          subst hs2
          have hdr : decide ((i : Int) < rm) = false := decide_eq_false hlr
          go_wp2
          go_region_law (first
            | (refine step_append_nodeB X3 rfl (.tmp 65) (.tmp 74) rfl (w.heap.size + 2) (.slice sa sn sc) sn (leafCells (nodesOf (ts.take i))) (.mk 1 mw mh z []) none 0 0 (by simp [Act.eval]) (by have h := (HJ.out.below' HX3.out).row; rw [HSn.out] at h; exact h) (by simp [Act.eval]) hln (Nat.le_trans HJ.out.lt HX3.out.size) ?_; intro sl' w5 a1 a2; rw [← HSn.out] at a1; have hsl := own_sl5 a1; have hj := HJ.out.next HX3.out a1 a2; have c5 : w5.cell? ⟨w.heap.size + 1, 4, none⟩ = some (.slice sa sn sc) := cell_atL hj.1 4; have g5 : w5.frozen? ⟨w.heap.size + 1, 4, none⟩ = false := free_atL hj.1 4; have HJ5 : Hid (SharedTo w k wd ht (nodesOf (ts.take i) ++ [.mk 1 mw mh z []]) sl' (w5.setCell ⟨w.heap.size + 1, 4, none⟩ sl')) := hj.2; clear a1 a2 hj; obtain ⟨sb, sd, hsl'⟩ := hsl; subst hsl')
            | (go_simp; go_at_call 57; refine (HSi.out _ _ _ _).mono ?_; rintro e X3 ⟨rfl, hb3⟩; have HX3 : Hid (Below wr.heap.size wr X3) := ⟨hb3.os, hb3.tape, hb3.output, hb3.size, hb3.block⟩; obtain ⟨dX, dXa, _⟩ := part_kept HD.out hb3; clear hb3))
          all_goals (
            go_wp2
            go_roundw
            case rel => exact ⟨i + 1, by omega, by go_num, _, by rw [HTk.out]; exact HJ5⟩
            case measure => simp [intOf]; omega)
      · have HF := HJ.out
        rw [List.take_of_length_le (by rw [HTl.out]; omega)] at HF
        obtain ⟨sa, sc, hsl⟩ := own_sl5 HF.row
        obtain ⟨sn, hsn⟩ : ∃ x, (nodesOf ts).length = x := ⟨_, rfl⟩
        rw [hsn] at hsl
        subst hsl
        have HG := shared_in HF HLf.out
        obtain ⟨e0, e1, e2, e3, e4⟩ := HF.cells
        obtain ⟨q0, q1, q2, q3, q4, f0, f1, f2, f3, f4⟩ := resZ_of HF.res
        have HGh : Hid (∀ v0 v1 v2 v3 v4, (Node.mk k wd ht 0 (nodesOf ts)).In (set5 wr w.heap.size v0 v1 v2 v3 v4) (.slice sa sn sc) ((Value.slice sa sn sc).ownBlock.toList ++ []) ∧ (∀ q ∈ (Value.slice sa sn sc).ownBlock.toList ++ [], w.heap.size ≤ q) ∧ Below w.heap.size w (set5 wr w.heap.size v0 v1 v2 v3 v4)) := HG
        clear HG HF hsn HJ
        go_wp2
        exact bodyPost_ret (v := .tuple #[.agg #[.int .i64 k, .int .i64 wd, .int .i64 ht, .int .i64 0, .slice sa sn sc], .bool true]) (by simp [results, Try.results41, go_sem, q0, q1, q2, q3, q4]) rfl ⟨(HGh.out _ _ _ _ _).2.2, .inl ⟨rfl, sa, sn, sc, _, rfl, (HGh.out _ _ _ _ _).1, (HGh.out (.bool true) (.bool true) (.bool true) (.bool true) (.bool true)).2.1, List.append_nil _⟩⟩

end Go.Proofs.Ytjnmjoigmbpodaa
