/-
  Rows of numbers that are written over and grown: where a grown row lies.
-/
import Derived.Test.YtkpnolkbheoocaaQGame
namespace Go.Proofs.Ytkpnolkbheoocaa
open Go.RowKit Go.Lib
set_option linter.unusedVariables false
set_option maxRecDepth 20000

/-- A row that was grown: at its place, or in a new block. -/
def GrownB (w w' : World) (v v' : Value) : Prop := (∃ ad n cap m, v = .slice ad n cap ∧ v' = .slice ad m cap ∧ But v.ownBlock.toList w w') ∨ (v'.ownBlock = some w.heap.size ∧ But [] w w')

theorem append_rowB {P : Program} (w : World) (t tx ty e : TypeId) (z : Value) (k bytes : Nat) (ht : P.underlying t = some (.slice e))
    (hinfo : (P.info? e).map (fun i => (i.zero, i.size, i.bytes)) = some (some z, k, bytes)) (hzs : z.cells.size = k)
    {v : Value} {n : Nat} {xs : List Value} (hr : Row w e k v n xs) {x : Value} {m : Nat} {news : List Value} (hs : Src P k tx x m news w) (hby : (n + m) * bytes ≤ 140737488355328) (hml : n + m ≤ maxLen) :
    ∃ v' w', (Builtin.append_ #[t, tx] ty #[v, x]).run P w = .ok v' w' ∧ Row w' e k v' (n + m) (xs ++ news) ∧ GrownB w w' v v' := by
  obtain ⟨i, hi, hz, rfl, rfl⟩ := info_parts hinfo
  have hlen : (xs ++ news).length = (n + m) * i.size := by rw [List.length_append, hr.1, hs.newsLen, Nat.add_mul]
  have grown : ∀ (old : Nat), old < n + m → ∀ S : List Nat,
      Row (w.drew.alloc (.cells ((xs ++ news).toArray ++ Builtin.zeroCells z.cells (grownCap w (n + m) old e - (n + m))) e)) e i.size (.slice (some ⟨w.heap.size, 0, none⟩) (n + m) (grownCap w (n + m) old e)) (n + m) (xs ++ news) ∧
      But S w (w.drew.alloc (.cells ((xs ++ news).toArray ++ Builtin.zeroCells z.cells (grownCap w (n + m) old e - (n + m))) e)) := by
    intro old ho S
    have hge := grownCap_ge w (n + m) old e
    have hcm : grownCap w (n + m) old e ≤ maxLen := grownCap_le_maxLen w (n + m) old e hml
    refine ⟨⟨hlen, .inr ⟨w.heap.size, 0, _, _, rfl, heap_alloc_new w.drew _, hge, hcm, ?_, fun j u hu => ?_⟩⟩, .of (((Below.refl _ w).drew).alloc (Nat.le_refl _) _)⟩
    · simp only [Array.size_append, List.size_toArray, size_zeroCells, hzs, hlen, ← Nat.add_mul, Nat.zero_add]
      exact Nat.le_of_eq (by congr 1; omega)
    · have hj := (List.getElem?_eq_some_iff.1 hu).1
      rw [Nat.zero_add, Array.getElem?_append_left (by simpa using hj), List.getElem?_toArray]
      exact hu
  have hmax : n + m ≤ 9223372036854775807 := by unfold maxLen at hml; omega
  obtain ⟨hl, ⟨rfl, rfl⟩ | ⟨g, o, cap, cur, rfl, hg, h1, h2, h3, h4⟩⟩ := hr
  · have hx : xs = [] := List.eq_nil_of_length_eq_zero (by simpa using hl)
    subst hx
    by_cases hm : m = 0
    · subst hm
      have hn : news = [] := List.eq_nil_of_length_eq_zero (by simpa using hs.newsLen)
      subst hn
      refine ⟨.slice none 0 0, w, ?_, Row.nil _ _ _, (.inl ⟨_, _, _, _, rfl, rfl, But.refl _ _⟩)⟩
      rcases hs.kind with ⟨e', hk⟩ | hk <;> simp [Builtin.append_, run_underlying ht, run_underlying hk, sizeOf, typeInfo, hi, hs.len, hs.cells]
    · have hrun := run_append_grow_src (P := P) w t tx ty e i z ht hi hz none 0 0 [] (run_firstCells_none w.drew i.size 0 0 0) x m news hs (by omega) (by omega) (growslice_fits (by omega) hby)
      have hgr := grown 0 (by omega) []
      exact ⟨_, _, hrun, hgr.1, .inr ⟨rfl, hgr.2⟩⟩
  · have hcell : ∀ j, o + j < cur.size → (w.cell? ⟨g, o + j, none⟩).isSome = true := fun j hj => by rw [cell_atT hg, Array.getElem?_eq_getElem hj]; rfl
    by_cases hroom : n + m ≤ cap
    · have hfit : n * i.size + news.length ≤ cap * i.size := by rw [hs.newsLen, ← Nat.add_mul]; exact Nat.mul_le_mul_right _ hroom
      have hrun := run_append_room_src (P := P) w t tx ty e i ht hi g o n cap x m news hs hroom (fun j hj => by rw [Nat.add_assoc]; exact hcell _ (by omega)) (fun j hj => free_atT hg _)
      obtain ⟨cur', c1, c2, c3, c4⟩ := setCells_block g e news (o + n * i.size) w cur hg (by omega)
      refine ⟨_, _, hrun, ⟨hlen, .inr ⟨g, o, cap, cur', rfl, c1, hroom, h2, by omega, fun j u hu => ?_⟩⟩, (.inl ⟨_, _, _, _, rfl, rfl, But.setCells (But.refl _ _) (by simp [Value.ownBlock]) _ _⟩)⟩
      by_cases hj : j < xs.length
      · rw [List.getElem?_append_left hj] at hu
        rw [c4 _ (.inl (by rw [hl] at hj; omega))]
        exact h4 j u hu
      · rw [List.getElem?_append_right (by omega)] at hu
        have h5 := c3 _ _ hu
        rwa [show o + n * i.size + (j - xs.length) = o + j by rw [hl]; omega] at h5
    · have hold := run_firstCells_some (P := P) w.drew i.size n ⟨g, o, none⟩ n cap xs hl (fun j u hu => by
        rw [show (⟨g, o, none⟩ : Addr).add j = ⟨g, o + j, none⟩ by unfold Addr.add; split <;> simp_all]
        show w.cell? _ = _
        rw [cell_atT hg]
        exact h4 j u hu)
      have hrun := run_append_grow_src (P := P) w t tx ty e i z ht hi hz (some ⟨g, o, none⟩) n cap xs hold x m news hs (by omega) (by omega) (growslice_fits (by omega) hby)
      have hgr := grown cap (by omega) []
      exact ⟨_, _, hrun, hgr.1, .inr ⟨rfl, hgr.2⟩⟩

/-- At the operation. -/
theorem wpList_append_rowB {P : Program} {ops : Array Oper} {rest : List Oper} {o : Oper} {a : Act} {Q : Exit → Act → World → Prop} (w : World) (hgd : o.guard = none) (s x : Operand) (t tx : TypeId)
    (ho : o.op = .call { callee := .builtin .append, args := #[s, x], argTypes := #[t, tx] }) {e : TypeId} {z : Value} {k bytes : Nat} (ht : P.underlying t = some (.slice e))
    (hinfo : (P.info? e).map (fun i => (i.zero, i.size, i.bytes)) = some (some z, k, bytes)) (hzs : z.cells.size = k)
    {v : Value} {n : Nat} {xs : List Value} {u : Value} {m : Nat} {news : List Value} (hv : a.eval s = v) (hu : a.eval x = u) (hr : Row w e k v n xs) (hs : Src P k tx u m news w) (hby : (n + m) * bytes ≤ 140737488355328) (hml : n + m ≤ maxLen)
    (h : ∀ v' w', Hid (Row w' e k v' (n + m) (xs ++ news)) → Hid (GrownB w w' v v') → wpList P ops Q rest (a.put o.dst v') w') : wpList P ops Q (o :: rest) a w := by
  obtain ⟨v', w', hrun, h2, h3⟩   := append_rowB (P := P) w t tx o.type e z k bytes ht hinfo hzs hr hs hby hml
  refine wpList_plain hgd fun K hK => ?_
  unfold Oper.wp execOp
  simp only [ho, resolve, invoke, builtin, Sem.run_bind, Sem.run_pure, Result.andThen_ok, List.map_toArray, List.map_cons, List.map_nil, hv, hu, hrun]
  exact hK _ _ (h v' w' h2 h3)

/-- The front of a row. -/
theorem Row.front {w : World} {T : TypeId} {ad : Option Addr} {n m cap : Nat} {xs : List Value} (h : Row w T 1 (.slice ad m cap) m xs) (hn : n ≤ m) (hm : 0 < m) : Row w T 1 (.slice ad n cap) n (xs.take n) := by
  obtain ⟨hl, ⟨hh, h0⟩ | ⟨g, o, cap', cur, hh, hg, h1, h2, h3, h4⟩⟩ := h
  · omega
  · cases hh
    refine ⟨by rw [List.length_take, hl]; omega, .inr ⟨g, o, cap, cur, rfl, hg, by omega, h2, h3, fun j u hu => h4 j u ?_⟩⟩
    rw [List.getElem?_take] at hu
    split at hu
    · exact hu
    · cases hu
/-- What the walk sees of a place of a row. -/
theorem Row.place {w : World} {T : TypeId} {v : Value} {n : Nat} {xs : List Value} (h : Row w T 1 v n xs) {i : Nat} {u : Value} (hu : xs[i]? = some u) : ∃ g o cap, v = .slice (some ⟨g, o, none⟩) n cap ∧ w.cell? ⟨g, o + i, none⟩ = some u ∧ (∀ j, w.frozen? ⟨g, j, none⟩ = false) ∧ v.ownBlock = some g := by
  have hi := (List.getElem?_eq_some_iff.1 hu).1
  obtain ⟨hl, ⟨rfl, h0⟩ | ⟨g, o, cap, cur, rfl, hg, h1, h2, h3, h4⟩⟩ := h
  · omega
  · exact ⟨g, o, cap, rfl, by rw [cell_atT hg]; exact h4 i u hu, fun j => free_atT hg j, rfl⟩
theorem Row.sliced {w : World} {T : TypeId} {v : Value} {n : Nat} {xs : List Value} (h : Row w T 1 v n xs) : ∃ ad cap, v = .slice ad n cap := by
  obtain ⟨ad, cap, e, _⟩ := h.shape
  exact ⟨ad, cap, e⟩

/-- Blocks of numbers alone have turned. -/
structure Numb (B : Nat) (w0 W W' : World) : Prop where
  below : Below B w0 W'
  kept : ∀ (g : Nat) (cs : Array Value) (t : TypeId), W.heap[g]? = some (.cells cs t (0, 0)) → t ≠ 3 → W'.heap[g]? = W.heap[g]?
theorem Game.numb {w W W' : World} {R : Nat} {F : List Nat} {b : Nat} {vi : Value} {q : Qs} (h : Game w W R F b vi q) (hn : Numb w.heap.size w W W') : Game w W' R F b vi q := by
  obtain ⟨its, hr⟩ := h.side.ref
  refine ⟨⟨⟨h.side.play.at_.keep fun g hg => ?_, hn.below, h.side.play.young⟩, ⟨its, hr.keep fun g hg => ?_⟩, h.side.off⟩, (hn.kept R _ _ h.ref (by decide)).trans h.ref, h.young⟩
  · obtain ⟨cs, t, h1, h2⟩ := h.side.play.at_.kind hg
    exact hn.kept g cs t h1 (by rcases h2 with rfl | rfl | rfl <;> decide)
  · obtain ⟨cur, hc⟩ := hr.row.block hg
    exact hn.kept g _ _ hc (by decide)
/-- The row's own block is one of numbers. -/
theorem numb_but {w0 W W' : World} {B : Nat} {v : Value} {n : Nat} {xs : List Value} (hr : Row W 3 1 v n xs) (hb : Below B w0 W) (hB : B ≤ W.heap.size) (hy : ∀ g, v.ownBlock = some g → B ≤ g) (hbut : But v.ownBlock.toList W W') : Numb B w0 W W' := by
  refine ⟨hbut.under hb hB fun k hk => hy k (by simpa using hk), fun g cs t hg ht => hbut.block g (lt_of_block hg) fun hm => ?_⟩
  have e : v.ownBlock = some g := by simpa using hm
  obtain ⟨cur, hc⟩ := hr.block e
  have := hg.symm.trans hc
  simp at this
  exact ht this.2

/-- Two rows of numbers, apart from one another, and the game. -/
structure Duo (w W : World) (R : Nat) (F : List Nat) (b : Nat) (vi : Value) (q : Qs) (va vb : Value) (n i : Nat) : Prop where
  game : Game w W R F b vi q
  ra : ∃ xs, Row W 3 1 va n xs ∧ ∀ k, k < i → xs[k]? = some (.int .i64 (-1))
  rb : ∃ xs, Row W 3 1 vb n xs ∧ ∀ k, k < i → xs[k]? = some (.int .i64 (-2))
  ya : ∀ g, va.ownBlock = some g → w.heap.size ≤ g
  yb : ∀ g, vb.ownBlock = some g → w.heap.size ≤ g
  ap : ∀ g, va.ownBlock = some g → vb.ownBlock = some g → False
section
variable {w W W' : World} {R : Nat} {F : List Nat} {b : Nat} {vi : Value} {q : Qs} {va vb : Value} {n i : Nat}
theorem Duo.below (h : Duo w W R F b vi q va vb n i) : Below w.heap.size w W := h.game.below
theorem Duo.drew (h : Duo w W R F b vi q va vb n i) : Duo w W.drew R F b vi q va vb n i := by
  obtain ⟨xa, a1, a2⟩ := h.ra
  obtain ⟨xb, b1, b2⟩ := h.rb
  exact ⟨h.game.drew, ⟨xa, a1.drew, a2⟩, ⟨xb, b1.drew, b2⟩, h.ya, h.yb, h.ap⟩
theorem set_marks {xs : List Value} {n i : Nat} {u : Value} (hl : xs.length = n * 1) (hi : i < n) (h : ∀ k, k < i → xs[k]? = some u) : ∀ k, k < i + 1 → (xs.set i u)[k]? = some u := by
  intro k hk
  by_cases e : i = k
  · subst e
    rw [List.getElem?_set_self (by omega)]
  · rw [List.getElem?_set_ne e]
    exact h k (by omega)
theorem Duo.places (h : Duo w W R F b vi q va vb n i) (hi : i < n) : ∃ ga oa ca gb ob cb ua ub, va = .slice (some ⟨ga, oa, none⟩) n ca ∧ vb = .slice (some ⟨gb, ob, none⟩) n cb ∧ W.cell? ⟨ga, oa + i, none⟩ = some ua ∧ W.cell? ⟨gb, ob + i, none⟩ = some ub ∧ (∀ j, W.frozen? ⟨ga, j, none⟩ = false) ∧ (∀ j, W.frozen? ⟨gb, j, none⟩ = false) ∧ ga ≠ gb ∧
    Duo w ((W.setCell ⟨ga, oa + i, none⟩ (.int .i64 (-1))).setCell ⟨gb, ob + i, none⟩ (.int .i64 (-2))) R F b vi q va vb n (i + 1) := by
  obtain ⟨xa, a1, a2⟩ := h.ra
  obtain ⟨xb, b1, b2⟩ := h.rb
  have la : i < xa.length := by rw [a1.1]; omega
  have lb : i < xb.length := by rw [b1.1]; omega
  obtain ⟨ga, oa, ca, rfl, c1, f1, e1⟩ := a1.place (List.getElem?_eq_getElem la)
  obtain ⟨gb, ob, cb, rfl, c2, f2, e2⟩ := b1.place (List.getElem?_eq_getElem lb)
  have hne : ga ≠ gb := fun e => h.ap ga rfl (by subst e; rfl)
  refine ⟨ga, oa, ca, gb, ob, cb, _, _, rfl, rfl, c1, c2, f1, f2, hne, ?_⟩
  have r1 := a1.set (j := i) (by omega) (.int .i64 (-1))
  have r2 : Row (W.setCell ⟨ga, oa + i, none⟩ (.int .i64 (-1))) 3 1 (.slice (some ⟨gb, ob, none⟩) n cb) n xb := b1.keep fun g hg => Below.heap_setCell _ _ _ _ (fun e => by cases hg; exact hne e.symm)
  have n1 := numb_but (W' := W.setCell ⟨ga, oa + i, none⟩ (.int .i64 (-1))) a1 h.below h.below.size h.ya (But.setCell (But.refl _ _) (.inl (by simp [Value.ownBlock])) _)
  have g1 := h.game.numb n1
  have n2 := numb_but (W' := (W.setCell ⟨ga, oa + i, none⟩ (.int .i64 (-1))).setCell ⟨gb, ob + i, none⟩ (.int .i64 (-2))) r2 g1.below g1.below.size h.yb (But.setCell (But.refl _ _) (.inl (by simp [Value.ownBlock])) _)
  have r3 := r2.set (j := i) (by omega) (.int .i64 (-2))
  have r4 : Row ((W.setCell ⟨ga, oa + i, none⟩ (.int .i64 (-1))).setCell ⟨gb, ob + i, none⟩ (.int .i64 (-2))) 3 1 (.slice (some ⟨ga, oa, none⟩) n ca) n (xa.set i (.int .i64 (-1))) := r1.keep fun g hg => Below.heap_setCell _ _ _ _ (fun e => by cases hg; exact hne e)
  exact ⟨g1.numb n2, ⟨_, r4, set_marks a1.1 hi a2⟩, ⟨_, r3, set_marks b1.1 hi b2⟩, h.ya, h.yb, h.ap⟩
end
end Go.Proofs.Ytkpnolkbheoocaa
