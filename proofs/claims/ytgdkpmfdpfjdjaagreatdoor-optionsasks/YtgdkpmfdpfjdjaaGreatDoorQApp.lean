/-
  The queue: what is appended to a row.
-/
import Derived.Test.YtgdkpmfdpfjdjaaGreatDoorQRow
namespace Go.Proofs.YtgdkpmfdpfjdjaaGreatDoor
open Go.RowKit
set_option linter.unusedVariables false

theorem setCells_block (b : Nat) (T : TypeId) : ∀ (vs : List Value) (o : Nat) (w : World) (cur : Array Value), w.heap[b]? = some (.cells cur T (0, 0)) → o + vs.length ≤ cur.size →
    ∃ cur', (w.setCells b o vs).heap[b]? = some (.cells cur' T (0, 0)) ∧ cur'.size = cur.size ∧ (∀ (j : Nat) u, vs[j]? = some u → cur'[o + j]? = some u) ∧ ∀ i, (i < o ∨ o + vs.length ≤ i) → cur'[i]? = cur[i]?
  | [], o, w, cur, h, _ => ⟨cur, h, rfl, fun j u hu => by simp at hu, fun _ _ => rfl⟩
  | v :: r, o, w, cur, h, hs => by
    simp only [List.length_cons] at hs
    obtain ⟨cur', h1, h2, h3, h4⟩ := setCells_block b T r (o + 1) (w.setCell ⟨b, o, none⟩ v) _ (heap_setCell_same w b o _ _ _ h) (by simp; omega)
    refine ⟨cur', h1, by rw [h2]; simp, fun j u hu => ?_, fun i hi => ?_⟩
    · cases j with
      | zero =>
        have h5 := h4 o (.inl (by omega))
        rw [Nat.add_zero, h5, Array.getElem?_setIfInBounds_self_of_lt (by omega)]
        simpa using hu
      | succ j =>
        have h5 := h3 j u (by simpa using hu)
        rwa [show o + (j + 1) = o + 1 + j by omega]
    · simp only [List.length_cons] at hi
      rw [h4 i (by omega), Array.getElem?_setIfInBounds_ne (by omega)]
theorem setCells_size (b : Nat) : ∀ (vs : List Value) (o : Nat) (w : World), (w.setCells b o vs).heap.size = w.heap.size
  | [], _, _ => rfl
  | v :: r, o, w => by rw [World.setCells, setCells_size b r]; simp [World.setCell]
theorem But.setCells {S : List Nat} {w w' : World} (h : But S w w') {b : Nat} (hb : b ∈ S) : ∀ (vs : List Value) (o : Nat), But S w (w'.setCells b o vs) := by
  intro vs
  induction vs generalizing w' with
  | nil => intro o; exact h
  | cons v r ih => intro o; exact ih (h.setCell (p := ⟨b, o, none⟩) (.inl hb) v) (o + 1)

/-- What an append leaves. -/
structure Grown (w w' : World) (v v' : Value) (S : List Nat) : Prop where
  but : But S w w'
  own : v'.ownBlock = v.ownBlock ∨ v'.ownBlock = some w.heap.size
  size : w'.heap.size ≤ w.heap.size + 1

theorem append_row {P : Program} (w : World) (t tx ty e : TypeId) (z : Value) (k bytes : Nat) (ht : P.underlying t = some (.slice e))
    (hinfo : (P.info? e).map (fun i => (i.zero, i.size, i.bytes)) = some (some z, k, bytes)) (hzs : z.cells.size = k)
    {v : Value} {n : Nat} {xs : List Value} (hr : Row w e k v n xs) {x : Value} {m : Nat} {news : List Value} (hs : Src P k tx x m news w) (hby : (n + m) * bytes ≤ 140737488355328) (hml : n + m ≤ maxLen) :
    ∃ v' w', (Builtin.append_ #[t, tx] ty #[v, x]).run P w = .ok v' w' ∧ Row w' e k v' (n + m) (xs ++ news) ∧ Grown w w' v v' v.ownBlock.toList := by
  obtain ⟨i, hi, hz, rfl, rfl⟩ := info_parts hinfo
  have hlen : (xs ++ news).length = (n + m) * i.size := by rw [List.length_append, hr.1, hs.newsLen, Nat.add_mul]
  have grown : ∀ (old : Nat), old < n + m → ∀ S : List Nat,
      Row (w.drew.alloc (.cells ((xs ++ news).toArray ++ Builtin.zeroCells z.cells (grownCap w (n + m) old e - (n + m))) e)) e i.size (.slice (some ⟨w.heap.size, 0, none⟩) (n + m) (grownCap w (n + m) old e)) (n + m) (xs ++ news) ∧
      But S w (w.drew.alloc (.cells ((xs ++ news).toArray ++ Builtin.zeroCells z.cells (grownCap w (n + m) old e - (n + m))) e)) := by
    intro old ho S
    have hge := grownCap_ge w (n + m) old e
    have hcm : grownCap w (n + m) old e ≤ maxLen := grownCap_le_maxLen w (n + m) old e hml
    refine ⟨⟨hlen, .inr ⟨w.heap.size, 0, _, _, rfl, heap_alloc_new w.drew _, hge, hcm, ?_, fun j u hu => ?_⟩⟩, .of (((Below.refl _ w).drew).alloc (Nat.le_refl _) _)⟩
    · simp only [Array.size_append, List.size_toArray, size_zeroCells, hzs, hlen, ← Nat.add_mul, Nat.zero_add]
      exact Nat.le_of_eq (by congr 1; omega)
    · have hj := (List.getElem?_eq_some_iff.1 hu).1
      rw [Nat.zero_add, Array.getElem?_append_left (by simpa using hj), List.getElem?_toArray]
      exact hu
  have hmax : n + m ≤ 9223372036854775807 := by unfold maxLen at hml; omega
  obtain ⟨hl, ⟨rfl, rfl⟩ | ⟨g, o, cap, cur, rfl, hg, h1, h2, h3, h4⟩⟩ := hr
  · have hx : xs = [] := List.eq_nil_of_length_eq_zero (by simpa using hl)
    subst hx
    by_cases hm : m = 0
    · subst hm
      have hn : news = [] := List.eq_nil_of_length_eq_zero (by simpa using hs.newsLen)
      subst hn
      refine ⟨.slice none 0 0, w, ?_, Row.nil _ _ _, ⟨But.refl _ _, .inl rfl, Nat.le_succ _⟩⟩
      rcases hs.kind with ⟨e', hk⟩ | hk <;> simp [Builtin.append_, run_underlying ht, run_underlying hk, sizeOf, typeInfo, hi, hs.len, hs.cells]
    · have hrun := run_append_grow_src (P := P) w t tx ty e i z ht hi hz none 0 0 [] (run_firstCells_none w.drew i.size 0 0 0) x m news hs (by omega) (by omega) (growslice_fits (by omega) hby)
      have hgr := grown 0 (by omega) []
      exact ⟨_, _, hrun, hgr.1, ⟨hgr.2, .inr rfl, by simp⟩⟩
  · have hcell : ∀ j, o + j < cur.size → (w.cell? ⟨g, o + j, none⟩).isSome = true := fun j hj => by rw [cell_atT hg, Array.getElem?_eq_getElem hj]; rfl
    by_cases hroom : n + m ≤ cap
    · have hfit : n * i.size + news.length ≤ cap * i.size := by rw [hs.newsLen, ← Nat.add_mul]; exact Nat.mul_le_mul_right _ hroom
      have hrun := run_append_room_src (P := P) w t tx ty e i ht hi g o n cap x m news hs hroom (fun j hj => by rw [Nat.add_assoc]; exact hcell _ (by omega)) (fun j hj => free_atT hg _)
      obtain ⟨cur', c1, c2, c3, c4⟩ := setCells_block g e news (o + n * i.size) w cur hg (by omega)
      refine ⟨_, _, hrun, ⟨hlen, .inr ⟨g, o, cap, cur', rfl, c1, hroom, h2, by omega, fun j u hu => ?_⟩⟩, ⟨But.setCells (But.refl _ _) (by simp [Value.ownBlock]) _ _, .inl rfl, by rw [setCells_size]; omega⟩⟩
      by_cases hj : j < xs.length
      · rw [List.getElem?_append_left hj] at hu
        rw [c4 _ (.inl (by rw [hl] at hj; omega))]
        exact h4 j u hu
      · rw [List.getElem?_append_right (by omega)] at hu
        have h5 := c3 _ _ hu
        rwa [show o + n * i.size + (j - xs.length) = o + j by rw [hl]; omega] at h5
    · have hold := run_firstCells_some (P := P) w.drew i.size n ⟨g, o, none⟩ n cap xs hl (fun j u hu => by
        rw [show (⟨g, o, none⟩ : Addr).add j = ⟨g, o + j, none⟩ by unfold Addr.add; split <;> simp_all]
        show w.cell? _ = _
        rw [cell_atT hg]
        exact h4 j u hu)
      have hrun := run_append_grow_src (P := P) w t tx ty e i z ht hi hz (some ⟨g, o, none⟩) n cap xs hold x m news hs (by omega) (by omega) (growslice_fits (by omega) hby)
      have hgr := grown cap (by omega) [g]
      exact ⟨_, _, hrun, hgr.1, ⟨hgr.2, .inr rfl, by simp⟩⟩

/-- One element that was just made. -/
theorem Src.fresh {P : Program} {tx e' : TypeId} (hk : P.underlying tx = some (.slice e')) (Y : World) (cs : Array Value) (T : TypeId) (k : Nat) (hl : cs.size = k) (h1 : cs.toList.all (fun u => u.oneCell') = true) : Src P k tx (.slice (some ⟨Y.heap.size, 0, none⟩) 1 1) 1 cs.toList (Y.alloc (.cells cs T)) := by
  refine Src.ofSlice _ hk _ 1 1 cs.toList (by simpa using hl) (fun j u hu => ?_) (fun u hu => List.all_eq_true.1 h1 u hu)
  rw [show (⟨Y.heap.size, 0, none⟩ : Addr).add j = ⟨Y.heap.size, j, none⟩ by unfold Addr.add; split <;> simp_all, cell_atT (heap_alloc_new Y _)]
  simpa using hu
theorem Src.block {P : Program} {tx e' : TypeId} (hk : P.underlying tx = some (.slice e')) (X : World) (g : Nat) (cs : List Value) (T : TypeId) (k : Nat) (hg : X.heap[g]? = some (.cells cs.toArray T (0, 0))) (hl : cs.length = k) (h1 : cs.all (fun u => u.oneCell') = true) : Src P k tx (.slice (some ⟨g, 0, none⟩) 1 1) 1 cs X := by
  refine Src.ofSlice _ hk _ 1 1 cs (by simpa using hl) (fun j u hu => ?_) (fun u hu => List.all_eq_true.1 h1 u hu)
  rw [show (⟨g, 0, none⟩ : Addr).add j = ⟨g, j, none⟩ by unfold Addr.add; split <;> simp_all, cell_atT hg]
  simpa using hu
theorem heap_two (w : World) (o p : Obj) : ((w.alloc o).alloc p).heap[w.heap.size]? = some o ∧ ((w.alloc o).alloc p).heap[w.heap.size + 1]? = some p ∧ ((w.alloc o).alloc p).heap.size = w.heap.size + 2 ∧ Below w.heap.size w ((w.alloc o).alloc p) := by
  refine ⟨?_, ?_, by simp, ((Below.refl _ w).alloc (Nat.le_refl _) _).alloc (by simp) _⟩
  · rw [Below.heap_alloc _ _ _ (by simp)]
    exact heap_alloc_new w _
  · have := heap_alloc_new (w.alloc o) p
    simpa using this
/-- At the operation. -/
theorem wpList_append_row {P : Program} {ops : Array Oper} {rest : List Oper} {o : Oper} {a : Act} {Q : Exit → Act → World → Prop} (w : World) (hgd : o.guard = none) (s x : Operand) (t tx : TypeId)
    (ho : o.op = .call { callee := .builtin .append, args := #[s, x], argTypes := #[t, tx] }) {e : TypeId} {z : Value} {k bytes : Nat} (ht : P.underlying t = some (.slice e))
    (hinfo : (P.info? e).map (fun i => (i.zero, i.size, i.bytes)) = some (some z, k, bytes)) (hzs : z.cells.size = k)
    {v : Value} {n : Nat} {xs : List Value} {u : Value} {m : Nat} {news : List Value} (hv : a.eval s = v) (hu : a.eval x = u) (hr : Row w e k v n xs) (hs : Src P k tx u m news w) (hby : (n + m) * bytes ≤ 140737488355328) (hml : n + m ≤ maxLen)
    (h : ∀ v' w', Hid (Row w' e k v' (n + m) (xs ++ news)) → Hid (Grown w w' v v' v.ownBlock.toList) → wpList P ops Q rest (a.put o.dst v') w') : wpList P ops Q (o :: rest) a w := by
  obtain ⟨v', w', hrun, h2, h3⟩ := append_row (P := P) w t tx o.type e z k bytes ht hinfo hzs hr hs hby hml
  refine wpList_plain hgd fun K hK => ?_
  unfold Oper.wp execOp
  simp only [ho, resolve, invoke, builtin, Sem.run_bind, Sem.run_pure, Result.andThen_ok, List.map_toArray, List.map_cons, List.map_nil, hv, hu, hrun]
  exact hK _ _ (h v' w' h2 h3)
/-- .. in a region. -/
theorem step_append_row {P : Program} {ops : Array Oper} {o : Oper} {a : Act} {K : Act → World → Prop} {Q : Exit → Act → World → Prop} {E : Prop} (w : World) (hgd : o.guard = none) (s x : Operand) (t tx : TypeId)
    (ho : o.op = .call { callee := .builtin .append, args := #[s, x], argTypes := #[t, tx] }) {e : TypeId} {z : Value} {k bytes : Nat} (ht : P.underlying t = some (.slice e))
    (hinfo : (P.info? e).map (fun i => (i.zero, i.size, i.bytes)) = some (some z, k, bytes)) (hzs : z.cells.size = k)
    {v : Value} {n : Nat} {xs : List Value} {u : Value} {m : Nat} {news : List Value} (hv : a.eval s = v) (hu : a.eval x = u) (hr : Row w e k v n xs) (hs : Src P k tx u m news w) (hby : (n + m) * bytes ≤ 140737488355328) (hml : n + m ≤ maxLen)
    (h : ∀ v' w', Hid (Row w' e k v' (n + m) (xs ++ news)) → Hid (Grown w w' v v' v.ownBlock.toList) → K (a.put o.dst v') w') : if Region.wanted o (yielded ops a.tmps) = true then Oper.wp P o a w K Q else E := by
  have hw : Region.wanted o (yielded ops a.tmps) = true := by simp [Region.wanted, hgd]
  rw [if_pos hw]
  obtain ⟨v', w', hrun, h2, h3⟩ := append_row (P := P) w t tx o.type e z k bytes ht hinfo hzs hr hs hby hml
  unfold Oper.wp execOp
  simp only [ho, resolve, invoke, builtin, Sem.run_bind, Sem.run_pure, Result.andThen_ok, List.map_toArray, List.map_cons, List.map_nil, hv, hu, hrun]
  exact h v' w' h2 h3

end Go.Proofs.YtgdkpmfdpfjdjaaGreatDoor
