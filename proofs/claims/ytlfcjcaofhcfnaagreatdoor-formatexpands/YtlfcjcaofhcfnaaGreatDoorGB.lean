/-
  The queue: rows in memory, from some place of a block on; what is appended to them.
  The queue: what is appended to a row.
  Formats: rows of texts of one's own.
-/
import Derived.Test.YtlfcjcaofhcfnaaGreatDoorGA
import Derived.WalkKit
import Derived.OneCell
import Derived.OwnWalk
import Derived.Deep.Draws
import Derived.Deep.AppendSrc
namespace Go.Proofs.YtlfcjcaofhcfnaaGreatDoor
open Go.RowKit
set_option linter.unusedVariables false

theorem cell_atT {w : World} {b : Nat} {cs : Array Value} {t : TypeId} (h : w.heap[b]? = some (.cells cs t (0, 0))) (o : Nat) : w.cell? ⟨b, o, none⟩ = cs[o]? := by simp [World.cell?, h]
theorem free_atT {w : World} {b : Nat} {cs : Array Value} {t : TypeId} (h : w.heap[b]? = some (.cells cs t (0, 0))) (o : Nat) : w.frozen? ⟨b, o, none⟩ = false := by simp [World.frozen?, h]

/-- But for these blocks nothing that was there has turned. -/
structure But (S : List Nat) (w w' : World) : Prop where
  os : w'.os = w.os
  tape : w'.tape = w.tape
  output : w'.output = w.output
  size : w.heap.size ≤ w'.heap.size
  block : ∀ k, k < w.heap.size → k ∉ S → w'.heap[k]? = w.heap[k]?
theorem But.refl (S : List Nat) (w : World) : But S w w := ⟨rfl, rfl, rfl, Nat.le_refl _, fun _ _ _ => rfl⟩
theorem But.of {S : List Nat} {w w' : World} (h : Below w.heap.size w w') : But S w w' := ⟨h.os, h.tape, h.output, h.size, fun k hk _ => h.block k hk⟩
theorem But.trans {S : List Nat} {a b c : World} (h : But S a b) (k : But S b c) : But S a c :=
  ⟨k.os.trans h.os, k.tape.trans h.tape, k.output.trans h.output, Nat.le_trans h.size k.size, fun i hi hs => (k.block i (Nat.lt_of_lt_of_le hi h.size) hs).trans (h.block i hi hs)⟩
theorem But.mono {S T : List Nat} {a b : World} (h : But S a b) (hs : ∀ k, k < a.heap.size → k ∈ S → k ∈ T) : But T a b :=
  ⟨h.os, h.tape, h.output, h.size, fun k hk ht => h.block k hk (fun hh => ht (hs k hk hh))⟩
/-- .. what was there ahead of it, if all of them are younger. -/
theorem But.under {S : List Nat} {B : Nat} {w0 w w' : World} (h : But S w w') (hb : Below B w0 w) (hB : B ≤ w.heap.size) (hs : ∀ k ∈ S, B ≤ k) : Below B w0 w' :=
  hb.trans ⟨h.os, h.tape, h.output, h.size, fun k hk => h.block k (by omega) (fun hh => by have := hs k hh; omega)⟩
theorem below_drewN (w : World) (n : Nat) : Below w.heap.size w (w.drewN n) := ⟨rfl, rfl, rfl, Nat.le_refl _, fun _ _ => rfl⟩
theorem But.drewN {S : List Nat} {w w' : World} (h : But S w w') (n : Nat) : But S w (w'.drewN n) := ⟨h.os, h.tape, h.output, h.size, h.block⟩
theorem But.setCell {S : List Nat} {w w' : World} (h : But S w w') {p : Addr} (hp : p.block ∈ S ∨ w.heap.size ≤ p.block) (u : Value) : But S w (w'.setCell p u) :=
  ⟨h.os, h.tape, h.output, by simpa [World.setCell] using h.size, fun k hk hs => by
    rw [Below.heap_setCell _ _ _ _ (fun e => by subst e; rcases hp with hp | hp; exact hs hp; omega)]
    exact h.block k hk hs⟩
theorem But.alloc {S : List Nat} {w w' : World} (h : But S w w') (o : Obj) : But S w (w'.alloc o) :=
  ⟨h.os, h.tape, h.output, Nat.le_trans h.size (by simp), fun k hk hs => by rw [Below.heap_alloc _ _ _ (Nat.lt_of_lt_of_le hk h.size)]; exact h.block k hk hs⟩
theorem But.setRow {S : List Nat} {w w' : World} (h : But S w w') {g : Nat} (hp : g ∈ S ∨ w.heap.size ≤ g) (cs : Array Value) : But S w (w'.setRow g cs) :=
  ⟨h.os, h.tape, h.output, by simpa [World.setRow] using h.size, fun k hk hs => by
    rw [setRow_other _ _ _ _ (fun e => by subst e; rcases hp with hp | hp; exact hs hp; omega)]
    exact h.block k hk hs⟩


/-- A row of n elements, k cells each, from some place of a block on. -/
def Row (w : World) (T : TypeId) (k : Nat) (v : Value) (n : Nat) (xs : List Value) : Prop :=
  xs.length = n * k ∧ ((v = .slice none 0 0 ∧ n = 0) ∨ ∃ g o cap cur, v = .slice (some ⟨g, o, none⟩) n cap ∧ w.heap[g]? = some (.cells cur T (0, 0)) ∧ n ≤ cap ∧ cap ≤ maxLen ∧ o + cap * k ≤ cur.size ∧
    ∀ j u, xs[j]? = some u → cur[o + j]? = some u)

theorem Row.nil (w : World) (T : TypeId) (k : Nat) : Row w T k (.slice none 0 0) 0 [] := ⟨by simp, .inl ⟨rfl, rfl⟩⟩
theorem Row.keep {w w' : World} {T : TypeId} {k : Nat} {v : Value} {n : Nat} {xs : List Value} (h : Row w T k v n xs) (hk : ∀ g, v.ownBlock = some g → w'.heap[g]? = w.heap[g]?) : Row w' T k v n xs := by
  obtain ⟨hl, h | ⟨g, o, cap, cur, rfl, hg, r⟩⟩ := h
  · exact ⟨hl, .inl h⟩
  · exact ⟨hl, .inr ⟨g, o, cap, cur, rfl, (hk g rfl).trans hg, r⟩⟩
theorem Row.block {w : World} {T : TypeId} {k : Nat} {v : Value} {n : Nat} {xs : List Value} (h : Row w T k v n xs) {g : Nat} (hg : v.ownBlock = some g) : ∃ cur, w.heap[g]? = some (.cells cur T (0, 0)) := by
  obtain ⟨_, ⟨rfl, _⟩ | ⟨g', o, cap, cur, rfl, hh, r⟩⟩ := h
  · cases hg
  · cases hg
    exact ⟨_, hh⟩
theorem Row.lt {w : World} {T : TypeId} {k : Nat} {v : Value} {n : Nat} {xs : List Value} (h : Row w T k v n xs) : ∀ g, v.ownBlock = some g → g < w.heap.size := by
  intro g hg
  obtain ⟨_, hh⟩ := h.block hg
  exact lt_of_block hh
theorem Row.below {w w' : World} {T : TypeId} {k : Nat} {v : Value} {n : Nat} {xs : List Value} (h : Row w T k v n xs) (hb : Below w.heap.size w w') : Row w' T k v n xs := h.keep fun g hg => hb.block g (h.lt g hg)
theorem Row.but {w w' : World} {S : List Nat} {T : TypeId} {k : Nat} {v : Value} {n : Nat} {xs : List Value} (h : Row w T k v n xs) (hb : But S w w') (hS : ∀ g, v.ownBlock = some g → g ∉ S) : Row w' T k v n xs := h.keep fun g hg => hb.block g (h.lt g hg) (hS g hg)
theorem Row.drew {w : World} {T : TypeId} {k : Nat} {v : Value} {n : Nat} {xs : List Value} (h : Row w T k v n xs) : Row w.drew T k v n xs := h
theorem Row.drewN {w : World} {T : TypeId} {k : Nat} {v : Value} {n : Nat} {xs : List Value} (h : Row w T k v n xs) (m : Nat) : Row (w.drewN m) T k v n xs := h
/-- What the walk sees of a row. -/
theorem Row.shape {w : World} {T : TypeId} {k : Nat} {v : Value} {n : Nat} {xs : List Value} (h : Row w T k v n xs) :
    ∃ ad cap, v = .slice ad n cap ∧ n ≤ cap ∧ cap ≤ maxLen ∧ (ad = none → n = 0 ∧ cap = 0) ∧ (∀ a, ad = some a → ∃ g o, a = ⟨g, o, none⟩ ∧ v.ownBlock = some g ∧ g < w.heap.size ∧ ∀ W : World, W.heap[g]? = w.heap[g]? → (∀ j u, xs[j]? = some u → W.cell? ⟨g, o + j, none⟩ = some u) ∧ ∀ j, W.frozen? ⟨g, j, none⟩ = false) := by
  obtain ⟨hl, ⟨rfl, rfl⟩ | ⟨g, o, cap, cur, rfl, hg, h1, h2, h3, h4⟩⟩ := h
  · exact ⟨none, 0, rfl, Nat.le_refl _, Nat.zero_le _, fun _ => ⟨rfl, rfl⟩, fun a ha => by cases ha⟩
  · refine ⟨some ⟨g, o, none⟩, cap, rfl, h1, h2, (fun hh => by cases hh), fun a ha => ?_⟩
    cases ha
    exact ⟨g, o, rfl, rfl, lt_of_block hg, fun W hW => ⟨fun j u hu => by rw [cell_atT (hW.trans hg)]; exact h4 j u hu, fun j => free_atT (hW.trans hg) j⟩⟩
theorem Row.len {w : World} {T : TypeId} {k : Nat} {v : Value} {n : Nat} {xs : List Value} (h : Row w T k v n xs) : n ≤ maxLen := by
  obtain ⟨ad, cap, _, h1, h2, _⟩ := h.shape
  exact Nat.le_trans h1 h2
/-- The rest of a row. -/
theorem Row.drop {w : World} {T : TypeId} {k : Nat} {g o n cap : Nat} {xs : List Value} (h : Row w T k (.slice (some ⟨g, o, none⟩) n cap) n xs) {j : Nat} (hj : j ≤ n) :
    Row w T k (.slice (some ⟨g, if cap = j then o else o + j * k, none⟩) (n - j) (cap - j)) (n - j) (xs.drop (j * k)) := by
  obtain ⟨hl, ⟨hh, _⟩ | ⟨g', o', cap', cur, hh, hg, h1, h2, h3, h4⟩⟩ := h
  · cases hh
  · cases hh
    refine ⟨by rw [List.length_drop, hl, Nat.sub_mul], .inr ⟨g, _, cap - j, cur, rfl, hg, by omega, by omega, ?_, fun i u hu => ?_⟩⟩
    · split
      · rename_i hc
        have : cap - j = 0 := by omega
        rw [this]
        omega
      · have h5 : j * k + (cap - j) * k = cap * k := by rw [← Nat.add_mul]; congr 1; omega
        omega
    · rw [List.getElem?_drop] at hu
      split
      · rename_i hc
        have hlt := (List.getElem?_eq_some_iff.1 hu).1
        have : n = j := by omega
        subst this
        omega
      · rw [Nat.add_assoc]
        exact h4 _ _ hu
/-- A cell of a row written over. -/
theorem Row.set {w : World} {T : TypeId} {k : Nat} {g o n cap : Nat} {xs : List Value} (h : Row w T k (.slice (some ⟨g, o, none⟩) n cap) n xs) {j : Nat} (hj : j < n * k) (u : Value) :
    Row (w.setCell ⟨g, o + j, none⟩ u) T k (.slice (some ⟨g, o, none⟩) n cap) n (xs.set j u) := by
  obtain ⟨hl, ⟨hh, _⟩ | ⟨g', o', cap', cur, hh, hg, h1, h2, h3, h4⟩⟩ := h
  · cases hh
  · cases hh
    refine ⟨by rw [List.length_set, hl], .inr ⟨g, o, cap, _, rfl, heap_setCell_same w g (o + j) _ _ _ hg, h1, h2, ?_, fun i x hx => ?_⟩⟩
    · simpa using h3
    · by_cases hij : j = i
      · subst hij
        rw [List.getElem?_set_self (by rw [hl]; exact hj)] at hx
        have h5 := h4 j _ (List.getElem?_eq_getElem (by rw [hl]; exact hj))
        obtain ⟨h6, _⟩ := Array.getElem?_eq_some_iff.1 h5
        rw [Array.getElem?_setIfInBounds_self_of_lt h6]
        exact hx
      · rw [List.getElem?_set_ne hij] at hx
        rw [Array.getElem?_setIfInBounds_ne (by omega)]
        exact h4 i x hx

end Go.Proofs.YtlfcjcaofhcfnaaGreatDoor

namespace Go.Proofs.YtlfcjcaofhcfnaaGreatDoor
open Go.RowKit
set_option linter.unusedVariables false

theorem setCells_block (b : Nat) (T : TypeId) : ∀ (vs : List Value) (o : Nat) (w : World) (cur : Array Value), w.heap[b]? = some (.cells cur T (0, 0)) → o + vs.length ≤ cur.size →
    ∃ cur', (w.setCells b o vs).heap[b]? = some (.cells cur' T (0, 0)) ∧ cur'.size = cur.size ∧ (∀ (j : Nat) u, vs[j]? = some u → cur'[o + j]? = some u) ∧ ∀ i, (i < o ∨ o + vs.length ≤ i) → cur'[i]? = cur[i]?
  | [], o, w, cur, h, _ => ⟨cur, h, rfl, fun j u hu => by simp at hu, fun _ _ => rfl⟩
  | v :: r, o, w, cur, h, hs => by
    simp only [List.length_cons] at hs
    obtain ⟨cur', h1, h2, h3, h4⟩ := setCells_block b T r (o + 1) (w.setCell ⟨b, o, none⟩ v) _ (heap_setCell_same w b o _ _ _ h) (by simp; omega)
    refine ⟨cur', h1, by rw [h2]; simp, fun j u hu => ?_, fun i hi => ?_⟩
    · cases j with
      | zero =>
        have h5 := h4 o (.inl (by omega))
        rw [Nat.add_zero, h5, Array.getElem?_setIfInBounds_self_of_lt (by omega)]
        simpa using hu
      | succ j =>
        have h5 := h3 j u (by simpa using hu)
        rwa [show o + (j + 1) = o + 1 + j by omega]
    · simp only [List.length_cons] at hi
      rw [h4 i (by omega), Array.getElem?_setIfInBounds_ne (by omega)]
theorem setCells_size (b : Nat) : ∀ (vs : List Value) (o : Nat) (w : World), (w.setCells b o vs).heap.size = w.heap.size
  | [], _, _ => rfl
  | v :: r, o, w => by rw [World.setCells, setCells_size b r]; simp [World.setCell]
theorem But.setCells {S : List Nat} {w w' : World} (h : But S w w') {b : Nat} (hb : b ∈ S) : ∀ (vs : List Value) (o : Nat), But S w (w'.setCells b o vs) := by
  intro vs
  induction vs generalizing w' with
  | nil => intro o; exact h
  | cons v r ih => intro o; exact ih (h.setCell (p := ⟨b, o, none⟩) (.inl hb) v) (o + 1)

/-- What an append leaves. -/
structure Grown (w w' : World) (v v' : Value) (S : List Nat) : Prop where
  but : But S w w'
  own : v'.ownBlock = v.ownBlock ∨ v'.ownBlock = some w.heap.size
  size : w'.heap.size ≤ w.heap.size + 1

theorem append_row {P : Program} (w : World) (t tx ty e : TypeId) (z : Value) (k bytes : Nat) (ht : P.underlying t = some (.slice e))
    (hinfo : (P.info? e).map (fun i => (i.zero, i.size, i.bytes)) = some (some z, k, bytes)) (hzs : z.cells.size = k)
    {v : Value} {n : Nat} {xs : List Value} (hr : Row w e k v n xs) {x : Value} {m : Nat} {news : List Value} (hs : Src P k tx x m news w) (hby : (n + m) * bytes ≤ 140737488355328) (hml : n + m ≤ maxLen) :
    ∃ v' w', (Builtin.append_ #[t, tx] ty #[v, x]).run P w = .ok v' w' ∧ Row w' e k v' (n + m) (xs ++ news) ∧ Grown w w' v v' v.ownBlock.toList := by
  obtain ⟨i, hi, hz, rfl, rfl⟩ := info_parts hinfo
  have hlen : (xs ++ news).length = (n + m) * i.size := by rw [List.length_append, hr.1, hs.newsLen, Nat.add_mul]
  have grown : ∀ (old : Nat), old < n + m → ∀ S : List Nat,
      Row (w.drew.alloc (.cells ((xs ++ news).toArray ++ Builtin.zeroCells z.cells (grownCap w (n + m) old e - (n + m))) e)) e i.size (.slice (some ⟨w.heap.size, 0, none⟩) (n + m) (grownCap w (n + m) old e)) (n + m) (xs ++ news) ∧
      But S w (w.drew.alloc (.cells ((xs ++ news).toArray ++ Builtin.zeroCells z.cells (grownCap w (n + m) old e - (n + m))) e)) := by
    intro old ho S
    have hge := grownCap_ge w (n + m) old e
    have hcm : grownCap w (n + m) old e ≤ maxLen := grownCap_le_maxLen w (n + m) old e hml
    refine ⟨⟨hlen, .inr ⟨w.heap.size, 0, _, _, rfl, heap_alloc_new w.drew _, hge, hcm, ?_, fun j u hu => ?_⟩⟩, .of (((Below.refl _ w).drew).alloc (Nat.le_refl _) _)⟩
    · simp only [Array.size_append, List.size_toArray, size_zeroCells, hzs, hlen, ← Nat.add_mul, Nat.zero_add]
      exact Nat.le_of_eq (by congr 1; omega)
    · have hj := (List.getElem?_eq_some_iff.1 hu).1
      rw [Nat.zero_add, Array.getElem?_append_left (by simpa using hj), List.getElem?_toArray]
      exact hu
  have hmax : n + m ≤ 9223372036854775807 := by unfold maxLen at hml; omega
  obtain ⟨hl, ⟨rfl, rfl⟩ | ⟨g, o, cap, cur, rfl, hg, h1, h2, h3, h4⟩⟩ := hr
  · have hx : xs = [] := List.eq_nil_of_length_eq_zero (by simpa using hl)
    subst hx
    by_cases hm : m = 0
    · subst hm
      have hn : news = [] := List.eq_nil_of_length_eq_zero (by simpa using hs.newsLen)
      subst hn
      refine ⟨.slice none 0 0, w, ?_, Row.nil _ _ _, ⟨But.refl _ _, .inl rfl, Nat.le_succ _⟩⟩
      rcases hs.kind with ⟨e', hk⟩ | hk <;> simp [Builtin.append_, run_underlying ht, run_underlying hk, sizeOf, typeInfo, hi, hs.len, hs.cells]
    · have hrun := run_append_grow_src (P := P) w t tx ty e i z ht hi hz none 0 0 [] (run_firstCells_none w.drew i.size 0 0 0) x m news hs (by omega) (by omega) (growslice_fits (by omega) hby)
      have hgr := grown 0 (by omega) []
      exact ⟨_, _, hrun, hgr.1, ⟨hgr.2, .inr rfl, by simp⟩⟩
  · have hcell : ∀ j, o + j < cur.size → (w.cell? ⟨g, o + j, none⟩).isSome = true := fun j hj => by rw [cell_atT hg, Array.getElem?_eq_getElem hj]; rfl
    by_cases hroom : n + m ≤ cap
    · have hfit : n * i.size + news.length ≤ cap * i.size := by rw [hs.newsLen, ← Nat.add_mul]; exact Nat.mul_le_mul_right _ hroom
      have hrun := run_append_room_src (P := P) w t tx ty e i ht hi g o n cap x m news hs hroom (fun j hj => by rw [Nat.add_assoc]; exact hcell _ (by omega)) (fun j hj => free_atT hg _)
      obtain ⟨cur', c1, c2, c3, c4⟩ := setCells_block g e news (o + n * i.size) w cur hg (by omega)
      refine ⟨_, _, hrun, ⟨hlen, .inr ⟨g, o, cap, cur', rfl, c1, hroom, h2, by omega, fun j u hu => ?_⟩⟩, ⟨But.setCells (But.refl _ _) (by simp [Value.ownBlock]) _ _, .inl rfl, by rw [setCells_size]; omega⟩⟩
      by_cases hj : j < xs.length
      · rw [List.getElem?_append_left hj] at hu
        rw [c4 _ (.inl (by rw [hl] at hj; omega))]
        exact h4 j u hu
      · rw [List.getElem?_append_right (by omega)] at hu
        have h5 := c3 _ _ hu
        rwa [show o + n * i.size + (j - xs.length) = o + j by rw [hl]; omega] at h5
    · have hold := run_firstCells_some (P := P) w.drew i.size n ⟨g, o, none⟩ n cap xs hl (fun j u hu => by
        rw [show (⟨g, o, none⟩ : Addr).add j = ⟨g, o + j, none⟩ by unfold Addr.add; split <;> simp_all]
        show w.cell? _ = _
        rw [cell_atT hg]
        exact h4 j u hu)
      have hrun := run_append_grow_src (P := P) w t tx ty e i z ht hi hz (some ⟨g, o, none⟩) n cap xs hold x m news hs (by omega) (by omega) (growslice_fits (by omega) hby)
      have hgr := grown cap (by omega) [g]
      exact ⟨_, _, hrun, hgr.1, ⟨hgr.2, .inr rfl, by simp⟩⟩

/-- One element that was just made. -/
theorem Src.fresh {P : Program} {tx e' : TypeId} (hk : P.underlying tx = some (.slice e')) (Y : World) (cs : Array Value) (T : TypeId) (k : Nat) (hl : cs.size = k) (h1 : cs.toList.all (fun u => u.oneCell') = true) : Src P k tx (.slice (some ⟨Y.heap.size, 0, none⟩) 1 1) 1 cs.toList (Y.alloc (.cells cs T)) := by
  refine Src.ofSlice _ hk _ 1 1 cs.toList (by simpa using hl) (fun j u hu => ?_) (fun u hu => List.all_eq_true.1 h1 u hu)
  rw [show (⟨Y.heap.size, 0, none⟩ : Addr).add j = ⟨Y.heap.size, j, none⟩ by unfold Addr.add; split <;> simp_all, cell_atT (heap_alloc_new Y _)]
  simpa using hu
theorem Src.block {P : Program} {tx e' : TypeId} (hk : P.underlying tx = some (.slice e')) (X : World) (g : Nat) (cs : List Value) (T : TypeId) (k : Nat) (hg : X.heap[g]? = some (.cells cs.toArray T (0, 0))) (hl : cs.length = k) (h1 : cs.all (fun u => u.oneCell') = true) : Src P k tx (.slice (some ⟨g, 0, none⟩) 1 1) 1 cs X := by
  refine Src.ofSlice _ hk _ 1 1 cs (by simpa using hl) (fun j u hu => ?_) (fun u hu => List.all_eq_true.1 h1 u hu)
  rw [show (⟨g, 0, none⟩ : Addr).add j = ⟨g, j, none⟩ by unfold Addr.add; split <;> simp_all, cell_atT hg]
  simpa using hu
theorem heap_two (w : World) (o p : Obj) : ((w.alloc o).alloc p).heap[w.heap.size]? = some o ∧ ((w.alloc o).alloc p).heap[w.heap.size + 1]? = some p ∧ ((w.alloc o).alloc p).heap.size = w.heap.size + 2 ∧ Below w.heap.size w ((w.alloc o).alloc p) := by
  refine ⟨?_, ?_, by simp, ((Below.refl _ w).alloc (Nat.le_refl _) _).alloc (by simp) _⟩
  · rw [Below.heap_alloc _ _ _ (by simp)]
    exact heap_alloc_new w _
  · have := heap_alloc_new (w.alloc o) p
    simpa using this
/-- At the operation. -/
theorem wpList_append_row {P : Program} {ops : Array Oper} {rest : List Oper} {o : Oper} {a : Act} {Q : Exit → Act → World → Prop} (w : World) (hgd : o.guard = none) (s x : Operand) (t tx : TypeId)
    (ho : o.op = .call { callee := .builtin .append, args := #[s, x], argTypes := #[t, tx] }) {e : TypeId} {z : Value} {k bytes : Nat} (ht : P.underlying t = some (.slice e))
    (hinfo : (P.info? e).map (fun i => (i.zero, i.size, i.bytes)) = some (some z, k, bytes)) (hzs : z.cells.size = k)
    {v : Value} {n : Nat} {xs : List Value} {u : Value} {m : Nat} {news : List Value} (hv : a.eval s = v) (hu : a.eval x = u) (hr : Row w e k v n xs) (hs : Src P k tx u m news w) (hby : (n + m) * bytes ≤ 140737488355328) (hml : n + m ≤ maxLen)
    (h : ∀ v' w', Hid (Row w' e k v' (n + m) (xs ++ news)) → Hid (Grown w w' v v' v.ownBlock.toList) → wpList P ops Q rest (a.put o.dst v') w') : wpList P ops Q (o :: rest) a w := by
  obtain ⟨v', w', hrun, h2, h3⟩ := append_row (P := P) w t tx o.type e z k bytes ht hinfo hzs hr hs hby hml
  refine wpList_plain hgd fun K hK => ?_
  unfold Oper.wp execOp
  simp only [ho, resolve, invoke, builtin, Sem.run_bind, Sem.run_pure, Result.andThen_ok, List.map_toArray, List.map_cons, List.map_nil, hv, hu, hrun]
  exact hK _ _ (h v' w' h2 h3)
/-- .. in a region. -/
theorem step_append_row {P : Program} {ops : Array Oper} {o : Oper} {a : Act} {K : Act → World → Prop} {Q : Exit → Act → World → Prop} {E : Prop} (w : World) (hgd : o.guard = none) (s x : Operand) (t tx : TypeId)
    (ho : o.op = .call { callee := .builtin .append, args := #[s, x], argTypes := #[t, tx] }) {e : TypeId} {z : Value} {k bytes : Nat} (ht : P.underlying t = some (.slice e))
    (hinfo : (P.info? e).map (fun i => (i.zero, i.size, i.bytes)) = some (some z, k, bytes)) (hzs : z.cells.size = k)
    {v : Value} {n : Nat} {xs : List Value} {u : Value} {m : Nat} {news : List Value} (hv : a.eval s = v) (hu : a.eval x = u) (hr : Row w e k v n xs) (hs : Src P k tx u m news w) (hby : (n + m) * bytes ≤ 140737488355328) (hml : n + m ≤ maxLen)
    (h : ∀ v' w', Hid (Row w' e k v' (n + m) (xs ++ news)) → Hid (Grown w w' v v' v.ownBlock.toList) → K (a.put o.dst v') w') : if Region.wanted o (yielded ops a.tmps) = true then Oper.wp P o a w K Q else E := by
  have hw : Region.wanted o (yielded ops a.tmps) = true := by simp [Region.wanted, hgd]
  rw [if_pos hw]
  obtain ⟨v', w', hrun, h2, h3⟩ := append_row (P := P) w t tx o.type e z k bytes ht hinfo hzs hr hs hby hml
  unfold Oper.wp execOp
  simp only [ho, resolve, invoke, builtin, Sem.run_bind, Sem.run_pure, Result.andThen_ok, List.map_toArray, List.map_cons, List.map_nil, hv, hu, hrun]
  exact h v' w' h2 h3

end Go.Proofs.YtlfcjcaofhcfnaaGreatDoor

namespace Go.Proofs.YtlfcjcaofhcfnaaGreatDoor
open Go.RowKit
set_option linter.unusedVariables false
set_option maxRecDepth 20000

structure Mine (w wr : World) (T : TypeId) (k : Nat) (v : Value) (n : Nat) (xs : List Value) : Prop where
  row : Row wr T k v n xs
  below : Below w.heap.size w wr
  young : ∀ g, v.ownBlock = some g → w.heap.size ≤ g
theorem Mine.nil {w wr : World} {T : TypeId} {k : Nat} (h : Below w.heap.size w wr) : Mine w wr T k (.slice none 0 0) 0 [] := ⟨Row.nil _ _ _, h, fun g hg => by cases hg⟩
theorem Mine.more {w wr w' : World} {T : TypeId} {k : Nat} {v : Value} {n : Nat} {xs : List Value} (h : Mine w wr T k v n xs) (hb : Below wr.heap.size wr w') : Mine w w' T k v n xs := ⟨h.row.below hb, h.below.trans (hb.mono h.below.size), h.young⟩
theorem Mine.grown {w wr X w' : World} {T : TypeId} {k : Nat} {v v' : Value} {n n' : Nat} {xs xs' : List Value} (h : Mine w wr T k v n xs) (hX : Below wr.heap.size wr X) (hr : Row w' T k v' n' xs') (hg : Grown X w' v v' v.ownBlock.toList) : Mine w w' T k v' n' xs' := by
  refine ⟨hr, hg.but.under (h.more hX).below (h.more hX).below.size (fun g hh => h.young g (by simpa using hh)), fun g hh => ?_⟩
  rcases hg.own with e | e
  · exact h.young g (e ▸ hh)
  · rw [e] at hh
    cases hh
    exact (h.more hX).below.size
theorem Mine.cast {w wr : World} {T : TypeId} {k : Nat} {v : Value} {n n' : Nat} {xs xs' : List Value} (h : Mine w wr T k v n xs) (hn : n = n') (hx : xs = xs') : Mine w wr T k v n' xs' := by subst hn hx; exact h


def strsV (ls : List (List UInt8)) : List Value := ls.map fun l => .string (str l)
theorem strs_len (ls : List (List UInt8)) : (strsV ls).length = ls.length := List.length_map _
theorem strs_snoc (ls : List (List UInt8)) (l : List UInt8) : strsV (ls ++ [l]) = strsV ls ++ [.string (str l)] := by simp [strsV]
theorem infoStr : (Tryz.prog.info? 9).map (fun i => (i.zero, i.size, i.bytes)) = some (some (.string ⟨#[]⟩), 1, 16) := by kernel_rfl
theorem underStrs : Tryz.prog.underlying 127 = some (.slice 9) := by kernel_rfl
/-- A list of texts of one's own. -/
abbrev Texts (w w' : World) (v : Value) (ls : List (List UInt8)) : Prop := Mine w w' 9 1 v ls.length (strsV ls)
theorem Mine.at {w W : World} {v : Value} {ls : List (List UInt8)} (h : Texts w W v ls) : ∃ ad cap, v = .slice ad ls.length cap ∧ ∀ W', Below W.heap.size W W' → ∀ (i : Nat) (l : List UInt8), ls[i]? = some l → ∃ g o, ad = some ⟨g, o, none⟩ ∧ W'.cell? ⟨g, o + i, none⟩ = some (.string (str l)) := by
  obtain ⟨ad, cap, e, h1, h2, h3, h4⟩ := h.row.shape
  refine ⟨ad, cap, e, fun W' hW i l hl => ?_⟩
  have hi := (List.getElem?_eq_some_iff.1 hl).1
  cases ad with
  | none =>
    have := (h3 rfl).1
    omega
  | some a =>
    obtain ⟨g, o, rfl, _, h5, h6⟩ := h4 a rfl
    exact ⟨g, o, rfl, (h6 W' (hW.block g h5)).1 i _ (by unfold strsV; rw [List.getElem?_map, hl]; rfl)⟩

end Go.Proofs.YtlfcjcaofhcfnaaGreatDoor
