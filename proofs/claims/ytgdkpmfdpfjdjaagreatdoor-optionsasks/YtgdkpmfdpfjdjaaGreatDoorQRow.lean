/-
  The queue: rows in memory, from some place of a block on; what is appended to them.
-/
import Derived.Test.YtgdkpmfdpfjdjaaGreatDoorPlainN
import Derived.WalkKit
import Derived.OneCell
import Derived.OwnWalk
import Derived.Deep.Draws
import Derived.Deep.AppendSrc
namespace Go.Proofs.YtgdkpmfdpfjdjaaGreatDoor
open Go.RowKit
set_option linter.unusedVariables false

theorem cell_atT {w : World} {b : Nat} {cs : Array Value} {t : TypeId} (h : w.heap[b]? = some (.cells cs t (0, 0))) (o : Nat) : w.cell? ⟨b, o, none⟩ = cs[o]? := by simp [World.cell?, h]
theorem free_atT {w : World} {b : Nat} {cs : Array Value} {t : TypeId} (h : w.heap[b]? = some (.cells cs t (0, 0))) (o : Nat) : w.frozen? ⟨b, o, none⟩ = false := by simp [World.frozen?, h]

/-- But for these blocks nothing that was there has turned. -/
structure But (S : List Nat) (w w' : World) : Prop where
  os : w'.os = w.os
  tape : w'.tape = w.tape
  output : w'.output = w.output
  size : w.heap.size ≤ w'.heap.size
  block : ∀ k, k < w.heap.size → k ∉ S → w'.heap[k]? = w.heap[k]?
theorem But.refl (S : List Nat) (w : World) : But S w w := ⟨rfl, rfl, rfl, Nat.le_refl _, fun _ _ _ => rfl⟩
theorem But.of {S : List Nat} {w w' : World} (h : Below w.heap.size w w') : But S w w' := ⟨h.os, h.tape, h.output, h.size, fun k hk _ => h.block k hk⟩
theorem But.trans {S : List Nat} {a b c : World} (h : But S a b) (k : But S b c) : But S a c :=
  ⟨k.os.trans h.os, k.tape.trans h.tape, k.output.trans h.output, Nat.le_trans h.size k.size, fun i hi hs => (k.block i (Nat.lt_of_lt_of_le hi h.size) hs).trans (h.block i hi hs)⟩
theorem But.mono {S T : List Nat} {a b : World} (h : But S a b) (hs : ∀ k, k < a.heap.size → k ∈ S → k ∈ T) : But T a b :=
  ⟨h.os, h.tape, h.output, h.size, fun k hk ht => h.block k hk (fun hh => ht (hs k hk hh))⟩
/-- .. what was there ahead of it, if all of them are younger. -/
theorem But.under {S : List Nat} {B : Nat} {w0 w w' : World} (h : But S w w') (hb : Below B w0 w) (hB : B ≤ w.heap.size) (hs : ∀ k ∈ S, B ≤ k) : Below B w0 w' :=
  hb.trans ⟨h.os, h.tape, h.output, h.size, fun k hk => h.block k (by omega) (fun hh => by have := hs k hh; omega)⟩
theorem below_drewN (w : World) (n : Nat) : Below w.heap.size w (w.drewN n) := ⟨rfl, rfl, rfl, Nat.le_refl _, fun _ _ => rfl⟩
theorem But.drewN {S : List Nat} {w w' : World} (h : But S w w') (n : Nat) : But S w (w'.drewN n) := ⟨h.os, h.tape, h.output, h.size, h.block⟩
theorem But.setCell {S : List Nat} {w w' : World} (h : But S w w') {p : Addr} (hp : p.block ∈ S ∨ w.heap.size ≤ p.block) (u : Value) : But S w (w'.setCell p u) :=
  ⟨h.os, h.tape, h.output, by simpa [World.setCell] using h.size, fun k hk hs => by
    rw [Below.heap_setCell _ _ _ _ (fun e => by subst e; rcases hp with hp | hp; exact hs hp; omega)]
    exact h.block k hk hs⟩
theorem But.alloc {S : List Nat} {w w' : World} (h : But S w w') (o : Obj) : But S w (w'.alloc o) :=
  ⟨h.os, h.tape, h.output, Nat.le_trans h.size (by simp), fun k hk hs => by rw [Below.heap_alloc _ _ _ (Nat.lt_of_lt_of_le hk h.size)]; exact h.block k hk hs⟩
theorem But.setRow {S : List Nat} {w w' : World} (h : But S w w') {g : Nat} (hp : g ∈ S ∨ w.heap.size ≤ g) (cs : Array Value) : But S w (w'.setRow g cs) :=
  ⟨h.os, h.tape, h.output, by simpa [World.setRow] using h.size, fun k hk hs => by
    rw [setRow_other _ _ _ _ (fun e => by subst e; rcases hp with hp | hp; exact hs hp; omega)]
    exact h.block k hk hs⟩


/-- A row of n elements, k cells each, from some place of a block on. -/
def Row (w : World) (T : TypeId) (k : Nat) (v : Value) (n : Nat) (xs : List Value) : Prop :=
  xs.length = n * k ∧ ((v = .slice none 0 0 ∧ n = 0) ∨ ∃ g o cap cur, v = .slice (some ⟨g, o, none⟩) n cap ∧ w.heap[g]? = some (.cells cur T (0, 0)) ∧ n ≤ cap ∧ cap ≤ maxLen ∧ o + cap * k ≤ cur.size ∧
    ∀ j u, xs[j]? = some u → cur[o + j]? = some u)

theorem Row.nil (w : World) (T : TypeId) (k : Nat) : Row w T k (.slice none 0 0) 0 [] := ⟨by simp, .inl ⟨rfl, rfl⟩⟩
theorem Row.keep {w w' : World} {T : TypeId} {k : Nat} {v : Value} {n : Nat} {xs : List Value} (h : Row w T k v n xs) (hk : ∀ g, v.ownBlock = some g → w'.heap[g]? = w.heap[g]?) : Row w' T k v n xs := by
  obtain ⟨hl, h | ⟨g, o, cap, cur, rfl, hg, r⟩⟩ := h
  · exact ⟨hl, .inl h⟩
  · exact ⟨hl, .inr ⟨g, o, cap, cur, rfl, (hk g rfl).trans hg, r⟩⟩
theorem Row.block {w : World} {T : TypeId} {k : Nat} {v : Value} {n : Nat} {xs : List Value} (h : Row w T k v n xs) {g : Nat} (hg : v.ownBlock = some g) : ∃ cur, w.heap[g]? = some (.cells cur T (0, 0)) := by
  obtain ⟨_, ⟨rfl, _⟩ | ⟨g', o, cap, cur, rfl, hh, r⟩⟩ := h
  · cases hg
  · cases hg
    exact ⟨_, hh⟩
theorem Row.lt {w : World} {T : TypeId} {k : Nat} {v : Value} {n : Nat} {xs : List Value} (h : Row w T k v n xs) : ∀ g, v.ownBlock = some g → g < w.heap.size := by
  intro g hg
  obtain ⟨_, hh⟩ := h.block hg
  exact lt_of_block hh
theorem Row.below {w w' : World} {T : TypeId} {k : Nat} {v : Value} {n : Nat} {xs : List Value} (h : Row w T k v n xs) (hb : Below w.heap.size w w') : Row w' T k v n xs := h.keep fun g hg => hb.block g (h.lt g hg)
theorem Row.but {w w' : World} {S : List Nat} {T : TypeId} {k : Nat} {v : Value} {n : Nat} {xs : List Value} (h : Row w T k v n xs) (hb : But S w w') (hS : ∀ g, v.ownBlock = some g → g ∉ S) : Row w' T k v n xs := h.keep fun g hg => hb.block g (h.lt g hg) (hS g hg)
theorem Row.drew {w : World} {T : TypeId} {k : Nat} {v : Value} {n : Nat} {xs : List Value} (h : Row w T k v n xs) : Row w.drew T k v n xs := h
theorem Row.drewN {w : World} {T : TypeId} {k : Nat} {v : Value} {n : Nat} {xs : List Value} (h : Row w T k v n xs) (m : Nat) : Row (w.drewN m) T k v n xs := h
/-- What the walk sees of a row. -/
theorem Row.shape {w : World} {T : TypeId} {k : Nat} {v : Value} {n : Nat} {xs : List Value} (h : Row w T k v n xs) :
    ∃ ad cap, v = .slice ad n cap ∧ n ≤ cap ∧ cap ≤ maxLen ∧ (ad = none → n = 0 ∧ cap = 0) ∧ (∀ a, ad = some a → ∃ g o, a = ⟨g, o, none⟩ ∧ v.ownBlock = some g ∧ g < w.heap.size ∧ ∀ W : World, W.heap[g]? = w.heap[g]? → (∀ j u, xs[j]? = some u → W.cell? ⟨g, o + j, none⟩ = some u) ∧ ∀ j, W.frozen? ⟨g, j, none⟩ = false) := by
  obtain ⟨hl, ⟨rfl, rfl⟩ | ⟨g, o, cap, cur, rfl, hg, h1, h2, h3, h4⟩⟩ := h
  · exact ⟨none, 0, rfl, Nat.le_refl _, Nat.zero_le _, fun _ => ⟨rfl, rfl⟩, fun a ha => by cases ha⟩
  · refine ⟨some ⟨g, o, none⟩, cap, rfl, h1, h2, (fun hh => by cases hh), fun a ha => ?_⟩
    cases ha
    exact ⟨g, o, rfl, rfl, lt_of_block hg, fun W hW => ⟨fun j u hu => by rw [cell_atT (hW.trans hg)]; exact h4 j u hu, fun j => free_atT (hW.trans hg) j⟩⟩
theorem Row.len {w : World} {T : TypeId} {k : Nat} {v : Value} {n : Nat} {xs : List Value} (h : Row w T k v n xs) : n ≤ maxLen := by
  obtain ⟨ad, cap, _, h1, h2, _⟩ := h.shape
  exact Nat.le_trans h1 h2
/-- The rest of a row. -/
theorem Row.drop {w : World} {T : TypeId} {k : Nat} {g o n cap : Nat} {xs : List Value} (h : Row w T k (.slice (some ⟨g, o, none⟩) n cap) n xs) {j : Nat} (hj : j ≤ n) :
    Row w T k (.slice (some ⟨g, if cap = j then o else o + j * k, none⟩) (n - j) (cap - j)) (n - j) (xs.drop (j * k)) := by
  obtain ⟨hl, ⟨hh, _⟩ | ⟨g', o', cap', cur, hh, hg, h1, h2, h3, h4⟩⟩ := h
  · cases hh
  · cases hh
    refine ⟨by rw [List.length_drop, hl, Nat.sub_mul], .inr ⟨g, _, cap - j, cur, rfl, hg, by omega, by omega, ?_, fun i u hu => ?_⟩⟩
    · split
      · rename_i hc
        have : cap - j = 0 := by omega
        rw [this]
        omega
      · have h5 : j * k + (cap - j) * k = cap * k := by rw [← Nat.add_mul]; congr 1; omega
        omega
    · rw [List.getElem?_drop] at hu
      split
      · rename_i hc
        have hlt := (List.getElem?_eq_some_iff.1 hu).1
        have : n = j := by omega
        subst this
        omega
      · rw [Nat.add_assoc]
        exact h4 _ _ hu
/-- A cell of a row written over. -/
theorem Row.set {w : World} {T : TypeId} {k : Nat} {g o n cap : Nat} {xs : List Value} (h : Row w T k (.slice (some ⟨g, o, none⟩) n cap) n xs) {j : Nat} (hj : j < n * k) (u : Value) :
    Row (w.setCell ⟨g, o + j, none⟩ u) T k (.slice (some ⟨g, o, none⟩) n cap) n (xs.set j u) := by
  obtain ⟨hl, ⟨hh, _⟩ | ⟨g', o', cap', cur, hh, hg, h1, h2, h3, h4⟩⟩ := h
  · cases hh
  · cases hh
    refine ⟨by rw [List.length_set, hl], .inr ⟨g, o, cap, _, rfl, heap_setCell_same w g (o + j) _ _ _ hg, h1, h2, ?_, fun i x hx => ?_⟩⟩
    · simpa using h3
    · by_cases hij : j = i
      · subst hij
        rw [List.getElem?_set_self (by rw [hl]; exact hj)] at hx
        have h5 := h4 j _ (List.getElem?_eq_getElem (by rw [hl]; exact hj))
        obtain ⟨h6, _⟩ := Array.getElem?_eq_some_iff.1 h5
        rw [Array.getElem?_setIfInBounds_self_of_lt h6]
        exact hx
      · rw [List.getElem?_set_ne hij] at hx
        rw [Array.getElem?_setIfInBounds_ne (by omega)]
        exact h4 i x hx

end Go.Proofs.YtgdkpmfdpfjdjaaGreatDoor
