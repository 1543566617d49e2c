/-
  The queue: rows in memory, from some place of a block on; what is appended to them.
  strings.Builder, wherever it lies; small laws of memory.
  Keys: a key's name.
-/
import Derived.Test.YtbonnjilbocldaaGreatDoorHA
import Derived.Test.YtbonnjilbocldaaGreatDoorHB
import Derived.Test.YtbonnjilbocldaaGreatDoorHC
import Derived.WalkKit
import Derived.OneCell
import Derived.OwnWalk
import Derived.Deep.Draws
import Derived.Deep.AppendSrc
import Derived.Lib.Builder
import Derived.Laws.Externs
import Derived.Lib.AppendStr
import Derived.Shelf.RegionOpenPlain
import Derived.Lib.UnsafeStr
import Derived.Laws.BitsLemmas
namespace Go.Proofs.YtbonnjilbocldaaGreatDoor
open Go.RowKit
set_option linter.unusedVariables false

theorem cell_atT {w : World} {b : Nat} {cs : Array Value} {t : TypeId} (h : w.heap[b]? = some (.cells cs t (0, 0))) (o : Nat) : w.cell? ⟨b, o, none⟩ = cs[o]? := by simp [World.cell?, h]
theorem free_atT {w : World} {b : Nat} {cs : Array Value} {t : TypeId} (h : w.heap[b]? = some (.cells cs t (0, 0))) (o : Nat) : w.frozen? ⟨b, o, none⟩ = false := by simp [World.frozen?, h]

/-- But for these blocks nothing that was there has turned. -/
structure But (S : List Nat) (w w' : World) : Prop where
  os : w'.os = w.os
  tape : w'.tape = w.tape
  output : w'.output = w.output
  size : w.heap.size ≤ w'.heap.size
  block : ∀ k, k < w.heap.size → k ∉ S → w'.heap[k]? = w.heap[k]?
theorem But.refl (S : List Nat) (w : World) : But S w w := ⟨rfl, rfl, rfl, Nat.le_refl _, fun _ _ _ => rfl⟩
theorem But.of {S : List Nat} {w w' : World} (h : Below w.heap.size w w') : But S w w' := ⟨h.os, h.tape, h.output, h.size, fun k hk _ => h.block k hk⟩
theorem But.trans {S : List Nat} {a b c : World} (h : But S a b) (k : But S b c) : But S a c :=
  ⟨k.os.trans h.os, k.tape.trans h.tape, k.output.trans h.output, Nat.le_trans h.size k.size, fun i hi hs => (k.block i (Nat.lt_of_lt_of_le hi h.size) hs).trans (h.block i hi hs)⟩
theorem But.mono {S T : List Nat} {a b : World} (h : But S a b) (hs : ∀ k, k < a.heap.size → k ∈ S → k ∈ T) : But T a b :=
  ⟨h.os, h.tape, h.output, h.size, fun k hk ht => h.block k hk (fun hh => ht (hs k hk hh))⟩
/-- .. what was there ahead of it, if all of them are younger. -/
theorem But.under {S : List Nat} {B : Nat} {w0 w w' : World} (h : But S w w') (hb : Below B w0 w) (hB : B ≤ w.heap.size) (hs : ∀ k ∈ S, B ≤ k) : Below B w0 w' :=
  hb.trans ⟨h.os, h.tape, h.output, h.size, fun k hk => h.block k (by omega) (fun hh => by have := hs k hh; omega)⟩
theorem below_drewN (w : World) (n : Nat) : Below w.heap.size w (w.drewN n) := ⟨rfl, rfl, rfl, Nat.le_refl _, fun _ _ => rfl⟩
theorem But.drewN {S : List Nat} {w w' : World} (h : But S w w') (n : Nat) : But S w (w'.drewN n) := ⟨h.os, h.tape, h.output, h.size, h.block⟩
theorem But.setCell {S : List Nat} {w w' : World} (h : But S w w') {p : Addr} (hp : p.block ∈ S ∨ w.heap.size ≤ p.block) (u : Value) : But S w (w'.setCell p u) :=
  ⟨h.os, h.tape, h.output, by simpa [World.setCell] using h.size, fun k hk hs => by
    rw [Below.heap_setCell _ _ _ _ (fun e => by subst e; rcases hp with hp | hp; exact hs hp; omega)]
    exact h.block k hk hs⟩
theorem But.alloc {S : List Nat} {w w' : World} (h : But S w w') (o : Obj) : But S w (w'.alloc o) :=
  ⟨h.os, h.tape, h.output, Nat.le_trans h.size (by simp), fun k hk hs => by rw [Below.heap_alloc _ _ _ (Nat.lt_of_lt_of_le hk h.size)]; exact h.block k hk hs⟩
theorem But.setRow {S : List Nat} {w w' : World} (h : But S w w') {g : Nat} (hp : g ∈ S ∨ w.heap.size ≤ g) (cs : Array Value) : But S w (w'.setRow g cs) :=
  ⟨h.os, h.tape, h.output, by simpa [World.setRow] using h.size, fun k hk hs => by
    rw [setRow_other _ _ _ _ (fun e => by subst e; rcases hp with hp | hp; exact hs hp; omega)]
    exact h.block k hk hs⟩


/-- A row of n elements, k cells each, from some place of a block on. -/
def Row (w : World) (T : TypeId) (k : Nat) (v : Value) (n : Nat) (xs : List Value) : Prop :=
  xs.length = n * k ∧ ((v = .slice none 0 0 ∧ n = 0) ∨ ∃ g o cap cur, v = .slice (some ⟨g, o, none⟩) n cap ∧ w.heap[g]? = some (.cells cur T (0, 0)) ∧ n ≤ cap ∧ cap ≤ maxLen ∧ o + cap * k ≤ cur.size ∧
    ∀ j u, xs[j]? = some u → cur[o + j]? = some u)

theorem Row.nil (w : World) (T : TypeId) (k : Nat) : Row w T k (.slice none 0 0) 0 [] := ⟨by simp, .inl ⟨rfl, rfl⟩⟩
theorem Row.keep {w w' : World} {T : TypeId} {k : Nat} {v : Value} {n : Nat} {xs : List Value} (h : Row w T k v n xs) (hk : ∀ g, v.ownBlock = some g → w'.heap[g]? = w.heap[g]?) : Row w' T k v n xs := by
  obtain ⟨hl, h | ⟨g, o, cap, cur, rfl, hg, r⟩⟩ := h
  · exact ⟨hl, .inl h⟩
  · exact ⟨hl, .inr ⟨g, o, cap, cur, rfl, (hk g rfl).trans hg, r⟩⟩
theorem Row.block {w : World} {T : TypeId} {k : Nat} {v : Value} {n : Nat} {xs : List Value} (h : Row w T k v n xs) {g : Nat} (hg : v.ownBlock = some g) : ∃ cur, w.heap[g]? = some (.cells cur T (0, 0)) := by
  obtain ⟨_, ⟨rfl, _⟩ | ⟨g', o, cap, cur, rfl, hh, r⟩⟩ := h
  · cases hg
  · cases hg
    exact ⟨_, hh⟩
theorem Row.lt {w : World} {T : TypeId} {k : Nat} {v : Value} {n : Nat} {xs : List Value} (h : Row w T k v n xs) : ∀ g, v.ownBlock = some g → g < w.heap.size := by
  intro g hg
  obtain ⟨_, hh⟩ := h.block hg
  exact lt_of_block hh
theorem Row.below {w w' : World} {T : TypeId} {k : Nat} {v : Value} {n : Nat} {xs : List Value} (h : Row w T k v n xs) (hb : Below w.heap.size w w') : Row w' T k v n xs := h.keep fun g hg => hb.block g (h.lt g hg)
theorem Row.but {w w' : World} {S : List Nat} {T : TypeId} {k : Nat} {v : Value} {n : Nat} {xs : List Value} (h : Row w T k v n xs) (hb : But S w w') (hS : ∀ g, v.ownBlock = some g → g ∉ S) : Row w' T k v n xs := h.keep fun g hg => hb.block g (h.lt g hg) (hS g hg)
theorem Row.drew {w : World} {T : TypeId} {k : Nat} {v : Value} {n : Nat} {xs : List Value} (h : Row w T k v n xs) : Row w.drew T k v n xs := h
theorem Row.drewN {w : World} {T : TypeId} {k : Nat} {v : Value} {n : Nat} {xs : List Value} (h : Row w T k v n xs) (m : Nat) : Row (w.drewN m) T k v n xs := h
/-- What the walk sees of a row. -/
theorem Row.shape {w : World} {T : TypeId} {k : Nat} {v : Value} {n : Nat} {xs : List Value} (h : Row w T k v n xs) :
    ∃ ad cap, v = .slice ad n cap ∧ n ≤ cap ∧ cap ≤ maxLen ∧ (ad = none → n = 0 ∧ cap = 0) ∧ (∀ a, ad = some a → ∃ g o, a = ⟨g, o, none⟩ ∧ v.ownBlock = some g ∧ g < w.heap.size ∧ ∀ W : World, W.heap[g]? = w.heap[g]? → (∀ j u, xs[j]? = some u → W.cell? ⟨g, o + j, none⟩ = some u) ∧ ∀ j, W.frozen? ⟨g, j, none⟩ = false) := by
  obtain ⟨hl, ⟨rfl, rfl⟩ | ⟨g, o, cap, cur, rfl, hg, h1, h2, h3, h4⟩⟩ := h
  · exact ⟨none, 0, rfl, Nat.le_refl _, Nat.zero_le _, fun _ => ⟨rfl, rfl⟩, fun a ha => by cases ha⟩
  · refine ⟨some ⟨g, o, none⟩, cap, rfl, h1, h2, (fun hh => by cases hh), fun a ha => ?_⟩
    cases ha
    exact ⟨g, o, rfl, rfl, lt_of_block hg, fun W hW => ⟨fun j u hu => by rw [cell_atT (hW.trans hg)]; exact h4 j u hu, fun j => free_atT (hW.trans hg) j⟩⟩
theorem Row.len {w : World} {T : TypeId} {k : Nat} {v : Value} {n : Nat} {xs : List Value} (h : Row w T k v n xs) : n ≤ maxLen := by
  obtain ⟨ad, cap, _, h1, h2, _⟩ := h.shape
  exact Nat.le_trans h1 h2
/-- The rest of a row. -/
theorem Row.drop {w : World} {T : TypeId} {k : Nat} {g o n cap : Nat} {xs : List Value} (h : Row w T k (.slice (some ⟨g, o, none⟩) n cap) n xs) {j : Nat} (hj : j ≤ n) :
    Row w T k (.slice (some ⟨g, if cap = j then o else o + j * k, none⟩) (n - j) (cap - j)) (n - j) (xs.drop (j * k)) := by
  obtain ⟨hl, ⟨hh, _⟩ | ⟨g', o', cap', cur, hh, hg, h1, h2, h3, h4⟩⟩ := h
  · cases hh
  · cases hh
    refine ⟨by rw [List.length_drop, hl, Nat.sub_mul], .inr ⟨g, _, cap - j, cur, rfl, hg, by omega, by omega, ?_, fun i u hu => ?_⟩⟩
    · split
      · rename_i hc
        have : cap - j = 0 := by omega
        rw [this]
        omega
      · have h5 : j * k + (cap - j) * k = cap * k := by rw [← Nat.add_mul]; congr 1; omega
        omega
    · rw [List.getElem?_drop] at hu
      split
      · rename_i hc
        have hlt := (List.getElem?_eq_some_iff.1 hu).1
        have : n = j := by omega
        subst this
        omega
      · rw [Nat.add_assoc]
        exact h4 _ _ hu
/-- A cell of a row written over. -/
theorem Row.set {w : World} {T : TypeId} {k : Nat} {g o n cap : Nat} {xs : List Value} (h : Row w T k (.slice (some ⟨g, o, none⟩) n cap) n xs) {j : Nat} (hj : j < n * k) (u : Value) :
    Row (w.setCell ⟨g, o + j, none⟩ u) T k (.slice (some ⟨g, o, none⟩) n cap) n (xs.set j u) := by
  obtain ⟨hl, ⟨hh, _⟩ | ⟨g', o', cap', cur, hh, hg, h1, h2, h3, h4⟩⟩ := h
  · cases hh
  · cases hh
    refine ⟨by rw [List.length_set, hl], .inr ⟨g, o, cap, _, rfl, heap_setCell_same w g (o + j) _ _ _ hg, h1, h2, ?_, fun i x hx => ?_⟩⟩
    · simpa using h3
    · by_cases hij : j = i
      · subst hij
        rw [List.getElem?_set_self (by rw [hl]; exact hj)] at hx
        have h5 := h4 j _ (List.getElem?_eq_getElem (by rw [hl]; exact hj))
        obtain ⟨h6, _⟩ := Array.getElem?_eq_some_iff.1 h5
        rw [Array.getElem?_setIfInBounds_self_of_lt h6]
        exact hx
      · rw [List.getElem?_set_ne hij] at hx
        rw [Array.getElem?_setIfInBounds_ne (by omega)]
        exact h4 i x hx

end Go.Proofs.YtbonnjilbocldaaGreatDoor

namespace Go.Proofs.YtbonnjilbocldaaGreatDoor
open Go.RowKit
set_option linter.unusedVariables false
set_option maxRecDepth 100000

theorem gen_exit {E : Exit → Act → World → Prop} {x : Exit} {a : Act} {w : World} (R : World → Prop) (h : R w) (hG : ∀ Y, R Y → E x a Y) : E x a w := hG w h
theorem gen_wp {P : Program} {c : Code} {Q : Exit → Act → World → Prop} {a : Act} {w : World} (R : World → Prop) (h : R w) (hG : ∀ Y, R Y → Code.wp P c Q a Y) : Code.wp P c Q a w := hG w h
theorem put_at {w : World} {b : Nat} {cs : Array Value} {T : TypeId} (h : w.heap[b]? = some (.cells cs T (0, 0))) (i : Nat) (v : Value) : (w.setCell ⟨b, i, none⟩ v).heap[b]? = some (.cells (cs.setIfInBounds i v) T (0, 0)) := heap_setCell_same w b i _ _ _ h
theorem put_other {w : World} {b c : Nat} {o : Option Obj} (h : w.heap[b]? = o) (hc : b ≠ c) (i : Nat) (v : Value) : (w.setCell ⟨c, i, none⟩ v).heap[b]? = o := (Below.heap_setCell _ _ _ _ (fun e => hc e)).trans h
theorem alloc_at {w : World} {b : Nat} {o : Obj} (h : w.heap[b]? = some o) (p : Obj) : (w.alloc p).heap[b]? = some o := by rw [Below.heap_alloc _ _ _ (lt_of_block h)]; exact h
theorem But.drew {S : List Nat} {w w' : World} (h : But S w w') : But S w w'.drew := ⟨h.os, h.tape, h.output, h.size, h.block⟩
theorem But.one {w : World} {b : Nat} (i : Nat) (v : Value) : But [b] w (w.setCell ⟨b, i, none⟩ v) := (But.refl _ _).setCell (p := ⟨b, i, none⟩) (.inl (by simp)) v
theorem But.next {w w' : World} {b : Nat} (h : But [b] w w') (i : Nat) (v : Value) : But [b] w (w'.setCell ⟨b, i, none⟩ v) := h.setCell (p := ⟨b, i, none⟩) (.inl (by simp)) v
theorem lt_block {w : World} {b : Nat} {o : Obj} (h : w.heap[b]? = some o) : b < w.heap.size := (Array.getElem?_eq_some_iff.1 h).1
theorem cell_at {w : World} {b : Nat} {cs : Array Value} {t : TypeId} (h : w.heap[b]? = some (.cells cs t (0, 0))) (o : Nat) : w.cell? ⟨b, o, none⟩ = cs[o]? := by simp [World.cell?, h]
theorem free_at {w : World} {b : Nat} {cs : Array Value} {t : TypeId} (h : w.heap[b]? = some (.cells cs t (0, 0))) (o : Nat) : w.frozen? ⟨b, o, none⟩ = false := by simp [World.frozen?, h]
theorem shape_at {w : World} {b : Nat} {cs : Array Value} {t : TypeId} (h : w.heap[b]? = some (.cells cs t (0, 0))) : w.shape? b = some (t, cs.size) := by simp [World.shape?, h]
theorem set_at {w : World} {b : Nat} {cs : Array Value} {t : TypeId} (h : w.heap[b]? = some (.cells cs t (0, 0))) (o : Nat) (v : Value) : (w.setCell ⟨b, o, none⟩ v).heap[b]? = some (.cells (cs.set! o v) t (0, 0)) := by
  have hlt : b < w.heap.size := lt_block h
  have h' : w.heap[b] = .cells cs t (0, 0) := by simpa [Array.getElem?_eq_getElem hlt] using h
  show (w.heap.modify b _)[b]? = _
  rw [Array.getElem?_eq_getElem (by simpa using hlt), Array.getElem_modify_self, h']
  rfl
theorem new_at (w : World) (o : Obj) : (w.alloc o).heap[w.heap.size]? = some o := heap_alloc_new w o

theorem But.grown {S : List Nat} {w w1 w2 : World} {r : Option Nat} (h : But S w w1) (hg : w1.grownBy w2 r) (hr : ∀ k, r = some k → k ∈ S ∨ w.heap.size ≤ k) : But S w w2 :=
  ⟨hg.os.trans h.os, hg.tape.trans h.tape, hg.output.trans h.output, Nat.le_trans h.size hg.size, fun k hk hs => (hg.block k (Nat.lt_of_lt_of_le hk h.size) (fun e => by
    rcases hr k e.symm with h1 | h1
    · exact hs h1
    · omega)).trans (h.block k hk hs)⟩

/-- Bytes appended to what is owned: nothing else turns. -/
theorem wpList_append_bytesG {P : Program} (w : World) {ops : Array Oper} {rest : List Oper} {o : Oper} {a : Act} {Q : Exit → Act → World → Prop} (hgd : o.guard = none) (s x : Operand) (t : TypeId)
    (ho : o.op = .call { callee := .builtin .append, args := #[s, x], argTypes := #[t, t] }) (ht : P.underlying t = some (.slice 5))
    (hinfo : (P.info? 5).map (fun i => (i.zero, i.size, i.bytes)) = some (some (.int .u8 0), 1, 1))
    (B : Nat) (v : Value) (l : List UInt8) (hs : a.eval s = v) (hown : Owns w B v l)
    (ad : Addr) (m c : Nat) (news : List UInt8) (hx : a.eval x = .slice (some ad) m c) (hm : news.length = m) (hnews : ∀ j (hj : j < news.length), w.cell? (ad.add j) = some (bv news[j]))
    (hlen : l.length + m ≤ 140737488355328) (hbase : B ≤ w.heap.size)
    (h : ∀ v' w', Owns w' B v' (l ++ news) → w.grownBy w' v.ownBlock → wpList P ops Q rest (a.put o.dst v') w') : wpList P ops Q (o :: rest) a w := by
  obtain ⟨i0, hi, hz0, hz1, hz2⟩ := info_parts hinfo
  refine wpList_append_own w hgd s x t ho B 5 i0 (.int .u8 0) 1 1 ht hi hz0 hz1 hz2 rfl (by decide) v l.length (l.map bv) hs hown ad m c (news.map bv) hx (by simp [hm]) ?_ ?_ (by unfold maxLen; omega) (by omega) hbase ?_
  · intro j u hu
    rw [List.getElem?_map] at hu
    obtain ⟨b, hb, rfl⟩ := Option.map_eq_some_iff.1 hu
    obtain ⟨hj, rfl⟩ := List.getElem?_eq_some_iff.1 hb
    exact hnews j hj
  · intro u hu
    obtain ⟨b, _, rfl⟩ := List.mem_map.1 hu
    rfl
  · intro v' w' h2 h3 _
    exact h v' w' (Owns.mk h2 (by simp [hm]) (by simp)) h3

theorem Owns.keep {w w' : World} {B : Nat} {v : Value} {l : List UInt8} (h : Owns w B v l) (hk : ∀ g, v.ownBlock = some g → w'.heap[g]? = w.heap[g]?) : Owns w' B v l := by
  refine ⟨h.1, ?_⟩
  rcases h.2 with h0 | ⟨g, cap, cur, rfl, hb, hg, r⟩
  · exact .inl h0
  · exact .inr ⟨g, cap, cur, rfl, hb, (hk g rfl).trans hg, r⟩


theorem infoB : (Tryz.prog.info? 5).map (fun i => (i.zero, i.size, i.bytes)) = some (some (.int .u8 0), 1, 1) := by kernel_rfl
theorem set_same (cs : Array Value) (o : Nat) (v : Value) (h : cs[o]? = some v) : cs.set! o v = cs := by
  obtain ⟨h1, h2⟩ := Array.getElem?_eq_some_iff.1 h
  rw [Array.set!_eq_setIfInBounds]
  apply Array.ext
  · simp
  · intro i hi hi2
    rw [Array.getElem_setIfInBounds]
    split
    · rename_i e
      subst e
      exact h2.symm
    · rfl

theorem owns_slice {w : World} {B : Nat} {v : Value} {l : List UInt8} (h : Owns w B v l) : ∃ a n c, v = .slice a n c := by
  rcases h.2 with ⟨rfl, _⟩ | ⟨g, cap, cur, rfl, _⟩
  · exact ⟨_, _, _, rfl⟩
  · exact ⟨_, _, _, rfl⟩

theorem cellsByte : Tryz.prog.cellsOf 5 = 1 := by kernel_rfl
theorem unsafeString_none (W : World) (q : Option Addr) : (Builtin.unsafeString_ #[121, 3] 9 #[.pointer q, .int .i64 0]).run Tryz.prog W = .ok (.string .empty) W := Lib.run_unsafeString_none W _ _ _ q
theorem But.freeze {S : List Nat} {w w' : World} (h : But S w w') {p : Addr} (hp : p.block ∈ S) (n : Nat) : But S w (w'.freeze p n) := by
  unfold World.freeze
  split
  · exact h
  · refine ⟨h.os, h.tape, h.output, ?_, fun k hk hs => ?_⟩
    · show w.heap.size ≤ (w'.heap.modify p.block _).size
      rw [Array.size_modify]
      exact h.size
    · show (w'.heap.modify p.block _)[k]? = _
      rw [Array.getElem?_modify, if_neg (fun e : p.block = k => hs (e ▸ hp))]
      exact h.block k hk hs

end Go.Proofs.YtbonnjilbocldaaGreatDoor

namespace Go.Proofs.YtbonnjilbocldaaGreatDoor
open Go.RowKit
set_option linter.unusedVariables false
set_option maxRecDepth 100000

theorem md_at : ∀ k : Fin 3, ∃ a b, mdT[k.val]? = some (a, b) ∧ ∀ W : World, (Instr.index 110 (.agg mdCs.toArray) (.int .i64 (k.val : Int))).run Tryz.prog W = .ok (.agg #[.int .i64 a, .string (str b)]) W := by
  intro k
  match k with
  | ⟨0, _⟩ => exact ⟨_, _, rfl, fun W => by kernel_rfl⟩
  | ⟨1, _⟩ => exact ⟨_, _, rfl, fun W => by kernel_rfl⟩
  | ⟨2, _⟩ => exact ⟨_, _, rfl, fun W => by kernel_rfl⟩
  | ⟨k + 3, h⟩ => exact absurd h (by omega)
theorem bit_has {m : Int} (h0 : 0 ≤ m) (h7 : m ≤ 7) {k : Nat} {a : Int} {b : List UInt8} (hk : mdT[k]? = some (a, b)) : bits .and .i64 m a = (if hasM m a then a else 0) ∧ (a == 0) = false ∧ b.length = 2 := by
  have hm : m = 0 ∨ m = 1 ∨ m = 2 ∨ m = 3 ∨ m = 4 ∨ m = 5 ∨ m = 6 ∨ m = 7 := by omega
  have hk3 : k < 3 := (List.getElem?_eq_some_iff.1 hk).1
  rcases (by omega : k = 0 ∨ k = 1 ∨ k = 2) with e | e | e <;> subst e <;> (cases hk; refine ⟨?_, rfl, rfl⟩) <;> rcases hm with e | e | e | e | e | e | e | e <;> subst e <;> decide
def preM (m : Int) (i : Nat) : List UInt8 := (mdT.take i).flatMap fun p => if hasM m p.1 then p.2 else []
theorem preM_zero (m : Int) : preM m 0 = [] := rfl
theorem preM_succ {m : Int} {k : Nat} {a : Int} {b : List UInt8} (hk : mdT[k]? = some (a, b)) : preM m (k + 1) = preM m k ++ if hasM m a then b else [] := by
  unfold preM
  obtain ⟨hi, he⟩ := List.getElem?_eq_some_iff.1 hk
  rw [List.take_succ_eq_append_getElem hi, he, List.flatMap_append]
  simp
theorem preM_all (m : Int) : preM m 3 = modF m := by
  unfold preM modF mdT
  simp only [List.take_succ_cons, List.take_zero, List.flatMap_cons, List.flatMap_nil, List.append_nil, List.append_assoc]
theorem preM_len (m : Int) (i : Nat) : (preM m i).length ≤ 6 := by
  unfold preM
  rcases (by omega : i = 0 ∨ i = 1 ∨ i = 2 ∨ 3 ≤ i) with e | e | e | e
  · subst e; simp
  · subst e; simp [mdT]; split <;> simp
  · subst e; simp [mdT]; split <;> split <;> simp
  · rw [List.take_of_length_le (by exact e)]; simp [mdT]; split <;> split <;> split <;> simp
theorem bare_len (c : Int) : (bareF c).length ≤ 9 := by
  unfold bareF
  split
  · have hall : ∀ s ∈ spT, s.name.length ≤ 9 := by decide
    rw [List.getD_eq_getElem?_getD]
    cases h : spT[(c - 16777217).toNat]? with
    | none => simp
    | some s => exact hall s (List.mem_of_getElem? h)
  · split
    · rename_i p hp
      have hall : ∀ p ∈ nmT, p.2.length ≤ 9 := by decide
      exact hall p (List.mem_of_find?_eq_some hp)
    · unfold Lib.encodeRune Lib.encodeRuneZ
      split
      · simp
      · split
        · simp
        · split
          · simp
          · split <;> simp
theorem valid_code {c m : Int} (h : validB c m = true) : 0 ≤ c ∧ c ≤ 16777239 ∧ 0 ≤ m ∧ m ≤ 7 := by
  unfold validB at h
  by_cases h1 : c = 32
  · rw [if_pos h1] at h
    simp [plainM, ctrlM] at h
    omega
  · rw [if_neg h1] at h
    by_cases h2 : oneB c = true
    · rw [if_pos h2] at h
      simp [plainM, oneB] at h h2
      omega
    · rw [if_neg h2] at h
      by_cases h3 : c = 16777239
      · rw [if_pos h3] at h
        simp at h
        omega
      · rw [if_neg h3] at h
        by_cases h4 : spcB c = true
        · rw [if_pos h4] at h
          simp [spcB] at h h4
          omega
        · rw [if_neg h4] at h
          simp [plainM, ctrlM, chrB, ctlB] at h
          omega
end Go.Proofs.YtbonnjilbocldaaGreatDoor
