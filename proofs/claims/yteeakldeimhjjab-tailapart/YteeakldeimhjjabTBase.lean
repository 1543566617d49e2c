/-
  The tail: a Log in memory, bytes in a block, what a call leaves alone.
-/
import Derived.Test.YteeakldeimhjjabPlainN
import Derived.Test.YteeakldeimhjjabProg
import Derived.WalkKit
import Derived.OneCell
import Derived.OwnWalk
import Derived.Deep.Draws
namespace Go.Proofs.Yteeakldeimhjjab
open Go.RowKit
set_option linter.unusedVariables false

/-- The last n of a list. -/
def lastN (n : Nat) (l : List UInt8) : List UInt8 := l.drop (l.length - n)
theorem lastN_length (n : Nat) (l : List UInt8) : (lastN n l).length = min n l.length := by unfold lastN; rw [List.length_drop]; omega
theorem lastN_all {n : Nat} {l : List UInt8} (h : l.length ≤ n) : lastN n l = l := by unfold lastN; rw [Nat.sub_eq_zero_of_le h]; rfl

/-- Bytes that lie in a block, from some place on. -/
def Bytes (w : World) (v : Value) (l : List UInt8) : Prop :=
  (v = .slice none 0 0 ∧ l = []) ∨ ∃ g o cap cur, v = .slice (some ⟨g, o, none⟩) l.length cap ∧ w.heap[g]? = some (.cells cur 5 (0, 0)) ∧ l.length ≤ cap ∧ cap ≤ 9223372036854775807 ∧ o + cap ≤ cur.size ∧
    ∀ j (hj : j < l.length), cur[o + j]? = some (bv l[j])

theorem Bytes.keep {w w' : World} {v : Value} {l : List UInt8} (h : Bytes w v l) (hk : ∀ g, v.ownBlock = some g → w'.heap[g]? = w.heap[g]?) : Bytes w' v l := by
  rcases h with h | ⟨g, o, cap, cur, rfl, hg, r⟩
  · exact .inl h
  · exact .inr ⟨g, o, cap, cur, rfl, (hk g rfl).trans hg, r⟩
theorem Bytes.drewN {w : World} {v : Value} {l : List UInt8} (h : Bytes w v l) (n : Nat) : Bytes (w.drewN n) v l := h
theorem Bytes.lt {w : World} {v : Value} {l : List UInt8} (h : Bytes w v l) : ∀ g, v.ownBlock = some g → g < w.heap.size := by
  intro g hg
  rcases h with ⟨rfl, _⟩ | ⟨g', o, cap, cur, rfl, hh, r⟩
  · cases hg
  · cases hg
    exact lt_of_block hh
theorem cell_atT {w : World} {b : Nat} {cs : Array Value} {t : TypeId} (h : w.heap[b]? = some (.cells cs t (0, 0))) (o : Nat) : w.cell? ⟨b, o, none⟩ = cs[o]? := by simp [World.cell?, h]
theorem free_atT {w : World} {b : Nat} {cs : Array Value} {t : TypeId} (h : w.heap[b]? = some (.cells cs t (0, 0))) (o : Nat) : w.frozen? ⟨b, o, none⟩ = false := by simp [World.frozen?, h]

/-- What lies there is read as a string. -/
theorem Bytes.text {P : Program} {w : World} {v : Value} {l : List UInt8} (h : Bytes w v l) (src dst e : TypeId) (hs : P.underlying src = some (.slice e)) (he : P.underlying e = some (.int .u8)) (hd : P.underlying dst = some .string) :
    (convert src dst v).run P w = .ok (.string (str l)) w := by
  rcases h with ⟨rfl, rfl⟩ | ⟨g, o, cap, cur, rfl, hg, h1, h2, h3, h4⟩
  · rw [run_convert_bytes_string w src dst e none 0 0 hs he hd]
    rfl
  · refine run_convert_bytes_back w src dst e ⟨g, o, none⟩ cap l hs he hd fun j hj => ?_
    rw [show (⟨g, o, none⟩ : Addr).add j = ⟨g, o + j, none⟩ by unfold Addr.add; split <;> simp_all, cell_atT hg, h4 j hj]
    rfl

/-- A Log's cells. -/
def logV (lim e : Nat) (v : Value) : Array Value := #[.int .i64 lim, .int .i64 e, v]
/-- A Log in memory that keeps these bytes. -/
structure LogAt (w : World) (b : Nat) (v : Value) (lim e : Nat) (l : List UInt8) : Prop where
  cells : w.heap[b]? = some (.cells (logV lim e v) 57 (0, 0))
  bytes : Bytes w v l
  low : 1 ≤ lim
  high : lim ≤ 65536
  len : l.length ≤ lim
  most : e ≤ 9223372036854775807

theorem LogAt.limit {w : World} {b : Nat} {v : Value} {lim e : Nat} {l : List UInt8} (h : LogAt w b v lim e l) : w.cell? ⟨b, 0, none⟩ = some (.int .i64 lim) := cell_atT h.cells 0
theorem LogAt.ende {w : World} {b : Nat} {v : Value} {lim e : Nat} {l : List UInt8} (h : LogAt w b v lim e l) : w.cell? ⟨b, 1, none⟩ = some (.int .i64 e) := cell_atT h.cells 1
theorem LogAt.kept {w : World} {b : Nat} {v : Value} {lim e : Nat} {l : List UInt8} (h : LogAt w b v lim e l) : w.cell? ⟨b, 2, none⟩ = some v := cell_atT h.cells 2
theorem LogAt.free {w : World} {b : Nat} {v : Value} {lim e : Nat} {l : List UInt8} (h : LogAt w b v lim e l) (o : Nat) : w.frozen? ⟨b, o, none⟩ = false := free_atT h.cells o
theorem LogAt.drewN {w : World} {b : Nat} {v : Value} {lim e : Nat} {l : List UInt8} (h : LogAt w b v lim e l) (n : Nat) : LogAt (w.drewN n) b v lim e l := ⟨h.cells, h.bytes, h.low, h.high, h.len, h.most⟩
theorem LogAt.apart {w : World} {b : Nat} {v : Value} {lim e : Nat} {l : List UInt8} (h : LogAt w b v lim e l) : v.ownBlock ≠ some b := by
  intro hb
  rcases h.bytes with ⟨rfl, _⟩ | ⟨g, o, cap, cur, rfl, hg, _⟩
  · cases hb
  · cases hb
    have := hg.symm.trans h.cells
    simp at this
/-- The blocks that a Log is made of. -/
def foot (b : Nat) (v : Value) : List Nat := b :: v.ownBlock.toList
theorem LogAt.keep {w w' : World} {b : Nat} {v : Value} {lim e : Nat} {l : List UInt8} (h : LogAt w b v lim e l) (hk : ∀ g ∈ foot b v, w'.heap[g]? = w.heap[g]?) : LogAt w' b v lim e l :=
  ⟨(hk b (by simp [foot])).trans h.cells, h.bytes.keep (fun g hg => hk g (by simp [foot, hg])), h.low, h.high, h.len, h.most⟩
theorem LogAt.lt {w : World} {b : Nat} {v : Value} {lim e : Nat} {l : List UInt8} (h : LogAt w b v lim e l) : ∀ g ∈ foot b v, g < w.heap.size := by
  intro g hg
  rcases List.mem_cons.1 hg with rfl | hg
  · exact lt_of_block h.cells
  · exact h.bytes.lt g (by simpa using hg)
theorem LogAt.below {w w' : World} {b : Nat} {v : Value} {lim e : Nat} {l : List UInt8} (h : LogAt w b v lim e l) (hb : Below w.heap.size w w') : LogAt w' b v lim e l :=
  h.keep fun g hg => hb.block g (h.lt g hg)

/-- But for these blocks nothing that was there has turned. -/
structure But (S : List Nat) (w w' : World) : Prop where
  os : w'.os = w.os
  tape : w'.tape = w.tape
  output : w'.output = w.output
  size : w.heap.size ≤ w'.heap.size
  block : ∀ k, k < w.heap.size → k ∉ S → w'.heap[k]? = w.heap[k]?
theorem But.refl (S : List Nat) (w : World) : But S w w := ⟨rfl, rfl, rfl, Nat.le_refl _, fun _ _ _ => rfl⟩
theorem But.of {S : List Nat} {w w' : World} (h : Below w.heap.size w w') : But S w w' := ⟨h.os, h.tape, h.output, h.size, fun k hk _ => h.block k hk⟩
theorem But.trans {S : List Nat} {a b c : World} (h : But S a b) (k : But S b c) : But S a c :=
  ⟨k.os.trans h.os, k.tape.trans h.tape, k.output.trans h.output, Nat.le_trans h.size k.size, fun i hi hs => (k.block i (Nat.lt_of_lt_of_le hi h.size) hs).trans (h.block i hi hs)⟩
theorem But.mono {S T : List Nat} {a b : World} (h : But S a b) (hs : ∀ k, k < a.heap.size → k ∈ S → k ∈ T) : But T a b :=
  ⟨h.os, h.tape, h.output, h.size, fun k hk ht => h.block k hk (fun hh => ht (hs k hk hh))⟩
/-- .. what was there ahead of it, if all of them are younger. -/
theorem But.under {S : List Nat} {B : Nat} {w0 w w' : World} (h : But S w w') (hb : Below B w0 w) (hB : B ≤ w.heap.size) (hs : ∀ k ∈ S, B ≤ k) : Below B w0 w' :=
  hb.trans ⟨h.os, h.tape, h.output, h.size, fun k hk => h.block k (by omega) (fun hh => by have := hs k hh; omega)⟩
theorem below_drewN (w : World) (n : Nat) : Below w.heap.size w (w.drewN n) := ⟨rfl, rfl, rfl, Nat.le_refl _, fun _ _ => rfl⟩
theorem But.drewN {S : List Nat} {w w' : World} (h : But S w w') (n : Nat) : But S w (w'.drewN n) := ⟨h.os, h.tape, h.output, h.size, h.block⟩
theorem But.setCell {S : List Nat} {w w' : World} (h : But S w w') {p : Addr} (hp : p.block ∈ S ∨ w.heap.size ≤ p.block) (u : Value) : But S w (w'.setCell p u) :=
  ⟨h.os, h.tape, h.output, by simpa [World.setCell] using h.size, fun k hk hs => by
    rw [Below.heap_setCell _ _ _ _ (fun e => by subst e; rcases hp with hp | hp; exact hs hp; omega)]
    exact h.block k hk hs⟩
theorem But.alloc {S : List Nat} {w w' : World} (h : But S w w') (o : Obj) : But S w (w'.alloc o) :=
  ⟨h.os, h.tape, h.output, Nat.le_trans h.size (by simp), fun k hk hs => by rw [Below.heap_alloc _ _ _ (Nat.lt_of_lt_of_le hk h.size)]; exact h.block k hk hs⟩
theorem But.setRow {S : List Nat} {w w' : World} (h : But S w w') {g : Nat} (hp : g ∈ S ∨ w.heap.size ≤ g) (cs : Array Value) : But S w (w'.setRow g cs) :=
  ⟨h.os, h.tape, h.output, by simpa [World.setRow] using h.size, fun k hk hs => by
    rw [setRow_other _ _ _ _ (fun e => by subst e; rcases hp with hp | hp; exact hs hp; omega)]
    exact h.block k hk hs⟩

end Go.Proofs.Yteeakldeimhjjab
