/-
  The tail: made, in one; the walk of TailNews.
-/
import Derived.Test.YteeakldeimhjjabTMade
import Derived.WalkKit
namespace Go.Proofs.Yteeakldeimhjjab
open Go.RowKit Go.Lib
set_option linter.unusedVariables false
set_option maxRecDepth 100000

/-- What a Log is made of, as it is handed in. -/
def inV (f : Bool) (lim st : Int) (s : ByteArray) : Value := .agg #[.bool f, .int .i64 lim, .int .i64 st, .string s]
/-- A Log and the document's stand side by side. -/
structure Side (w : World) (b : Nat) (v : Value) (lim st : Nat) (l : List UInt8) : Prop where
  log : LogAt w b v lim (st + l.length) l
  most : st + l.length ≤ 4611686018427387904
def refN (lim st : Nat) (l : List UInt8) : Value := .agg #[.int .i64 (lim : Int), .int .i64 (st : Int), .string (str l)]
/-- What made leaves: neither, or both. -/
def Pair (w w' : World) (x : Ending) : Prop :=
  Below w.heap.size w w' ∧ (x = .returned (.tuple #[.pointer none, .agg #[.int .i64 0, .int .i64 0, .string ⟨#[]⟩], .bool true]) ∨ ∃ b v lim st l, x = .returned (.tuple #[.pointer (some ⟨b, 0, none⟩), refN lim st l, .bool true]) ∧ Side w' b v lim st l ∧ ∀ k ∈ foot b v, w.heap.size ≤ k)

theorem loadE_ok {lim st : Int} {n : Nat} (h : loadE lim st n = 0) : 1 ≤ lim ∧ lim ≤ 65536 ∧ 0 ≤ st ∧ (n : Int) ≤ lim ∧ st + n ≤ 4611686018427387904 := by
  unfold loadE at h
  by_cases c1 : lim < 1 ∨ lim > 65536 ∨ st < 0 ∨ (n : Int) > lim
  · rw [if_pos c1] at h
    cases h
  · rw [if_neg c1] at h
    by_cases c2 : st + n > 4611686018427387904
    · rw [if_pos c2] at h
      cases h
    · omega

theorem pair_of {w w' : World} {lim st : Int} {s : ByteArray} {x : Ending} (h : Both w w' lim st s x) : Pair w w' x := by
  obtain ⟨hb, h | ⟨hE, b, v, hx, hl, hf⟩⟩ := h
  · exact ⟨hb, .inl h⟩
  · obtain ⟨c1, c2, c3, c4, c5⟩ := loadE_ok hE
    refine ⟨hb, .inr ⟨b, v, lim.toNat, st.toNat, s.data.toList, ?_, ⟨hl, by omega⟩, hf⟩⟩
    rw [hx]
    unfold refV refN
    rw [Int.toNat_of_nonneg (by omega), Int.toNat_of_nonneg c3]
    rfl
theorem made_any (f : Bool) (lim st : Int) (s : ByteArray) (w : World) (hs : s.size ≤ 9223372036854775807) (h1 : -9223372036854775808 ≤ lim) (h2 : lim ≤ 9223372036854775807) (h3 : -9223372036854775808 ≤ st) (h4 : st ≤ 9223372036854775807) :
    Calls Try.prog 5 #[.agg #[.bool f, .int .i64 lim, .int .i64 st, .string s]] w fun x w' => Pair w w' x := by
  cases f
  · exact (made_load lim st s w hs h1 h2 h3 h4).mono fun _ _ h => pair_of h
  · exact (made_new lim st s w h1 h2 h3 h4).mono fun _ _ h => pair_of h
theorem as_side {b : Nat} {v : Value} {lim st : Nat} {l : List UInt8} {w : World} (h : Side w b v lim st l) :
    Calls Try.prog 11 #[.pointer (some ⟨b, 0, none⟩), refN lim st l] w fun x w' => x = .returned (.bool true) ∧ Below w.heap.size w w' := as_any h.log rfl
theorem Side.keep {w w' : World} {b : Nat} {v : Value} {lim st : Nat} {l : List UInt8} (h : Side w b v lim st l) (hk : ∀ g ∈ foot b v, w'.heap[g]? = w.heap[g]?) : Side w' b v lim st l := ⟨h.log.keep hk, h.most⟩
theorem Side.below {w w' : World} {b : Nat} {v : Value} {lim st : Nat} {l : List UInt8} (h : Side w b v lim st l) (hb : Below w.heap.size w w') : Side w' b v lim st l := ⟨h.log.below hb, h.most⟩

end Go.Proofs.Yteeakldeimhjjab
