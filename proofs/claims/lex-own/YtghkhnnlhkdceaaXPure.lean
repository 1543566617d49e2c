/-
  Lines of commands: how a word is quoted (lists alone).
-/
import Derived.WalkKit
import Derived.Lib.Bytealg
namespace Go.Proofs.Ytghkhnnlhkdceaa
open Go.RowKit
set_option linter.unusedVariables false

def others : List UInt8 := [95, 46, 47, 58, 61, 64, 37, 43, 44, 45]
/-- A byte that stands for itself in a word. -/
def plainB (c : UInt8) : Bool := decide (97 ≤ c.toNat ∧ c.toNat ≤ 122) || decide (65 ≤ c.toNat ∧ c.toNat ≤ 90) || decide (48 ≤ c.toNat ∧ c.toNat ≤ 57) || decide (c ∈ others)
/-- A byte in quotes. -/
def q1 (c : UInt8) : List UInt8 := if c.toNat = 34 ∨ c.toNat = 92 then [92, c] else if c.toNat < 32 then [92, 48, UInt8.ofNat (48 + c.toNat / 8), UInt8.ofNat (48 + c.toNat % 8)] else [c]
def quotesF (l : List UInt8) : List UInt8 := l.flatMap q1
def isPlainF (l : List UInt8) : Bool := l.all plainB && !l.isEmpty
def quoteF (l : List UInt8) : List UInt8 := if isPlainF l then l else [34] ++ quotesF l ++ [34]

theorem q1_length (c : UInt8) : 1 ≤ (q1 c).length ∧ (q1 c).length ≤ 4 := by unfold q1; split <;> (try split) <;> simp
theorem quotes_append (a b : List UInt8) : quotesF (a ++ b) = quotesF a ++ quotesF b := List.flatMap_append
theorem quotes_snoc (l : List UInt8) (c : UInt8) : quotesF (l ++ [c]) = quotesF l ++ q1 c := by rw [quotes_append]; simp [quotesF]
theorem quotes_length (l : List UInt8) : l.length ≤ (quotesF l).length ∧ (quotesF l).length ≤ 4 * l.length := by
  induction l with
  | nil => simp [quotesF]
  | cons c l ih =>
    have h := q1_length c
    have e : quotesF (c :: l) = q1 c ++ quotesF l := rfl
    rw [e, List.length_append, List.length_cons]
    omega
theorem quotes_take (l : List UInt8) (k : Nat) : (quotesF (l.take k)).length ≤ (quotesF l).length := by
  have h := quotes_append (l.take k) (l.drop k)
  rw [List.take_append_drop] at h
  rw [h, List.length_append]; omega

theorem take_snocX (s : ByteArray) (k : Nat) (h : k < s.size) : s.data.toList.take (k + 1) = s.data.toList.take k ++ [s[k]] := by
  have hk : k < s.data.toList.length := by simpa using h
  rw [List.take_succ_eq_append_getElem hk]
  rfl
theorem take_allX (s : ByteArray) : s.data.toList.take s.size = s.data.toList := List.take_of_length_le (by simp)

end Go.Proofs.Ytghkhnnlhkdceaa
