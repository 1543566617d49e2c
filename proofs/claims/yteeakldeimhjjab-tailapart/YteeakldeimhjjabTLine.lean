/-
  The tail: lines, plain.
-/
import Derived.Test.YteeakldeimhjjabTBase
namespace Go.Proofs.Yteeakldeimhjjab
open Go.RowKit
set_option linter.unusedVariables false

/-- Behind the last line end among the first k bytes. -/
def behindLF (l : List UInt8) : Nat → Nat
  | 0 => 0
  | k + 1 => if l[k]? = some 10 then k + 1 else behindLF l k
theorem behindLF_le (l : List UInt8) : ∀ k, behindLF l k ≤ k
  | 0 => Nat.le_refl _
  | k + 1 => by unfold behindLF; split <;> have := behindLF_le l k <;> omega
theorem behindLF_hit {l : List UInt8} {k : Nat} (h : l[k]? = some 10) : behindLF l (k + 1) = k + 1 := by show (if _ then _ else _) = _; rw [if_pos h]
theorem behindLF_miss {l : List UInt8} {k : Nat} (h : l[k]? ≠ some 10) : behindLF l (k + 1) = behindLF l k := by show (if _ then _ else _) = _; rw [if_neg h]
theorem behindLF_take (l : List UInt8) (m : Nat) : ∀ k, k ≤ m → behindLF (l.take m) k = behindLF l k
  | 0, _ => rfl
  | k + 1, h => by
    show (if _ then _ else _) = (if _ then _ else _)
    rw [behindLF_take l m k (by omega), List.getElem?_take_of_lt (by omega)]
/-- Where the last n lines of the first k bytes begin. -/
def lineAt (l : List UInt8) : Nat → Nat → Nat
  | 0, k => k
  | _ + 1, 0 => 0
  | n + 1, k + 1 => lineAt l n (behindLF l k)
theorem lineAt_zero (l : List UInt8) (n : Nat) : lineAt l n 0 = 0 := by cases n <;> rfl
theorem lineAt_le (l : List UInt8) : ∀ n k, lineAt l n k ≤ k
  | 0, k => Nat.le_refl _
  | n + 1, 0 => Nat.le_refl _
  | n + 1, k + 1 => by
    show lineAt l n (behindLF l k) ≤ _
    have h1 := lineAt_le l n (behindLF l k)
    have h2 := behindLF_le l k
    omega
/-- The last n lines. -/
def linesT (n : Int) (l : List UInt8) : List UInt8 := l.drop (lineAt l n.toNat l.length)
theorem linesT_none {n : Int} (l : List UInt8) (h : n < 1) : linesT n l = [] := by
  unfold linesT
  rw [show n.toNat = 0 by omega]
  exact List.drop_length
/-- A byte that is a line end. -/
theorem isLF {l : List UInt8} {k : Nat} (hk : k < l.length) : l[k]? = some 10 ↔ ((l[k].toNat : Int) = 10) := by
  rw [List.getElem?_eq_getElem hk]
  constructor
  · intro h
    rw [Option.some.inj h]
    rfl
  · intro h
    rw [UInt8.toNat_inj.1 (show l[k].toNat = (10 : UInt8).toNat by have : (10 : UInt8).toNat = 10 := rfl; omega)]

end Go.Proofs.Yteeakldeimhjjab
