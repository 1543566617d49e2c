/-
  Lines of commands: how a line is read (lists alone).
-/
import Derived.Test.YtghkhnnlhkdceaaXJump
namespace Go.Proofs.Ytghkhnnlhkdceaa
open Go.RowKit
set_option linter.unusedVariables false
set_option maxRecDepth 20000

def singleF : List UInt8 → Option (List UInt8 × List UInt8)
  | [] => none
  | c :: r => if c.toNat = 39 then some ([], r) else (singleF r).map fun x => (c :: x.1, x.2)
theorem esc_one (c : UInt8) (r : List UInt8) : 1 ≤ (escF (c :: r)).2 ∧ (escF (c :: r)).2 ≤ (c :: r).length := by
  unfold escF
  cases h : octF (c :: r) with
  | some v =>
    refine ⟨by show 1 ≤ 3; decide, ?_⟩
    unfold octF at h
    split at h
    · rename_i h3; exact h3.1
    · cases h
  | none => exact ⟨Nat.le_refl _, by show 1 ≤ (c :: r).length; simp⟩
def doubleF (r : List UInt8) : Option (List UInt8 × List UInt8) :=
  match r with
  | [] => none
  | c :: t => if c.toNat = 34 then some ([], t) else if c.toNat = 92 then (match t with
      | [] => none
      | d :: u => (doubleF ((d :: u).drop (escF (d :: u)).2)).map fun x => ((escF (d :: u)).1 :: x.1, x.2)) else (doubleF t).map fun x => (c :: x.1, x.2)
termination_by r.length
decreasing_by
  · have h := esc_one d u
    simp only [List.length_drop, List.length_cons] at h ⊢
    omega
  · simp
def escD (t : List UInt8) : Option (List UInt8 × List UInt8) := match t with
  | [] => none
  | d :: u => (doubleF ((d :: u).drop (escF (d :: u)).2)).map fun x => ((escF (d :: u)).1 :: x.1, x.2)
def bareF : List UInt8 → Option (List UInt8 × List UInt8)
  | [] => none
  | d :: t => some ([d], t)
/-- A piece, by its first byte. -/
def pieceF (c : UInt8) (r : List UInt8) : Option (List UInt8 × List UInt8) := if c.toNat = 39 then singleF r else if c.toNat = 34 then doubleF r else bareF r
theorem double_nil : doubleF [] = none := by rw [doubleF.eq_def]
theorem double_quote {c : UInt8} {t : List UInt8} (h : c.toNat = 34) : doubleF (c :: t) = some ([], t) := by
  rw [doubleF.eq_def]
  show (if c.toNat = 34 then some ([], t) else if c.toNat = 92 then escD t else (doubleF t).map fun x => (c :: x.1, x.2)) = _
  rw [if_pos h]
theorem double_back {c : UInt8} {t : List UInt8} (h : c.toNat = 92) : doubleF (c :: t) = escD t := by
  rw [doubleF.eq_def]
  show (if c.toNat = 34 then some ([], t) else if c.toNat = 92 then escD t else (doubleF t).map fun x => (c :: x.1, x.2)) = _
  rw [if_neg (by omega), if_pos h]
theorem double_other {c : UInt8} {t : List UInt8} (h : c.toNat ≠ 34) (h2 : c.toNat ≠ 92) : doubleF (c :: t) = (doubleF t).map fun x => (c :: x.1, x.2) := by
  rw [doubleF.eq_def]
  show (if c.toNat = 34 then some ([], t) else if c.toNat = 92 then escD t else (doubleF t).map fun x => (c :: x.1, x.2)) = _
  rw [if_neg h, if_neg h2]

/-- What a word is with a piece behind it. -/
def onto (l : List UInt8) (o : Option (List UInt8 × List UInt8)) : Option (List UInt8 × List UInt8) := o.map fun x => (l ++ x.1, x.2)
theorem onto_cons (l : List UInt8) (c : UInt8) (o : Option (List UInt8 × List UInt8)) : onto l (o.map fun x => (c :: x.1, x.2)) = onto (l ++ [c]) o := by
  cases o with
  | none => rfl
  | some x => simp [onto]
theorem onto_nil (l : List UInt8) (t : List UInt8) : onto l (some ([], t)) = some (l, t) := by simp [onto]
theorem onto_one (l : List UInt8) (c : UInt8) (t : List UInt8) : onto l (some ([c], t)) = some (l ++ [c], t) := rfl

theorem drop_at (s : ByteArray) (p : Nat) (h : p < s.size) : s.data.toList.drop p = s[p] :: s.data.toList.drop (p + 1) := by
  have hk : p < s.data.toList.length := by simpa using h
  rw [List.drop_eq_getElem_cons hk]
  rfl
theorem drop_end (s : ByteArray) (p : Nat) (h : ¬ p < s.size) : s.data.toList.drop p = [] := List.drop_eq_nil_of_le (by simp; omega)

end Go.Proofs.Ytghkhnnlhkdceaa
