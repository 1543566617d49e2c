/-
  A text cut at its first line's end.
-/
import Derived.Test.YtplolaondmeccaaGreatDoorWWordS
import Derived.Lib.IndexBytes
namespace Go.Proofs.YtplolaondmeccaaGreatDoor
open Go.RowKit
set_option linter.unusedVariables false

theorem split10 : ∀ l : List UInt8, (10 : UInt8) ∈ l → l = l.takeWhile (· != 10) ++ 10 :: (l.dropWhile (· != 10)).drop 1
  | [], h => by cases h
  | c :: l, h => by
    by_cases hc : c = 10
    · subst hc
      rw [List.takeWhile_cons_of_neg (by simp), List.dropWhile_cons_of_neg (by simp)]
      rfl
    · rw [List.takeWhile_cons_of_pos (by simpa using hc), List.dropWhile_cons_of_pos (by simpa using hc), List.cons_append, ← split10 l ((List.mem_cons.1 h).resolve_left fun e => hc e.symm)]
theorem idx10 : ∀ s : List UInt8, (Lib.indexByte s 10 = -1 ∧ ¬ (10 : UInt8) ∈ s) ∨ ∃ i : Nat, Lib.indexByte s 10 = i ∧ (10 : UInt8) ∈ s ∧ s.take i = s.takeWhile (· != 10) ∧ s.drop (i + 1) = (s.dropWhile (· != 10)).drop 1
  | [] => .inl ⟨rfl, by simp⟩
  | c :: s => by
    by_cases hc : c = 10
    · subst hc
      exact .inr ⟨0, by simp [Lib.indexByte], by simp, by simp, by simp⟩
    · rcases idx10 s with ⟨h1, h2⟩ | ⟨i, h1, h2, h3, h4⟩
      · refine .inl ⟨?_, ?_⟩
        · unfold Lib.indexByte
          rw [if_neg (by simpa using hc), if_pos (by simpa using h1)]
        · intro h
          rcases List.mem_cons.1 h with h | h
          · exact hc h.symm
          · exact h2 h
      · refine .inr ⟨i + 1, ?_, List.mem_cons_of_mem _ h2, ?_, ?_⟩
        · unfold Lib.indexByte
          have hb : ¬ (Lib.indexByte s 10 == -1) = true := fun e => by have := eq_of_beq e; omega
          rw [if_neg (by simpa using hc), if_neg hb, h1]
          rfl
        · rw [List.take_succ_cons, List.takeWhile_cons_of_pos (by simpa using hc), h3]
        · rw [List.drop_succ_cons, List.dropWhile_cons_of_pos (by simpa using hc), h4]
theorem cut10_no {s : List UInt8} (h : ¬ (10 : UInt8) ∈ s) : Lib.cut s [10] = (s, [], false) := by
  unfold Lib.cut
  rw [Lib.index_one]
  rcases idx10 s with ⟨h1, _⟩ | ⟨i, _, h2, _⟩
  · rw [if_neg (by omega)]
  · exact absurd h2 h
theorem cut10_yes {s : List UInt8} (h : (10 : UInt8) ∈ s) : Lib.cut s [10] = (s.takeWhile (· != 10), (s.dropWhile (· != 10)).drop 1, true) := by
  unfold Lib.cut
  rw [Lib.index_one]
  rcases idx10 s with ⟨_, h2⟩ | ⟨i, h1, _, h3, h4⟩
  · exact absurd h h2
  · rw [if_pos (by omega), h1]
    simp only [Int.toNat_natCast]
    rw [h3]
    show (_, s.drop (i + 1), true) = _
    rw [h4]

theorem below_drewN {B : Nat} {a w : World} (h : Below B a w) (n : Nat) : Below B a (w.drewN n) := ⟨h.os, h.tape, h.output, h.size, h.block⟩

/-- How long a text in a slot is. -/
def strSize : Value → Nat
  | .string b => b.size
  | _ => 0

end Go.Proofs.YtplolaondmeccaaGreatDoor
