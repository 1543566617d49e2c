/-
  Keys: special keys by their letters, their numbers.
-/
import Derived.Test.YtgdkpmfdpfjdjaaGreatDoorHD
namespace Go.Proofs.YtgdkpmfdpfjdjaaGreatDoor
open Go.RowKit
set_option linter.unusedVariables false
set_option maxRecDepth 100000

theorem find_yes {p : Sp → Bool} : ∀ {l : List Sp} {i k : Nat} {s : Sp}, l[k]? = some s → p s = true → (∀ (j : Nat) s', j < k → l[j]? = some s' → p s' = false) → findT p l i = some (i + k)
  | [], _, _, _, h, _, _ => by simp at h
  | a :: r, i, 0, s, h, hp, _ => by
    obtain rfl : a = s := by simpa using h
    unfold findT
    rw [if_pos hp]
    rfl
  | a :: r, i, k + 1, s, h, hp, hno => by
    unfold findT
    rw [if_neg (by rw [hno 0 a (by omega) rfl]; decide), find_yes (k := k) (s := s) (by simpa using h) hp (fun j s' hj hs => hno (j + 1) s' (by omega) (by simpa using hs))]
    congr 1
    omega
theorem find_no {p : Sp → Bool} : ∀ {l : List Sp} {i : Nat}, (∀ (j : Nat) s', l[j]? = some s' → p s' = false) → findT p l i = none
  | [], _, _ => rfl
  | a :: r, i, hno => by
    unfold findT
    rw [if_neg (by rw [hno 0 a rfl]; decide), find_no (fun j s' hs => hno (j + 1) s' (by simpa using hs))]
theorem str_ne {a b : List UInt8} (h : a ≠ b) : ((str a).toList == b) = false := by rw [str_toList]; simpa using h
theorem str_eqb {a b : List UInt8} (h : a ≠ b) : ((str a).toList == (str b).toList) = false := by rw [str_toList, str_toList]; simpa using h
theorem str_inj {a b : List UInt8} (h : str a = str b) : a = b := by
  have h1 : (str a).toList = (str b).toList := by rw [h]
  rwa [str_toList, str_toList] at h1
end Go.Proofs.YtgdkpmfdpfjdjaaGreatDoor
