/-
  Plain facts on decimal numerals: nothing of the dump.
-/
import Derived.Test.YtgdkpmfdpfjdjaaGreatDoorPlainN
import Derived.Lib.ItoaNum
import Derived.Lib.AtoiAll
namespace Go.Proofs.YtgdkpmfdpfjdjaaGreatDoor
open Go.RowKit
open Go.Lib (decDigits parseUint10 parseMag atoiAll)

theorem dec_small {u : Nat} (h : u < 10) : decDigits u = [UInt8.ofNat (48 + u)] := by rw [decDigits, dif_pos h]
theorem dec_big {u : Nat} (h : ¬ u < 10) : decDigits u = decDigits (u / 10) ++ [UInt8.ofNat (48 + u % 10)] := by rw [decDigits, dif_neg h]
theorem digit_nat {d : Nat} (h : d < 10) : (UInt8.ofNat (48 + d)).toNat = 48 + d := by rw [UInt8.toNat_ofNat']; omega

theorem dec_ne (u : Nat) : decDigits u ≠ [] := by
  by_cases h : u < 10
  · rw [dec_small h]; simp
  · rw [dec_big h]; simp

theorem dec_digit (u : Nat) : ∀ c ∈ decDigits u, 48 ≤ c.toNat ∧ c.toNat ≤ 57 := by
  induction u using Nat.strongRecOn with
  | _ u ih =>
    by_cases h : u < 10
    · rw [dec_small h]
      intro c hc
      simp only [List.mem_singleton] at hc
      subst hc
      rw [digit_nat h]
      omega
    · rw [dec_big h]
      intro c hc
      rcases List.mem_append.1 hc with hc | hc
      · exact ih (u / 10) (by omega) c hc
      · simp only [List.mem_singleton] at hc
        subst hc
        rw [digit_nat (by omega)]
        omega

/-- What digits spell. -/
def val (acc : Nat) (l : List UInt8) : Nat := l.foldl (fun a c => a * 10 + (c.toNat - 48)) acc
theorem val_nil (acc : Nat) : val acc [] = acc := rfl
theorem val_cons (acc : Nat) (c : UInt8) (l : List UInt8) : val acc (c :: l) = val (acc * 10 + (c.toNat - 48)) l := by unfold val; rw [List.foldl_cons]
theorem val_snoc (acc : Nat) (l : List UInt8) (c : UInt8) : val acc (l ++ [c]) = val acc l * 10 + (c.toNat - 48) := by
  unfold val; rw [List.foldl_append, List.foldl_cons, List.foldl_nil]
theorem val_append (acc : Nat) (a b : List UInt8) : val acc (a ++ b) = val (val acc a) b := by unfold val; rw [List.foldl_append]
theorem val_ge (l : List UInt8) : ∀ acc, acc ≤ val acc l := by
  induction l with
  | nil => intro acc; exact Nat.le_refl _
  | cons c l ih => intro acc; rw [val_cons]; have := ih (acc * 10 + (c.toNat - 48)); omega

theorem dec_val (u : Nat) : val 0 (decDigits u) = u := by
  induction u using Nat.strongRecOn with
  | _ u ih =>
    by_cases h : u < 10
    · rw [dec_small h, val_cons, val_nil, digit_nat h]; omega
    · rw [dec_big h, val_snoc, ih (u / 10) (by omega), digit_nat (by omega)]; omega
theorem dec_inj {a b : Nat} (h : decDigits a = decDigits b) : a = b := by rw [← dec_val a, h, dec_val]

theorem parse_val (l : List UInt8) : ∀ acc, (∀ c ∈ l, 48 ≤ c.toNat ∧ c.toNat ≤ 57) → val acc l < 18446744073709551616 → parseUint10 acc l = .ok (val acc l) := by
  induction l with
  | nil => intro acc _ _; rfl
  | cons c l ih =>
    intro acc hd hv
    rw [val_cons] at hv ⊢
    have h1 := val_ge l (acc * 10 + (c.toNat - 48))
    have h2 := hd c (List.mem_cons_self ..)
    unfold parseUint10
    rw [if_pos h2, if_neg (by omega), if_neg (by omega)]
    exact ih _ (fun x hx => hd x (List.mem_cons_of_mem _ hx)) hv

theorem atoi_dec {n : Nat} (h : n < 9223372036854775808) : atoiAll (decDigits n) = .ok (n : Int) := by
  have hd := dec_digit n
  have hv := dec_val n
  generalize hl : decDigits n = l at hd hv
  cases l with
  | nil => exact absurd hl (dec_ne n)
  | cons c r =>
    have hc := hd c (List.mem_cons_self ..)
    have hp : parseMag (c :: r) = .ok n := by
      unfold parseMag
      rw [if_neg (by simp), parse_val (c :: r) 0 hd (by rw [hv]; omega), hv]
    unfold atoiAll
    simp only
    rw [if_neg (by omega), hp]
    simp only
    rw [if_neg (by omega), if_neg (by omega), if_neg (by omega)]

/-- The numeral of a number within its bounds, else nothing. -/
def putL (n : Int) : List UInt8 := if 0 ≤ n ∧ n ≤ 4611686018427387904 then decDigits n.toNat else []
theorem putL_in {n : Int} (h : 0 ≤ n ∧ n ≤ 4611686018427387904) : putL n = decDigits n.toNat := if_pos h
theorem putL_out {n : Int} (h : ¬ (0 ≤ n ∧ n ≤ 4611686018427387904)) : putL n = [] := if_neg h
theorem putL_inj {a b : Int} (ha : 0 ≤ a ∧ a ≤ 4611686018427387904) (h : putL a = putL b) : a = b := by
  by_cases hb : 0 ≤ b ∧ b ≤ 4611686018427387904
  · rw [putL_in ha, putL_in hb] at h
    have := dec_inj h
    omega
  · rw [putL_in ha, putL_out hb] at h
    exact absurd h (dec_ne _)

/-- A text is a number's numeral. -/
def Num (l : List UInt8) (n : Int) : Prop := (0 ≤ n ∧ n ≤ 4611686018427387904) ∧ putL n = l

theorem num_atoi {l : List UInt8} {n : Int} (h : Num l n) : atoiAll l = .ok n := by
  obtain ⟨h1, h2⟩ := h
  rw [putL_in h1] at h2
  rw [← h2, atoi_dec (by omega)]
  congr 1
  omega

theorem putL_bounds {n : Int} (h : putL n ≠ []) : 0 ≤ n ∧ n ≤ 4611686018427387904 := by
  by_cases hb : 0 ≤ n ∧ n ≤ 4611686018427387904
  · exact hb
  · exact absurd (putL_out hb) h

theorem dec_length (u : Nat) (h : u < 10000000000000000000) : (decDigits u).length ≤ 19 := by
  rw [Go.Lib.decDigits_length]
  have key : ∀ (k u : Nat), u < 10 ^ (k + 1) → Go.Lib.nDigits u ≤ k + 1 := by
    intro k
    induction k with
    | zero => intro u hu; rw [Go.Lib.nDigits_small (by simpa using hu)]; exact Nat.le_refl _
    | succ k ih =>
      intro u hu
      by_cases h10 : u < 10
      · rw [Go.Lib.nDigits_small h10]; omega
      · rw [Go.Lib.nDigits_big h10]
        have := ih (u / 10) (by rw [Nat.pow_succ] at hu; omega)
        omega
  exact key 18 u (by simpa using h)
theorem putL_length (n : Int) : (putL n).length ≤ 19 := by
  unfold putL
  split
  · exact dec_length _ (by omega)
  · simp

end Go.Proofs.YtgdkpmfdpfjdjaaGreatDoor
