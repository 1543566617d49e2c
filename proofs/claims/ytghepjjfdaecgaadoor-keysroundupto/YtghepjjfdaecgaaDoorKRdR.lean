/-
  Keys: the first character of a character's bytes (pure).
-/
import Derived.Test.YtghepjjfdaecgaaDoorKFir
import Derived.Test.YtghepjjfdaecgaaDoorKRdP
namespace Go.Proofs.YtghepjjfdaecgaaDoor
open Go.RowKit
set_option linter.unusedVariables false
set_option maxRecDepth 100000

theorem fOk_low {t : List UInt8} (h : topT.getD (t.length - 1) 0 < ((t.headD 0).toNat : Int)) : fOk t = false := by
  unfold fOk worthF
  simp only []
  rw [if_pos (Or.inr h)]
  simp
theorem worth_two {b0 b1 : UInt8} {c : Int} (e0 : (b0.toNat : Int) = 192 + c / 64) (e1 : (b1.toNat : Int) = 128 + c % 64) (h0 : 0 ≤ c) (h1 : c < 2048) : worthF [b0, b1] = c := by
  unfold worthF wloop wloop
  simp only [List.length_cons, List.length_nil, List.headD_cons, List.drop_succ_cons, List.drop_zero]
  have t0 : headT.getD (0 + 1 + 1 - 1) 0 = 192 := rfl
  have t1 : topT.getD (0 + 1 + 1 - 1) 0 = 223 := rfl
  rw [t0, t1, if_neg (by omega), if_neg (by omega)]
  omega
theorem worth_three {b0 b1 b2 : UInt8} {c : Int} (e0 : (b0.toNat : Int) = 224 + c / 4096) (e1 : (b1.toNat : Int) = 128 + c / 64 % 64) (e2 : (b2.toNat : Int) = 128 + c % 64) (h0 : 0 ≤ c) (h1 : c < 65536) : worthF [b0, b1, b2] = c := by
  unfold worthF wloop wloop wloop
  simp only [List.length_cons, List.length_nil, List.headD_cons, List.drop_succ_cons, List.drop_zero]
  have t0 : headT.getD (0 + 1 + 1 + 1 - 1) 0 = 224 := rfl
  have t1 : topT.getD (0 + 1 + 1 + 1 - 1) 0 = 239 := rfl
  rw [t0, t1, if_neg (by omega), if_neg (by omega), if_neg (by omega)]
  omega
theorem worth_four {b0 b1 b2 b3 : UInt8} {c : Int} (e0 : (b0.toNat : Int) = 240 + c / 262144) (e1 : (b1.toNat : Int) = 128 + c / 4096 % 64) (e2 : (b2.toNat : Int) = 128 + c / 64 % 64) (e3 : (b3.toNat : Int) = 128 + c % 64) (h0 : 0 ≤ c) (h1 : c < 2097152) : worthF [b0, b1, b2, b3] = c := by
  unfold worthF wloop wloop wloop wloop
  simp only [List.length_cons, List.length_nil, List.headD_cons, List.drop_succ_cons, List.drop_zero]
  have t0 : headT.getD (0 + 1 + 1 + 1 + 1 - 1) 0 = 240 := rfl
  have t1 : topT.getD (0 + 1 + 1 + 1 + 1 - 1) 0 = 247 := rfl
  rw [t0, t1, if_neg (by omega), if_neg (by omega), if_neg (by omega), if_neg (by omega)]
  omega
theorem fOk_of {t : List UInt8} {c : Int} (hw : worthF t = c) (hr : r8F c = t) (h0 : 0 ≤ c) (h1 : c ≤ 1114111) (h2 : c < 55296 ∨ 57343 < c) : fOk t = true := by
  unfold fOk
  rw [hw]
  exact decide_eq_true ⟨h0, hr, h1, h2⟩
theorem u8_int (z : Int) (h0 : 0 ≤ z) (h1 : z < 256) : (((z.toNat.toUInt8).toNat : Nat) : Int) = z := by rw [u8_nat z h0 h1]; omega
theorem low_no (t : List UInt8) (T : Int) (hT : topT.getD (t.length - 1) 0 = T) (h : T < ((t.headD 0).toNat : Int)) : ¬ fOk t = true := by rw [fOk_low (by rw [hT]; exact h)]; decide
/-- The first character of a character's bytes is that character, and they are all of it. -/
theorem first_enc {c : Int} (h0 : 128 ≤ c) (h1 : c ≤ 1114111) (h2 : c < 55296 ∨ 57343 < c) : firstF (r8F c) = some (c, (r8F c).length) := by
  obtain ⟨t, ht⟩ : ∃ t, r8F c = t := ⟨_, rfl⟩
  have hb := ht
  rw [ht]
  unfold r8F at hb
  rw [if_neg (by omega)] at hb
  by_cases q : c < 2048
  · rw [if_pos q] at hb
    have w := worth_two (u8_int (192 + c / 64) (by omega) (by omega)) (u8_int (128 + c % 64) (by omega) (by omega)) (by omega) q
    have k0 := u8_int (192 + c / 64) (by omega) (by omega)
    obtain ⟨b0, hb0⟩ : ∃ b, (192 + c / 64).toNat.toUInt8 = b := ⟨_, rfl⟩
    rw [hb0] at hb w k0
    rw [hb] at w
    have ok := fOk_of w ht (by omega) h1 h2
    subst hb
    unfold firstF
    rw [firstG_step (by decide) (by simp), if_neg (by exact low_no [b0] 127 rfl (show (127 : Int) < (b0.toNat : Int) by omega)), firstG_step (by decide) (by simp)]
    rw [if_pos (by exact ok)]
    exact congrArg some (Prod.ext w rfl)
  · rw [if_neg q] at hb
    by_cases q3 : c < 65536
    · rw [if_pos q3] at hb
      have w := worth_three (u8_int (224 + c / 4096) (by omega) (by omega)) (u8_int (128 + c / 64 % 64) (by omega) (by omega)) (u8_int (128 + c % 64) (by omega) (by omega)) (by omega) q3
      have k0 := u8_int (224 + c / 4096) (by omega) (by omega)
      obtain ⟨b0, hb0⟩ : ∃ b, (224 + c / 4096).toNat.toUInt8 = b := ⟨_, rfl⟩
      rw [hb0] at hb w k0
      rw [hb] at w
      have ok := fOk_of w ht (by omega) h1 h2
      subst hb
      unfold firstF
      rw [firstG_step (by decide) (by simp), if_neg (by exact low_no [b0] 127 rfl (show (127 : Int) < (b0.toNat : Int) by omega)), firstG_step (by decide) (by simp), if_neg (by exact low_no [b0, _] 223 rfl (show (223 : Int) < (b0.toNat : Int) by omega)), firstG_step (by decide) (by simp)]
      rw [if_pos (by exact ok)]
      exact congrArg some (Prod.ext w rfl)
    · rw [if_neg q3] at hb
      have w := worth_four (u8_int (240 + c / 262144) (by omega) (by omega)) (u8_int (128 + c / 4096 % 64) (by omega) (by omega)) (u8_int (128 + c / 64 % 64) (by omega) (by omega)) (u8_int (128 + c % 64) (by omega) (by omega)) (by omega) (by omega)
      have k0 := u8_int (240 + c / 262144) (by omega) (by omega)
      obtain ⟨b0, hb0⟩ : ∃ b, (240 + c / 262144).toNat.toUInt8 = b := ⟨_, rfl⟩
      rw [hb0] at hb w k0
      rw [hb] at w
      have ok := fOk_of w ht (by omega) h1 h2
      subst hb
      unfold firstF
      rw [firstG_step (by decide) (by simp), if_neg (by exact low_no [b0] 127 rfl (show (127 : Int) < (b0.toNat : Int) by omega)), firstG_step (by decide) (by simp), if_neg (by exact low_no [b0, _] 223 rfl (show (223 : Int) < (b0.toNat : Int) by omega)), firstG_step (by decide) (by simp), if_neg (by exact low_no [b0, _, _] 239 rfl (show (239 : Int) < (b0.toNat : Int) by omega)), firstG_step (by decide) (by simp)]
      rw [if_pos (by exact ok)]
      exact congrArg some (Prod.ext w rfl)
end Go.Proofs.YtghepjjfdaecgaaDoor
