/-
  Keys: a character's bytes, by numbers (pure).
  Keys: what a beginning of bytes is, by the document; bytes from 128 on (pure).
  Keys: sequences; what is fed, flushed, by the document's beginnings (pure).
-/
import Derived.Test.YtnehkokppobncaaDoorGL
import Derived.Test.YtnehkokppobncaaDoorGM
import Derived.Test.YtnehkokppobncaaDoorGK
import Derived.Test.YtnehkokppobncaaDoorGG
import Derived.Test.YtnehkokppobncaaDoorKAll
namespace Go.Proofs.YtnehkokppobncaaDoor
open Go.RowKit
set_option linter.unusedVariables false
set_option maxRecDepth 100000

theorem fOk_low {t : List UInt8} (h : topT.getD (t.length - 1) 0 < ((t.headD 0).toNat : Int)) : fOk t = false := by
  unfold fOk worthF
  simp only []
  rw [if_pos (Or.inr h)]
  simp
theorem take_hi {x : UInt8} {r : List UInt8} (h : 128 ≤ x.toNat) (b : UInt8) : takeF (x :: r) b = chF (x :: r) b := by
  unfold takeF
  split
  · rename_i e; cases e
  · rename_i e; cases e; exact absurd h (by decide)
  · rename_i e; cases e; exact absurd h (by decide)
  · rename_i e; cases e; exact absurd h (by decide)
  · rfl
theorem take_eh {x : UInt8} {r : List UInt8} (h : 128 ≤ x.toNat) (b : UInt8) : takeF (27 :: x :: r) b = chF (27 :: x :: r) b := by
  unfold takeF
  split
  · rename_i e; cases e
  · rename_i e; cases e
  · rename_i e; cases e; exact absurd h (by decide)
  · rename_i e; cases e; exact absurd h (by decide)
  · rfl
theorem take_es {b : UInt8} (h : 128 ≤ b.toNat) : takeF [27] b = chF [27] b := by
  show (if b = 91 ∨ b = 79 then _ else if b.toNat < 128 then _ else _) = _
  rw [if_neg (fun e => by rcases e with rfl | rfl <;> exact absurd h (by decide)), if_neg (by omega)]
theorem behind_hi {x : UInt8} {r : List UInt8} (h : 128 ≤ x.toNat) : behindF (x :: r) = (x :: r, 0) := by
  unfold behindF
  split
  · rename_i e; cases e; exact absurd h (by decide)
  · rfl
/-- What stands ahead of a character. -/
def preE : Bool → List UInt8
  | true => [27]
  | false => []
def preM2 : Bool → Int
  | true => 2
  | false => 0
theorem behind_pre (e : Bool) {x : UInt8} {r : List UInt8} (h : 128 ≤ x.toNat) : behindF (preE e ++ x :: r) = (x :: r, preM2 e) := by
  cases e
  · exact behind_hi h
  · rfl
theorem take_pre (e : Bool) {x : UInt8} {r : List UInt8} (h : 128 ≤ x.toNat) (b : UInt8) : takeF (preE e ++ x :: r) b = chF (preE e ++ x :: r) b := by
  cases e
  · exact take_hi h b
  · exact take_eh h b
theorem feed_hold {h h' : List UInt8} {b : UInt8} {r : List UInt8} (ht : takeF h b = (h', (0, 0))) : feedF h (b :: r) = feedF h' r := by
  rw [feed_cons, ht]
  show ((feedF h' r).1, if (0 : Int) = 0 then (feedF h' r).2 else _) = _
  rw [if_pos rfl]
/-- The second byte of a character, by its first. -/
def sndP (x y : Nat) : Prop := 128 ≤ y ∧ y ≤ 191 ∧ (x = 224 → 160 ≤ y) ∧ (x = 237 → y ≤ 159) ∧ (x = 240 → 144 ≤ y) ∧ (x = 244 → y ≤ 143)
def ok2 (x y : UInt8) : Prop := 194 ≤ x.toNat ∧ x.toNat ≤ 223 ∧ 128 ≤ y.toNat ∧ y.toNat ≤ 191
def ok3 (x y z : UInt8) : Prop := 224 ≤ x.toNat ∧ x.toNat ≤ 239 ∧ sndP x.toNat y.toNat ∧ 128 ≤ z.toNat ∧ z.toNat ≤ 191
def ok4 (x y z u : UInt8) : Prop := 240 ≤ x.toNat ∧ x.toNat ≤ 244 ∧ sndP x.toNat y.toNat ∧ 128 ≤ z.toNat ∧ z.toNat ≤ 191 ∧ 128 ≤ u.toNat ∧ u.toNat ≤ 191
theorem acc_snd {x y : Nat} (hx : 194 ≤ x ∧ x ≤ 244) : (y < Lib.accLo (Lib.firstT x / 16) ∨ Lib.accHi (Lib.firstT x / 16) < y) ↔ ¬ sndP x y := by
  unfold sndP
  rcases (by omega : (194 ≤ x ∧ x < 224) ∨ x = 224 ∨ ((225 ≤ x ∧ x < 237) ∨ (238 ≤ x ∧ x < 240)) ∨ x = 237 ∨ x = 240 ∨ (241 ≤ x ∧ x < 244) ∨ x = 244) with h | h | h | h | h | h | h
  · rw [Lib.firstT_C2 h]; show (y < 128 ∨ 191 < y) ↔ _; omega
  · rw [Lib.firstT_E0 h]; show (y < 160 ∨ 191 < y) ↔ _; omega
  · rw [Lib.firstT_E1 h]; show (y < 128 ∨ 191 < y) ↔ _; omega
  · rw [Lib.firstT_ED h]; show (y < 128 ∨ 159 < y) ↔ _; omega
  · rw [Lib.firstT_F0 h]; show (y < 144 ∨ 191 < y) ↔ _; omega
  · rw [Lib.firstT_F1 h]; show (y < 128 ∨ 191 < y) ↔ _; omega
  · rw [Lib.firstT_F4 h]; show (y < 128 ∨ 143 < y) ↔ _; omega
theorem num_first {x : Nat} (h : 128 ≤ x) : Lib.firstT x % 8 = if x < 194 then 1 else if x < 224 then 2 else if x < 240 then 3 else if x < 245 then 4 else 1 := by
  unfold Lib.firstT
  rw [if_neg (by omega)]
  by_cases a : x < 194
  · rw [if_pos a, if_pos a]
  · rw [if_neg a, if_neg a]
    by_cases b : x < 224
    · rw [if_pos b, if_pos b]
    · rw [if_neg b, if_neg b]
      repeat' split
      all_goals omega
theorem full1_iff {x : UInt8} (hx : 128 ≤ x.toNat) : fullB [x] = true ↔ ¬ (194 ≤ x.toNat ∧ x.toNat ≤ 244) := by
  show (decide (Lib.firstT x.toNat % 8 ≤ 0 + 1) || false) = true ↔ _
  rw [Bool.or_false, decide_eq_true_iff, num_first hx]
  have := x.toNat_lt
  split
  · omega
  · split
    · omega
    · split
      · omega
      · split <;> omega
theorem full2_iff {x y : UInt8} (hx : 194 ≤ x.toNat ∧ x.toNat ≤ 244) : fullB [x, y] = true ↔ ¬ (224 ≤ x.toNat ∧ sndP x.toNat y.toNat) := by
  show (decide (Lib.firstT x.toNat % 8 ≤ 1 + 1) || (decide (y.toNat < Lib.accLo (Lib.firstT x.toNat / 16) ∨ Lib.accHi (Lib.firstT x.toNat / 16) < y.toNat) || false)) = true ↔ _
  rw [Bool.or_false, Bool.or_eq_true, decide_eq_true_iff, decide_eq_true_iff, acc_snd hx, num_first (by omega), if_neg (by omega)]
  by_cases a : x.toNat < 224
  · rw [if_pos a]
    exact ⟨fun _ => by omega, fun _ => .inl (by omega)⟩
  · rw [if_neg a]
    constructor
    · rintro (h | h)
      · exfalso
        split at h
        · omega
        · split at h <;> omega
      · exact fun q => h q.2
    · intro h
      exact .inr fun q => h ⟨by omega, q⟩
theorem full3_iff {x y z : UInt8} (hx : 224 ≤ x.toNat ∧ x.toNat ≤ 244) (hy : sndP x.toNat y.toNat) : fullB [x, y, z] = true ↔ ¬ (240 ≤ x.toNat ∧ 128 ≤ z.toNat ∧ z.toNat ≤ 191) := by
  show (decide (Lib.firstT x.toNat % 8 ≤ 2 + 1) || (decide (y.toNat < Lib.accLo (Lib.firstT x.toNat / 16) ∨ Lib.accHi (Lib.firstT x.toNat / 16) < y.toNat) || decide (z.toNat < 128 ∨ 191 < z.toNat))) = true ↔ _
  rw [decide_eq_false (p := (y.toNat < _ ∨ _)) (by rw [acc_snd ⟨by omega, hx.2⟩]; exact fun q => q hy), Bool.false_or, Bool.or_eq_true, decide_eq_true_iff, decide_eq_true_iff, num_first (by omega), if_neg (by omega), if_neg (by omega)]
  by_cases a : x.toNat < 240
  · rw [if_pos a]
    exact ⟨fun _ => by omega, fun _ => .inl (by omega)⟩
  · rw [if_neg a, if_pos (by omega)]
    omega
/-- Decoding. -/
theorem dec_is {l : List UInt8} (hl : l ≠ []) : dec l = Lib.decodeN l.length (l.getD 0 0).toNat (l.getD 1 0).toNat (l.getD 2 0).toNat (l.getD 3 0).toNat := by
  unfold dec
  rw [if_neg (by intro e; exact hl (List.length_eq_zero_iff.1 e))]
  exact Lib.decodeL_N l
theorem dec2 {x y : UInt8} (hx : 128 ≤ x.toNat) : (ok2 x y → dec [x, y] = ((x.toNat - 192) * 64 + (y.toNat - 128), 2)) ∧ (¬ ok2 x y → (dec [x, y]).2 = 1) := by
  rw [dec_is (by simp)]
  simp only [List.getD_cons_zero, List.getD_cons_succ, List.length_cons, List.length_nil]
  unfold Lib.decodeN ok2
  have h1 := x.toNat_lt
  have h2 := y.toNat_lt
  rw [if_neg (by omega)]
  constructor
  · intro h
    rw [if_pos (by omega), if_pos (by omega)]
    exact Prod.ext (by simp only; omega) rfl
  · intro h
    split
    · split
      · omega
      · rfl
    · rw [if_neg (by omega), if_neg (by omega)]
theorem dec3 {x y z : UInt8} (hx : 224 ≤ x.toNat) (hy : sndP x.toNat y.toNat) : (ok3 x y z → dec [x, y, z] = ((x.toNat - 224) * 4096 + (y.toNat - 128) * 64 + (z.toNat - 128), 3)) ∧ (¬ ok3 x y z → (dec [x, y, z]).2 = 1) := by
  rw [dec_is (by simp)]
  simp only [List.getD_cons_zero, List.getD_cons_succ, List.length_cons, List.length_nil]
  unfold Lib.decodeN ok3
  unfold sndP at *
  have h1 := x.toNat_lt
  have h2 := y.toNat_lt
  have h3 := z.toNat_lt
  rw [if_neg (by omega), if_neg (by omega)]
  constructor
  · intro h
    rw [if_pos (by omega), if_pos (by omega)]
    exact Prod.ext (by simp only; omega) rfl
  · intro h
    split
    · split
      · omega
      · rfl
    · rw [if_neg (by omega)]
theorem dec4 {x y z u : UInt8} (hx : 240 ≤ x.toNat) (hy : sndP x.toNat y.toNat) (hz : 128 ≤ z.toNat ∧ z.toNat ≤ 191) : (ok4 x y z u → dec [x, y, z, u] = ((x.toNat - 240) * 262144 + (y.toNat - 128) * 4096 + (z.toNat - 128) * 64 + (u.toNat - 128), 4)) ∧ (¬ ok4 x y z u → (dec [x, y, z, u]).2 = 1) := by
  rw [dec_is (by simp)]
  simp only [List.getD_cons_zero, List.getD_cons_succ, List.length_cons, List.length_nil]
  unfold Lib.decodeN ok4
  unfold sndP at *
  have h1 := x.toNat_lt
  have h2 := y.toNat_lt
  have h3 := z.toNat_lt
  have h4 := u.toNat_lt
  rw [if_neg (by omega), if_neg (by omega), if_neg (by omega)]
  constructor
  · intro h
    rw [if_pos (by omega), if_pos (by omega)]
    exact Prod.ext (by simp only; omega) rfl
  · intro h
    split
    · split
      · omega
      · rfl
    · rfl
/-- The document's: is it one character? -/
theorem u8_of_nat {x : UInt8} {z : Int} (h0 : 0 ≤ z) (h1 : z < 256) (h : (x.toNat : Int) = z) : z.toNat.toUInt8 = x := by
  apply UInt8.toNat_inj.1
  rw [Nat.toUInt8_eq, UInt8.toNat_ofNat', Nat.mod_eq_of_lt (by omega)]
  omega
theorem worth2 {x y : UInt8} : worthF [x, y] = if x.toNat < 192 ∨ 223 < x.toNat ∨ y.toNat < 128 ∨ 191 < y.toNat then -1 else ((x.toNat : Int) - 192) * 64 + ((y.toNat : Int) - 128) := by
  unfold worthF wloop wloop
  simp only [List.length_cons, List.length_nil, List.headD_cons, List.drop_succ_cons, List.drop_zero]
  have t0 : headT.getD (0 + 1 + 1 - 1) 0 = 192 := rfl
  have t1 : topT.getD (0 + 1 + 1 - 1) 0 = 223 := rfl
  rw [t0, t1]
  split
  · rw [if_pos (by omega)]
  · split
    · rw [if_pos (by omega)]
    · rw [if_neg (by omega)]; omega
theorem worth3 {x y z : UInt8} : worthF [x, y, z] = if x.toNat < 224 ∨ 239 < x.toNat ∨ y.toNat < 128 ∨ 191 < y.toNat ∨ z.toNat < 128 ∨ 191 < z.toNat then -1 else ((x.toNat : Int) - 224) * 4096 + ((y.toNat : Int) - 128) * 64 + ((z.toNat : Int) - 128) := by
  unfold worthF wloop wloop wloop
  simp only [List.length_cons, List.length_nil, List.headD_cons, List.drop_succ_cons, List.drop_zero]
  have t0 : headT.getD (0 + 1 + 1 + 1 - 1) 0 = 224 := rfl
  have t1 : topT.getD (0 + 1 + 1 + 1 - 1) 0 = 239 := rfl
  rw [t0, t1]
  split
  · rw [if_pos (by omega)]
  · split
    · rw [if_pos (by omega)]
    · split
      · rw [if_pos (by omega)]
      · rw [if_neg (by omega)]; omega
theorem worth4 {x y z u : UInt8} : worthF [x, y, z, u] = if x.toNat < 240 ∨ 247 < x.toNat ∨ y.toNat < 128 ∨ 191 < y.toNat ∨ z.toNat < 128 ∨ 191 < z.toNat ∨ u.toNat < 128 ∨ 191 < u.toNat then -1 else ((x.toNat : Int) - 240) * 262144 + ((y.toNat : Int) - 128) * 4096 + ((z.toNat : Int) - 128) * 64 + ((u.toNat : Int) - 128) := by
  unfold worthF wloop wloop wloop wloop
  simp only [List.length_cons, List.length_nil, List.headD_cons, List.drop_succ_cons, List.drop_zero]
  have t0 : headT.getD (0 + 1 + 1 + 1 + 1 - 1) 0 = 240 := rfl
  have t1 : topT.getD (0 + 1 + 1 + 1 + 1 - 1) 0 = 247 := rfl
  rw [t0, t1]
  split
  · rw [if_pos (by omega)]
  · split
    · rw [if_pos (by omega)]
    · split
      · rw [if_pos (by omega)]
      · split
        · rw [if_pos (by omega)]
        · rw [if_neg (by omega)]; omega
theorem fOk1 {x : UInt8} (hx : 128 ≤ x.toNat) : fOk [x] = false := fOk_low (show (127 : Int) < (x.toNat : Int) by omega)
theorem fOk2 {x y : UInt8} : fOk [x, y] = true ↔ ok2 x y := by
  unfold fOk ok2
  rw [decide_eq_true_iff, worth2]
  have h1 := x.toNat_lt
  have h2 := y.toNat_lt
  split
  · omega
  · rename_i h
    constructor
    · rintro ⟨a, b, c, d⟩
      have hl := congrArg List.length b
      unfold r8F at hl
      split at hl
      · simp at hl
      · omega
    · intro q
      refine ⟨by omega, ?_, by omega, by omega⟩
      unfold r8F
      rw [if_neg (by omega), if_pos (by omega), u8_of_nat (x := x) (by omega) (by omega) (by omega), u8_of_nat (x := y) (by omega) (by omega) (by omega)]
theorem fOk3 {x y z : UInt8} : fOk [x, y, z] = true ↔ ok3 x y z := by
  unfold fOk ok3 sndP
  rw [decide_eq_true_iff, worth3]
  have h1 := x.toNat_lt
  have h2 := y.toNat_lt
  have h3 := z.toNat_lt
  split
  · omega
  · rename_i h
    constructor
    · rintro ⟨a, b, c, d⟩
      have hl := congrArg List.length b
      unfold r8F at hl
      split at hl
      · simp at hl
      · split at hl
        · simp at hl
        · omega
    · intro q
      refine ⟨by omega, ?_, by omega, by omega⟩
      unfold r8F
      rw [if_neg (by omega), if_neg (by omega), if_pos (by omega), u8_of_nat (x := x) (by omega) (by omega) (by omega), u8_of_nat (x := y) (by omega) (by omega) (by omega), u8_of_nat (x := z) (by omega) (by omega) (by omega)]
theorem fOk4 {x y z u : UInt8} : fOk [x, y, z, u] = true ↔ ok4 x y z u := by
  unfold fOk ok4 sndP
  rw [decide_eq_true_iff, worth4]
  have h1 := x.toNat_lt
  have h2 := y.toNat_lt
  have h3 := z.toNat_lt
  have h4 := u.toNat_lt
  split
  · omega
  · rename_i h
    constructor
    · rintro ⟨a, b, c, d⟩
      have hl := congrArg List.length b
      unfold r8F at hl
      split at hl
      · simp at hl
      · split at hl
        · simp at hl
        · split at hl
          · simp at hl
          · omega
    · intro q
      refine ⟨by omega, ?_, by omega, by omega⟩
      unfold r8F
      rw [if_neg (by omega), if_neg (by omega), if_neg (by omega), u8_of_nat (x := x) (by omega) (by omega) (by omega), u8_of_nat (x := y) (by omega) (by omega) (by omega), u8_of_nat (x := z) (by omega) (by omega) (by omega), u8_of_nat (x := u) (by omega) (by omega) (by omega)]
/-- The first character of bytes from 128 on. -/
theorem first_hi1 {x : UInt8} (hx : 128 ≤ x.toNat) : firstF [x] = none := by
  unfold firstF
  rw [firstG_step (by decide) (by simp), if_neg (by rw [show List.take 1 [x] = [x] from rfl, fOk1 hx]; decide), firstG_out (by simp)]
theorem first_hi2 {x y : UInt8} (hx : 128 ≤ x.toNat) : firstF [x, y] = if fOk [x, y] then some (worthF [x, y], 2) else none := by
  unfold firstF
  rw [firstG_step (by decide) (by simp), if_neg (by rw [show List.take 1 [x, y] = [x] from rfl, fOk1 hx]; decide), firstG_step (by decide) (by simp), firstG_out (by simp)]
  rfl
theorem first_hi3 {x y z : UInt8} (hx : 128 ≤ x.toNat) : firstF [x, y, z] = if fOk [x, y] then some (worthF [x, y], 2) else if fOk [x, y, z] then some (worthF [x, y, z], 3) else none := by
  unfold firstF
  rw [firstG_step (by decide) (by simp), if_neg (by rw [show List.take 1 [x, y, z] = [x] from rfl, fOk1 hx]; decide), firstG_step (by decide) (by simp), firstG_step (by decide) (by simp), firstG_out (by simp)]
  rfl
theorem first_hi4 {x y z u : UInt8} {r : List UInt8} (hx : 128 ≤ x.toNat) : firstF (x :: y :: z :: u :: r) = if fOk [x, y] then some (worthF [x, y], 2) else if fOk [x, y, z] then some (worthF [x, y, z], 3) else if fOk [x, y, z, u] then some (worthF [x, y, z, u], 4) else none := by
  unfold firstF
  rw [firstG_step (by decide) (by simp), if_neg (by rw [show List.take 1 (x :: y :: z :: u :: r) = [x] from rfl, fOk1 hx]; decide), firstG_step (by decide) (by simp), firstG_step (by decide) (by simp), firstG_step (by decide) (by simp), firstG_out (by simp)]
  rfl
end Go.Proofs.YtnehkokppobncaaDoor

namespace Go.Proofs.YtnehkokppobncaaDoor
open Go.RowKit
set_option linter.unusedVariables false
set_option maxRecDepth 100000

def lowL : List UInt8 := [128, 144, 160, 191, 143, 159]
def filL : List UInt8 := [128, 191]
/-- The innermost loop of the document's grows. -/
def growG (f : UInt8) : Nat → List UInt8 → Bool
  | 0, _ => false
  | k + 1, t => (match firstF t with
      | some p => decide (p.2 = t.length)
      | none => false) || growG f k (t ++ [f])
/-- The document's grows. -/
def growsD (s : List UInt8) : Bool := if 3 < s.length then false else lowL.any fun a => filL.any fun f => growG f (4 - s.length) (s ++ [a])
theorem is_full2 {x y : UInt8} (hx : 128 ≤ x.toNat) : (match firstF [x, y] with
      | some p => decide (p.2 = [x, y].length)
      | none => false) = true ↔ ok2 x y := by
  rw [first_hi2 hx]
  by_cases h : fOk [x, y] = true
  · rw [if_pos h]
    exact ⟨fun _ => fOk2.1 h, fun _ => rfl⟩
  · rw [if_neg h]
    exact ⟨fun q => (by cases q), fun q => absurd (fOk2.2 q) h⟩
theorem is_full3 {x y z : UInt8} (hx : 128 ≤ x.toNat) : (match firstF [x, y, z] with
      | some p => decide (p.2 = [x, y, z].length)
      | none => false) = true ↔ ok3 x y z := by
  rw [first_hi3 hx]
  by_cases h : fOk [x, y] = true
  · rw [if_pos h]
    have := fOk2.1 h
    unfold ok2 at this
    refine ⟨fun q => by simp at q, fun q => ?_⟩
    unfold ok3 at q
    omega
  · rw [if_neg h]
    by_cases k : fOk [x, y, z] = true
    · rw [if_pos k]
      exact ⟨fun _ => fOk3.1 k, fun _ => rfl⟩
    · rw [if_neg k]
      exact ⟨fun q => (by cases q), fun q => absurd (fOk3.2 q) k⟩
theorem is_full4 {x y z u : UInt8} (hx : 128 ≤ x.toNat) : (match firstF [x, y, z, u] with
      | some p => decide (p.2 = [x, y, z, u].length)
      | none => false) = true ↔ ok4 x y z u := by
  rw [first_hi4 hx]
  by_cases h : fOk [x, y] = true
  · rw [if_pos h]
    have := fOk2.1 h
    unfold ok2 at this
    refine ⟨fun q => by simp at q, fun q => ?_⟩
    unfold ok4 at q
    omega
  · rw [if_neg h]
    by_cases k : fOk [x, y, z] = true
    · rw [if_pos k]
      have := fOk3.1 k
      unfold ok3 at this
      refine ⟨fun q => by simp at q, fun q => ?_⟩
      unfold ok4 at q
      omega
    · rw [if_neg k]
      by_cases m : fOk [x, y, z, u] = true
      · rw [if_pos m]
        exact ⟨fun _ => fOk4.1 m, fun _ => rfl⟩
      · rw [if_neg m]
        exact ⟨fun q => (by cases q), fun q => absurd (fOk4.2 q) m⟩
theorem grows1 {x : UInt8} (hx : 128 ≤ x.toNat) : growsD [x] = !fullB [x] := by
  have key : growsD [x] = true ↔ ∃ a ∈ lowL, ∃ f ∈ filL, ok2 x a ∨ ok3 x a f ∨ ok4 x a f f := by
    unfold growsD
    rw [if_neg (by simp)]
    simp only [List.any_eq_true]
    have e : ∀ a f, growG f (4 - [x].length) ([x] ++ [a]) = true ↔ ok2 x a ∨ ok3 x a f ∨ ok4 x a f f := fun a f => by
      show growG f 3 [x, a] = true ↔ _
      unfold growG growG growG growG
      rw [Bool.or_eq_true, Bool.or_eq_true, Bool.or_false, is_full2 hx]
      show _ ∨ (match firstF [x, a, f] with | some p => decide (p.2 = [x, a, f].length) | none => false) = true ∨ (match firstF [x, a, f, f] with | some p => decide (p.2 = [x, a, f, f].length) | none => false) = true ↔ _
      rw [is_full3 hx, is_full4 hx]
    simp only [e]
  have hf := full1_iff hx
  by_cases h : fullB [x] = true
  · rw [h]
    have h2 := hf.1 h
    cases g : growsD [x]
    · rfl
    · obtain ⟨a, _, f, _, q⟩ := key.1 g
      unfold ok2 ok3 ok4 at q
      omega
  · have h3 : fullB [x] = false := by simpa using h
    rw [h3]
    have h2 : 194 ≤ x.toNat ∧ x.toNat ≤ 244 := Decidable.byContradiction fun q => h (hf.2 q)
    refine key.2 ?_
    rcases (by omega : x.toNat ≤ 223 ∨ x.toNat = 224 ∨ (225 ≤ x.toNat ∧ x.toNat ≤ 239) ∨ x.toNat = 240 ∨ (241 ≤ x.toNat)) with q | q | q | q | q
    · exact ⟨128, by decide, 128, by decide, .inl ⟨h2.1, q, by decide, by decide⟩⟩
    · exact ⟨160, by decide, 128, by decide, .inr (.inl ⟨by omega, by omega, by unfold sndP; rw [q]; decide, by decide, by decide⟩)⟩
    · refine ⟨128, by decide, 128, by decide, .inr (.inl ⟨by omega, by omega, ?_, by decide, by decide⟩)⟩
      unfold sndP
      have : (128 : UInt8).toNat = 128 := rfl
      omega
    · exact ⟨144, by decide, 128, by decide, .inr (.inr ⟨by omega, by omega, by unfold sndP; rw [q]; decide, by decide, by decide, by decide, by decide⟩)⟩
    · refine ⟨128, by decide, 128, by decide, .inr (.inr ⟨by omega, by omega, ?_, by decide, by decide, by decide, by decide⟩)⟩
      unfold sndP
      have : (128 : UInt8).toNat = 128 := rfl
      omega
theorem grows2 {x y : UInt8} (hx : 194 ≤ x.toNat ∧ x.toNat ≤ 244) : growsD [x, y] = !fullB [x, y] := by
  have hx8 : 128 ≤ x.toNat := by omega
  have key : growsD [x, y] = true ↔ ∃ a ∈ lowL, ∃ f ∈ filL, ok3 x y a ∨ ok4 x y a f := by
    unfold growsD
    rw [if_neg (by simp)]
    simp only [List.any_eq_true]
    have e : ∀ a f, growG f (4 - [x, y].length) ([x, y] ++ [a]) = true ↔ ok3 x y a ∨ ok4 x y a f := fun a f => by
      show growG f 2 [x, y, a] = true ↔ _
      unfold growG growG growG
      rw [Bool.or_eq_true, Bool.or_false, is_full3 hx8]
      show _ ∨ (match firstF [x, y, a, f] with | some p => decide (p.2 = [x, y, a, f].length) | none => false) = true ↔ _
      rw [is_full4 hx8]
    simp only [e]
  have hf := full2_iff (y := y) hx
  by_cases h : fullB [x, y] = true
  · rw [h]
    have h2 := hf.1 h
    cases g : growsD [x, y]
    · rfl
    · obtain ⟨a, _, f, _, q⟩ := key.1 g
      unfold ok3 ok4 at q
      exfalso
      exact h2 (by rcases q with q | q <;> exact ⟨by omega, q.2.2.1⟩)
  · have h3 : fullB [x, y] = false := by simpa using h
    rw [h3]
    have h2 : 224 ≤ x.toNat ∧ sndP x.toNat y.toNat := Classical.byContradiction fun q => h (hf.2 q)
    refine key.2 ?_
    rcases (by omega : x.toNat ≤ 239 ∨ 240 ≤ x.toNat) with q | q
    · exact ⟨128, by decide, 128, by decide, .inl ⟨h2.1, q, h2.2, by decide, by decide⟩⟩
    · exact ⟨128, by decide, 128, by decide, .inr ⟨q, hx.2, h2.2, by decide, by decide, by decide, by decide⟩⟩
theorem grows3 {x y z : UInt8} (hx : 224 ≤ x.toNat ∧ x.toNat ≤ 244) (hy : sndP x.toNat y.toNat) : growsD [x, y, z] = !fullB [x, y, z] := by
  have hx8 : 128 ≤ x.toNat := by omega
  have key : growsD [x, y, z] = true ↔ ∃ a ∈ lowL, ∃ f ∈ filL, ok4 x y z a := by
    unfold growsD
    rw [if_neg (by simp)]
    simp only [List.any_eq_true]
    have e : ∀ a f, growG f (4 - [x, y, z].length) ([x, y, z] ++ [a]) = true ↔ ok4 x y z a := fun a f => by
      show growG f 1 [x, y, z, a] = true ↔ _
      unfold growG growG
      rw [Bool.or_false, is_full4 hx8]
    simp only [e]
  have hf := full3_iff (z := z) hx hy
  by_cases h : fullB [x, y, z] = true
  · rw [h]
    have h2 := hf.1 h
    cases g : growsD [x, y, z]
    · rfl
    · obtain ⟨a, _, f, _, q⟩ := key.1 g
      unfold ok4 at q
      exfalso
      exact h2 ⟨q.1, q.2.2.2.1, q.2.2.2.2.1⟩
  · have h3 : fullB [x, y, z] = false := by simpa using h
    rw [h3]
    have h2 : 240 ≤ x.toNat ∧ 128 ≤ z.toNat ∧ z.toNat ≤ 191 := Decidable.byContradiction fun q => h (hf.2 q)
    exact key.2 ⟨128, by decide, 128, by decide, h2.1, hx.2, hy, h2.2.1, h2.2.2, by decide, by decide⟩
theorem grows_long {s : List UInt8} (h : 4 ≤ s.length) : growsD s = false := by
  unfold growsD
  rw [if_pos (by omega)]
/-- The document's loop behind what is no character. -/
def stopD (s : List UInt8) : Nat → Nat → Nat
  | 0, k => k
  | f + 1, k => if k < s.length ∧ growsD (s.take (k + 1)) = true then stopD s f (k + 1) else k
/-- The document's plain. -/
def plainD (s : List UInt8) : (Int × Int) × Nat :=
  if (s.headD 0).toNat < 128 then (loneF (s.headD 0).toNat, 1)
  else match firstF s with
    | some p => if p.1 < 160 then ((0, 0), p.2) else ((p.1, 0), p.2)
    | none => if s.length < 4 ∧ growsD s = true then ((0, 0), 0) else ((0, 0), stopD s s.length 1)
/-- What a beginning says of what is fed. -/
def Steps (h s : List UInt8) (m : Int) (p : (Int × Int) × Nat) : Prop :=
  if p.2 = 0 then feedF [] (h ++ s) = (h ++ s, []) else p.2 ≤ s.length ∧ feedF [] (h ++ s) = ((feedF [] (s.drop p.2)).1, if p.1.1 = 0 then (feedF [] (s.drop p.2)).2 else (p.1.1, p.1.2 + m) :: (feedF [] (s.drop p.2)).2)
/-- Into the first byte of a character. -/
theorem hold1 (e : Bool) {x : UInt8} (hx : 128 ≤ x.toNat) (h : fullB [x] = false) (r : List UInt8) : feedF [] (preE e ++ x :: r) = feedF (preE e ++ [x]) r := by
  cases e
  · have ht : takeF [] x = ([x], (0, 0)) := by
      show take0 x = _
      unfold take0
      rw [if_neg (fun e => by rw [e] at hx; exact absurd hx (by decide)), if_neg (by omega), if_neg (by rw [h]; decide)]
    exact feed_hold ht
  · have ht : takeF [] 27 = ([27], (0, 0)) := rfl
    have ht2 : takeF [27] x = ([27, x], (0, 0)) := by
      rw [take_es hx]
      unfold chF
      have hb : behindF ([27] ++ [x]) = ([x], 2) := rfl
      simp only [hb]
      rw [if_neg (by rw [h]; decide)]
      rfl
    show feedF [] (27 :: x :: r) = _
    rw [feed_hold ht, feed_hold ht2]
    rfl
theorem bad1 (e : Bool) {x : UInt8} (hx : 128 ≤ x.toNat) (h : fullB [x] = true) (r : List UInt8) : feedF [] (preE e ++ x :: r) = feedF [] r := by
  have hd : (dec [x]).2 = 1 := by
    rw [dec_is (by simp)]
    simp only [List.getD_cons_zero, List.length_cons, List.length_nil]
    unfold Lib.decodeN
    rw [if_neg (by omega), if_neg (by omega), if_neg (by omega), if_neg (by omega)]
  cases e
  · have ht : takeF [] x = ([], (0, 0)) := by
      show take0 x = _
      unfold take0
      rw [if_neg (fun e => by rw [e] at hx; exact absurd hx (by decide)), if_neg (by omega), if_pos h]
    exact feed_hold ht
  · have ht : takeF [] 27 = ([27], (0, 0)) := rfl
    have ht2 : takeF [27] x = ([], (0, 0)) := by
      rw [take_es hx]
      unfold chF
      have hb : behindF ([27] ++ [x]) = ([x], 2) := rfl
      simp only [hb]
      rw [if_pos h, hd, if_neg (by simp), if_pos (.inl rfl)]
    show feedF [] (27 :: x :: r) = _
    rw [feed_hold ht, feed_hold ht2]
theorem hold_more (e : Bool) {x : UInt8} (hx : 128 ≤ x.toNat) {p : List UInt8} {b : UInt8} (h : fullB (x :: (p ++ [b])) = false) (r : List UInt8) : feedF (preE e ++ x :: p) (b :: r) = feedF (preE e ++ x :: (p ++ [b])) r := by
  refine feed_hold ?_
  rw [take_pre e hx]
  unfold chF
  have hb : behindF (preE e ++ x :: p ++ [b]) = (x :: (p ++ [b]), preM2 e) := by
    rw [List.append_assoc]; exact behind_pre e hx
  simp only [hb]
  rw [if_neg (by rw [h]; decide), List.append_assoc]
  rfl
theorem bad_more (e : Bool) {x : UInt8} (hx : 128 ≤ x.toNat) {p : List UInt8} {b : UInt8} (h : fullB (x :: (p ++ [b])) = true) (hd : (dec (x :: (p ++ [b]))).2 = 1) (r : List UInt8) : feedF (preE e ++ x :: p) (b :: r) = feedF [] (b :: r) := by
  have ht : takeF (preE e ++ x :: p) b = takeF [] b := by
    rw [take_pre e hx]
    unfold chF
    have hb : behindF (preE e ++ x :: p ++ [b]) = (x :: (p ++ [b]), preM2 e) := by
      rw [List.append_assoc]; exact behind_pre e hx
    simp only [hb]
    rw [if_pos h, hd, if_pos (by simp)]
    rfl
  rw [feed_cons, feed_cons, ht]
theorem good_more (e : Bool) {x : UInt8} (hx : 128 ≤ x.toNat) {p : List UInt8} {b : UInt8} {c : Nat} (h : fullB (x :: (p ++ [b])) = true) (hd : dec (x :: (p ++ [b])) = (c, (x :: (p ++ [b])).length)) (r : List UInt8) :
    feedF (preE e ++ x :: p) (b :: r) = ((feedF [] r).1, if chrB c = true then ((c : Int), preM2 e) :: (feedF [] r).2 else (feedF [] r).2) := by
  have ht : takeF (preE e ++ x :: p) b = ([], if chrB c = true then ((c : Int), preM2 e) else (0, 0)) := by
    rw [take_pre e hx]
    unfold chF
    have hb : behindF (preE e ++ x :: p ++ [b]) = (x :: (p ++ [b]), preM2 e) := by
      rw [List.append_assoc]; exact behind_pre e hx
    simp only [hb]
    rw [if_pos h, hd]
    simp only [Nat.lt_irrefl, if_false]
    cases q : chrB c
    · rw [if_pos (.inr rfl)]
      rfl
    · rw [if_neg (by simp)]
      rfl
  rw [feed_cons, ht]
  cases q : chrB c
  · simp
  · have h0 : c ≠ 0 := fun e0 => by rw [e0] at q; exact absurd q (by decide)
    simp [h0]
theorem chr_160 {c : Int} (h0 : 128 ≤ c) (h1 : c ≤ 1114111) (h2 : c < 55296 ∨ 57343 < c) : chrB c = true ↔ ¬ c < 160 := by
  unfold chrB
  rw [decide_eq_true_iff]
  omega
/-- A character that has been told. -/
theorem told_step (e : Bool) {s : List UInt8} {n c : Nat} (hf : firstF s = some ((c : Int), n)) (hs : ¬ (s.headD 0).toNat < 128) (hn : n ≠ 0) (hl : n ≤ s.length) (h0 : 128 ≤ c) (h1 : c ≤ 1114111) (h2 : c < 55296 ∨ 57343 < c)
    (h : feedF [] (preE e ++ s) = ((feedF [] (s.drop n)).1, if chrB c = true then ((c : Int), preM2 e) :: (feedF [] (s.drop n)).2 else (feedF [] (s.drop n)).2)) : Steps (preE e) s (preM2 e) (plainD s) := by
  have hp : plainD s = if (c : Int) < 160 then ((0, 0), n) else (((c : Int), 0), n) := by
    unfold plainD
    rw [if_neg hs, hf]
  have hc := chr_160 (c := (c : Int)) (by omega) (by omega) (by omega)
  by_cases q : (c : Int) < 160
  · rw [if_pos q] at hp
    rw [if_neg (fun z => hc.1 z q)] at h
    unfold Steps
    rw [hp, if_neg hn]
    exact ⟨hl, h⟩
  · rw [if_neg q] at hp
    rw [if_pos (hc.2 q)] at h
    unfold Steps
    rw [hp, if_neg hn]
    simp only
    rw [if_neg (by omega), Int.zero_add]
    exact ⟨hl, h⟩
/-- What is no character. -/
theorem none_step (e : Bool) {s : List UInt8} {n : Nat} (hf : firstF s = none) (hs : ¬ (s.headD 0).toNat < 128) (hg : ¬ (s.length < 4 ∧ growsD s = true)) (hst : stopD s s.length 1 = n) (hn : n ≠ 0) (hl : n ≤ s.length) (h : feedF [] (preE e ++ s) = feedF [] (s.drop n)) : Steps (preE e) s (preM2 e) (plainD s) := by
  have hp : plainD s = ((0, 0), n) := by
    unfold plainD
    rw [if_neg hs, hf]
    simp only
    rw [if_neg hg, hst]
  unfold Steps
  rw [hp, if_neg hn]
  exact ⟨hl, h⟩
theorem hold_step (e : Bool) {s : List UInt8} (hf : firstF s = none) (hs : ¬ (s.headD 0).toNat < 128) (hg : s.length < 4 ∧ growsD s = true) (h : feedF [] (preE e ++ s) = (preE e ++ s, [])) : Steps (preE e) s (preM2 e) (plainD s) := by
  have hp : plainD s = ((0, 0), 0) := by
    unfold plainD
    rw [if_neg hs, hf]
    simp only
    rw [if_pos hg]
  unfold Steps
  rw [hp, if_pos rfl]
  exact h
theorem stop_at {s : List UInt8} {f k : Nat} (h : ¬ (k < s.length ∧ growsD (s.take (k + 1)) = true)) : stopD s f k = k := by
  cases f with
  | zero => rfl
  | succ f => unfold stopD; rw [if_neg h]
theorem stop_on {s : List UInt8} {f k : Nat} (h : k < s.length ∧ growsD (s.take (k + 1)) = true) : stopD s (f + 1) k = stopD s f (k + 1) := by
  conv => lhs; unfold stopD
  rw [if_pos h]
theorem grows2_bad {x y : UInt8} (hx : 128 ≤ x.toNat) (h : ¬ (194 ≤ x.toNat ∧ x.toNat ≤ 244)) : growsD [x, y] = false := by
  cases g : growsD [x, y]
  · rfl
  · exfalso
    unfold growsD at g
    rw [if_neg (by simp)] at g
    simp only [List.any_eq_true] at g
    obtain ⟨a, _, f, _, q⟩ := g
    have q2 : growG f 2 [x, y, a] = true := q
    unfold growG growG growG at q2
    rw [Bool.or_eq_true, Bool.or_false, is_full3 hx] at q2
    have q3 : ok3 x y a ∨ ok4 x y a f := q2.imp id fun z => (is_full4 hx).1 z
    unfold ok3 ok4 at q3
    omega
theorem first_bad1 {x : UInt8} {r : List UInt8} (hx : 128 ≤ x.toNat) (h : ¬ (194 ≤ x.toNat ∧ x.toNat ≤ 244)) : firstF (x :: r) = none := by
  have n2 : ∀ y, ¬ fOk [x, y] = true := fun y q => by have := fOk2.1 q; unfold ok2 at this; omega
  have n3 : ∀ y z, ¬ fOk [x, y, z] = true := fun y z q => by have := fOk3.1 q; unfold ok3 at this; omega
  have n4 : ∀ y z u, ¬ fOk [x, y, z, u] = true := fun y z u q => by have := fOk4.1 q; unfold ok4 at this; omega
  match r with
  | [] => exact first_hi1 hx
  | [y] => rw [first_hi2 hx, if_neg (n2 y)]
  | [y, z] => rw [first_hi3 hx, if_neg (n2 y), if_neg (n3 y z)]
  | y :: z :: u :: r => rw [first_hi4 hx, if_neg (n2 y), if_neg (n3 y z), if_neg (n4 y z u)]
/-- Bytes from 128 on. -/
theorem plain_hi (e : Bool) {x : UInt8} (hx : 128 ≤ x.toNat) (r : List UInt8) : Steps (preE e) (x :: r) (preM2 e) (plainD (x :: r)) := by
  have hs : ¬ ((x :: r).headD 0).toNat < 128 := by show ¬ x.toNat < 128; omega
  by_cases f1 : fullB [x] = true
  · have h1 := (full1_iff hx).1 f1
    refine none_step e (n := 1) (first_bad1 hx h1) hs ?_ ?_ (by decide) (by simp) ?_
    · rintro ⟨hl, hg⟩
      match r, hl, hg with
      | [], _, hg => rw [grows1 hx, f1] at hg; cases hg
      | [y], _, hg => rw [grows2_bad hx h1] at hg; cases hg
      | [y, z], _, hg =>
        unfold growsD at hg
        rw [if_neg (by simp)] at hg
        simp only [List.any_eq_true] at hg
        obtain ⟨a, _, f, _, q⟩ := hg
        have q2 : growG f 1 [x, y, z, a] = true := q
        unfold growG growG at q2
        rw [Bool.or_false, is_full4 hx] at q2
        unfold ok4 at q2
        omega
      | y :: z :: u :: r, hl, _ => simp at hl; omega
    · refine stop_at ?_
      rintro ⟨hl, hg⟩
      match r, hl, hg with
      | [], hl, _ => simp at hl
      | y :: r, _, hg => rw [show List.take (1 + 1) (x :: y :: r) = [x, y] from rfl, grows2_bad hx h1] at hg; cases hg
    · exact bad1 e hx f1 r
  · have f1' : fullB [x] = false := by simpa using f1
    have h1 : 194 ≤ x.toNat ∧ x.toNat ≤ 244 := Decidable.byContradiction fun q => f1 ((full1_iff hx).2 q)
    match r with
    | [] =>
      refine hold_step e (first_hi1 hx) hs ⟨by simp, by rw [grows1 hx, f1']; rfl⟩ ?_
      rw [hold1 e hx f1']
      rfl
    | y :: r =>
      by_cases f2 : fullB [x, y] = true
      · by_cases o2 : ok2 x y
        · have hd := (dec2 (y := y) hx).1 o2
          have hf : firstF (x :: y :: r) = some ((((x.toNat - 192) * 64 + (y.toNat - 128) : Nat) : Int), 2) := by
            have hw : worthF [x, y] = (((x.toNat - 192) * 64 + (y.toNat - 128) : Nat) : Int) := by
              rw [worth2]; unfold ok2 at o2; rw [if_neg (by omega)]; omega
            match r with
            | [] => rw [first_hi2 hx, if_pos (fOk2.2 o2), hw]
            | [z] => rw [first_hi3 hx, if_pos (fOk2.2 o2), hw]
            | z :: u :: r => rw [first_hi4 hx, if_pos (fOk2.2 o2), hw]
          unfold ok2 at o2
          refine told_step e hf hs (by decide) (by simp) (by omega) (by omega) (by omega) ?_
          rw [hold1 e hx f1']
          exact good_more e hx (p := []) f2 hd r
        · have hd := (dec2 (y := y) hx).2 o2
          have h2 := (full2_iff (y := y) h1).1 f2
          have n2 : ¬ fOk [x, y] = true := fun q => o2 (fOk2.1 q)
          have n3 : ∀ z, ¬ fOk [x, y, z] = true := fun z q => by have := fOk3.1 q; unfold ok3 at this; exact h2 ⟨this.1, this.2.2.1⟩
          have n4 : ∀ z u, ¬ fOk [x, y, z, u] = true := fun z u q => by have := fOk4.1 q; unfold ok4 at this; exact h2 ⟨by omega, this.2.2.1⟩
          have g2 : growsD [x, y] = false := by rw [grows2 h1, f2]; rfl
          refine none_step e (n := 1) ?_ hs ?_ ?_ (by decide) (by simp) ?_
          · match r with
            | [] => rw [first_hi2 hx, if_neg n2]
            | [z] => rw [first_hi3 hx, if_neg n2, if_neg (n3 z)]
            | z :: u :: r => rw [first_hi4 hx, if_neg n2, if_neg (n3 z), if_neg (n4 z u)]
          · rintro ⟨hl, hg⟩
            match r, hl, hg with
            | [], _, hg => rw [g2] at hg; cases hg
            | [z], _, hg =>
              unfold growsD at hg
              rw [if_neg (by simp)] at hg
              simp only [List.any_eq_true] at hg
              obtain ⟨a, _, f, _, q⟩ := hg
              have q2 : growG f 1 [x, y, z, a] = true := q
              unfold growG growG at q2
              rw [Bool.or_false, is_full4 hx] at q2
              exact n4 z a (fOk4.2 q2)
            | z :: u :: r, hl, _ => simp at hl; omega
          · exact stop_at fun q => by
              have q2 := q.2
              rw [show List.take (1 + 1) (x :: y :: r) = [x, y] from rfl, g2] at q2
              cases q2
          · rw [hold1 e hx f1']
            exact bad_more e hx (p := []) f2 hd r
      · have f2' : fullB [x, y] = false := by simpa using f2
        have h2 : 224 ≤ x.toNat ∧ sndP x.toNat y.toNat := Classical.byContradiction fun q => f2 ((full2_iff h1).2 q)
        have g2 : growsD [x, y] = true := by rw [grows2 h1, f2']; rfl
        have n2 : ¬ fOk [x, y] = true := fun q => by have := fOk2.1 q; unfold ok2 at this; omega
        match r with
        | [] =>
          refine hold_step e (by rw [first_hi2 hx, if_neg n2]) hs ⟨by simp, g2⟩ ?_
          rw [hold1 e hx f1', hold_more e hx (p := []) f2']
          rfl
        | z :: r =>
          have x2 : 224 ≤ x.toNat ∧ x.toNat ≤ 244 := ⟨h2.1, h1.2⟩
          by_cases f3 : fullB [x, y, z] = true
          · by_cases o3 : ok3 x y z
            · have hd := (dec3 (z := z) h2.1 h2.2).1 o3
              have hw : worthF [x, y, z] = (((x.toNat - 224) * 4096 + (y.toNat - 128) * 64 + (z.toNat - 128) : Nat) : Int) := by
                rw [worth3]; unfold ok3 sndP at o3; rw [if_neg (by omega)]; omega
              have hf : firstF (x :: y :: z :: r) = some ((((x.toNat - 224) * 4096 + (y.toNat - 128) * 64 + (z.toNat - 128) : Nat) : Int), 3) := by
                match r with
                | [] => rw [first_hi3 hx, if_neg n2, if_pos (fOk3.2 o3), hw]
                | u :: r => rw [first_hi4 hx, if_neg n2, if_pos (fOk3.2 o3), hw]
              unfold ok3 sndP at o3
              refine told_step e hf hs (by decide) (by simp) (by omega) (by omega) (by omega) ?_
              rw [hold1 e hx f1', hold_more e hx (p := []) f2']
              exact good_more e hx (p := [y]) f3 hd r
            · have hd := (dec3 (z := z) h2.1 h2.2).2 o3
              have h3 := (full3_iff (z := z) x2 h2.2).1 f3
              have n3 : ¬ fOk [x, y, z] = true := fun q => o3 (fOk3.1 q)
              have n4 : ∀ u, ¬ fOk [x, y, z, u] = true := fun u q => by have := fOk4.1 q; unfold ok4 at this; exact h3 ⟨this.1, this.2.2.2.1, this.2.2.2.2.1⟩
              have g3 : growsD [x, y, z] = false := by rw [grows3 x2 h2.2, f3]; rfl
              refine none_step e (n := 2) ?_ hs ?_ ?_ (by decide) (by simp) ?_
              · match r with
                | [] => rw [first_hi3 hx, if_neg n2, if_neg n3]
                | u :: r => rw [first_hi4 hx, if_neg n2, if_neg n3, if_neg (n4 u)]
              · rintro ⟨hl, hg⟩
                match r, hl, hg with
                | [], _, hg => rw [g3] at hg; cases hg
                | u :: r, hl, _ => simp at hl; omega
              · rw [List.length_cons, List.length_cons, stop_on (s := x :: y :: z :: r) (k := 1) ⟨by simp, g2⟩]
                exact stop_at fun q => by
                  have q2 := q.2
                  rw [show List.take (1 + 1 + 1) (x :: y :: z :: r) = [x, y, z] from rfl, g3] at q2
                  cases q2
              · rw [hold1 e hx f1', hold_more e hx (p := []) f2']
                exact bad_more e hx (p := [y]) f3 hd r
          · have f3' : fullB [x, y, z] = false := by simpa using f3
            have h3 : 240 ≤ x.toNat ∧ 128 ≤ z.toNat ∧ z.toNat ≤ 191 := Decidable.byContradiction fun q => f3 ((full3_iff x2 h2.2).2 q)
            have g3 : growsD [x, y, z] = true := by rw [grows3 x2 h2.2, f3']; rfl
            have n3 : ¬ fOk [x, y, z] = true := fun q => by have := fOk3.1 q; unfold ok3 at this; omega
            match r with
            | [] =>
              refine hold_step e (by rw [first_hi3 hx, if_neg n2, if_neg n3]) hs ⟨by simp, g3⟩ ?_
              rw [hold1 e hx f1', hold_more e hx (p := []) f2']
              rw [show x :: ([] ++ [y]) = x :: [y] from rfl, hold_more e hx (p := [y]) f3']
              rfl
            | u :: r =>
              have f4 : fullB [x, y, z, u] = true := full_long
              by_cases o4 : ok4 x y z u
              · have hd := (dec4 (u := u) h3.1 h2.2 h3.2).1 o4
                have hw : worthF [x, y, z, u] = (((x.toNat - 240) * 262144 + (y.toNat - 128) * 4096 + (z.toNat - 128) * 64 + (u.toNat - 128) : Nat) : Int) := by
                  rw [worth4]; unfold ok4 sndP at o4; rw [if_neg (by omega)]; omega
                have hf : firstF (x :: y :: z :: u :: r) = some ((((x.toNat - 240) * 262144 + (y.toNat - 128) * 4096 + (z.toNat - 128) * 64 + (u.toNat - 128) : Nat) : Int), 4) := by
                  rw [first_hi4 hx, if_neg n2, if_neg n3, if_pos (fOk4.2 o4), hw]
                unfold ok4 sndP at o4
                refine told_step e hf hs (by decide) (by simp) (by omega) (by omega) (by omega) ?_
                rw [hold1 e hx f1', hold_more e hx (p := []) f2']
                rw [show x :: ([] ++ [y]) = x :: [y] from rfl, hold_more e hx (p := [y]) f3']
                exact good_more e hx (p := [y, z]) f4 hd r
              · have hd := (dec4 (u := u) h3.1 h2.2 h3.2).2 o4
                have n4 : ¬ fOk [x, y, z, u] = true := fun q => o4 (fOk4.1 q)
                refine none_step e (n := 3) ?_ hs (by simp; omega) ?_ (by decide) (by simp) ?_
                · rw [first_hi4 hx, if_neg n2, if_neg n3, if_neg n4]
                · rw [List.length_cons, List.length_cons, stop_on (s := x :: y :: z :: u :: r) (k := 1) ⟨by simp, g2⟩, stop_on (s := x :: y :: z :: u :: r) (k := 1 + 1) ⟨by simp, g3⟩]
                  exact stop_at fun q => by
                    have q2 := q.2
                    rw [grows_long (by simp)] at q2
                    cases q2
                · rw [hold1 e hx f1', hold_more e hx (p := []) f2']
                  rw [show x :: ([] ++ [y]) = x :: [y] from rfl, hold_more e hx (p := [y]) f3']
                  exact bad_more e hx (p := [y, z]) f4 hd r
end Go.Proofs.YtnehkokppobncaaDoor

namespace Go.Proofs.YtnehkokppobncaaDoor
open Go.RowKit
set_option linter.unusedVariables false
set_option maxRecDepth 100000

def inB (b : UInt8) : Bool := decide (32 ≤ b.toNat ∧ b.toNat ≤ 63)
/-- The document's loop behind ESC and [. -/
def runG (s : List UInt8) : Nat → Nat → Nat
  | 0, i => i
  | f + 1, i => if i < s.length ∧ inB (s.getD i 0) = true ∧ i < 256 then runG s f (i + 1) else i
def moreL : List (List UInt8 × Int) := [([27, 91, 49, 126], 16777221), ([27, 91, 52, 126], 16777222), ([27, 91, 49, 49, 126], 16777227), ([27, 91, 49, 50, 126], 16777228), ([27, 91, 49, 51, 126], 16777229), ([27, 91, 49, 52, 126], 16777230)]
def keyP (t : List UInt8) (k : Int × Int) : Bool := decide (16777217 ≤ k.1) && validB k.1 k.2 && decide (bytesF k.1 k.2 false = t)
/-- The key of a whole sequence, by the document. -/
def keyOfD (t : List UInt8) : Int × Int :=
  match (allF 8).find? (keyP t) with
  | some k => k
  | none => match moreL.find? (fun p => decide (p.1 = t)) with
    | some p => (p.2, 0)
    | none => (0, 0)
def controlD (s : List UInt8) : (Int × Int) × Nat :=
  if runG s 256 2 = 256 then ((0, 0), 256)
  else if runG s 256 2 = s.length then ((0, 0), 0)
  else if (s.getD (runG s 256 2) 0).toNat < 64 ∨ 126 < (s.getD (runG s 256 2) 0).toNat then ((0, 0), runG s 256 2)
  else (keyOfD (s.take (runG s 256 2 + 1)), runG s 256 2 + 1)
theorem cut_parts : ∀ p : List UInt8, ((cutF p).2.2 = true → p = (cutF p).1 ++ 59 :: (cutF p).2.1) ∧ ((cutF p).2.2 = false → (cutF p).1 = p)
  | [] => ⟨fun h => (by cases h), fun _ => rfl⟩
  | c :: r => by
    unfold cutF
    by_cases e : c = 59
    · rw [if_pos e]
      subst e
      exact ⟨fun _ => rfl, fun h => (by cases h)⟩
    · rw [if_neg e]
      have ih := cut_parts r
      exact ⟨fun h => by simp only [List.cons_append]; rw [← ih.1 h], fun h => by simp only; rw [ih.2 h]⟩
theorem find_is {p : Sp → Bool} : ∀ {l : List Sp} {i k : Nat}, findT p l i = some k → ∃ j s, k = i + j ∧ l[j]? = some s ∧ p s = true
  | [], _, _, h => by cases h
  | a :: r, i, k, h => by
    unfold findT at h
    split at h
    · rename_i q
      cases h
      exact ⟨0, a, rfl, rfl, q⟩
    · obtain ⟨j, s, h1, h2, h3⟩ := find_is h
      exact ⟨j + 1, s, by omega, by simpa using h2, h3⟩
/-- What a table's row says of the two ways to write it. -/
theorem sp_facts : ∀ i : Fin 22, let s := spT.getD i.val ⟨[], [], [], []⟩
    (s.letter = [] → s.head = [27, 91] ∧ ∀ m : Fin 8, bytesF (16777217 + (i.val : Int)) (m.val : Int) false = [27, 91] ++ s.number ++ (if 0 < m.val then [59, UInt8.ofNat (49 + m.val)] else []) ++ [126]) ∧
    (s.letter ≠ [] → (∀ m : Fin 8, 0 < m.val → bytesF (16777217 + (i.val : Int)) (m.val : Int) false = [27, 91, 49, 59, UInt8.ofNat (49 + m.val)] ++ s.letter) ∧ (s.head = [27, 91] → bytesF (16777217 + (i.val : Int)) 0 false = [27, 91] ++ s.letter) ∧ (s.number ≠ [] → ([27, 91] ++ s.number ++ [126], 16777217 + (i.val : Int)) ∈ moreL)) := by decide
theorem mods_is {l : List UInt8} (h : modsF l ≠ 0) : ∃ c, l = [c] ∧ 49 < c.toNat ∧ c.toNat ≤ 56 ∧ modsF l = (c.toNat : Int) - 49 := by
  unfold modsF at h ⊢
  match l with
  | [] => exact absurd rfl h
  | [c] =>
    simp only at h ⊢
    split at h
    · rename_i q
      refine ⟨c, rfl, q.1, q.2, ?_⟩
      rw [if_pos q]
    · exact absurd rfl h
  | _ :: _ :: _ => exact absurd rfl h
theorem u8_back {c : UInt8} {m : Nat} (h : c.toNat = 49 + m) : UInt8.ofNat (49 + m) = c := by
  apply UInt8.toNat_inj.1
  rw [UInt8.toNat_ofNat', h]
  have := c.toNat_lt
  omega
/-- What the program tells of a sequence is a key's bytes, or one more that is known. -/
theorem seq_forth {p : List UInt8} {b : UInt8} {c m : Int} (h : inSeqF p [b] = (c, m)) (h0 : c ≠ 0) :
    (validB c m = true ∧ 16777217 ≤ c ∧ c ≤ 16777239 ∧ bytesF c m false = 27 :: 91 :: (p ++ [b])) ∨ ((27 :: 91 :: (p ++ [b]), c) ∈ moreL) := by
  by_cases hn : p = [] ∧ [b] = [90]
  · obtain ⟨rfl, hb⟩ := hn
    have hb2 : b = 90 := by simpa using hb
    subst hb2
    have e : inSeqF [] [90] = (16777239, 0) := rfl
    rw [e] at h
    cases h
    exact .inl ⟨by decide, by decide, by decide, rfl⟩
  · obtain ⟨c1, c2⟩ := cut_parts p
    cases hc : (cutF p).2.2 with
    | true =>
      have hp := c1 hc
      by_cases hm : modsF (cutF p).2.1 = 0
      · rw [seq_bad hn hc hm] at h
        cases h
        exact absurd rfl h0
      · rw [seq_mod hn hc hm] at h
        obtain ⟨d, hd1, hd2, hd3, hd4⟩ := mods_is hm
        unfold afterF at h
        split at h
        · rename_i i hi
          obtain ⟨j, s, rfl, hj, hs⟩ := find_is hi
          rw [Nat.zero_add] at h
          have hj2 : j < 22 := (List.getElem?_eq_some_iff.1 hj).1
          have hsp := sp_facts ⟨j, hj2⟩
          have hse : spT.getD j ⟨[], [], [], []⟩ = s := by rw [List.getD_eq_getElem?_getD, hj]; rfl
          simp only [hse] at hsp
          cases h
          obtain ⟨n, hn1⟩ : ∃ n : Nat, d.toNat = 49 + n := ⟨d.toNat - 49, by omega⟩
          have hmn : modsF (cutF p).2.1 = (n : Int) := by rw [hd4]; omega
          have hu := u8_back hn1
          have hv : validB (16777217 + (j : Int)) (n : Int) = true := spc_ok hj2 (by omega) (by omega)
          refine .inl ⟨by rw [hmn]; exact hv, by omega, by omega, ?_⟩
          rw [hmn]
          unfold toldB at hs
          by_cases hb : [b] = [126]
          · rw [if_pos hb] at hs
            simp only [Bool.not_true, Bool.or_false, Bool.and_eq_true, decide_eq_true_eq] at hs
            obtain ⟨⟨s1, s2⟩, s3⟩ := hs
            have := (hsp.1 s3).2 ⟨n, by omega⟩
            simp only at this
            rw [this, if_pos (by omega), hu, hp, hd1, s1, hb]
            simp
          · rw [if_neg hb] at hs
            split at hs
            · cases hs
            · rename_i hl
              have hl2 : [b] = s.letter := Classical.byContradiction fun q => hl q
              simp only [if_true, decide_eq_true_eq] at hs
              have := (hsp.2 (by rw [← hl2]; simp)).1 ⟨n, by omega⟩ (by simp only; omega)
              simp only at this
              rw [this, hu, hp, hd1, hs, ← hl2]
              simp
        · cases h
          exact absurd rfl h0
    | false =>
      have hp := c2 hc
      rw [seq_plain hn hc, hp] at h
      unfold afterF at h
      split at h
      · rename_i i hi
        obtain ⟨j, s, rfl, hj, hs⟩ := find_is hi
        rw [Nat.zero_add] at h
        have hj2 : j < 22 := (List.getElem?_eq_some_iff.1 hj).1
        have hsp := sp_facts ⟨j, hj2⟩
        have hse : spT.getD j ⟨[], [], [], []⟩ = s := by rw [List.getD_eq_getElem?_getD, hj]; rfl
        simp only [hse] at hsp
        cases h
        have hv : validB (16777217 + (j : Int)) 0 = true := spc_ok hj2 (by omega) (by decide)
        unfold toldB at hs
        by_cases hb : [b] = [126]
        · rw [if_pos hb] at hs
          simp only [Bool.not_false, Bool.or_true, Bool.and_true, Bool.and_eq_true, decide_eq_true_eq] at hs
          by_cases hl : s.letter = []
          · refine .inl ⟨hv, by omega, by omega, ?_⟩
            have := (hsp.1 hl).2 ⟨0, by decide⟩
            simp only [Nat.lt_irrefl, if_false] at this
            rw [show ((0 : Nat) : Int) = 0 from rfl] at this
            rw [this, hs.1, hb]
            simp
          · refine .inr ?_
            have := (hsp.2 hl).2.2 (by rw [← hs.1]; exact hs.2)
            rw [hs.1, hb]
            simpa using this
        · rw [if_neg hb] at hs
          split at hs
          · cases hs
          · rename_i hl
            have hl2 : [b] = s.letter := Classical.byContradiction fun q => hl q
            simp only [Bool.false_eq_true, if_false, Bool.and_eq_true, decide_eq_true_eq] at hs
            refine .inl ⟨hv, by omega, by omega, ?_⟩
            rw [(hsp.2 (by rw [← hl2]; simp)).2.1 hs.2, hs.1, ← hl2]
            simp
      · cases h
        exact absurd rfl h0
def backB (k : Int × Int) : Bool := !(decide (16777217 ≤ k.1) && validB k.1 k.2) || (let t := bytesF k.1 k.2 false; !(decide (t.take 2 = [27, 91])) || decide (inSeqF (t.drop 2).dropLast [(t.getLastD 0)] = k))
theorem back_all : (allF 8).all backB = true := by kernel_rfl
theorem back_more : (moreL.all fun q => decide (inSeqF (q.1.drop 2).dropLast [q.1.getLastD 0] = (q.2, 0))) = true := by kernel_rfl
theorem last_of (p : List UInt8) (b : UInt8) : ((27 :: 91 :: (p ++ [b])).drop 2).dropLast = p ∧ (27 :: 91 :: (p ++ [b])).getLastD 0 = b := by
  refine ⟨by simp, ?_⟩
  rw [show (27 :: 91 :: (p ++ [b])) = (27 :: 91 :: p) ++ [b] by simp, List.getLastD_concat]
theorem mem_run {a m : Int} : ∀ {n : Nat} {c : Int}, a ≤ c → c < a + n → (c, m) ∈ runF a m n
  | 0, c, h0, h1 => by omega
  | n + 1, c, h0, h1 => by
    unfold runF
    by_cases e : c = a + n
    · rw [List.mem_append]
      exact .inr (by rw [e]; simp)
    · rw [List.mem_append]
      exact .inl (mem_run h0 (by omega))
theorem mem_all {c : Int} (h0 : 16777217 ≤ c) (h1 : c ≤ 16777239) : ∀ {n : Nat} {m : Int}, 0 ≤ m → m < n → (c, m) ∈ allF n
  | 0, m, a, b => by omega
  | n + 1, m, a, b => by
    unfold allF
    rw [List.mem_append]
    by_cases e : m = n
    · refine .inr ?_
      subst e
      unfold rowF
      rw [List.mem_append]
      exact .inr (mem_run h0 (by omega))
    · exact .inl (mem_all h0 h1 a (by omega))
theorem inSeq_zero {p l : List UInt8} (h : (inSeqF p l).1 = 0) : inSeqF p l = (0, 0) := by
  by_cases hn : p = [] ∧ l = [90]
  · obtain ⟨rfl, rfl⟩ := hn
    exact absurd h (by decide)
  · cases hc : (cutF p).2.2 with
    | true =>
      by_cases hm : modsF (cutF p).2.1 = 0
      · exact seq_bad hn hc hm
      · rw [seq_mod hn hc hm] at h ⊢
        unfold afterF at h ⊢
        split
        · rename_i i hi
          rw [hi] at h
          simp only at h
          omega
        · rfl
    | false =>
      rw [seq_plain hn hc] at h ⊢
      unfold afterF at h ⊢
      split
      · rename_i i hi
        rw [hi] at h
        simp only at h
        omega
      · rfl
/-- The document's key of a sequence is the program's. -/
theorem key_seq (p : List UInt8) (b : UInt8) : keyOfD (27 :: 91 :: (p ++ [b])) = inSeqF p [b] := by
  obtain ⟨l1, l2⟩ := last_of p b
  obtain ⟨t, ht⟩ : ∃ t, 27 :: 91 :: (p ++ [b]) = t := ⟨_, rfl⟩
  have ht2 : t.take 2 = [27, 91] := by rw [← ht]; rfl
  rw [ht] at l1 l2
  rw [ht]
  unfold keyOfD
  split
  · rename_i k hk
    have hm := List.mem_of_find?_eq_some hk
    have hq := List.find?_some hk
    have hb := List.all_eq_true.1 back_all k hm
    unfold keyP at hq
    simp only [Bool.and_eq_true, decide_eq_true_eq] at hq
    unfold backB at hb
    simp only [hq.2, hq.1.1, hq.1.2, ht2, l1, l2, decide_true, Bool.and_self, Bool.not_true, Bool.false_or, decide_eq_true_eq] at hb
    exact hb.symm
  · rename_i hk
    split
    · rename_i q hq
      have hm := List.mem_of_find?_eq_some hq
      have hq2 := List.find?_some hq
      simp only [decide_eq_true_eq] at hq2
      have hb := List.all_eq_true.1 back_more q hm
      simp only [hq2, l1, l2, decide_eq_true_eq] at hb
      exact hb.symm
    · rename_i hq
      obtain ⟨⟨c, m⟩, hcm⟩ : ∃ k, inSeqF p [b] = k := ⟨_, rfl⟩
      by_cases h0 : c = 0
      · have := inSeq_zero (p := p) (l := [b]) (by rw [hcm]; exact h0)
        rw [hcm] at this
        rw [hcm]
        exact this.symm
      · exfalso
        rcases seq_forth hcm h0 with ⟨v, a1, a2, e⟩ | e
        · rw [ht] at e
          have hm7 : 0 ≤ m ∧ m ≤ 7 := by
            unfold validB at v
            rw [if_neg (by omega), if_neg (by simp [oneB]; omega)] at v
            split at v
            · simp at v; omega
            · split at v
              · simpa using v
              · simp [plainM, chrB, ctrlM, ctlB] at v; omega
          have := List.find?_eq_none.1 hk (c, m) (mem_all a1 a2 hm7.1 (by omega))
          unfold keyP at this
          simp only [v, e, a1, decide_true, Bool.and_self] at this
          exact this trivial
        · rw [ht] at e
          have := List.find?_eq_none.1 hq _ e
          simp at this
theorem run_at (s : List UInt8) {f i : Nat} (h : ¬ (i < s.length ∧ inB (s.getD i 0) = true ∧ i < 256)) : runG s f i = i := by
  cases f with
  | zero => rfl
  | succ f => unfold runG; rw [if_neg h]
theorem run_on (s : List UInt8) {f i : Nat} (h : i < s.length ∧ inB (s.getD i 0) = true ∧ i < 256) : runG s (f + 1) i = runG s f (i + 1) := by
  conv => lhs; unfold runG
  rw [if_pos h]
/-- A sequence under way. -/
theorem control_go : ∀ (q p : List UInt8) (f : Nat), p.length + 2 ≤ 255 → 256 - (p.length + 2) ≤ f →
    let S := 27 :: 91 :: (p ++ q)
    let i := runG S f (p.length + 2)
    (p.length + 2 ≤ i ∧ i ≤ S.length ∧ i ≤ 256) ∧ if i = 256 then feedF (27 :: 91 :: p) q = feedF [] (S.drop 256)
    else if i = S.length then feedF (27 :: 91 :: p) q = (S, [])
    else if (S.getD i 0).toNat < 64 ∨ 126 < (S.getD i 0).toNat then feedF (27 :: 91 :: p) q = feedF [] (S.drop i)
    else feedF (27 :: 91 :: p) q = ((feedF [] (S.drop (i + 1))).1, if (inSeqF ((S.take i).drop 2) [S.getD i 0]).1 = 0 then (feedF [] (S.drop (i + 1))).2 else inSeqF ((S.take i).drop 2) [S.getD i 0] :: (feedF [] (S.drop (i + 1))).2)
  | [], p, f, hp, hf => by
    simp only [List.append_nil]
    rw [run_at _ (by simp)]
    refine ⟨by simp; omega, ?_⟩
    rw [if_neg (by omega), if_pos (by simp)]
    rfl
  | b :: q, p, f, hp, hf => by
    simp only
    have hg : (27 :: 91 :: (p ++ b :: q)).getD (p.length + 2) 0 = b := by simp
    have hl : p.length + 2 < (27 :: 91 :: (p ++ b :: q)).length := by simp
    have htake : (27 :: 91 :: (p ++ b :: q)).take (p.length + 2) = 27 :: 91 :: p := by simp
    have hdrop : (27 :: 91 :: (p ++ b :: q)).drop (p.length + 2) = b :: q := by simp
    have hdrop1 : (27 :: 91 :: (p ++ b :: q)).drop (p.length + 2 + 1) = q := by
      rw [← List.drop_drop, hdrop]; rfl
    have hsq : takeF (27 :: 91 :: p) b = seqT (27 :: 91 :: p) b := takeF_seq rfl b
    cases hb : inB b with
    | true =>
      have hb2 : 32 ≤ b.toNat ∧ b.toNat ≤ 63 := by simpa [inB] using hb
      obtain ⟨f', rfl⟩ : ∃ f', f = f' + 1 := ⟨f - 1, by omega⟩
      rw [run_on _ ⟨hl, by rw [hg]; exact hb, by omega⟩]
      by_cases h6 : p.length + 3 = 256
      · rw [run_at _ (fun z => by have := z.2.2; omega)]
        refine ⟨by omega, ?_⟩
        rw [if_pos (by omega)]
        have ht : takeF (27 :: 91 :: p) b = ([], (0, 0)) := by
          rw [hsq]
          unfold seqT
          rw [if_neg (by omega), if_pos (by omega), if_pos (by simp; omega)]
        rw [feed_hold ht, show (256 : Nat) = p.length + 2 + 1 by omega, hdrop1]
      · have ht : takeF (27 :: 91 :: p) b = (27 :: 91 :: (p ++ [b]), (0, 0)) := by
          rw [hsq]
          unfold seqT
          rw [if_neg (by omega), if_pos (by omega), if_neg (by simp; omega)]
          rfl
        have ih := control_go q (p ++ [b]) f' (by simp; omega) (by simp; omega)
        simp only [List.append_assoc, List.length_append, List.length_cons, List.length_nil, List.cons_append, List.nil_append] at ih
        rw [feed_hold ht]
        rw [show p.length + (0 + 1) + 2 = p.length + 2 + 1 by omega] at ih
        refine ⟨⟨by omega, by have := ih.1.2.1; simp at this ⊢; omega, ih.1.2.2⟩, ?_⟩
        have := ih.2
        simpa using this
    | false =>
      have hb2 : ¬ (32 ≤ b.toNat ∧ b.toNat ≤ 63) := by simpa [inB] using hb
      rw [run_at _ (fun z => by rw [hg, hb] at z; cases z.2.1)]
      refine ⟨by omega, ?_⟩
      rw [if_neg (by omega), if_neg (by omega), hg, hdrop, hdrop1, htake]
      by_cases hk : b.toNat < 64 ∨ 126 < b.toNat
      · rw [if_pos hk]
        have ht : takeF (27 :: 91 :: p) b = takeF [] b := by
          rw [hsq]
          unfold seqT
          rw [if_pos (by omega)]
          rfl
        rw [feed_cons, feed_cons, ht]
      · rw [if_neg hk]
        have ht : takeF (27 :: 91 :: p) b = ([], inSeqF p [b]) := by
          rw [hsq]
          unfold seqT
          rw [if_neg (by omega), if_neg (by omega)]
          rfl
        rw [feed_cons, ht]
        rfl
theorem control_step (q : List UInt8) : Steps [] (27 :: 91 :: q) 0 (controlD (27 :: 91 :: q)) := by
  have h := control_go q [] 256 (by decide) (by decide)
  simp only [List.nil_append, List.length_nil, Nat.zero_add] at h
  obtain ⟨⟨i0, i1, i2⟩, h⟩ := h
  have hin : feedF [] (27 :: 91 :: q) = feedF [27, 91] q := by
    rw [feed_hold (show takeF [] 27 = ([27], (0, 0)) from rfl), feed_hold (show takeF [27] 91 = ([27, 91], (0, 0)) from rfl)]
  unfold controlD
  obtain ⟨S, hS⟩ : ∃ S, 27 :: 91 :: q = S := ⟨_, rfl⟩
  have hS2 : S.length = q.length + 2 := by rw [← hS]; rfl
  have hSt : S.take 2 = [27, 91] := by rw [← hS]; rfl
  rw [hS] at hin h i0 i1 i2 ⊢
  obtain ⟨i, hi⟩ : ∃ i, runG S 256 2 = i := ⟨_, rfl⟩
  rw [hi] at h i0 i1 i2 ⊢
  unfold Steps
  simp only [List.nil_append]
  by_cases h1 : i = 256
  · rw [if_pos h1] at h ⊢
    simp only
    rw [if_neg (by decide), hin, h]
    exact ⟨by omega, rfl⟩
  · rw [if_neg h1] at h ⊢
    by_cases h2 : i = S.length
    · rw [if_pos h2] at h ⊢
      simp only
      rw [if_pos trivial, hin, h]
    · rw [if_neg h2] at h ⊢
      by_cases h3 : (S.getD i 0).toNat < 64 ∨ 126 < (S.getD i 0).toNat
      · rw [if_pos h3] at h ⊢
        simp only
        rw [if_neg (by omega), hin, h]
        exact ⟨by omega, rfl⟩
      · rw [if_neg h3] at h ⊢
        simp only
        have hk : keyOfD (S.take (i + 1)) = inSeqF ((S.take i).drop 2) [S.getD i 0] := by
          rw [← key_seq]
          congr 1
          have hx : i < S.length := by omega
          rw [List.take_succ_eq_append_getElem hx]
          have hg : S.getD i 0 = S[i] := by rw [List.getD_eq_getElem?_getD, List.getElem?_eq_getElem hx]; rfl
          rw [hg]
          have : S.take i = 27 :: 91 :: (S.take i).drop 2 := by
            have e := List.take_append_drop 2 (S.take i)
            rw [List.take_take, Nat.min_eq_left i0, hSt] at e
            exact e.symm
          rw [this]
          simp
        rw [if_neg (by omega), hin, h, hk]
        refine ⟨by omega, ?_⟩
        rw [Int.add_zero]
/-- The document's key behind ESC and O. -/
def shiftD (b : UInt8) : Int × Int :=
  match findT (fun s => decide (s.letter = [b])) spT 0 with
  | some i => (16777217 + (i : Int), 0)
  | none => (0, 0)
theorem find_none {p : Sp → Bool} : ∀ {l : List Sp} {i : Nat}, (∀ s ∈ l, p s = false) → findT p l i = none
  | [], _, _ => rfl
  | a :: r, i, h => by
    unfold findT
    rw [if_neg (by rw [h a (by simp)]; decide)]
    exact find_none fun s hs => h s (by simp [hs])
theorem letter_low : ∀ s ∈ spT, s.letter.all (fun b => decide (b.toNat < 128)) = true ∧ s.letter.length ≤ 1 := by decide
theorem shift_is (b : UInt8) : inShiftF (Lib.encodeRune (b.toNat : Int)) = shiftD b := by
  by_cases h : b.toNat < 128
  · have e : Lib.encodeRune (b.toNat : Int) = [b] := by
      unfold Lib.encodeRune
      rw [Lib.encodeRuneZ_one (by omega) (by omega)]
      show [((b.toNat : Int)).toNat.toUInt8] = [b]
      rw [u8_of_nat (x := b) (by omega) (by omega) rfl]
    unfold inShiftF shiftD
    rw [e]
    cases findT (fun s => decide (s.letter = [b])) spT 0 <;> rfl
  · have e1 : findT (fun s => decide (s.letter = Lib.encodeRune (b.toNat : Int))) spT 0 = none := find_none fun s hs => by
      have h1 := letter_low s hs
      refine decide_eq_false fun q => ?_
      rw [q] at h1
      have h2 : (Lib.encodeRune (b.toNat : Int)).length = 2 := by
        have hb := b.toNat_lt
        rw [← r8_enc (by omega) (by omega) (by omega)]
        unfold r8F
        rw [if_neg (by omega), if_pos (by omega)]
        rfl
      omega
    have e2 : findT (fun s => decide (s.letter = [b])) spT 0 = none := find_none fun s hs => by
      have h1 := letter_low s hs
      refine decide_eq_false fun q => ?_
      rw [q] at h1
      have := h1.1
      simp at this
      omega
    unfold inShiftF shiftD
    rw [e1, e2]
/-- The document's meta. -/
def metaD (s : List UInt8) : (Int × Int) × Nat :=
  if (s.getD 1 0) = 27 then ((27, 2), 2)
  else if (plainD (s.drop 1)).2 = 0 then ((0, 0), 0)
  else (if (plainD (s.drop 1)).1 = (0, 0) then (0, 0) else ((plainD (s.drop 1)).1.1, (plainD (s.drop 1)).1.2 + 2), (plainD (s.drop 1)).2 + 1)
/-- The document's begin. -/
def beginD (s : List UInt8) : (Int × Int) × Nat :=
  if s.headD 0 ≠ 27 then plainD s
  else if s.length = 1 then ((0, 0), 0)
  else if s.getD 1 0 = 91 then controlD s
  else if s.getD 1 0 = 79 then (if s.length < 3 then ((0, 0), 0) else (shiftD (s.getD 2 0), 3))
  else metaD s
theorem lone_not : ∀ b : Fin 128, (loneF b.val).1 ≠ 0 := by decide
theorem plain_low {x : UInt8} (hx : x.toNat < 128) (r : List UInt8) : plainD (x :: r) = (loneF x.toNat, 1) := by
  unfold plainD
  rw [if_pos (by exact hx)]
  rfl
theorem plain_zero {x : UInt8} (hx : ¬ x.toNat < 128) (r : List UInt8) (h : (plainD (x :: r)).1.1 = 0) : (plainD (x :: r)).1 = (0, 0) := by
  unfold plainD at h ⊢
  rw [if_neg (by exact hx)] at h ⊢
  split
  · rename_i p hp
    rw [hp] at h
    simp only at h
    split
    · rfl
    · rename_i q
      rw [if_neg q] at h
      simp only at h
      omega
  · split <;> rfl
theorem begin_steps {s : List UInt8} (hs : s ≠ []) : Steps [] s 0 (beginD s) := by
  match s, hs with
  | x :: r, _ =>
    by_cases h27 : x = 27
    · subst h27
      match r with
      | [] =>
        have : beginD [27] = ((0, 0), 0) := rfl
        rw [this]
        unfold Steps
        rw [if_pos rfl]
        rfl
      | y :: r =>
        have hb : beginD (27 :: y :: r) = if y = 91 then controlD (27 :: y :: r) else if y = 79 then (if (27 :: y :: r).length < 3 then ((0, 0), 0) else (shiftD ((27 :: y :: r).getD 2 0), 3)) else metaD (27 :: y :: r) := by
          unfold beginD
          rw [if_neg (by simp), if_neg (by simp)]
          rfl
        rw [hb]
        by_cases h91 : y = 91
        · rw [if_pos h91]
          subst h91
          exact control_step r
        · rw [if_neg h91]
          by_cases h79 : y = 79
          · rw [if_pos h79]
            subst h79
            cases r with
            | nil =>
              rw [if_pos (by simp)]
              unfold Steps
              rw [if_pos rfl]
              rfl
            | cons b r =>
              rw [if_neg (by simp)]
              unfold Steps
              simp only
              rw [if_neg (by decide)]
              refine ⟨by simp, ?_⟩
              have t1 : feedF [] (27 :: 79 :: b :: r) = feedF [27, 79] (b :: r) := by
                rw [feed_hold (show takeF [] 27 = ([27], (0, 0)) from rfl), feed_hold (show takeF [27] 79 = ([27, 79], (0, 0)) from rfl)]
              show feedF [] (27 :: 79 :: b :: r) = _
              rw [t1, feed_cons, takeF_shift rfl, shift_is]
              show ((feedF [] r).1, if (shiftD b).1 = 0 then (feedF [] r).2 else shiftD b :: (feedF [] r).2) = ((feedF [] r).1, if (shiftD b).1 = 0 then (feedF [] r).2 else ((shiftD b).1, (shiftD b).2 + 0) :: (feedF [] r).2)
              rw [Int.add_zero]
          · rw [if_neg h79]
            have hm : metaD (27 :: y :: r) = if y = 27 then ((27, 2), 2) else if (plainD (y :: r)).2 = 0 then ((0, 0), 0) else (if (plainD (y :: r)).1 = (0, 0) then (0, 0) else ((plainD (y :: r)).1.1, (plainD (y :: r)).1.2 + 2), (plainD (y :: r)).2 + 1) := rfl
            rw [hm]
            by_cases hy : y.toNat < 128
            · have t1 : feedF [] (27 :: y :: r) = feedF [27] (y :: r) := feed_hold (show takeF [] 27 = ([27], (0, 0)) from rfl)
              have t2 : takeF [27] y = ([], mods2 (loneF y.toNat)) := by
                have e : takeF [27] y = if y = 91 ∨ y = 79 then ([27, y], (0, 0)) else if y.toNat < 128 then ([], mods2 (loneF y.toNat)) else chF [27] y := rfl
                rw [e, if_neg (by rintro (q | q); exact h91 q; exact h79 q), if_pos hy]
              have hl := lone_not ⟨y.toNat, hy⟩
              simp only at hl
              have hfe : feedF [] (27 :: y :: r) = ((feedF [] r).1, ((loneF y.toNat).1, (loneF y.toNat).2 + 2) :: (feedF [] r).2) := by
                rw [t1, feed_cons, t2]
                show ((feedF [] r).1, if (loneF y.toNat).1 = 0 then _ else _) = _
                rw [if_neg hl]
                rfl
              by_cases hy27 : y = 27
              · rw [if_pos hy27]
                subst hy27
                unfold Steps
                simp only [List.nil_append]
                rw [if_neg (by decide), hfe]
                exact ⟨by simp, rfl⟩
              · have hme : (if y = 27 then (((27 : Int), (2 : Int)), 2) else if (plainD (y :: r)).2 = 0 then ((0, 0), 0) else (if (plainD (y :: r)).1 = (0, 0) then (0, 0) else ((plainD (y :: r)).1.1, (plainD (y :: r)).1.2 + 2), (plainD (y :: r)).2 + 1)) = (((loneF y.toNat).1, (loneF y.toNat).2 + 2), 2) := by
                  rw [if_neg hy27, plain_low hy]
                  simp only
                  rw [if_neg (show ¬ (1 : Nat) = 0 by decide), if_neg (fun q => hl (congrArg Prod.fst q))]
                rw [hme]
                unfold Steps
                simp only [List.nil_append]
                rw [if_neg (show ¬ (2 : Nat) = 0 by decide), if_neg hl, hfe, Int.add_zero]
                exact ⟨by simp, rfl⟩
            · rw [if_neg (fun e => by rw [e] at hy; exact hy (by decide))]
              have hp := plain_hi true (x := y) (by omega) r
              unfold Steps at hp ⊢
              simp only [List.nil_append]
              have hpe : preE true ++ y :: r = 27 :: y :: r := rfl
              rw [hpe] at hp
              obtain ⟨⟨⟨k1, k2⟩, n⟩, hpq⟩ : ∃ q, plainD (y :: r) = q := ⟨_, rfl⟩
              have hpz := plain_zero hy r
              rw [hpq] at hp hpz ⊢
              simp only at hp hpz ⊢
              by_cases h0 : n = 0
              · rw [if_pos h0] at hp ⊢
                rw [if_pos rfl]
                exact hp
              · rw [if_neg h0] at hp ⊢
                obtain ⟨hp1, hp2⟩ := hp
                simp only
                rw [if_neg (by omega)]
                refine ⟨by simp only [List.length_cons] at hp1 ⊢; omega, ?_⟩
                rw [hp2, List.drop_succ_cons]
                by_cases hz : k1 = 0
                · have hz2 := hpz hz
                  rw [if_pos hz2, if_pos rfl, if_pos hz]
                · have hz2 : ¬ (k1, k2) = (0, 0) := fun q => hz (congrArg Prod.fst q)
                  rw [if_neg hz2, if_neg hz, if_neg hz, Int.add_zero]
                  rfl
    · have hb : beginD (x :: r) = plainD (x :: r) := by
        unfold beginD
        rw [if_pos (by exact h27)]
      rw [hb]
      by_cases hx : x.toNat < 128
      · rw [plain_low hx]
        have hl := lone_not ⟨x.toNat, hx⟩
        simp only at hl
        unfold Steps
        simp only [List.nil_append]
        have t : takeF [] x = ([], loneF x.toNat) := by
          show take0 x = _
          unfold take0
          rw [if_neg h27, if_pos hx]
        rw [if_neg (by decide), if_neg hl, feed_cons, t]
        simp only
        rw [if_neg hl, Int.add_zero]
        exact ⟨by simp, rfl⟩
      · exact plain_hi false (by omega) r
theorem begin_zero {s : List UInt8} (hs : s ≠ []) (h : (beginD s).1.1 = 0) : (beginD s).1 = (0, 0) := by
  match s, hs with
  | x :: r, _ =>
    unfold beginD at h ⊢
    split
    · rename_i h27
      rw [if_pos h27] at h
      by_cases hx : x.toNat < 128
      · rw [plain_low hx] at h
        exact absurd h (lone_not ⟨x.toNat, hx⟩)
      · exact plain_zero hx r h
    · rename_i h27
      rw [if_neg h27] at h
      split
      · rfl
      · rename_i h1
        rw [if_neg h1] at h
        split
        · rename_i h91
          rw [if_pos h91] at h
          unfold controlD at h ⊢
          split
          · rfl
          · rename_i a1
            rw [if_neg a1] at h
            split
            · rfl
            · rename_i a2
              rw [if_neg a2] at h
              split
              · rfl
              · rename_i a3
                rw [if_neg a3] at h
                simp only at h ⊢
                unfold keyOfD at h ⊢
                split
                · rename_i k hk
                  rw [hk] at h
                  simp only at h
                  have hq := List.find?_some hk
                  unfold keyP at hq
                  simp only [Bool.and_eq_true, decide_eq_true_eq] at hq
                  omega
                · rename_i hk
                  rw [hk] at h
                  simp only at h
                  split
                  · rename_i p hp
                    rw [hp] at h
                    simp only at h
                    have hm := List.mem_of_find?_eq_some hp
                    have : ∀ p ∈ moreL, p.2 ≠ 0 := by decide
                    exact absurd h (this p hm)
                  · rfl
        · rename_i h91
          rw [if_neg h91] at h
          split
          · rename_i h79
            rw [if_pos h79] at h
            split
            · rfl
            · rename_i a1
              rw [if_neg a1] at h
              simp only at h ⊢
              unfold shiftD at h ⊢
              split
              · rename_i i hi
                rw [hi] at h
                simp only at h
                omega
              · rfl
          · rename_i h79
            rw [if_neg h79] at h
            unfold metaD at h ⊢
            split
            · rename_i b1
              rw [if_pos b1] at h
              exact absurd h (by decide)
            · rename_i b1
              rw [if_neg b1] at h
              split
              · rfl
              · rename_i b2
                rw [if_neg b2] at h
                simp only at h ⊢
                split
                · rfl
                · rename_i b3
                  rw [if_neg b3] at h
                  exfalso
                  simp only at h
                  match r, h1, b3, h with
                  | [], h1, _, _ => exact h1 rfl
                  | y :: r, _, b3, h =>
                    have b4 : (plainD (y :: r)).1 ≠ (0, 0) := b3
                    have h4 : (plainD (y :: r)).1.1 = 0 := h
                    by_cases hy : y.toNat < 128
                    · rw [plain_low hy] at h4
                      exact absurd h4 (lone_not ⟨y.toNat, hy⟩)
                    · exact b4 (plain_zero hy r h4)
/-- What is held holds itself. -/
theorem feed_held : ∀ (n : Nat) (s : List UInt8), s.length ≤ n → feedF [] (feedF [] s).1 = ((feedF [] s).1, [])
  | n, [], _ => rfl
  | 0, _ :: _, h => by simp at h
  | n + 1, x :: r, h => by
    have hb := begin_steps (s := x :: r) (by simp)
    unfold Steps at hb
    simp only [List.nil_append] at hb
    split at hb
    · rw [hb]
      exact hb
    · rename_i q
      rw [hb.2]
      exact feed_held n _ (by rw [List.length_drop]; simp only [List.length_cons] at h ⊢; omega)
theorem feed_shorter : ∀ (n : Nat) (s : List UInt8), s.length ≤ n → (feedF [] s).1.length ≤ s.length
  | n, [], _ => by simp [feedF]
  | 0, _ :: _, h => by simp at h
  | n + 1, x :: r, h => by
    have hb := begin_steps (s := x :: r) (by simp)
    unfold Steps at hb
    simp only [List.nil_append] at hb
    split at hb
    · rw [hb]
      exact Nat.le_refl _
    · rename_i q
      rw [hb.2]
      have := feed_shorter n ((x :: r).drop (beginD (x :: r)).2) (by rw [List.length_drop]; simp only [List.length_cons] at h ⊢; omega)
      rw [List.length_drop] at this
      simp only
      omega
theorem held_none {s : List UInt8} (hs : s ≠ []) (h : feedF [] s = (s, [])) : (beginD s).2 = 0 := by
  have hb := begin_steps hs
  unfold Steps at hb
  simp only [List.nil_append] at hb
  split at hb
  · rename_i q; exact q
  · rename_i q
    exfalso
    have h1 : (feedF [] (s.drop (beginD s).2)).1 = s := by
      have := congrArg Prod.fst (hb.2.symm.trans h)
      exact this
    have h2 := feed_shorter _ (s.drop (beginD s).2) (Nat.le_refl _)
    rw [h1, List.length_drop] at h2
    have : 0 < s.length := List.length_pos_iff.2 hs
    omega
/-- What Flush reads first, by the document. -/
def flP (s : List UInt8) : (Int × Int) × Nat := if s = [27] then ((27, 0), 1) else if s.headD 0 = 27 then metaD s else plainD s
def flD : Nat → List UInt8 → List (Int × Int)
  | 0, _ => []
  | f + 1, s => if s = [] then [] else if (flP s).2 = 0 then [] else (if (flP s).1 = (0, 0) then [] else [(flP s).1]) ++ flD f (s.drop (flP s).2)
theorem fl_low : ∀ (q : List UInt8) (f : Nat), q.length ≤ f → (∀ b ∈ q, 32 ≤ b.toNat ∧ b.toNat < 128) → flD f q = flushF.go q 0
  | [], 0, _, _ => rfl
  | [], f + 1, _, _ => rfl
  | b :: q, 0, h, _ => by simp at h
  | b :: q, f + 1, h, hb => by
    have h0 := hb b (by simp)
    have h27 : b ≠ 27 := fun e => by rw [e] at h0; exact absurd h0.1 (by decide)
    have hp : flP (b :: q) = (((b.toNat : Int), 0), 1) := by
      unfold flP
      rw [if_neg (by simp [h27]), if_neg (by exact h27), plain_low h0.2]
      unfold loneF
      rw [if_pos (.inl h0.1)]
    unfold flD
    rw [if_neg (by simp), hp, if_neg (show ¬ (1 : Nat) = 0 by decide), if_neg (by intro e; have := congrArg Prod.fst e; simp only at this; omega)]
    show [((b.toNat : Int), (0 : Int))] ++ flD f q = flushF.go (b :: q) 0
    unfold flushF.go
    rw [if_neg (by omega), ← fl_low q f (by simpa using h) fun c hc => hb c (by simp [hc])]
    unfold loneF
    rw [if_pos (.inl h0.1)]
    rfl
theorem run_low : ∀ (q p : List UInt8) (f : Nat), runG (27 :: 91 :: (p ++ q)) f (p.length + 2) = (27 :: 91 :: (p ++ q)).length → ∀ b ∈ q, inB b = true
  | [], _, _, _, _, hb => by cases hb
  | c :: q, p, 0, h, b, hb => by
    simp [runG] at h
  | c :: q, p, f + 1, h, b, hb => by
    have hg : (27 :: 91 :: (p ++ c :: q)).getD (p.length + 2) 0 = c := by simp
    by_cases hc : p.length + 2 < (27 :: 91 :: (p ++ c :: q)).length ∧ inB ((27 :: 91 :: (p ++ c :: q)).getD (p.length + 2) 0) = true ∧ p.length + 2 < 256
    · rw [run_on _ hc] at h
      have hi : inB c = true := by rw [← hg]; exact hc.2.1
      rcases List.mem_cons.1 hb with e | e
      · rw [e]; exact hi
      · refine run_low q (p ++ [c]) f ?_ b e
        simp only [List.append_assoc, List.length_append, List.length_cons, List.length_nil, List.cons_append, List.nil_append] at h ⊢
        rw [show p.length + (0 + 1) + 2 = p.length + 2 + 1 by omega]
        rw [h]
    · rw [run_at _ hc] at h
      simp at h
/-- What Flush tells of what is held. -/
theorem flush_is {h : List UInt8} (hh : feedF [] h = (h, [])) : flD h.length h = flushF h := by
  match h, hh with
  | [], _ => rfl
  | x :: r, hh =>
    have h0 := held_none (by simp) hh
    by_cases h27 : x = 27
    · subst h27
      cases r with
      | nil => rfl
      | cons y r =>
        have hb : beginD (27 :: y :: r) = if y = 91 then controlD (27 :: y :: r) else if y = 79 then (if (27 :: y :: r).length < 3 then ((0, 0), 0) else (shiftD ((27 :: y :: r).getD 2 0), 3)) else metaD (27 :: y :: r) := by
          unfold beginD
          rw [if_neg (by simp), if_neg (by simp)]
          rfl
        have hfl : flP (27 :: y :: r) = metaD (27 :: y :: r) := by
          unfold flP
          rw [if_neg (by simp), if_pos (show (27 :: y :: r).headD 0 = 27 from rfl)]
        have hm : metaD (27 :: y :: r) = if y = 27 then ((27, 2), 2) else if (plainD (y :: r)).2 = 0 then ((0, 0), 0) else (if (plainD (y :: r)).1 = (0, 0) then (0, 0) else ((plainD (y :: r)).1.1, (plainD (y :: r)).1.2 + 2), (plainD (y :: r)).2 + 1) := rfl
        rw [hb] at h0
        by_cases h91 : y = 91
        · rw [if_pos h91] at h0
          subst h91
          have hr : ∀ b ∈ r, 32 ≤ b.toNat ∧ b.toNat < 128 := by
            have hrun : runG (27 :: 91 :: r) 256 2 = (27 :: 91 :: r).length := by
              unfold controlD at h0
              split at h0
              · cases h0
              · split at h0
                · rename_i q; exact q
                · split at h0
                  · rename_i a1 a2 a3
                    simp only at h0
                    have := control_go r [] 256 (by decide) (by decide)
                    simp only [List.nil_append, List.length_nil, Nat.zero_add] at this
                    omega
                  · cases h0
            intro b hb
            have := run_low r [] 256 hrun b hb
            unfold inB at this
            have := of_decide_eq_true this
            omega
          show flD (r.length + 1 + 1) _ = _
          unfold flD
          have hme : metaD (27 :: 91 :: r) = ((91, 2), 2) := by
            rw [hm, if_neg (show ¬ (91 : UInt8) = 27 by decide), plain_low (show (91 : UInt8).toNat < 128 by decide)]
            rfl
          rw [if_neg (by simp), hfl, hme]
          show [((91 : Int), (2 : Int))] ++ flD (r.length + 1) r = flushF (27 :: 91 :: r)
          rw [fl_low r _ (Nat.le_succ _) hr]
          rfl
        · rw [if_neg h91] at h0
          by_cases h79 : y = 79
          · rw [if_pos h79] at h0
            subst h79
            cases r with
            | nil => rfl
            | cons b r => rw [if_neg (by simp)] at h0; cases h0
          · rw [if_neg h79] at h0
            have h1 : 128 ≤ y.toNat := by
              refine Nat.le_of_not_lt fun q => ?_
              rw [hm] at h0
              split at h0
              · cases h0
              · rw [plain_low q, if_neg (show ¬ (1 : Nat) = 0 by decide)] at h0
                cases h0
            show flD (r.length + 1 + 1) _ = _
            unfold flD
            rw [if_neg (by simp), hfl, if_pos h0]
            have e : flushF (27 :: y :: r) = flushF.go (y :: r) 2 := rfl
            rw [e]
            unfold flushF.go
            rw [if_pos h1]
    · have hb : beginD (x :: r) = plainD (x :: r) := by
        unfold beginD
        rw [if_pos (by exact h27)]
      rw [hb] at h0
      have h1 : 128 ≤ x.toNat := Nat.le_of_not_lt fun q => by rw [plain_low q] at h0; cases h0
      have hfl : flP (x :: r) = plainD (x :: r) := by
        unfold flP
        rw [if_neg (by simp [h27]), if_neg (by exact h27)]
      show flD (r.length + 1) _ = _
      unfold flD
      rw [if_neg (by simp), hfl, if_pos h0]
      have e : flushF (x :: r) = flushF.go (x :: r) 0 := by
        unfold flushF
        rw [behind_hi h1]
        rfl
      rw [e]
      unfold flushF.go
      rw [if_pos h1]
end Go.Proofs.YtnehkokppobncaaDoor
