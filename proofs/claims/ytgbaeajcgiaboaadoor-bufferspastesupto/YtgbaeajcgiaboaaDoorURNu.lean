/-
  Buffers: the document's numerals.
-/
import Derived.Test.YtgbaeajcgiaboaaDoorUNam
namespace Go.Proofs.YtgbaeajcgiaboaaDoor
open Go.RowKit
open Go.Lib (decDigits)
set_option linter.unusedVariables false
set_option maxRecDepth 100000

/-- A numeral of one digit, and of more. -/
theorem putL_one {n : Int} (h0 : 0 ≤ n) (h : n < 10) {c : UInt8} (hc : 48 + n = (c.toNat : Int)) : putL n = [c] := by
  rw [putL_in ⟨h0, by omega⟩, dec_small (by omega)]
  congr 1
  apply UInt8.toNat_inj.1
  rw [digit_nat (by omega)]
  omega
theorem putL_more {n : Int} (h0 : 10 ≤ n) (h : n ≤ 4611686018427387904) : putL n = putL (n / 10) ++ putL (n % 10) := by
  rw [putL_in ⟨by omega, h⟩, putL_in ⟨by omega, by omega⟩, putL_in ⟨by omega, by omega⟩, dec_big (by omega), dec_small (u := (n % 10).toNat) (by omega)]
  congr 2
  · omega
  · congr 2
    omega

theorem str_cat (a b : List UInt8) : str a ++ str b = str (a ++ b) := by
  apply Go.WideShapes.bytes_inj
  rw [ByteArray.data_append, Array.toList_append]
  rfl

theorem refPutNumber_nat : ∀ (m : Nat) (n : Int) (w : World), n.toNat = m → -9223372036854775808 ≤ n → n ≤ 9223372036854775807 →
    Calls Tryd.prog 50 #[.int .i64 n] w fun e w' => e = .returned (.string (str (putL n))) ∧ Below w.heap.size w w' := by
  intro m
  induction m using Nat.strongRecOn with
  | _ m ih =>
    intro n w hm h0 h1
    have IH := (show Hid _ from ih)
    clear ih
    by_cases hneg : n < 0
    · have HE : Hid (putL n = []) := putL_out (by omega)
      rw [HE.out]
      clear hm
      go_enter Tryd.func50, Tryd.ntmps50
      go_wp2
      go_ret
      exact ⟨rfl, Below.refl _ _⟩
    · by_cases hbig : 4611686018427387904 < n
      · have HE : Hid (putL n = []) := putL_out (by omega)
        rw [HE.out]
        clear hm
        go_enter Tryd.func50, Tryd.ntmps50
        go_wp2
        go_ret
        exact ⟨rfl, Below.refl _ _⟩
      · by_cases h10 : n < 10
        · obtain ⟨c, hc⟩ : ∃ c : UInt8, 48 + n = (c.toNat : Int) := ⟨UInt8.ofNat (48 + n.toNat), by rw [UInt8.toNat_ofNat']; omega⟩
          have HE : Hid (putL n = [c]) := putL_one (by omega) h10 hc
          rw [HE.out]
          have hcv := (Owns.made w w.heap.size [c] (Nat.le_refl _) (show 1 ≤ maxLen by decide)).text (P := Tryd.prog) 93 9 5 Tryd.underlying93 Tryd.underlying5 Tryd.underlying9
          have hcw : (convert 93 9 (.slice (some ⟨w.heap.size, 0, none⟩) 1 1)).run Tryd.prog (w.alloc (.cells #[.int .u8 (c.toNat : Int)] 5)) = .ok (.string (str [c])) (w.alloc (.cells #[.int .u8 (c.toNat : Int)] 5)) := hcv
          have hcb : c.toNat < 256 := UInt8.toNat_lt c
          clear hcv hm
          go_enter Tryd.func50, Tryd.ntmps50
          go_wp2
          go_ret
          exact ⟨rfl, (Below.refl _ _).alloc (Nat.le_refl _) _⟩
        · have HE : Hid (putL n = putL (n / 10) ++ putL (n % 10)) := putL_more (by omega) (by omega)
          obtain ⟨q, hq⟩ : ∃ q, n / 10 = q := ⟨_, rfl⟩
          obtain ⟨r, hr⟩ : ∃ r, n % 10 = r := ⟨_, rfl⟩
          rw [HE.out, hq, hr]
          have A1 : Hid (∀ W, Calls Tryd.prog 50 #[.int .i64 q] W fun e w' => e = .returned (.string (str (putL q))) ∧ Below W.heap.size W w') := fun W => IH.out q.toNat (by omega) q W rfl (by omega) (by omega)
          have A2 : Hid (∀ W, Calls Tryd.prog 50 #[.int .i64 r] W fun e w' => e = .returned (.string (str (putL r))) ∧ Below W.heap.size W w') := fun W => IH.out r.toNat (by omega) r W rfl (by omega) (by omega)
          have z1 : (str (putL q)).size ≤ 19 := by rw [str_size]; exact putL_length _
          have z2 : (str (putL r)).size ≤ 19 := by rw [str_size]; exact putL_length _
          clear IH hm HE
          go_enter Tryd.func50, Tryd.ntmps50
          go_wp2_with fail
          refine (A1.out _).mono ?_
          rintro e w1 ⟨rfl, hb1⟩
          go_wp2_with fail
          refine (A2.out _).mono ?_
          rintro e w2 ⟨rfl, hb2⟩
          go_wp2
          go_ret
          exact ⟨ret_str (str_cat _ _), hb1.trans (hb2.mono hb1.size)⟩

theorem refPutNumber_any (n : Int) (w : World) (h0 : -9223372036854775808 ≤ n) (h1 : n ≤ 9223372036854775807) :
    Calls Tryd.prog 50 #[.int .i64 n] w fun e w' => e = .returned (.string (str (putL n))) ∧ Below w.heap.size w w' :=
  refPutNumber_nat n.toNat n w rfl h0 h1

theorem rput_any (n : Nat) (w : World) (h : n ≤ 4000000000) : Calls Tryd.prog 50 #[.int .i64 (n : Int)] w fun e w' => e = .returned (.string (str (decDigits n))) ∧ Below w.heap.size w w' := by
  have := refPutNumber_any (n : Int) w (by omega) (by omega)
  rw [putL_nat (by omega)] at this
  exact this
end Go.Proofs.YtgbaeajcgiaboaaDoor
