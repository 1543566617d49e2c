/-
  Formats: sums, products, quotients.
  Formats: decimal digits read, at most nineteen of them.
  Formats: whole numbers read.
-/
import Derived.Test.YtlfcjcaofhcfnaaGreatDoorGF
import Derived.Test.YtlfcjcaofhcfnaaGreatDoorShelf
import Derived.Test.YtlfcjcaofhcfnaaGreatDoorGE
import Derived.WalkSpells
namespace Go.Proofs.YtlfcjcaofhcfnaaGreatDoor
open Go.RowKit
set_option linter.unusedVariables false
set_option maxRecDepth 20000

theorem size_any (a : Int) (h : NumIn a) (w : World) : Calls Tryz.prog 106 #[.int .i64 a] w fun e w' => e = .returned (.int .u64 (a.natAbs : Int)) ∧ w = w' := by
  obtain ⟨h1, h2⟩ := h
  by_cases h0 : a < 0
  · have e : (a.natAbs : Int) = -a := by omega
    rw [e]
    clear e
    go_enter Tryz.func106, Tryz.ntmps106
    go_wp2
    all_goals go_ret
    all_goals exact ⟨rfl, rfl⟩
  · have e : (a.natAbs : Int) = a := by omega
    rw [e]
    clear e
    go_enter Tryz.func106, Tryz.ntmps106
    go_wp2
    all_goals go_ret
    all_goals exact ⟨rfl, rfl⟩
theorem sum_any (a b : Int) (ha : NumIn a) (hb : NumIn b) (w : World) : Calls Tryz.prog 55 #[.int .i64 a, .int .i64 b] w fun e w' => ∃ n, e = .returned (.tuple #[.int .i64 n, .bool true]) ∧ w = w' ∧ (n = a + b ∧ a + b ≠ 9223372036854775808 ∨ a + b = 9223372036854775808 ∧ n = -9223372036854775808) := by
  obtain ⟨h1, h2⟩ := ha
  obtain ⟨h3, h4⟩ := hb
  by_cases h : a + b = 9223372036854775808
  · obtain ⟨rfl, rfl⟩ : a = 4611686018427387904 ∧ b = 4611686018427387904 := by omega
    go_enter Tryz.func55, Tryz.ntmps55
    go_wp2
    all_goals go_ret2
    all_goals exact ⟨_, rfl, rfl, .inr ⟨rfl, by unfold wrap64; rfl⟩⟩
  · go_enter Tryz.func55, Tryz.ntmps55
    go_wp2
    all_goals go_ret2
    all_goals exact ⟨_, rfl, rfl, .inl ⟨rfl, h⟩⟩
theorem difference_any (a b : Int) (ha : NumIn a) (hb : NumIn b) (w : World) : Calls Tryz.prog 56 #[.int .i64 a, .int .i64 b] w fun e w' => ∃ n, e = .returned (.tuple #[.int .i64 n, .bool true]) ∧ w = w' ∧ (n = a - b ∧ a - b ≠ 9223372036854775808 ∨ a - b = 9223372036854775808 ∧ n = -9223372036854775808) := by
  obtain ⟨h1, h2⟩ := ha
  obtain ⟨h3, h4⟩ := hb
  by_cases h : a - b = 9223372036854775808
  · obtain ⟨rfl, rfl⟩ : a = 4611686018427387904 ∧ b = -4611686018427387904 := by omega
    go_enter Tryz.func56, Tryz.ntmps56
    go_wp2
    all_goals go_ret2
    all_goals exact ⟨_, rfl, rfl, .inr ⟨rfl, by unfold wrap64; rfl⟩⟩
  · go_enter Tryz.func56, Tryz.ntmps56
    go_wp2
    all_goals go_ret2
    all_goals exact ⟨_, rfl, rfl, .inl ⟨rfl, h⟩⟩
theorem quotient_any (a b : Int) (ha : NumIn a) (hb : NumIn b) (w : World) : Calls Tryz.prog 58 #[.int .i64 a, .int .i64 b] w fun e w' => e = .returned (if b = 0 then .tuple #[.int .i64 0, .bool false] else .tuple #[.int .i64 (a.tdiv b), .bool true]) ∧ w = w' := by
  obtain ⟨h1, h2⟩ := ha
  obtain ⟨h3, h4⟩ := hb
  by_cases h0 : b = 0
  · subst h0
    rw [if_pos rfl]
    go_enter Tryz.func58, Tryz.ntmps58
    go_wp2
    all_goals go_ret2
    all_goals exact ⟨rfl, rfl⟩
  · rw [if_neg h0]
    have hq : (a.tdiv b).natAbs ≤ a.natAbs := by rw [Int.natAbs_tdiv]; exact Nat.div_le_self _ _
    obtain ⟨q, hqq⟩ : ∃ q, a.tdiv b = q := ⟨_, rfl⟩
    rw [hqq] at hq ⊢
    have hq1 : -4611686018427387904 ≤ q := by omega
    have hq2 : q ≤ 4611686018427387904 := by omega
    clear hq
    go_enter Tryz.func58, Tryz.ntmps58
    go_wp2
    all_goals go_ret2
    all_goals exact ⟨rfl, rfl⟩
theorem remainder_any (a b : Int) (ha : NumIn a) (hb : NumIn b) (w : World) : Calls Tryz.prog 59 #[.int .i64 a, .int .i64 b] w fun e w' => e = .returned (if b = 0 then .tuple #[.int .i64 0, .bool false] else .tuple #[.int .i64 (a.tmod b), .bool true]) ∧ w = w' := by
  obtain ⟨h1, h2⟩ := ha
  obtain ⟨h3, h4⟩ := hb
  by_cases h0 : b = 0
  · subst h0
    rw [if_pos rfl]
    go_enter Tryz.func59, Tryz.ntmps59
    go_wp2
    all_goals go_ret2
    all_goals exact ⟨rfl, rfl⟩
  · rw [if_neg h0]
    go_enter Tryz.func59, Tryz.ntmps59
    go_wp2
    all_goals go_ret2
    all_goals exact ⟨rfl, rfl⟩
/-- The product, where it is a number. -/
theorem product_any (a b : Int) (ha : NumIn a) (hb : NumIn b) (w : World) : Calls Tryz.prog 57 #[.int .i64 a, .int .i64 b] w fun e w' => e = .returned (if farB (a * b) then .tuple #[.int .i64 0, .bool false] else .tuple #[.int .i64 (a * b), .bool true]) ∧ w = w' := by
  have HA := hidK fun W => size_any a ha W
  have HB := hidK fun W => size_any b hb W
  obtain ⟨x, hx⟩ : ∃ x, a.natAbs = x := ⟨_, rfl⟩
  obtain ⟨y, hy⟩ : ∃ y, b.natAbs = y := ⟨_, rfl⟩
  obtain ⟨h1, h2⟩ := ha
  obtain ⟨h3, h4⟩ := hb
  have hxl : x ≤ 4611686018427387904 := by omega
  have hyl : y ≤ 4611686018427387904 := by omega
  have HM := hidK fun W => Tryz.bits_Mul64 x y (by omega) (by omega) W
  have hab : (a * b).natAbs = x * y := by rw [Int.natAbs_mul, hx, hy]
  rw [hx] at HA
  rw [hy] at HB
  obtain ⟨m, hm⟩ : ∃ m, x * y = m := ⟨_, rfl⟩
  rw [hm] at HM hab
  by_cases hf : 4611686018427387904 < m
  · have hfar : farB (a * b) = true := by unfold farB; exact decide_eq_true (by omega)
    rw [hfar, if_pos rfl]
    obtain ⟨hi, hhi⟩ : ∃ hi, m / 18446744073709551616 = hi := ⟨_, rfl⟩
    obtain ⟨lo, hlo⟩ : ∃ lo, m % 18446744073709551616 = lo := ⟨_, rfl⟩
    have hsum : hi * 18446744073709551616 + lo = m := by rw [← hhi, ← hlo]; omega
    have hlol : lo < 18446744073709551616 := by omega
    rw [hhi, hlo] at HM
    by_cases hz : hi = 0
    · subst hz
      have hl2 : 4611686018427387904 < lo := by omega
      clear hsum hhi hlo hab hfar hx hy hm hf
      go_enter Tryz.func57, Tryz.ntmps57
      go_wp2_with fail
      refine (HA.out _).mono ?_
      rintro e w1 ⟨rfl, rfl⟩
      go_wp2_with fail
      refine (HB.out _).mono ?_
      rintro e w2 ⟨rfl, rfl⟩
      go_wp2_with fail
      refine (HM.out _).mono ?_
      rintro e w3 ⟨rfl, rfl⟩
      go_wp2_with fail
      all_goals go_ret2
      all_goals exact ⟨rfl, rfl⟩
    · have hz2 : 0 < hi := by omega
      have hhl : hi < 18446744073709551616 := by
        have : m ≤ 4611686018427387904 * 4611686018427387904 := by rw [← hm]; exact Nat.mul_le_mul hxl hyl
        omega
      clear hsum hhi hlo hab hfar hx hy hm hf
      go_enter Tryz.func57, Tryz.ntmps57
      go_wp2_with fail
      refine (HA.out _).mono ?_
      rintro e w1 ⟨rfl, rfl⟩
      go_wp2_with fail
      refine (HB.out _).mono ?_
      rintro e w2 ⟨rfl, rfl⟩
      go_wp2_with fail
      refine (HM.out _).mono ?_
      rintro e w3 ⟨rfl, rfl⟩
      go_wp2_with fail
      all_goals go_ret2
      all_goals exact ⟨rfl, rfl⟩
  · have hfar : farB (a * b) = false := by unfold farB; exact decide_eq_false (by omega)
    rw [hfar, if_neg (by simp)]
    have hdv : m / 18446744073709551616 = 0 := by omega
    have hmd : m % 18446744073709551616 = m := by omega
    rw [hdv, hmd] at HM
    obtain ⟨q, hq⟩ : ∃ q, a * b = q := ⟨_, rfl⟩
    rw [hq] at hab ⊢
    have hq1 : -4611686018427387904 ≤ q := by omega
    have hq2 : q ≤ 4611686018427387904 := by omega
    have hml : m ≤ 4611686018427387904 := by omega
    clear hab hfar hx hy hm hf hdv hmd
    go_enter Tryz.func57, Tryz.ntmps57
    go_wp2_with fail
    refine (HA.out _).mono ?_
    rintro e w1 ⟨rfl, rfl⟩
    go_wp2_with fail
    refine (HB.out _).mono ?_
    rintro e w2 ⟨rfl, rfl⟩
    go_wp2_with fail
    refine (HM.out _).mono ?_
    rintro e w3 ⟨rfl, rfl⟩
    go_wp2_with fail
    all_goals go_ret2
    all_goals exact ⟨rfl, rfl⟩
end Go.Proofs.YtlfcjcaofhcfnaaGreatDoor

namespace Go.Proofs.YtlfcjcaofhcfnaaGreatDoor
open Go.RowKit
set_option linter.unusedVariables false
set_option maxRecDepth 100000

theorem readD_lt : ∀ (l : List UInt8) (n k m : Nat), readD n l = some m → n < 10 ^ k → m < 10 ^ (k + l.length)
  | [], n, k, m, h, hn => by
    cases h
    simpa using hn
  | c :: r, n, k, m, h, hn => by
    simp only [readD] at h
    split at h
    · rename_i hd
      unfold digitB at hd
      rw [Bool.and_eq_true, decide_eq_true_eq, decide_eq_true_eq] at hd
      have h2 := readD_lt r _ (k + 1) m h (by rw [Nat.pow_succ]; omega)
      simp only [List.length_cons]
      rwa [show k + (r.length + 1) = k + 1 + r.length by omega]
    · cases h
set_option maxHeartbeats 4000000 in
theorem parseU_any (l : List UInt8) (hne : l ≠ []) (hl : l.length ≤ 19) (w : World) :
    Calls Tryz.prog 157 #[.string (str l), .int .i64 10, .int .i64 64] w fun e w' => e = .returned (match readD 0 l with | some n => .tuple #[.int .u64 (n : Int), .nilIface] | none => .tuple #[.int .u64 0, .iface 202 (.int .i64 2)]) ∧ Below w.heap.size w w' := by
  have hzs : (str l).size = l.length := rfl
  have h0 : ¬ (str l).toList = [] := by rw [str_toList]; exact hne
  have h1 : (str l).toList.isEmpty = false := by rw [str_toList]; cases l with | nil => exact absurd rfl hne | cons _ _ => rfl
  have HLow := hidK fun (c : Int) W => Tryz.internal_strconv_lower c W
  obtain ⟨W1, hW1⟩ : ∃ W1, bytesW w (str l) = W1 := ⟨_, rfl⟩
  obtain ⟨cap, hcap⟩ : ∃ cap, grownCap w (str l).size 0 5 = cap := ⟨_, rfl⟩
  have hcv : (convert 9 55 (.string (str l))).run Tryz.prog w = .ok (.slice (some ⟨w.heap.size, 0, none⟩) l.length cap) W1 := by
    have h := run_bytes_of_string (P := Tryz.prog) w 9 55 5 (str l) Tryz.underlying9 Tryz.underlying55 Tryz.underlying5
    rw [h, ← hW1, hcap, hzs]
    unfold bytesW
    rw [hcap]
  have HY0 : Hid (YRow W1 w.heap.size l) := by rw [← hW1]; exact bytes_row w l
  have HB1 : Hid (Below w.heap.size w W1) := by rw [← hW1]; exact bytes_below w _
  obtain ⟨gb, hgb⟩ : ∃ gb, w.heap.size = gb := ⟨_, rfl⟩
  rw [hgb] at hcv HY0
  have HGB := hidK hgb
  obtain ⟨R, hR⟩ : ∃ R, readD 0 l = R := ⟨_, rfl⟩
  rw [hR]
  have HR := hidK hR
  obtain ⟨z, hz⟩ : ∃ z, str l = z := ⟨_, rfl⟩
  obtain ⟨n, hn⟩ : ∃ n, l.length = n := ⟨_, rfl⟩
  have HN := hidK hn
  rw [hz] at hzs h0 h1 hcv ⊢
  rw [hn] at hzs hl hcv
  clear hW1 hcap hgb hz hn hR hne
  go_enter Tryz.func157, Tryz.ntmps157
  go_wp2_with fail
  have hmax : IntKind.u64.wrap (IntKind.u64.wrap 18446744073709551616 - 1) = 18446744073709551615 := by decide
  simp only [hmax]
  clear hmax hcv
  go_loopw [12, 13, 101] (fun s12 s13 s101 wx => ∃ (k m : Nat) (M : Int), k ≤ n ∧ s12 = .bool false ∧ s101 = .int .i64 (k : Int) ∧ s13 = .int .u64 M ∧ Hid (M = (m : Int)) ∧ Hid (m < 10 ^ k) ∧ Hid (readD m (l.drop k) = R) ∧ Hid (YRow wx gb l) ∧ Hid (Below w.heap.size w wx)) (fun _ _ v _ => n - (intOf v).toNat)
  case atStart => exact ⟨0, 0, 0, Nat.zero_le _, rfl, rfl, rfl, rfl, Nat.lt_of_lt_of_eq Nat.zero_lt_one rfl, HR.out, HY0.out, HB1.out⟩
  case round =>
    clear HY0 HB1 HR
    obtain ⟨k, m, M, hk, rfl, rfl, rfl, HMm, HP, HD, HY, HB⟩ := hrel
    by_cases hkn : k < n
    · obtain ⟨c, hc⟩ : ∃ c, l[k]? = some c := ⟨_, List.getElem?_eq_getElem (by rw [HN.out]; exact hkn)⟩
      have ck := HY.out.cell hc
      have hM0 : 0 ≤ M := by have h := HMm.out; omega
      have hM1 : M < 1000000000000000000 := by
        have h0 := HMm.out
        have h1 : 10 ^ k ≤ 10 ^ 18 := Nat.pow_le_pow_right (by decide) (by omega)
        have h2 := HP.out
        have h3 : (10 : Nat) ^ 18 = 1000000000000000000 := by decide
        omega
      have hD := HD.out
      obtain ⟨q1, q2⟩ := List.getElem?_eq_some_iff.1 hc
      rw [List.drop_eq_getElem_cons q1, q2] at hD
      simp only [readD] at hD
      clear q1 q2
      by_cases hd : digitB c = true
      · rw [if_pos hd] at hD
        unfold digitB at hd
        rw [Bool.and_eq_true, decide_eq_true_eq, decide_eq_true_eq] at hd
        obtain ⟨d1, d2⟩ := hd
        have HD2 := hidK hD
        have HP2 : Hid (m * 10 + (c.toNat - 48) < 10 ^ (k + 1)) := by
          have h := HP.out
          show _ < _
          rw [Nat.pow_succ]
          generalize 10 ^ k = z9 at h ⊢
          omega
        obtain ⟨C, hC⟩ : ∃ C : Int, (c.toNat : Int) = C := ⟨_, rfl⟩
        have HC := hidK hC
        rw [hC] at ck
        have hC1 : 48 ≤ C := by omega
        have hC2 : C ≤ 57 := by omega
        clear hD HD HP hc d1 d2 hC
        go_wp2_with fail
        all_goals exact ⟨⟨k + 1, m * 10 + (c.toNat - 48), M * 10 + (C - 48), by omega, rfl, by go_num, rfl, by have h1 := HMm.out; have h2 := HC.out; show _ = _; omega, HP2.out, HD2.out, HY.out, HB.out⟩, by simp [intOf]; omega⟩
      · rw [if_neg hd] at hD
        have HRn : Hid (R = none) := hD.symm
        have hdn : ¬ (48 ≤ c.toNat ∧ c.toNat ≤ 57) := fun h => hd (by unfold digitB; rw [Bool.and_eq_true, decide_eq_true_eq, decide_eq_true_eq]; exact h)
        have hc255 : c.toNat < 256 := c.toNat_lt
        obtain ⟨C, hC⟩ : ∃ C : Int, (c.toNat : Int) = C := ⟨_, rfl⟩
        rw [hC] at ck
        have hC0 : 0 ≤ C := by omega
        have hC255 : C ≤ 255 := by omega
        have hCn : ¬ (48 ≤ C ∧ C ≤ 57) := by omega
        obtain ⟨L, hL⟩ : ∃ L, bits .or .u8 C 32 = L := ⟨_, rfl⟩
        have HLc := hidK fun W => HLow.out C W
        simp only [hL] at HLc
        have HL95 : Hid (∀ W, Calls Tryz.prog 180 #[.int .u8 95] W fun e w' => e = .returned (.int .u8 127) ∧ w' = W) := fun W => by have h := HLow.out 95 W; rw [show bits .or .u8 95 32 = 127 by decide] at h; exact h
        clear hD HD HP hc hd hdn hc255 hC hL HLow
        by_cases h95 : C = 95
        · subst h95
          go_wp2_with (go_at_call 180; refine (HL95.out _).mono ?_; rintro e w2 ⟨rfl, rfl⟩)
          all_goals go_ret2
          all_goals exact ⟨by first | rfl | (rw [HRn.out]; rfl), HB.out⟩
        by_cases hl1 : 97 ≤ L
        · by_cases hl2 : L ≤ 122
          · by_cases hlo : C < 48
            · clear hCn
              go_wp2_with (go_at_call 180; refine (HLc.out _).mono ?_; rintro e w2 ⟨rfl, rfl⟩)
              all_goals go_ret2
              all_goals exact ⟨by first | rfl | (rw [HRn.out]; rfl), HB.out⟩
            · have hhi : 57 < C := by omega
              have hhi2 : ¬ C ≤ 57 := by omega
              have hhi3 : 48 ≤ C := by omega
              clear hCn
              go_wp2_with (go_at_call 180; refine (HLc.out _).mono ?_; rintro e w2 ⟨rfl, rfl⟩)
              all_goals go_ret2
              all_goals exact ⟨by first | rfl | (rw [HRn.out]; rfl), HB.out⟩
          · by_cases hlo : C < 48
            · clear hCn
              go_wp2_with (go_at_call 180; refine (HLc.out _).mono ?_; rintro e w2 ⟨rfl, rfl⟩)
              all_goals go_ret2
              all_goals exact ⟨by first | rfl | (rw [HRn.out]; rfl), HB.out⟩
            · have hhi : 57 < C := by omega
              have hhi2 : ¬ C ≤ 57 := by omega
              have hhi3 : 48 ≤ C := by omega
              clear hCn
              go_wp2_with (go_at_call 180; refine (HLc.out _).mono ?_; rintro e w2 ⟨rfl, rfl⟩)
              all_goals go_ret2
              all_goals exact ⟨by first | rfl | (rw [HRn.out]; rfl), HB.out⟩
        · by_cases hlo : C < 48
          · clear hCn
            go_wp2_with (go_at_call 180; refine (HLc.out _).mono ?_; rintro e w2 ⟨rfl, rfl⟩)
            all_goals go_ret2
            all_goals exact ⟨by first | rfl | (rw [HRn.out]; rfl), HB.out⟩
          · have hhi : 57 < C := by omega
            have hhi2 : ¬ C ≤ 57 := by omega
            have hhi3 : 48 ≤ C := by omega
            clear hCn
            go_wp2_with (go_at_call 180; refine (HLc.out _).mono ?_; rintro e w2 ⟨rfl, rfl⟩)
            all_goals go_ret2
            all_goals exact ⟨by first | rfl | (rw [HRn.out]; rfl), HB.out⟩
    · obtain rfl : k = n := by omega
      have HRs : Hid (R = some m) := by have h := HD.out; rw [List.drop_eq_nil_of_le (by rw [HN.out]; omega)] at h; exact h.symm
      have hM0 : 0 ≤ M := by have h := HMm.out; omega
      clear HD HP HLow
      go_wp2_with fail
      all_goals go_ret2
      all_goals (have h := HRs.out; have h2 := HMm.out; cases h; try subst h2; try exact ⟨rfl, HB.out⟩)
end Go.Proofs.YtlfcjcaofhcfnaaGreatDoor

namespace Go.Proofs.YtlfcjcaofhcfnaaGreatDoor
open Go.RowKit
set_option linter.unusedVariables false
set_option maxRecDepth 100000

theorem parseU_nil (w : World) : Calls Tryz.prog 157 #[.string (str []), .int .i64 10, .int .i64 64] w fun e w' => e = .returned (.tuple #[.int .u64 0, .iface 202 (.int .i64 2)]) ∧ Below w.heap.size w w' := by
  have e0 : str [] = (⟨#[]⟩ : ByteArray) := rfl
  rw [e0]
  go_enter Tryz.func157, Tryz.ntmps157
  go_wp2_with fail
  all_goals go_ret2
  all_goals exact ⟨rfl, Below.refl _ _⟩
theorem parseI_any (l : List UInt8) (hl : l.length ≤ 19) (w : World) :
    Calls Tryz.prog 157 #[.string (str l), .int .i64 10, .int .i64 64] w fun e w' => Below w.heap.size w w' ∧ ((∃ n : Nat, readU l = some n ∧ e = .returned (.tuple #[.int .u64 (n : Int), .nilIface])) ∨ (readU l = none ∧ e = .returned (.tuple #[.int .u64 0, .iface 202 (.int .i64 2)]))) := by
  by_cases h : l = []
  · subst h
    exact (parseU_nil w).mono fun e w' ⟨h1, h2⟩ => ⟨h2, .inr ⟨rfl, h1⟩⟩
  · refine (parseU_any l h hl w).mono fun e w' ⟨h1, h2⟩ => ⟨h2, ?_⟩
    unfold readU
    rw [if_neg h]
    cases hR : readD 0 l with
    | none => rw [hR] at h1; exact .inr ⟨rfl, h1⟩
    | some n => rw [hR] at h1; exact .inl ⟨n, rfl, h1⟩
set_option maxHeartbeats 2000000 in
theorem parseS_any (l : List UInt8) (hl : l.length ≤ 19) (ev : Value) (hev : ev = .nilIface ∨ ∃ te pe, ev = .iface te pe) (w : World) (hv : w.cell? ⟨3, 0, none⟩ = some ev) :
    Calls Tryz.prog 133 #[.string (str l), .int .i64 10, .int .i64 64] w fun e w' => Below w.heap.size w w' ∧ ((∃ n : Nat, readU l = some n ∧ e = .returned (.tuple #[.int .u64 (n : Int), .nilIface])) ∨ (readU l = none ∧ ∃ N, e = .returned (.tuple #[.int .u64 0, .iface 204 (.pointer (some ⟨N, 0, none⟩))]))) := by
  have HI := hidK (parseI_any l hl w)
  have HV := hidK hv
  obtain ⟨fn, hfn⟩ : ∃ fn : ByteArray, fn = ⟨#[80, 97, 114, 115, 101, 85, 105, 110, 116]⟩ := ⟨_, rfl⟩
  have HT := hidK fun W (h : W.cell? ⟨3, 0, none⟩ = some ev) => Tryz.strconv_toError_syntax fn (str l) 10 64 ev W (by rw [str_size]; omega) h hev
  rw [hfn] at HT
  obtain ⟨z, hz⟩ : ∃ z, str l = z := ⟨_, rfl⟩
  rw [hz] at HI HT ⊢
  clear hz hv hfn hev
  go_enter Tryz.func133, Tryz.ntmps133
  go_wp2_with (go_at_call 157; refine HI.out.mono ?_; rintro x w1 ⟨hb, ⟨n, hr, rfl⟩ | ⟨hr, rfl⟩⟩)
  · have HB := hidK hb
    have HR := hidK hr
    clear hb hr HT
    go_wp2_with fail
    all_goals go_ret2
    all_goals exact ⟨HB.out, .inl ⟨n, HR.out, rfl⟩⟩
  · have HB := hidK hb
    have HR := hidK hr
    have HT1 := hidK (HT.out w1 (cell_later hb HV.out))
    clear hb hr HT
    go_wp2_with (go_at_call 158; refine HT1.out.mono ?_; rintro x w2 ⟨N, rfl, hN, hc, hb2⟩)
    have HB2 : Hid (Below w.heap.size w w2) := HB.out.trans (hb2.mono HB.out.size)
    clear hb2 hc hN
    go_wp2_with fail
    all_goals go_ret2
    all_goals exact ⟨HB2.out, .inr ⟨HR.out, N, rfl⟩⟩

def wholeV (o : Option Int) : Value := match o with | some z => .tuple #[.int .i64 z, .bool true] | none => .tuple #[.int .i64 0, .bool false]
set_option maxHeartbeats 4000000 in
theorem whole_any (l : List UInt8) (hl : l.length ≤ 2147483647) (ev : Value) (hev : ev = .nilIface ∨ ∃ te pe, ev = .iface te pe) (w : World) (hv : w.cell? ⟨3, 0, none⟩ = some ev) :
    Calls Tryz.prog 103 #[.string (str l)] w fun e w' => e = .returned (wholeV (wholeF l)) ∧ Below w.heap.size w w' := by
  have HC := hidK (cutPrefix_any l 45 hl w)
  have e45 : str [45] = (⟨#[45]⟩ : ByteArray) := rfl
  rw [e45] at HC
  have hlen := head_len 45 l
  obtain ⟨R, hR⟩ : ∃ R, wholeF l = R := ⟨_, rfl⟩
  rw [hR]
  unfold wholeF at hR
  obtain ⟨⟨d, b⟩, hd⟩ : ∃ p, headF 45 l = p := ⟨_, rfl⟩
  rw [hd] at HC hR hlen
  simp only at HC hR hlen
  obtain ⟨z, hz⟩ : ∃ z, str l = z := ⟨_, rfl⟩
  rw [hz] at HC ⊢
  clear hz hd e45
  have hys : (str d).size = d.length := rfl
  have hyl : (str d).toList = d := str_toList d
  by_cases h19 : 19 < d.length
  · rw [if_pos (.inl h19)] at hR
    subst hR
    obtain ⟨y, hy⟩ : ∃ y, str d = y := ⟨_, rfl⟩
    rw [hy] at HC hys
    clear hy hyl hv
    obtain ⟨n, hn⟩ : ∃ n, d.length = n := ⟨_, rfl⟩
    rw [hn] at hys h19 hlen
    clear hn
    go_enter Tryz.func103, Tryz.ntmps103
    go_wp2_with (go_at_call 83; refine HC.out.mono ?_; rintro x w1 ⟨rfl, rfl⟩)
    all_goals go_ret2
    all_goals exact ⟨rfl, Below.refl _ _⟩
  by_cases h48 : 1 < d.length ∧ d.head? = some 48
  · rw [if_pos (.inr h48)] at hR
    subst hR
    obtain ⟨h1, h2⟩ := h48
    have hg : ∀ h : 0 < (str d).size, (str d)[0] = 48 := fun h => str_getF d 0 48 (by rw [← h2]; cases d <;> rfl) h
    obtain ⟨y, hy⟩ : ∃ y, str d = y := ⟨_, rfl⟩
    rw [hy] at HC hys hg
    clear hy hyl hv h2
    obtain ⟨n, hn⟩ : ∃ n, d.length = n := ⟨_, rfl⟩
    rw [hn] at hys h19 hlen h1
    clear hn
    go_enter Tryz.func103, Tryz.ntmps103
    go_wp2_with (go_at_call 83; refine HC.out.mono ?_; rintro x w1 ⟨rfl, rfl⟩)
    all_goals go_ret2
    all_goals exact ⟨rfl, Below.refl _ _⟩
  rw [if_neg (by rintro (h | h); exact h19 h; exact h48 h)] at hR
  have HP := hidK (parseS_any d (by omega) ev hev w hv)
  have hb2 : (1 < d.length) → ∀ h : 0 < (str d).size, ¬ (str d)[0].toNat = 48 := by
    intro h1 h2 h3
    refine h48 ⟨h1, ?_⟩
    cases d with
    | nil => cases h1
    | cons c r =>
      have h4 := str_getF (c :: r) 0 c rfl h2
      rw [h4] at h3
      have : c = 48 := UInt8.toNat_inj.1 h3
      rw [this]
      rfl
  obtain ⟨y, hy⟩ : ∃ y, str d = y := ⟨_, rfl⟩
  rw [hy] at HC hys HP hb2
  obtain ⟨n, hn⟩ : ∃ n, d.length = n := ⟨_, rfl⟩
  rw [hn] at hys h19 hlen hb2
  have HRR := hidK hR
  clear hn hy hyl hv h48 hR
  by_cases h1 : 1 < n
  · obtain ⟨c, hc⟩ : ∃ c : UInt8, c = y[0]'(by omega) := ⟨_, rfl⟩
    have hc2 := hb2 h1 (by omega)
    rw [← hc] at hc2
    have hg : ∀ h : 0 < y.size, y[0] = c := fun _ => hc.symm
    have hc3 : ((c.toNat : Int) == 48) = false := by rw [beq_eq_false_iff_ne]; omega
    have hR := HRR.out
    clear hb2 hc HRR
    go_enter Tryz.func103, Tryz.ntmps103
    go_wp2_with (go_at_call 83; refine HC.out.mono ?_; rintro x w1 ⟨rfl, rfl⟩)
    all_goals refine HP.out.mono ?_
    all_goals rintro x w2 ⟨hb, ⟨m, hr, rfl⟩ | ⟨hr, N, rfl⟩⟩
    · have HB := hidK hb
      rw [hr] at hR
      clear hb hr HP HC
      by_cases hm : 4611686018427387904 < m
      · simp only [if_pos hm] at hR
        subst hR
        go_wp2_with fail
        all_goals go_ret2
        all_goals exact ⟨rfl, HB.out⟩
      · simp only [if_neg hm] at hR
        have hm2 : m ≤ 4611686018427387904 := by omega
        cases b
        · subst hR
          go_wp2_with fail
          all_goals go_ret2
          all_goals exact ⟨rfl, HB.out⟩
        · subst hR
          go_wp2_with fail
          all_goals go_ret2
          all_goals exact ⟨rfl, HB.out⟩
    · have HB := hidK hb
      rw [hr] at hR
      subst hR
      clear hb hr HP HC
      go_wp2_with fail
      all_goals go_ret2
      all_goals exact ⟨rfl, HB.out⟩
  · have hR := HRR.out
    clear hb2 HRR
    go_enter Tryz.func103, Tryz.ntmps103
    go_wp2_with (go_at_call 83; refine HC.out.mono ?_; rintro x w1 ⟨rfl, rfl⟩)
    all_goals refine HP.out.mono ?_
    all_goals rintro x w2 ⟨hb, ⟨m, hr, rfl⟩ | ⟨hr, N, rfl⟩⟩
    · have HB := hidK hb
      rw [hr] at hR
      clear hb hr HP HC
      by_cases hm : 4611686018427387904 < m
      · simp only [if_pos hm] at hR
        subst hR
        go_wp2_with fail
        all_goals go_ret2
        all_goals exact ⟨rfl, HB.out⟩
      · simp only [if_neg hm] at hR
        have hm2 : m ≤ 4611686018427387904 := by omega
        cases b
        · subst hR
          go_wp2_with fail
          all_goals go_ret2
          all_goals exact ⟨rfl, HB.out⟩
        · subst hR
          go_wp2_with fail
          all_goals go_ret2
          all_goals exact ⟨rfl, HB.out⟩
    · have HB := hidK hb
      rw [hr] at hR
      subst hR
      clear hb hr HP HC
      go_wp2_with fail
      all_goals go_ret2
      all_goals exact ⟨rfl, HB.out⟩
end Go.Proofs.YtlfcjcaofhcfnaaGreatDoor
