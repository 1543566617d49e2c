/-
  Formats: identifiers; texts ahead of the first number sign; prefixes.
-/
import Derived.Test.YtgoofifbifdgoaaGreatDoorFVal
namespace Go.Proofs.YtgoofifbifdgoaaGreatDoor
open Go.RowKit
set_option linter.unusedVariables false
set_option maxRecDepth 20000

theorem all_take {l : List UInt8} {f : UInt8 → Bool} {k : Nat} {c : UInt8} (hc : l[k]? = some c) (h : (l.take k).all f = true) (hf : f c = true) : (l.take (k + 1)).all f = true := by
  rw [List.take_add_one, hc, List.all_append, h]
  simp [hf]
theorem all_not {l : List UInt8} {f : UInt8 → Bool} {k : Nat} {c : UInt8} (hc : l[k]? = some c) (hf : f c = false) : l.all f = false := by
  rw [List.all_eq_false]
  exact ⟨c, List.mem_of_getElem? hc, by simp [hf]⟩

set_option maxHeartbeats 2000000 in
theorem ident_any (l : List UInt8) (hl : l.length ≤ 2147483647) (w : World) : Calls Tryz.prog 129 #[.string (str l)] w fun e w' => e = .returned (.bool (identF l)) ∧ w = w' := by
  have HSm : Hid (∀ (c : UInt8) W, Calls Tryz.prog 50 #[.int .u8 c.toNat] W fun e w' => e = .returned (.bool (smallB c)) ∧ W = w') := isSmall_any
  have HDi : Hid (∀ (c : UInt8) W, Calls Tryz.prog 124 #[.int .u8 c.toNat] W fun e w' => e = .returned (.bool (digitB c)) ∧ W = w') := isDigit_any
  match l with
  | [] =>
    go_enter Tryz.func129, Tryz.ntmps129
    have h0 : (str []).toList = [] := str_toList []
    have h1 : (str []).toList.isEmpty = true := by rw [h0]; rfl
    go_wp2_with fail
    all_goals go_ret
    all_goals exact ⟨rfl, rfl⟩
  | c :: r =>
    have HG : Hid (∀ k d (h : k < (str (c :: r)).size), (c :: r)[k]? = some d → (str (c :: r))[k] = d) := fun k d h hc => str_getF (c :: r) k d hc h
    obtain ⟨z, hz⟩ : ∃ z, str (c :: r) = z := ⟨_, rfl⟩
    have hs : z.size = r.length + 1 := by rw [← hz]; rfl
    have hnil : ¬ z.toList = [] := by rw [← hz, str_toList]; simp
    have hemp : z.toList.isEmpty = false := by rw [← hz, str_toList]; rfl
    have hs0 : 0 < z.size := by omega
    rw [hz] at HG ⊢
    have g0 := HG.out 0 c hs0 rfl
    obtain ⟨n, hn⟩ : ∃ n, r.length = n := ⟨_, rfl⟩
    have HN : Hid (r.length = n) := hn
    have hi : identF (c :: r) = (decide (n + 1 ≤ 32) && smallB c && r.all innerB) := by rw [← hn]; rfl
    rw [hi]
    simp only [List.length_cons] at hl
    rw [hn] at hs hl
    clear hz hn hi
    by_cases h32 : n + 1 ≤ 32
    · have h32' : ¬ (32 : Int) < (n : Int) + 1 := by omega
      rw [decide_eq_true h32]
      cases hsm : smallB c with
      | false =>
        have HS0 := hidK (HSm.out c)
        rw [hsm] at HS0
        clear h32
        go_enter Tryz.func129, Tryz.ntmps129
        go_wp2_with (go_at_call 50; refine (HS0.out _).mono ?_; rintro x w1 ⟨rfl, rfl⟩)
        all_goals go_ret
        all_goals exact ⟨rfl, rfl⟩
      | true =>
        have HS0 := hidK (HSm.out c)
        rw [hsm] at HS0
        simp only [Bool.true_and]
        obtain ⟨R, hR⟩ : ∃ R, r.all innerB = R := ⟨_, rfl⟩
        rw [hR]
        have HR := hidK hR
        clear h32 hR
        go_enter Tryz.func129, Tryz.ntmps129
        go_wp2_with (go_at_call 50; refine (HS0.out _).mono ?_; rintro x w1 ⟨rfl, rfl⟩)
        go_loopw [3] (fun s3 wx => ∃ k : Nat, k ≤ n ∧ s3 = .int .i64 ((k : Int) + 1) ∧ Hid ((r.take k).all innerB = true) ∧ wx = w) (fun v _ => n + 1 - (intOf v).toNat)
        case atStart => exact ⟨0, Nat.zero_le _, rfl, rfl, rfl⟩
        case round =>
          obtain ⟨k, hk, rfl, HA, hwx⟩ := hrel
          subst hwx
          by_cases hkn : k < n
          · obtain ⟨d, hd⟩ : ∃ d, r[k]? = some d := ⟨_, List.getElem?_eq_getElem (by rw [HN.out]; exact hkn)⟩
            have hkz : k + 1 < z.size := by omega
            have gk := HG.out (k + 1) d hkz (by simpa using hd)
            have HS1 := hidK (HSm.out d)
            have HD1 := hidK (HDi.out d)
            by_cases hin : innerB d = true
            · have HA2 := hidK (all_take hd HA.out hin)
              clear HSm HDi HG HS0 hd
              unfold innerB at hin
              cases h1 : smallB d with
              | true =>
                rw [h1] at HS1
                clear hin
                go_wp2_with (go_at_call 50; refine (HS1.out _).mono ?_; rintro x w1 ⟨rfl, rfl⟩)
                go_roundw
                case rel => exact ⟨k + 1, by omega, by go_num, HA2.out, by first | rfl | trivial⟩
                case measure => simp [intOf]; omega
              | false =>
                rw [h1] at HS1 hin
                cases h2 : digitB d with
                | true =>
                  rw [h2] at HD1
                  clear hin
                  go_wp2_with (first | (go_at_call 50; refine (HS1.out _).mono ?_; rintro x w1 ⟨rfl, rfl⟩) | (go_at_call 124; refine (HD1.out _).mono ?_; rintro x w1 ⟨rfl, rfl⟩))
                  go_roundw
                  case rel => exact ⟨k + 1, by omega, by go_num, HA2.out, by first | rfl | trivial⟩
                  case measure => simp [intOf]; omega
                | false =>
                  rw [h2] at HD1 hin
                  have h95 : d.toNat = 95 := by simpa using hin
                  have HS2 : Hid (∀ W, Calls Tryz.prog 50 #[.int .u8 95] W fun e w' => e = .returned (.bool false) ∧ W = w') := by have h := HS1.out; rw [h95] at h; exact h
                  have HD2 : Hid (∀ W, Calls Tryz.prog 124 #[.int .u8 95] W fun e w' => e = .returned (.bool false) ∧ W = w') := by have h := HD1.out; rw [h95] at h; exact h
                  clear hin HS1 HD1
                  go_wp2_with (first | (go_at_call 50; refine (HS2.out _).mono ?_; rintro x w1 ⟨rfl, rfl⟩) | (go_at_call 124; refine (HD2.out _).mono ?_; rintro x w1 ⟨rfl, rfl⟩))
                  go_roundw
                  case rel => exact ⟨k + 1, by omega, by go_num, HA2.out, by first | rfl | trivial⟩
                  case measure => simp [intOf]; omega
            · have hin' : innerB d = false := by simpa using hin
              obtain rfl : R = false := HR.out.symm.trans (all_not hd hin')
              unfold innerB at hin'
              simp only [Bool.or_eq_false_iff, decide_eq_false_iff_not] at hin'
              obtain ⟨⟨h1, h2⟩, h3⟩ := hin'
              rw [h1] at HS1
              rw [h2] at HD1
              clear HSm HDi HG HS0 hd hin HR
              go_wp2_with (first | (go_at_call 50; refine (HS1.out _).mono ?_; rintro x w1 ⟨rfl, rfl⟩) | (go_at_call 124; refine (HD1.out _).mono ?_; rintro x w1 ⟨rfl, rfl⟩))
              all_goals go_ret
              all_goals exact ⟨rfl, rfl⟩
          · obtain rfl : k = n := by omega
            have hall : r.all innerB = true := by
              have := HA.out
              rwa [List.take_of_length_le (by rw [HN.out]; exact Nat.le_refl _)] at this
            obtain rfl : R = true := HR.out.symm.trans hall
            clear HSm HDi HG HS0 hall HR
            go_wp2_with fail
            all_goals go_ret
            all_goals exact ⟨rfl, rfl⟩
    · have h32' : (32 : Int) < (n : Int) + 1 := by omega
      rw [decide_eq_false h32]
      clear HSm HDi HG h32
      go_enter Tryz.func129, Tryz.ntmps129
      go_wp2_with fail
      all_goals go_ret
      all_goals exact ⟨rfl, rfl⟩

end Go.Proofs.YtgoofifbifdgoaaGreatDoor
