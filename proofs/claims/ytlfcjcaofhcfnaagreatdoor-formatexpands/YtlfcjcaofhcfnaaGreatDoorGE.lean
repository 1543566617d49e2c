/-
  Formats: the bytes ahead of the first number sign; prefixes; numbers of one to four digits.
  Formats: identifiers; texts ahead of the first number sign; prefixes.
  Formats: numbers of one to four digits; what a numbered turn is.
  Formats: what reading, writing and seeking want of a world.
  Formats: the turns that cut and pad, as function values.
  Formats: the other turns with a number; what makes them.
  Formats: what makes a turn with a number.
-/
import Derived.Test.YtlfcjcaofhcfnaaGreatDoorGD
import Derived.WalkSpells
import Derived.Lib.LaidTab
import Derived.Lib.AppendIntMem
namespace Go.Proofs.YtlfcjcaofhcfnaaGreatDoor
open Go.RowKit
set_option linter.unusedVariables false
set_option maxRecDepth 20000

theorem plain_index (l : List UInt8) : (0 ≤ Lib.indexByte l 35 → Lib.indexByte l 35 = (plainF l : Int)) ∧ (¬ 0 ≤ Lib.indexByte l 35 → plainF l = l.length) := by
  induction l with
  | nil => exact ⟨fun h => absurd h (by decide), fun _ => rfl⟩
  | cons c l ih =>
    have hge := Lib.indexByte_ge l 35
    by_cases hc : c = 35
    · subst hc
      have e1 : Lib.indexByte (35 :: l) 35 = 0 := by simp [Lib.indexByte]
      have e2 : plainF (35 :: l) = 0 := by simp [plainF]
      rw [e1, e2]
      exact ⟨fun _ => rfl, fun h => absurd (Int.le_refl 0) h⟩
    · have hn : c.toNat ≠ 35 := fun e => hc (UInt8.toNat_inj.1 e)
      have e2 : plainF (c :: l) = plainF l + 1 := by simp [plainF, hn]
      have e1 : Lib.indexByte (c :: l) 35 = if Lib.indexByte l 35 < 0 then -1 else Lib.indexByte l 35 + 1 := by
        rw [Lib.indexByte]
        simp only [beq_iff_eq, hc, if_false]
        by_cases h : Lib.indexByte l 35 = -1
        · rw [if_pos h, if_pos (by omega)]
        · rw [if_neg h, if_neg (by omega)]
      rw [e1, e2]
      split
      · rename_i h
        exact ⟨fun h2 => absurd h2 (by decide), fun _ => by rw [ih.2 (by omega)]; rfl⟩
      · rename_i h
        exact ⟨fun _ => by rw [ih.1 (by omega)]; rfl, fun h2 => by omega⟩
theorem plain_le (l : List UInt8) : plainF l ≤ l.length := by
  unfold plainF
  exact (List.takeWhile_sublist _).length_le

set_option maxHeartbeats 1000000 in
theorem plainBytes_any (l : List UInt8) (w : World) : Calls Tryz.prog 66 #[.string (str l)] w fun e w' => e = .returned (.int .i64 (plainF l : Int)) ∧ w = w' := by
  have hI := Tryz.strings_IndexByte (str l) 35 w
  have e : ((35 : Int).toNat).toUInt8 = 35 := by decide
  rw [e, str_data] at hI
  obtain ⟨p1, p2⟩ := plain_index l
  have hge := Lib.indexByte_ge l 35
  have hs : (str l).size = l.length := rfl
  obtain ⟨i, hi⟩ : ∃ i, Lib.indexByte l 35 = i := ⟨_, rfl⟩
  rw [hi] at hI p1 p2 hge
  have HI := hidK hI
  obtain ⟨z, hz⟩ : ∃ z, str l = z := ⟨_, rfl⟩
  rw [hz] at HI hs ⊢
  clear hI hi e hz
  by_cases h0 : 0 ≤ i
  · have e1 := p1 h0
    obtain ⟨n, hn⟩ : ∃ n, plainF l = n := ⟨_, rfl⟩
    rw [hn] at e1 ⊢
    subst e1
    clear p1 p2 hn hs
    go_enter Tryz.func66, Tryz.ntmps66
    go_wp2_with (go_at_call 108; refine HI.out.mono ?_; rintro x w1 ⟨rfl, rfl⟩)
    all_goals go_ret
    all_goals exact ⟨rfl, rfl⟩
  · rw [p2 h0, ← hs]
    clear p1 p2 hs
    go_enter Tryz.func66, Tryz.ntmps66
    go_wp2_with (go_at_call 108; refine HI.out.mono ?_; rintro x w1 ⟨rfl, rfl⟩)
    all_goals go_ret
    all_goals exact ⟨rfl, rfl⟩

theorem hasPrefix_one (l : List UInt8) (c : UInt8) : Lib.hasPrefix l [c] = (headF c l).2 := by
  cases l with
  | nil => rfl
  | cons d r =>
    simp only [Lib.hasPrefix, headF]
    by_cases h : d = c
    · subst h; simp
    · rw [if_neg h]
      simp [List.isPrefixOf]
      exact fun e => h e.symm
set_option maxHeartbeats 1000000 in
theorem liteCutPrefix_any (l : List UInt8) (c : UInt8) (hl : l.length ≤ 2147483647) (w : World) : Calls Tryz.prog 125 #[.string (str l), .string (str [c])] w fun e w' => e = .returned (.tuple #[.string (str (headF c l).1), .bool (headF c l).2]) ∧ w = w' := by
  have hP := Tryz.stringslite_HasPrefix (str l) (str [c]) w
  rw [str_data, str_data, hasPrefix_one] at hP
  have hD := str_dropF l 1
  have hs1 : (str [c]).size = 1 := rfl
  have hs : (str l).size = l.length := rfl
  obtain ⟨z, hz⟩ : ∃ z, str l = z := ⟨_, rfl⟩
  obtain ⟨y, hy⟩ : ∃ y, str [c] = y := ⟨_, rfl⟩
  cases l with
  | nil =>
    have e : headF c [] = ([], false) := rfl
    rw [e] at hP ⊢
    simp only at hP ⊢
    rw [hz, hy] at hP ⊢
    have HP := hidK hP
    clear hP hD hs1 hs hz hy
    go_enter Tryz.func125, Tryz.ntmps125
    go_wp2_with (go_at_call 147; refine HP.out.mono ?_; rintro x w1 ⟨rfl, rfl⟩)
    all_goals go_ret2
    all_goals exact ⟨rfl, rfl⟩
  | cons d r =>
    by_cases h : d = c
    · have e : headF c (d :: r) = (r, true) := by simp [headF, h]
      rw [e] at hP ⊢
      simp only at hP ⊢
      have hD' : (str (d :: r)).extract 1 (str (d :: r)).size = str r := hD
      have hs' : (str (d :: r)).size = r.length + 1 := rfl
      have hl' : r.length + 1 ≤ 2147483647 := hl
      obtain ⟨x, hx⟩ : ∃ x, str r = x := ⟨_, rfl⟩
      rw [hz] at hD' hs'
      rw [hz, hy] at hP
      rw [hz, hy, hx]
      rw [hy] at hs1
      rw [hx, hs'] at hD'
      have HP := hidK hP
      clear hP hD hs hz hy e h hx hl
      go_enter Tryz.func125, Tryz.ntmps125
      go_wp2_with (go_at_call 147; refine HP.out.mono ?_; rintro x w1 ⟨rfl, rfl⟩)
      all_goals go_ret2
      all_goals exact ⟨rfl, rfl⟩
    · have e : headF c (d :: r) = (d :: r, false) := by simp [headF, h]
      rw [e] at hP ⊢
      simp only at hP ⊢
      rw [hz, hy] at hP ⊢
      have HP := hidK hP
      clear hP hD hs1 hs hz hy e h
      go_enter Tryz.func125, Tryz.ntmps125
      go_wp2_with (go_at_call 147; refine HP.out.mono ?_; rintro x w1 ⟨rfl, rfl⟩)
      all_goals go_ret2
      all_goals exact ⟨rfl, rfl⟩
theorem cutPrefix_any (l : List UInt8) (c : UInt8) (hl : l.length ≤ 2147483647) (w : World) : Calls Tryz.prog 83 #[.string (str l), .string (str [c])] w fun e w' => e = .returned (.tuple #[.string (str (headF c l).1), .bool (headF c l).2]) ∧ w = w' := by
  have HP := hidK (liteCutPrefix_any l c hl w)
  go_enter Tryz.func83, Tryz.ntmps83
  go_wp2_with (go_at_call 125; refine HP.out.mono ?_; rintro x w1 ⟨rfl, rfl⟩)
  all_goals go_ret2
  all_goals exact ⟨rfl, rfl⟩

end Go.Proofs.YtlfcjcaofhcfnaaGreatDoor

namespace Go.Proofs.YtlfcjcaofhcfnaaGreatDoor
open Go.RowKit
set_option linter.unusedVariables false
set_option maxRecDepth 20000

theorem all_take {l : List UInt8} {f : UInt8 → Bool} {k : Nat} {c : UInt8} (hc : l[k]? = some c) (h : (l.take k).all f = true) (hf : f c = true) : (l.take (k + 1)).all f = true := by
  rw [List.take_add_one, hc, List.all_append, h]
  simp [hf]
theorem all_not {l : List UInt8} {f : UInt8 → Bool} {k : Nat} {c : UInt8} (hc : l[k]? = some c) (hf : f c = false) : l.all f = false := by
  rw [List.all_eq_false]
  exact ⟨c, List.mem_of_getElem? hc, by simp [hf]⟩

set_option maxHeartbeats 2000000 in
theorem ident_any (l : List UInt8) (hl : l.length ≤ 2147483647) (w : World) : Calls Tryz.prog 132 #[.string (str l)] w fun e w' => e = .returned (.bool (identF l)) ∧ w = w' := by
  have HSm : Hid (∀ (c : UInt8) W, Calls Tryz.prog 41 #[.int .u8 c.toNat] W fun e w' => e = .returned (.bool (smallB c)) ∧ W = w') := isSmall_any
  have HDi : Hid (∀ (c : UInt8) W, Calls Tryz.prog 126 #[.int .u8 c.toNat] W fun e w' => e = .returned (.bool (digitB c)) ∧ W = w') := isDigit_any
  match l with
  | [] =>
    go_enter Tryz.func132, Tryz.ntmps132
    have h0 : (str []).toList = [] := str_toList []
    have h1 : (str []).toList.isEmpty = true := by rw [h0]; rfl
    go_wp2_with fail
    all_goals go_ret
    all_goals exact ⟨rfl, rfl⟩
  | c :: r =>
    have HG : Hid (∀ k d (h : k < (str (c :: r)).size), (c :: r)[k]? = some d → (str (c :: r))[k] = d) := fun k d h hc => str_getF (c :: r) k d hc h
    obtain ⟨z, hz⟩ : ∃ z, str (c :: r) = z := ⟨_, rfl⟩
    have hs : z.size = r.length + 1 := by rw [← hz]; rfl
    have hnil : ¬ z.toList = [] := by rw [← hz, str_toList]; simp
    have hemp : z.toList.isEmpty = false := by rw [← hz, str_toList]; rfl
    have hs0 : 0 < z.size := by omega
    rw [hz] at HG ⊢
    have g0 := HG.out 0 c hs0 rfl
    obtain ⟨n, hn⟩ : ∃ n, r.length = n := ⟨_, rfl⟩
    have HN : Hid (r.length = n) := hn
    have hi : identF (c :: r) = (decide (n + 1 ≤ 32) && smallB c && r.all innerB) := by rw [← hn]; rfl
    rw [hi]
    simp only [List.length_cons] at hl
    rw [hn] at hs hl
    clear hz hn hi
    by_cases h32 : n + 1 ≤ 32
    · have h32' : ¬ (32 : Int) < (n : Int) + 1 := by omega
      rw [decide_eq_true h32]
      cases hsm : smallB c with
      | false =>
        have HS0 := hidK (HSm.out c)
        rw [hsm] at HS0
        clear h32
        go_enter Tryz.func132, Tryz.ntmps132
        go_wp2_with (go_at_call 41; refine (HS0.out _).mono ?_; rintro x w1 ⟨rfl, rfl⟩)
        all_goals go_ret
        all_goals exact ⟨rfl, rfl⟩
      | true =>
        have HS0 := hidK (HSm.out c)
        rw [hsm] at HS0
        simp only [Bool.true_and]
        obtain ⟨R, hR⟩ : ∃ R, r.all innerB = R := ⟨_, rfl⟩
        rw [hR]
        have HR := hidK hR
        clear h32 hR
        go_enter Tryz.func132, Tryz.ntmps132
        go_wp2_with (go_at_call 41; refine (HS0.out _).mono ?_; rintro x w1 ⟨rfl, rfl⟩)
        go_loopw [3] (fun s3 wx => ∃ k : Nat, k ≤ n ∧ s3 = .int .i64 ((k : Int) + 1) ∧ Hid ((r.take k).all innerB = true) ∧ wx = w) (fun v _ => n + 1 - (intOf v).toNat)
        case atStart => exact ⟨0, Nat.zero_le _, rfl, rfl, rfl⟩
        case round =>
          obtain ⟨k, hk, rfl, HA, hwx⟩ := hrel
          subst hwx
          by_cases hkn : k < n
          · obtain ⟨d, hd⟩ : ∃ d, r[k]? = some d := ⟨_, List.getElem?_eq_getElem (by rw [HN.out]; exact hkn)⟩
            have hkz : k + 1 < z.size := by omega
            have gk := HG.out (k + 1) d hkz (by simpa using hd)
            have HS1 := hidK (HSm.out d)
            have HD1 := hidK (HDi.out d)
            by_cases hin : innerB d = true
            · have HA2 := hidK (all_take hd HA.out hin)
              clear HSm HDi HG HS0 hd
              unfold innerB at hin
              cases h1 : smallB d with
              | true =>
                rw [h1] at HS1
                clear hin
                go_wp2_with (go_at_call 41; refine (HS1.out _).mono ?_; rintro x w1 ⟨rfl, rfl⟩)
                go_roundw
                case rel => exact ⟨k + 1, by omega, by go_num, HA2.out, by first | rfl | trivial⟩
                case measure => simp [intOf]; omega
              | false =>
                rw [h1] at HS1 hin
                cases h2 : digitB d with
                | true =>
                  rw [h2] at HD1
                  clear hin
                  go_wp2_with (first | (go_at_call 41; refine (HS1.out _).mono ?_; rintro x w1 ⟨rfl, rfl⟩) | (go_at_call 126; refine (HD1.out _).mono ?_; rintro x w1 ⟨rfl, rfl⟩))
                  go_roundw
                  case rel => exact ⟨k + 1, by omega, by go_num, HA2.out, by first | rfl | trivial⟩
                  case measure => simp [intOf]; omega
                | false =>
                  rw [h2] at HD1 hin
                  have h95 : d.toNat = 95 := by simpa using hin
                  have HS2 : Hid (∀ W, Calls Tryz.prog 41 #[.int .u8 95] W fun e w' => e = .returned (.bool false) ∧ W = w') := by have h := HS1.out; rw [h95] at h; exact h
                  have HD2 : Hid (∀ W, Calls Tryz.prog 126 #[.int .u8 95] W fun e w' => e = .returned (.bool false) ∧ W = w') := by have h := HD1.out; rw [h95] at h; exact h
                  clear hin HS1 HD1
                  go_wp2_with (first | (go_at_call 41; refine (HS2.out _).mono ?_; rintro x w1 ⟨rfl, rfl⟩) | (go_at_call 126; refine (HD2.out _).mono ?_; rintro x w1 ⟨rfl, rfl⟩))
                  go_roundw
                  case rel => exact ⟨k + 1, by omega, by go_num, HA2.out, by first | rfl | trivial⟩
                  case measure => simp [intOf]; omega
            · have hin' : innerB d = false := by simpa using hin
              obtain rfl : R = false := HR.out.symm.trans (all_not hd hin')
              unfold innerB at hin'
              simp only [Bool.or_eq_false_iff, decide_eq_false_iff_not] at hin'
              obtain ⟨⟨h1, h2⟩, h3⟩ := hin'
              rw [h1] at HS1
              rw [h2] at HD1
              clear HSm HDi HG HS0 hd hin HR
              go_wp2_with (first | (go_at_call 41; refine (HS1.out _).mono ?_; rintro x w1 ⟨rfl, rfl⟩) | (go_at_call 126; refine (HD1.out _).mono ?_; rintro x w1 ⟨rfl, rfl⟩))
              all_goals go_ret
              all_goals exact ⟨rfl, rfl⟩
          · obtain rfl : k = n := by omega
            have hall : r.all innerB = true := by
              have := HA.out
              rwa [List.take_of_length_le (by rw [HN.out]; exact Nat.le_refl _)] at this
            obtain rfl : R = true := HR.out.symm.trans hall
            clear HSm HDi HG HS0 hall HR
            go_wp2_with fail
            all_goals go_ret
            all_goals exact ⟨rfl, rfl⟩
    · have h32' : (32 : Int) < (n : Int) + 1 := by omega
      rw [decide_eq_false h32]
      clear HSm HDi HG h32
      go_enter Tryz.func132, Tryz.ntmps132
      go_wp2_with fail
      all_goals go_ret
      all_goals exact ⟨rfl, rfl⟩

end Go.Proofs.YtlfcjcaofhcfnaaGreatDoor

namespace Go.Proofs.YtlfcjcaofhcfnaaGreatDoor
open Go.RowKit
set_option linter.unusedVariables false
set_option maxRecDepth 20000

theorem four_cons (n i : Nat) (c : UInt8) (r : List UInt8) : fourG n i (c :: r) = if digitB c = false ∨ i = 4 then none else fourG (n * 10 + (c.toNat - 48)) (i + 1) r := rfl
theorem four_bound : ∀ (l : List UInt8) (n i m : Nat), fourG n i l = some m → i ≤ 4 → n < 10 ^ i → i + l.length ≤ 4 ∧ m < 10 ^ (i + l.length)
  | [], n, i, m, h, hi, hn => by
    simp only [fourG, Option.some.injEq] at h
    subst h
    exact ⟨by simpa using hi, by simpa using hn⟩
  | c :: r, n, i, m, h, hi, hn => by
    simp only [fourG] at h
    split at h
    · cases h
    · rename_i hc
      obtain ⟨h1, h2⟩ := not_or.1 hc
      have hd : digitB c = true := by simpa using h1
      have hcc : c.toNat - 48 ≤ 9 := by
        unfold digitB at hd
        simp at hd
        omega
      have hp : 10 ^ (i + 1) = 10 ^ i * 10 := Nat.pow_succ ..
      have := four_bound r _ (i + 1) m h (by omega) (by omega)
      simp only [List.length_cons]
      rw [show i + (r.length + 1) = i + 1 + r.length by omega]
      exact this

set_option maxHeartbeats 2000000 in
theorem four_any (l : List UInt8) (hl : l.length ≤ 2147483647) (w : World) : Calls Tryz.prog 84 #[.string (str l)] w fun e w' => (∃ n : Nat, n < 10000 ∧ fourF l = some n ∧ e = .returned (.tuple #[.int .i64 (n : Int), .bool true]) ∧ w = w') ∨ (fourF l = none ∧ (∃ n : Int, e = .returned (.tuple #[.int .i64 n, .bool false])) ∧ w = w') := by
  have HDi : Hid (∀ (c : UInt8) W, Calls Tryz.prog 126 #[.int .u8 c.toNat] W fun e w' => e = .returned (.bool (digitB c)) ∧ W = w') := isDigit_any
  have HG : Hid (∀ k d (h : k < (str l).size), l[k]? = some d → (str l)[k] = d) := fun k d h hc => str_getF l k d hc h
  have hnl : (str l).toList = l := str_toList l
  obtain ⟨z, hz⟩ : ∃ z, str l = z := ⟨_, rfl⟩
  have hs : z.size = l.length := by rw [← hz]; rfl
  rw [hz] at HG hnl ⊢
  obtain ⟨n, hn⟩ : ∃ n, l.length = n := ⟨_, rfl⟩
  have HN : Hid (l.length = n) := hn
  have HL := hidK hnl
  rw [hn] at hs hl
  clear hz hn hnl
  go_enter Tryz.func84, Tryz.ntmps84
  go_wp2_with fail
  go_loopw [4, 5] (fun s4 s5 wx => ∃ (k m : Nat), k ≤ n ∧ k ≤ 4 ∧ m < 10 ^ k ∧ s5 = .int .i64 (k : Int) ∧ s4 = .int .i64 (m : Int) ∧ Hid (fourG 0 0 l = fourG m k (l.drop k)) ∧ wx = w) (fun _ v _ => n - (intOf v).toNat)
  case atStart => exact ⟨0, 0, Nat.zero_le _, Nat.zero_le _, by decide, rfl, rfl, rfl, rfl⟩
  case round =>
    obtain ⟨k, m, hk, hk4, hm, rfl, rfl, HF, hwx⟩ := hrel
    subst hwx
    have hm4 : m < 10000 := Nat.lt_of_lt_of_le hm (Nat.pow_le_pow_right (by decide) hk4)
    have HM := hidK hm
    clear hm
    by_cases hkn : k < n
    · obtain ⟨d, hd⟩ : ∃ d, l[k]? = some d := ⟨_, List.getElem?_eq_getElem (by rw [HN.out]; exact hkn)⟩
      have hkz : k < z.size := by omega
      have gk := HG.out k d hkz hd
      have HD1 := hidK (HDi.out d)
      have hdr : l.drop k = d :: l.drop (k + 1) := by
        obtain ⟨h1, h2⟩ := List.getElem?_eq_some_iff.1 hd
        rw [List.drop_eq_getElem_cons h1, h2]
      have HF2 := hidK HF.out
      rw [hdr, four_cons] at HF2
      have hne : l ≠ [] := by rintro rfl; simp at hd
      have HNe := hidK hne
      clear hdr hne hd
      cases hdg : digitB d with
      | false =>
        rw [hdg] at HD1 HF2
        rw [if_pos (.inl rfl)] at HF2
        clear HF HM HG HDi
        go_wp2_with (go_at_call 126; refine (HD1.out _).mono ?_; rintro x w1 ⟨rfl, rfl⟩)
        all_goals go_ret2
        all_goals exact .inr ⟨by unfold fourF; rw [if_neg HNe.out]; exact HF2.out, ⟨_, rfl⟩, rfl⟩
      | true =>
        rw [hdg] at HD1 HF2
        have hdb : 48 ≤ d.toNat ∧ d.toNat ≤ 57 := by unfold digitB at hdg; simpa using hdg
        obtain ⟨h48, h57⟩ := hdb
        by_cases hk44 : k = 4
        · subst hk44
          rw [if_pos (.inr rfl)] at HF2
          clear HF HM HG HDi
          go_wp2_with (go_at_call 126; refine (HD1.out _).mono ?_; rintro x w1 ⟨rfl, rfl⟩)
          all_goals go_ret2
          all_goals exact .inr ⟨by unfold fourF; rw [if_neg HNe.out]; exact HF2.out, ⟨_, rfl⟩, rfl⟩
        · rw [if_neg (by simp [hk44])] at HF2
          have HM2 : Hid (m * 10 + (d.toNat - 48) < 10 ^ (k + 1)) := by
            have h1 := HM.out
            have hp : 10 ^ (k + 1) = 10 ^ k * 10 := Nat.pow_succ ..
            show _ < _
            omega
          have h44 : ¬ (k : Int) = 4 := by omega
          clear HF HM HG HDi hdg
          go_wp2_with (go_at_call 126; refine (HD1.out _).mono ?_; rintro x w1 ⟨rfl, rfl⟩)
          go_roundw
          case rel => exact ⟨k + 1, m * 10 + (d.toNat - 48), by omega, by omega, HM2.out, by go_num, by congr 1; omega, HF2.out, by first | rfl | trivial⟩
          case measure => simp [intOf]; omega
    · obtain rfl : k = n := by omega
      have hF : fourG 0 0 l = some m := by
        rw [HF.out, List.drop_eq_nil_of_le (by rw [HN.out]; exact Nat.le_refl _)]
        rfl
      have HF3 := hidK hF
      clear HF HG HDi hF
      by_cases hne : l = []
      · have hz0 : z.toList = [] := by rw [HL.out, hne]
        have hz1 : z.toList.isEmpty = true := by rw [hz0]; rfl
        have HNe := hidK hne
        clear hne
        go_wp2_with fail
        all_goals go_ret2
        all_goals exact .inr ⟨by rw [HNe.out]; rfl, ⟨_, rfl⟩, rfl⟩
      · have hz0 : ¬ z.toList = [] := by rw [HL.out]; exact hne
        have hz1 : z.toList.isEmpty = false := by rw [HL.out]; cases l with | nil => exact absurd rfl hne | cons _ _ => rfl
        have HNe := hidK hne
        clear hne
        go_wp2_with fail
        all_goals go_ret2
        all_goals exact .inl ⟨m, hm4, by unfold fourF; rw [if_neg HNe.out]; exact HF3.out, rfl, rfl⟩

end Go.Proofs.YtlfcjcaofhcfnaaGreatDoor

namespace Go.Proofs.YtlfcjcaofhcfnaaGreatDoor
open Go.RowKit
set_option linter.unusedVariables false
set_option maxRecDepth 20000

theorem var_below {n : String} {W W' : World} {cs : Array Value} (h : Below W.heap.size W W') (hv : W.var? Tryz.prog n = some cs) : W'.var? Tryz.prog n = some cs := by
  unfold World.var? at hv ⊢
  cases hg : Tryz.prog.globalNamed n with
  | none => rw [hg] at hv; cases hv
  | some g =>
    rw [hg] at hv
    simp only [Option.bind_some] at hv ⊢
    have hlt : g < W.heap.size := by
      rcases Nat.lt_or_ge g W.heap.size with h1 | h1
      · exact h1
      · rw [Array.getElem?_eq_none h1] at hv; cases hv
    rw [h.block g hlt]
    exact hv

/-- What reading and writing numbers wants of a world. -/
structure NEnv (w : World) : Prop where
  max : ∃ m, w.cell? ⟨1, 0, none⟩ = some (.int .i64 m)
  err : ∃ ev, (ev = .nilIface ∨ ∃ te pe, ev = .iface te pe) ∧ w.cell? ⟨3, 0, none⟩ = some ev
  tab : Lib.TabIs Tryz.prog w "internal/strconv.uint64pow10" .u64 Lib.pow10Tab
theorem NEnv.below {w w' : World} (h : NEnv w) (hb : Below w.heap.size w w') : NEnv w' := by
  obtain ⟨ev, h1, h2⟩ := h.err
  obtain ⟨m, hm⟩ := h.max
  exact ⟨⟨m, cell_later hb hm⟩, ⟨ev, h1, cell_later hb h2⟩, var_below hb h.tab⟩
theorem NEnv.drew {w : World} (h : NEnv w) : NEnv w.drew := h.below (Below.refl _ _).drew

end Go.Proofs.YtlfcjcaofhcfnaaGreatDoor

namespace Go.Proofs.YtlfcjcaofhcfnaaGreatDoor
open Go.RowKit
set_option linter.unusedVariables false
set_option maxRecDepth 20000

/-- A function of the program, entered by its number. -/
def Enters (g : Nat) : Prop := ∀ args w, (callFunc g args).run Tryz.prog w = .ok (.enter g args) w
/-- From block B on, of what lay in w nothing has turned in W. -/
structure Since (B : Nat) (w W : World) : Prop where
  size : w.heap.size ≤ W.heap.size
  block : ∀ k, B ≤ k → k < w.heap.size → W.heap[k]? = w.heap[k]?
theorem Since.of_below {B : Nat} {w W : World} (h : Below w.heap.size w W) : Since B w W := ⟨h.size, fun k _ hk => h.block k hk⟩
theorem Since.trans {B : Nat} {a b c : World} (h : Since B a b) (k : Since B b c) : Since B a c :=
  ⟨Nat.le_trans h.size k.size, fun i hi hl => (k.block i hi (Nat.lt_of_lt_of_le hl h.size)).trans (h.block i hi hl)⟩
theorem Since.mono {B B' : Nat} {a b : World} (h : Since B a b) (hB : B ≤ B') : Since B' a b := ⟨h.size, fun k hk hl => h.block k (Nat.le_trans hB hk) hl⟩
theorem Since.of_but {B : Nat} {S : List Nat} {a b : World} (h : But S a b) (hS : ∀ k ∈ S, k < B) : Since B a b := ⟨h.size, fun k hk hl => h.block k hl fun hm => by have := hS k hm; omega⟩
/-- A turn, as a function value. -/
def TurnOk (B : Nat) (w : World) (v : Value) (t : Turn) : Prop := ∃ g lb, v = .func (.func g) #[] lb ∧ Enters g ∧ ∀ W, Since B w W → NEnv W → ∀ l : List UInt8, l.length ≤ 2147483647 → Calls Tryz.prog g (#[.string (str l)] ++ lb) W fun e w' => e = .returned (.string (str (t.of l))) ∧ Below W.heap.size W w'
theorem TurnOk.since {B B' : Nat} {w w' : World} {v : Value} {t : Turn} (h : TurnOk B w v t) (hb : Since B w w') (hB : B' ≤ B) : TurnOk B' w' v t := by
  obtain ⟨g, lb, h1, h2, h3⟩ := h
  exact ⟨g, lb, h1, h2, fun W hW => h3 W (hb.trans (hW.mono hB))⟩

set_option maxHeartbeats 1000000 in
theorem blanks_any (k : Int) (hk : k ≤ 10000) (hk0 : -2147483648 ≤ k) (w : World) : Calls Tryz.prog 88 #[.int .i64 k] w fun e w' => e = .returned (.string (str (List.replicate k.toNat 32))) ∧ Below w.heap.size w w' := by
  have hR := Tryz.strings_Repeat (str [32]) k.toNat w (by omega) (by show 1 * k.toNat ≤ _; omega)
  have e : ∀ c : Nat, Lib.repeatL (str [32]).data.toList c = List.replicate c 32 := fun c => by
    induction c with
    | zero => rfl
    | succ c ih => rw [Lib.repeatL, ih, List.replicate_succ]; rfl
  rw [e] at hR
  have e2 : (⟨(List.replicate k.toNat (32 : UInt8)).toArray⟩ : ByteArray) = str (List.replicate k.toNat 32) := rfl
  rw [e2] at hR
  obtain ⟨y, hy⟩ : ∃ y, str (List.replicate k.toNat 32) = y := ⟨_, rfl⟩
  rw [hy] at hR ⊢
  have e3 : str [32] = (⟨#[32]⟩ : ByteArray) := rfl
  rw [e3] at hR
  by_cases h0 : 0 ≤ k
  · obtain ⟨n, rfl⟩ : ∃ n : Nat, k = (n : Int) := ⟨k.toNat, by omega⟩
    have e4 : (n : Int).toNat = n := rfl
    rw [e4] at hR
    have HR := hidK hR
    have hm : max 0 (n : Int) = (n : Int) := by omega
    clear hR hy e e2 e3 e4
    go_enter Tryz.func88, Tryz.ntmps88
    go_wp2_with (go_at_call 127; refine HR.out.mono ?_; rintro x w1 ⟨rfl, hb1⟩)
    all_goals go_ret
    all_goals exact ⟨rfl, by assumption⟩
  · have e4 : k.toNat = 0 := by omega
    rw [e4] at hR
    have hm : max 0 k = 0 := by omega
    have HR : Hid (Calls Tryz.prog 127 #[.string ⟨#[32]⟩, .int .i64 0] w fun e w' => e = .returned (.string y) ∧ Below w.heap.size w w') := hR
    clear hR hy e e2 e3 e4
    go_enter Tryz.func88, Tryz.ntmps88
    go_wp2_with (go_at_call 127; refine HR.out.mono ?_; rintro x w1 ⟨rfl, hb1⟩)
    all_goals go_ret
    all_goals exact ⟨rfl, by assumption⟩

theorem box_int {w W : World} {n : Int} (h : Since w.heap.size (w.alloc (.cells #[.int .i64 n] 3)) W) : W.cell? ⟨w.heap.size, 0, none⟩ = some (.int .i64 n) := cell_atT ((h.block w.heap.size (Nat.le_refl _) (by simp)).trans (heap_alloc_new w _)) 0
set_option maxHeartbeats 1000000 in
theorem first_turn (n : Nat) (hn : n < 10000) (W : World) (b : Nat) (hc : W.cell? ⟨b, 0, none⟩ = some (.int .i64 (n : Int))) (l : List UInt8) (hl : l.length ≤ 2147483647) : Calls Tryz.prog 85 #[.string (str l), .pointer (some ⟨b, 0, none⟩)] W fun e w' => e = .returned (.string (str ((Turn.cut n).of l))) ∧ Below W.heap.size W w' := by
  have hT : ∀ k, (str l).extract 0 k = str (l.take k) := str_takeF l
  have hs : (str l).size = l.length := rfl
  obtain ⟨z, hz⟩ : ∃ z, str l = z := ⟨_, rfl⟩
  obtain ⟨y, hy⟩ : ∃ y, str ((Turn.cut n).of l) = y := ⟨_, rfl⟩
  have hn1 : (str l).extract 0 n = y := by rw [hT]; exact hy
  have hn2 : l.length < n → (str l).extract 0 l.length = y := fun h => by
    rw [hT, ← hy]
    show _ = str (l.take n)
    rw [List.take_of_length_le (Nat.le_refl _), List.take_of_length_le (by omega)]
  rw [hz] at hs hn1 hn2
  rw [hz, hy]
  obtain ⟨m, hm⟩ : ∃ m, l.length = m := ⟨_, rfl⟩
  rw [hm] at hs hn2 hl
  clear hT hz hy hm
  by_cases h : m < n
  · have hx := hn2 h
    have h1 : ((m : Int)) < (n : Int) := by omega
    have hmin : min (n : Int) (m : Int) = (m : Int) := by omega
    clear hn1 hn2
    go_enter Tryz.func85, Tryz.ntmps85
    go_wp2
    all_goals go_ret
    all_goals exact ⟨rfl, by first | exact Below.refl _ _ | exact (Below.refl _ _).drew⟩
  · have h1 : ¬ ((m : Int)) < (n : Int) := by omega
    have h2 : (n : Int) ≤ (m : Int) := by omega
    have hmin : min (n : Int) (m : Int) = (n : Int) := by omega
    clear hn2
    go_enter Tryz.func85, Tryz.ntmps85
    go_wp2
    all_goals go_ret
    all_goals exact ⟨rfl, by first | exact Below.refl _ _ | exact (Below.refl _ _).drew⟩
set_option maxHeartbeats 1000000 in
theorem first_any (n : Nat) (hn : n < 10000) (w : World) : Calls Tryz.prog 31 #[.int .i64 (n : Int)] w fun e w' => ∃ v, e = .returned v ∧ Below w.heap.size w w' ∧ TurnOk w.heap.size w' v (.cut n) := by
  have HT : Hid (∀ W, Since w.heap.size (w.alloc (.cells #[.int .i64 (n : Int)] 3)) W → NEnv W → ∀ l : List UInt8, l.length ≤ 2147483647 → Calls Tryz.prog 85 #[.string (str l), .pointer (some ⟨w.heap.size, 0, none⟩)] W fun e w' => e = .returned (.string (str ((Turn.cut n).of l))) ∧ Below W.heap.size W w') := fun W hW _ l hl => first_turn n hn W w.heap.size (box_int hW) l hl
  go_enter Tryz.func31, Tryz.ntmps31
  go_wp2
  all_goals go_ret
  exact ⟨_, rfl, (Below.refl _ _).alloc (Nat.le_refl _) _, _, _, rfl, enters_of Tryz.func85 (by kernel_rfl) rfl, HT.out⟩

end Go.Proofs.YtlfcjcaofhcfnaaGreatDoor

namespace Go.Proofs.YtlfcjcaofhcfnaaGreatDoor
open Go.RowKit
set_option linter.unusedVariables false
set_option maxRecDepth 20000

set_option maxHeartbeats 1000000 in
theorem last_turn (n : Nat) (hn : n < 10000) (W : World) (b : Nat) (hc : W.cell? ⟨b, 0, none⟩ = some (.int .i64 (n : Int))) (l : List UInt8) (hl : l.length ≤ 2147483647) : Calls Tryz.prog 86 #[.string (str l), .pointer (some ⟨b, 0, none⟩)] W fun e w' => e = .returned (.string (str ((Turn.last n).of l))) ∧ Below W.heap.size W w' := by
  have hT := str_dropF l (l.length - n)
  have hs : (str l).size = l.length := rfl
  obtain ⟨z, hz⟩ : ∃ z, str l = z := ⟨_, rfl⟩
  obtain ⟨y, hy⟩ : ∃ y, str ((Turn.last n).of l) = y := ⟨_, rfl⟩
  have hx : (str l).extract (l.length - n) (str l).size = y := by rw [hT]; exact hy
  rw [hz] at hs hx
  rw [hz, hy]
  obtain ⟨m, hm⟩ : ∃ m, l.length = m := ⟨_, rfl⟩
  rw [hs] at hx
  rw [hm] at hs hx hl
  clear hT hz hy hm
  by_cases h : m < n
  · have h0 : m - n = 0 := by omega
    rw [h0] at hx
    have hmax : max 0 ((m : Int) - (n : Int)) = 0 := by omega
    clear h0
    go_enter Tryz.func86, Tryz.ntmps86
    go_wp2
    all_goals go_ret
    all_goals exact ⟨rfl, by first | exact Below.refl _ _ | exact (Below.refl _ _).drew⟩
  · obtain ⟨d, rfl⟩ : ∃ d, m = n + d := ⟨m - n, by omega⟩
    have h0 : n + d - n = d := by omega
    rw [h0] at hx
    have hmax : max 0 (((n : Int) + (d : Int)) - (n : Int)) = (d : Int) := by omega
    have hsub : ((n : Int) + (d : Int)) - (n : Int) = (d : Int) := by omega
    have hmax2 : max 0 (d : Int) = (d : Int) := by omega
    clear h0 h
    go_enter Tryz.func86, Tryz.ntmps86
    go_wp2
    all_goals go_ret
    all_goals exact ⟨rfl, by first | exact Below.refl _ _ | exact (Below.refl _ _).drew⟩
set_option maxHeartbeats 1000000 in
theorem last_any (n : Nat) (hn : n < 10000) (w : World) : Calls Tryz.prog 32 #[.int .i64 (n : Int)] w fun e w' => ∃ v, e = .returned v ∧ Below w.heap.size w w' ∧ TurnOk w.heap.size w' v (.last n) := by
  have HT : Hid (∀ W, Since w.heap.size (w.alloc (.cells #[.int .i64 (n : Int)] 3)) W → NEnv W → ∀ l : List UInt8, l.length ≤ 2147483647 → Calls Tryz.prog 86 #[.string (str l), .pointer (some ⟨w.heap.size, 0, none⟩)] W fun e w' => e = .returned (.string (str ((Turn.last n).of l))) ∧ Below W.heap.size W w') := fun W hW _ l hl => last_turn n hn W w.heap.size (box_int hW) l hl
  go_enter Tryz.func32, Tryz.ntmps32
  go_wp2
  all_goals go_ret
  exact ⟨_, rfl, (Below.refl _ _).alloc (Nat.le_refl _) _, _, _, rfl, enters_of Tryz.func86 (by kernel_rfl) rfl, HT.out⟩
set_option maxHeartbeats 1000000 in
theorem padBehind_turn (n : Nat) (hn : n < 10000) (W : World) (b : Nat) (hc : W.cell? ⟨b, 0, none⟩ = some (.int .i64 (n : Int))) (l : List UInt8) (hl : l.length ≤ 2147483647) : Calls Tryz.prog 87 #[.string (str l), .pointer (some ⟨b, 0, none⟩)] W fun e w' => e = .returned (.string (str ((Turn.behind n).of l))) ∧ Below W.heap.size W w' := by
  have HBl := hidK (fun X => blanks_any ((n : Int) - (l.length : Int)) (by omega) (by omega) X)
  rw [show ((n : Int) - (l.length : Int)).toNat = n - l.length by omega] at HBl
  have hcat : str l ++ str (List.replicate (n - l.length) 32) = str ((Turn.behind n).of l) := by
    apply ByteArray.ext
    simp [str, Turn.of]
  have hys : (str (List.replicate (n - l.length) 32)).size = n - l.length := List.length_replicate
  have hs : (str l).size = l.length := rfl
  obtain ⟨z, hz⟩ : ∃ z, str l = z := ⟨_, rfl⟩
  obtain ⟨y, hy⟩ : ∃ y, str (List.replicate (n - l.length) 32) = y := ⟨_, rfl⟩
  obtain ⟨u, hu⟩ : ∃ u, str ((Turn.behind n).of l) = u := ⟨_, rfl⟩
  rw [hz] at hs
  rw [hy] at HBl hys
  rw [hz, hy, hu] at hcat
  rw [hz, hu]
  obtain ⟨m, hm⟩ : ∃ m, l.length = m := ⟨_, rfl⟩
  rw [hm] at hs hl hys HBl
  have d1 : (z.size : Int) + (y.size : Int) ≤ 9223372036854775807 := by omega
  have d2 : ¬ 9223372036854775807 < z.size + y.size := by omega
  subst hcat
  clear hz hy hu hm hys
  go_enter Tryz.func87, Tryz.ntmps87
  go_wp2_with (go_at_call 88; refine (HBl.out _).mono ?_; rintro x w1 ⟨rfl, hb1⟩)
  all_goals go_ret
  all_goals exact ⟨rfl, by assumption⟩
set_option maxHeartbeats 1000000 in
theorem padBehind_any (n : Nat) (hn : n < 10000) (w : World) : Calls Tryz.prog 33 #[.int .i64 (n : Int)] w fun e w' => ∃ v, e = .returned v ∧ Below w.heap.size w w' ∧ TurnOk w.heap.size w' v (.behind n) := by
  have HT : Hid (∀ W, Since w.heap.size (w.alloc (.cells #[.int .i64 (n : Int)] 3)) W → NEnv W → ∀ l : List UInt8, l.length ≤ 2147483647 → Calls Tryz.prog 87 #[.string (str l), .pointer (some ⟨w.heap.size, 0, none⟩)] W fun e w' => e = .returned (.string (str ((Turn.behind n).of l))) ∧ Below W.heap.size W w') := fun W hW _ l hl => padBehind_turn n hn W w.heap.size (box_int hW) l hl
  go_enter Tryz.func33, Tryz.ntmps33
  go_wp2
  all_goals go_ret
  exact ⟨_, rfl, (Below.refl _ _).alloc (Nat.le_refl _) _, _, _, rfl, enters_of Tryz.func87 (by kernel_rfl) rfl, HT.out⟩
set_option maxHeartbeats 1000000 in
theorem padAhead_turn (n : Nat) (hn : n < 10000) (W : World) (b : Nat) (hc : W.cell? ⟨b, 0, none⟩ = some (.int .i64 (n : Int))) (l : List UInt8) (hl : l.length ≤ 2147483647) : Calls Tryz.prog 89 #[.string (str l), .pointer (some ⟨b, 0, none⟩)] W fun e w' => e = .returned (.string (str ((Turn.ahead n).of l))) ∧ Below W.heap.size W w' := by
  have HBl := hidK (fun X => blanks_any ((n : Int) - (l.length : Int)) (by omega) (by omega) X)
  rw [show ((n : Int) - (l.length : Int)).toNat = n - l.length by omega] at HBl
  have hcat : str (List.replicate (n - l.length) 32) ++ str l = str ((Turn.ahead n).of l) := by
    apply ByteArray.ext
    simp [str, Turn.of]
  have hys : (str (List.replicate (n - l.length) 32)).size = n - l.length := List.length_replicate
  have hs : (str l).size = l.length := rfl
  obtain ⟨z, hz⟩ : ∃ z, str l = z := ⟨_, rfl⟩
  obtain ⟨y, hy⟩ : ∃ y, str (List.replicate (n - l.length) 32) = y := ⟨_, rfl⟩
  obtain ⟨u, hu⟩ : ∃ u, str ((Turn.ahead n).of l) = u := ⟨_, rfl⟩
  rw [hz] at hs
  rw [hy] at HBl hys
  rw [hz, hy, hu] at hcat
  rw [hz, hu]
  obtain ⟨m, hm⟩ : ∃ m, l.length = m := ⟨_, rfl⟩
  rw [hm] at hs hl hys HBl
  have d1 : (y.size : Int) + (z.size : Int) ≤ 9223372036854775807 := by omega
  have d2 : ¬ 9223372036854775807 < y.size + z.size := by omega
  subst hcat
  clear hz hy hu hm hys
  go_enter Tryz.func89, Tryz.ntmps89
  go_wp2_with (go_at_call 88; refine (HBl.out _).mono ?_; rintro x w1 ⟨rfl, hb1⟩)
  all_goals go_ret
  all_goals exact ⟨rfl, by assumption⟩
set_option maxHeartbeats 1000000 in
theorem padAhead_any (n : Nat) (hn : n < 10000) (w : World) : Calls Tryz.prog 34 #[.int .i64 (n : Int)] w fun e w' => ∃ v, e = .returned v ∧ Below w.heap.size w w' ∧ TurnOk w.heap.size w' v (.ahead n) := by
  have HT : Hid (∀ W, Since w.heap.size (w.alloc (.cells #[.int .i64 (n : Int)] 3)) W → NEnv W → ∀ l : List UInt8, l.length ≤ 2147483647 → Calls Tryz.prog 89 #[.string (str l), .pointer (some ⟨w.heap.size, 0, none⟩)] W fun e w' => e = .returned (.string (str ((Turn.ahead n).of l))) ∧ Below W.heap.size W w') := fun W hW _ l hl => padAhead_turn n hn W w.heap.size (box_int hW) l hl
  go_enter Tryz.func34, Tryz.ntmps34
  go_wp2
  all_goals go_ret
  exact ⟨_, rfl, (Below.refl _ _).alloc (Nat.le_refl _) _, _, _, rfl, enters_of Tryz.func89 (by kernel_rfl) rfl, HT.out⟩

end Go.Proofs.YtlfcjcaofhcfnaaGreatDoor

namespace Go.Proofs.YtlfcjcaofhcfnaaGreatDoor
open Go.RowKit
set_option linter.unusedVariables false
set_option maxRecDepth 20000

/-- What makes a turn of a number. -/
def MakerOk (g : Nat) (c : Nat → Turn) : Prop := Enters g ∧ ∀ n : Nat, n < 10000 → ∀ w, Calls Tryz.prog g #[.int .i64 (n : Int)] w fun e w' => ∃ v, e = .returned v ∧ Below w.heap.size w w' ∧ TurnOk w.heap.size w' v (c n)
theorem maker_first : MakerOk 31 .cut := ⟨enters_of Tryz.func31 (by kernel_rfl) rfl, first_any⟩
theorem maker_last : MakerOk 32 .last := ⟨enters_of Tryz.func32 (by kernel_rfl) rfl, last_any⟩
theorem maker_behind : MakerOk 33 .behind := ⟨enters_of Tryz.func33 (by kernel_rfl) rfl, padBehind_any⟩
theorem maker_ahead : MakerOk 34 .ahead := ⟨enters_of Tryz.func34 (by kernel_rfl) rfl, padAhead_any⟩
/-- A turner, as a function value. -/
def TurnerOk (B : Nat) (w : World) (v : Value) (f : List UInt8 → Option Turn) : Prop := ∃ g lb, v = .func (.func g) #[] lb ∧ Enters g ∧ ∀ W, Since B w W → NEnv W → ∀ r : List UInt8, r.length ≤ 2147483647 → Calls Tryz.prog g (#[.string (str r)] ++ lb) W fun e w' => ∃ tv ok, e = .returned (.tuple #[tv, .bool ok]) ∧ Below W.heap.size W w' ∧ ((∃ t, f r = some t ∧ ok = true ∧ (TurnOk W.heap.size w' tv t ∨ TurnOk B w tv t)) ∨ (f r = none ∧ ok = false))
theorem TurnerOk.since {B B' : Nat} {w w' : World} {v : Value} {f : List UInt8 → Option Turn} (h : TurnerOk B w v f) (hb : Since B w w') (hB : B' ≤ B) : TurnerOk B' w' v f := by
  obtain ⟨g, lb, h1, h2, h3⟩ := h
  exact ⟨g, lb, h1, h2, fun W hW hE r hr => (h3 W (hb.trans (hW.mono hB)) hE r hr).mono fun e w2 ⟨tv, ok, k1, k2, k3⟩ => ⟨tv, ok, k1, k2, k3.imp (fun ⟨t, a, b, c⟩ => ⟨t, a, b, c.imp id fun k => k.since hb hB⟩) id⟩⟩
theorem head_len (c : UInt8) (l : List UInt8) : (headF c l).1.length ≤ l.length := by
  cases l with
  | nil => exact Nat.le_refl _
  | cons d r =>
    simp only [headF]
    split
    · exact Nat.le_succ _
    · exact Nat.le_refl _
theorem head_no {c : UInt8} {l : List UInt8} (h : (headF c l).2 = false) : (headF c l).1 = l := by
  cases l with
  | nil => rfl
  | cons d r =>
    simp only [headF] at h ⊢
    split at h
    · cases h
    · rename_i hd
      rw [if_neg hd]

set_option maxHeartbeats 2000000 in
theorem numbered_turner (gp gm : Nat) (cp cm : Nat → Turn) (hp : MakerOk gp cp) (hm : MakerOk gm cm) (W : World) (bp bm : Nat) (h1 : W.cell? ⟨bp, 0, none⟩ = some (.func (.func gp) #[] #[])) (h2 : W.cell? ⟨bm, 0, none⟩ = some (.func (.func gm) #[] #[])) (r : List UInt8) (hr : r.length ≤ 2147483647) :
    Calls Tryz.prog 82 #[.string (str r), .pointer (some ⟨bp, 0, none⟩), .pointer (some ⟨bm, 0, none⟩)] W fun e w' => ∃ tv ok, e = .returned (.tuple #[tv, .bool ok]) ∧ Below W.heap.size W w' ∧ ((∃ t, numF cp cm r = some t ∧ ok = true ∧ TurnOk W.heap.size w' tv t) ∨ (numF cp cm r = none ∧ ok = false)) := by
  obtain ⟨ep, hp⟩ := hp
  obtain ⟨em, hm⟩ := hm
  unfold Enters at ep em
  have HP := hidK hp
  have HM := hidK hm
  have HC := hidK (fun X => cutPrefix_any r 45 hr X)
  have e45 : str [45] = (⟨#[45]⟩ : ByteArray) := rfl
  rw [e45] at HC
  obtain ⟨F, hF⟩ : ∃ F, numF cp cm r = F := ⟨_, rfl⟩
  have HF := hidK hF
  unfold numF at HF
  rw [hF]
  obtain ⟨⟨d, b⟩, hd⟩ : ∃ p, headF 45 r = p := ⟨_, rfl⟩
  have hlen := head_len 45 r
  have hno : (headF 45 r).2 = false → (headF 45 r).1 = r := head_no
  rw [hd] at HC HF hlen hno
  simp only at HC HF hlen hno
  obtain ⟨z, hz⟩ : ∃ z, str r = z := ⟨_, rfl⟩
  rw [hz] at HC ⊢
  cases b with
  | true =>
    rw [if_pos rfl] at HF
    have HFo := hidK (fun X => four_any d (by omega) X)
    obtain ⟨y, hy⟩ : ∃ y, str d = y := ⟨_, rfl⟩
    rw [hy] at HC HFo
    clear hp hm hz hy hd hF e45 hno hlen hr HP
    go_enter Tryz.func82, Tryz.ntmps82
    go_wp2_with (go_at_call 83; refine (HC.out _).mono ?_; rintro x w1 ⟨rfl, rfl⟩)
    refine (HFo.out _).mono ?_
    rintro x w1 (⟨n, hn, hf, rfl, rfl⟩ | ⟨hf, ⟨n, rfl⟩, rfl⟩)
    · have HMk := hidK (fun X => HM.out n hn X)
      have HF1 := hidK hf
      clear hf
      go_wp2_with (go_at_fn gm; refine (HMk.out _).mono ?_; rintro x w2 ⟨v, rfl, hb2, ht2⟩)
      all_goals go_ret2
      all_goals exact ⟨_, _, rfl, by assumption, .inl ⟨cm n, by rw [← HF.out, HF1.out]; rfl, rfl, by assumption⟩⟩
    · have HF1 := hidK hf
      clear hf
      go_wp2_with fail
      all_goals go_ret2
      all_goals exact ⟨_, _, rfl, Below.refl _ _, .inr ⟨by rw [← HF.out, HF1.out]; rfl, rfl⟩⟩
  | false =>
    have hdr : d = r := hno rfl
    subst hdr
    rw [if_neg (by decide)] at HF
    have HFo := hidK (fun X => four_any d hr X)
    rw [hz] at HC HFo
    clear hp hm hz hd hF e45 hno hlen hr HM
    go_enter Tryz.func82, Tryz.ntmps82
    go_wp2_with (go_at_call 83; refine (HC.out _).mono ?_; rintro x w1 ⟨rfl, rfl⟩)
    refine (HFo.out _).mono ?_
    rintro x w1 (⟨n, hn, hf, rfl, rfl⟩ | ⟨hf, ⟨n, rfl⟩, rfl⟩)
    · have HMk := hidK (fun X => HP.out n hn X)
      have HF1 := hidK hf
      clear hf
      go_wp2_with (go_at_fn gp; refine (HMk.out _).mono ?_; rintro x w2 ⟨v, rfl, hb2, ht2⟩)
      all_goals go_ret2
      all_goals exact ⟨_, _, rfl, by assumption, .inl ⟨cp n, by rw [← HF.out, HF1.out]; rfl, rfl, by assumption⟩⟩
    · have HF1 := hidK hf
      clear hf
      go_wp2_with fail
      all_goals go_ret2
      all_goals exact ⟨_, _, rfl, Below.refl _ _, .inr ⟨by rw [← HF.out, HF1.out]; rfl, rfl⟩⟩

theorem numbered_any (gp gm : Nat) (cp cm : Nat → Turn) (hp : MakerOk gp cp) (hm : MakerOk gm cm) (w : World) : Calls Tryz.prog 30 #[.func (.func gp) #[] #[], .func (.func gm) #[] #[]] w fun e w' => ∃ v, e = .returned v ∧ Below w.heap.size w w' ∧ TurnerOk w.heap.size w' v (numF cp cm) := by
  go_enter Tryz.func30, Tryz.ntmps30
  go_wp2
  all_goals go_ret
  refine ⟨_, rfl, ?_, _, _, rfl, enters_of Tryz.func82 (by kernel_rfl) rfl, fun W hW _ r hr => (numbered_turner gp gm cp cm hp hm W _ _ ?_ ?_ r hr).mono fun e w2 ⟨tv, ok, k1, k2, k3⟩ => ⟨tv, ok, k1, k2, k3.imp (fun ⟨t, a, b, c⟩ => ⟨t, a, b, .inl c⟩) id⟩⟩
  · exact ((Below.refl _ _).alloc (Nat.le_refl _) _).alloc (by simp) _
  · exact cell_atT ((hW.block _ (Nat.le_refl _) (by simp; omega)).trans (heap_two w _ _).1) 0
  · exact cell_atT ((hW.block _ (by simp) (by simp)).trans (heap_two w _ _).2.1) 0

end Go.Proofs.YtlfcjcaofhcfnaaGreatDoor
