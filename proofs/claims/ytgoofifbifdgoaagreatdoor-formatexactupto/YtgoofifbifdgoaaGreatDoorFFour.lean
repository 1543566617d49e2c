/-
  Formats: numbers of one to four digits; what a numbered turn is.
-/
import Derived.Test.YtgoofifbifdgoaaGreatDoorFPre
namespace Go.Proofs.YtgoofifbifdgoaaGreatDoor
open Go.RowKit
set_option linter.unusedVariables false
set_option maxRecDepth 20000

theorem four_cons (n i : Nat) (c : UInt8) (r : List UInt8) : fourG n i (c :: r) = if digitB c = false ∨ i = 4 then none else fourG (n * 10 + (c.toNat - 48)) (i + 1) r := rfl
theorem four_bound : ∀ (l : List UInt8) (n i m : Nat), fourG n i l = some m → i ≤ 4 → n < 10 ^ i → i + l.length ≤ 4 ∧ m < 10 ^ (i + l.length)
  | [], n, i, m, h, hi, hn => by
    simp only [fourG, Option.some.injEq] at h
    subst h
    exact ⟨by simpa using hi, by simpa using hn⟩
  | c :: r, n, i, m, h, hi, hn => by
    simp only [fourG] at h
    split at h
    · cases h
    · rename_i hc
      obtain ⟨h1, h2⟩ := not_or.1 hc
      have hd : digitB c = true := by simpa using h1
      have hcc : c.toNat - 48 ≤ 9 := by
        unfold digitB at hd
        simp at hd
        omega
      have hp : 10 ^ (i + 1) = 10 ^ i * 10 := Nat.pow_succ ..
      have := four_bound r _ (i + 1) m h (by omega) (by omega)
      simp only [List.length_cons]
      rw [show i + (r.length + 1) = i + 1 + r.length by omega]
      exact this

set_option maxHeartbeats 2000000 in
theorem four_any (l : List UInt8) (hl : l.length ≤ 2147483647) (w : World) : Calls Tryz.prog 91 #[.string (str l)] w fun e w' => (∃ n : Nat, n < 10000 ∧ fourF l = some n ∧ e = .returned (.tuple #[.int .i64 (n : Int), .bool true]) ∧ w = w') ∨ (fourF l = none ∧ (∃ n : Int, e = .returned (.tuple #[.int .i64 n, .bool false])) ∧ w = w') := by
  have HDi : Hid (∀ (c : UInt8) W, Calls Tryz.prog 124 #[.int .u8 c.toNat] W fun e w' => e = .returned (.bool (digitB c)) ∧ W = w') := isDigit_any
  have HG : Hid (∀ k d (h : k < (str l).size), l[k]? = some d → (str l)[k] = d) := fun k d h hc => str_getF l k d hc h
  have hnl : (str l).toList = l := str_toList l
  obtain ⟨z, hz⟩ : ∃ z, str l = z := ⟨_, rfl⟩
  have hs : z.size = l.length := by rw [← hz]; rfl
  rw [hz] at HG hnl ⊢
  obtain ⟨n, hn⟩ : ∃ n, l.length = n := ⟨_, rfl⟩
  have HN : Hid (l.length = n) := hn
  have HL := hidK hnl
  rw [hn] at hs hl
  clear hz hn hnl
  go_enter Tryz.func91, Tryz.ntmps91
  go_wp2_with fail
  go_loopw [4, 5] (fun s4 s5 wx => ∃ (k m : Nat), k ≤ n ∧ k ≤ 4 ∧ m < 10 ^ k ∧ s5 = .int .i64 (k : Int) ∧ s4 = .int .i64 (m : Int) ∧ Hid (fourG 0 0 l = fourG m k (l.drop k)) ∧ wx = w) (fun _ v _ => n - (intOf v).toNat)
  case atStart => exact ⟨0, 0, Nat.zero_le _, Nat.zero_le _, by decide, rfl, rfl, rfl, rfl⟩
  case round =>
    obtain ⟨k, m, hk, hk4, hm, rfl, rfl, HF, hwx⟩ := hrel
    subst hwx
    have hm4 : m < 10000 := Nat.lt_of_lt_of_le hm (Nat.pow_le_pow_right (by decide) hk4)
    have HM := hidK hm
    clear hm
    by_cases hkn : k < n
    · obtain ⟨d, hd⟩ : ∃ d, l[k]? = some d := ⟨_, List.getElem?_eq_getElem (by rw [HN.out]; exact hkn)⟩
      have hkz : k < z.size := by omega
      have gk := HG.out k d hkz hd
      have HD1 := hidK (HDi.out d)
      have hdr : l.drop k = d :: l.drop (k + 1) := by
        obtain ⟨h1, h2⟩ := List.getElem?_eq_some_iff.1 hd
        rw [List.drop_eq_getElem_cons h1, h2]
      have HF2 := hidK HF.out
      rw [hdr, four_cons] at HF2
      have hne : l ≠ [] := by rintro rfl; simp at hd
      have HNe := hidK hne
      clear hdr hne hd
      cases hdg : digitB d with
      | false =>
        rw [hdg] at HD1 HF2
        rw [if_pos (.inl rfl)] at HF2
        clear HF HM HG HDi
        go_wp2_with (go_at_call 124; refine (HD1.out _).mono ?_; rintro x w1 ⟨rfl, rfl⟩)
        all_goals go_ret2
        all_goals exact .inr ⟨by unfold fourF; rw [if_neg HNe.out]; exact HF2.out, ⟨_, rfl⟩, rfl⟩
      | true =>
        rw [hdg] at HD1 HF2
        have hdb : 48 ≤ d.toNat ∧ d.toNat ≤ 57 := by unfold digitB at hdg; simpa using hdg
        obtain ⟨h48, h57⟩ := hdb
        by_cases hk44 : k = 4
        · subst hk44
          rw [if_pos (.inr rfl)] at HF2
          clear HF HM HG HDi
          go_wp2_with (go_at_call 124; refine (HD1.out _).mono ?_; rintro x w1 ⟨rfl, rfl⟩)
          all_goals go_ret2
          all_goals exact .inr ⟨by unfold fourF; rw [if_neg HNe.out]; exact HF2.out, ⟨_, rfl⟩, rfl⟩
        · rw [if_neg (by simp [hk44])] at HF2
          have HM2 : Hid (m * 10 + (d.toNat - 48) < 10 ^ (k + 1)) := by
            have h1 := HM.out
            have hp : 10 ^ (k + 1) = 10 ^ k * 10 := Nat.pow_succ ..
            show _ < _
            omega
          have h44 : ¬ (k : Int) = 4 := by omega
          clear HF HM HG HDi hdg
          go_wp2_with (go_at_call 124; refine (HD1.out _).mono ?_; rintro x w1 ⟨rfl, rfl⟩)
          go_roundw
          case rel => exact ⟨k + 1, m * 10 + (d.toNat - 48), by omega, by omega, HM2.out, by go_num, by congr 1; omega, HF2.out, by first | rfl | trivial⟩
          case measure => simp [intOf]; omega
    · obtain rfl : k = n := by omega
      have hF : fourG 0 0 l = some m := by
        rw [HF.out, List.drop_eq_nil_of_le (by rw [HN.out]; exact Nat.le_refl _)]
        rfl
      have HF3 := hidK hF
      clear HF HG HDi hF
      by_cases hne : l = []
      · have hz0 : z.toList = [] := by rw [HL.out, hne]
        have hz1 : z.toList.isEmpty = true := by rw [hz0]; rfl
        have HNe := hidK hne
        clear hne
        go_wp2_with fail
        all_goals go_ret2
        all_goals exact .inr ⟨by rw [HNe.out]; rfl, ⟨_, rfl⟩, rfl⟩
      · have hz0 : ¬ z.toList = [] := by rw [HL.out]; exact hne
        have hz1 : z.toList.isEmpty = false := by rw [HL.out]; cases l with | nil => exact absurd rfl hne | cons _ _ => rfl
        have HNe := hidK hne
        clear hne
        go_wp2_with fail
        all_goals go_ret2
        all_goals exact .inl ⟨m, hm4, by unfold fourF; rw [if_neg HNe.out]; exact HF3.out, rfl, rfl⟩

end Go.Proofs.YtgoofifbifdgoaaGreatDoor
