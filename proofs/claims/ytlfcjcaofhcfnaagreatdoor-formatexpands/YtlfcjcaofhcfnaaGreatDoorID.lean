/-
  Formats: the document's numbers, as lists alone.
  Formats: the document's numbers.
  Formats: the document's sums.
-/
import Derived.Test.YtlfcjcaofhcfnaaGreatDoorGQ
import Derived.Test.YtlfcjcaofhcfnaaGreatDoorIB
import Derived.Test.YtlfcjcaofhcfnaaGreatDoorGF
import Derived.Test.YtlfcjcaofhcfnaaGreatDoorIA
import Derived.Test.YtlfcjcaofhcfnaaGreatDoorGT
namespace Go.Proofs.YtlfcjcaofhcfnaaGreatDoor
set_option linter.unusedVariables false

def docD : Nat → List UInt8 → Option Nat
  | n, [] => some n
  | n, c :: r => if digitB c = false then none else if 4611686018427387904 < 10 * n + (c.toNat - 48) then none else docD (10 * n + (c.toNat - 48)) r
def digitsF (l : List UInt8) : Option Nat := if l = [] ∨ (1 < l.length ∧ l.head? = some 48) then none else docD 0 l
theorem read_grows : ∀ (l : List UInt8) (n m : Nat), readD n l = some m → n * 10 ^ l.length ≤ m
  | [], n, m, h => by cases h; simp
  | c :: r, n, m, h => by
    simp only [readD] at h
    split at h
    · have h2 := read_grows r _ m h
      rw [List.length_cons, Nat.pow_succ]
      have h3 : n * 10 * 10 ^ r.length ≤ (n * 10 + (c.toNat - 48)) * 10 ^ r.length := Nat.mul_le_mul_right _ (Nat.le_add_right _ _)
      calc n * (10 ^ r.length * 10) = n * 10 * 10 ^ r.length := by rw [Nat.mul_comm (10 ^ r.length) 10, Nat.mul_assoc]
        _ ≤ _ := Nat.le_trans h3 h2
    · cases h
theorem ten_pos (k : Nat) : 1 ≤ 10 ^ k := Nat.pos_of_ne_zero (by simp)
theorem read_le {l : List UInt8} {n m : Nat} (h : readD n l = some m) : n ≤ m := by
  have h1 := read_grows l n m h
  have h2 : n * 1 ≤ n * 10 ^ l.length := Nat.mul_le_mul_left _ (ten_pos l.length)
  omega
theorem doc_read : ∀ (l : List UInt8) (n : Nat), n ≤ 4611686018427387904 → docD n l = (readD n l).bind fun m => if 4611686018427387904 < m then none else some m
  | [], n, hn => by simp [docD, readD]; omega
  | c :: r, n, hn => by
    simp only [docD, readD]
    cases hd : digitB c with
    | false => simp
    | true =>
      simp only [Bool.true_eq_false, if_false, if_true]
      rw [show n * 10 + (c.toNat - 48) = 10 * n + (c.toNat - 48) by omega]
      split
      · rename_i h
        cases hr : readD (10 * n + (c.toNat - 48)) r with
        | none => rfl
        | some m =>
          have := read_le hr
          simp
          omega
      · exact doc_read r _ (by omega)
theorem whole_doc (l : List UInt8) : wholeF l = (digitsF (headF 45 l).1).map fun n => if (headF 45 l).2 then -(n : Int) else (n : Int) := by
  unfold wholeF digitsF
  obtain ⟨d, hd⟩ : ∃ d, (headF 45 l).1 = d := ⟨_, rfl⟩
  rw [hd]
  by_cases h0 : d = []
  · subst h0
    simp [readU]
  by_cases h1 : 1 < d.length ∧ d.head? = some 48
  · rw [if_pos (.inr h1), if_pos (.inr h1)]
    rfl
  · rw [if_neg (c := d = [] ∨ _) (by rintro (h | h); exact h0 h; exact h1 h), doc_read d 0 (by omega)]
    by_cases h19 : 19 < d.length
    · rw [if_pos (.inl h19)]
      cases hr : readD 0 d with
      | none => rfl
      | some m =>
        simp only [Option.bind_some]
        cases d with
        | nil => exact absurd rfl h0
        | cons c r =>
          simp only [readD] at hr
          split at hr
          · rename_i hc
            have h2 := read_grows r _ m hr
            have hc48 : 1 ≤ c.toNat - 48 := by
              unfold digitB at hc
              rw [Bool.and_eq_true, decide_eq_true_eq, decide_eq_true_eq] at hc
              have : c.toNat ≠ 48 := fun e => h1 ⟨by omega, by rw [show c = 48 from UInt8.toNat_inj.1 e]; rfl⟩
              omega
            have h3 : 10 ^ 19 ≤ 10 ^ r.length := Nat.pow_le_pow_right (by omega) (by simp at h19; omega)
            have h4 : 1 * 10 ^ r.length ≤ (0 * 10 + (c.toNat - 48)) * 10 ^ r.length := Nat.mul_le_mul_right _ (by omega)
            rw [if_pos (by omega)]
            rfl
          · cases hr
    · rw [if_neg (by rintro (h | h); exact h19 h; exact h1 h)]
      unfold readU
      rw [if_neg h0]
      cases hr : readD 0 d with
      | none => rfl
      | some m =>
        simp only [Option.bind_some]
        split <;> rfl
theorem doc_le : ∀ (l : List UInt8) (n m : Nat), n ≤ 4611686018427387904 → docD n l = some m → m ≤ 4611686018427387904
  | [], n, m, hn, h => by cases h; exact hn
  | c :: r, n, m, hn, h => by
    simp only [docD] at h
    split at h
    · cases h
    · split at h
      · cases h
      · exact doc_le r _ m (by omega) h

end Go.Proofs.YtlfcjcaofhcfnaaGreatDoor

namespace Go.Proofs.YtlfcjcaofhcfnaaGreatDoor
open Go.RowKit
set_option linter.unusedVariables false
set_option maxRecDepth 100000

def natV (o : Option Nat) : Value := match o with | some n => .tuple #[.int .i64 (n : Int), .bool true] | none => .tuple #[.int .i64 0, .bool false]
theorem doc_cons {l : List UInt8} {i n : Nat} {c : UInt8} (hc : l[i]? = some c) : docD n (l.drop i) = if digitB c = false then none else if 4611686018427387904 < 10 * n + (c.toNat - 48) then none else docD (10 * n + (c.toNat - 48)) (l.drop (i + 1)) := by
  rw [drop_two hc]
  rfl
theorem wrap_u8 {d : Int} (h : 0 ≤ d ∧ d ≤ 255) : IntKind.u8.wrap d = d := by
  simp only [IntKind.wrap, IntKind.bits, IntKind.signed]
  simp
  omega
set_option maxHeartbeats 4000000 in
theorem digitsR_any (l : List UInt8) (hl : l.length ≤ 2147483647) (w : World) : Calls Tryz.prog 165 #[.string (str l)] w fun e w' => e = .returned (natV (digitsF l)) ∧ w = w' := by
  have hs : (str l).size = l.length := rfl
  have htl : (str l).toList = l := str_toList l
  have HG : Hid (∀ (i : Nat) (c : UInt8), l[i]? = some c → ∀ h : i < (str l).size, (str l)[i] = c) := fun i c hc h => str_getF l i c hc h
  obtain ⟨R, hR⟩ : ∃ R, digitsF l = R := ⟨_, rfl⟩
  have HR := hidK hR
  rw [hR]
  unfold digitsF at HR
  obtain ⟨z, hz⟩ : ∃ z, str l = z := ⟨_, rfl⟩
  rw [hz] at hs HG htl ⊢
  obtain ⟨n, hn⟩ : ∃ n, l.length = n := ⟨_, rfl⟩
  have HN := hidK hn
  rw [hn] at hs hl HR
  clear hz hR
  by_cases h0 : l = []
  · have HR2 : Hid (R = none) := by rw [← HR.out, if_pos (.inl h0)]; rfl
    rw [h0] at htl
    clear HR HN hn h0
    go_enter Tryz.func165, Tryz.ntmps165
    go_wp2_with fail
    all_goals go_ret2
    all_goals exact ⟨by rw [HR2.out]; rfl, rfl⟩
  · have hne : ¬ z.toList = [] := by rw [htl]; exact h0
    have hemp : z.toList.isEmpty = false := by rw [htl]; cases l with | nil => exact absurd rfl h0 | cons _ _ => rfl
    have hn0 : 0 < n := by rw [← hn]; exact List.length_pos_iff.2 h0
    obtain ⟨c0, hc0⟩ : ∃ c, l[0]? = some c := ⟨_, List.getElem?_eq_getElem (by rw [hn]; exact hn0)⟩
    have hz0 : 0 < z.size := by omega
    have g0 := HG.out 0 c0 hc0 hz0
    have hhd : l.head? = some c0 := by rw [List.head?_eq_getElem?]; exact hc0
    rw [hhd] at HR
    clear htl hn hc0 hhd
    by_cases hlead : 1 < n ∧ c0.toNat = 48
    · have HR2 : Hid (R = none) := by rw [← HR.out, if_pos (.inr ⟨hlead.1, by rw [show c0 = 48 from UInt8.toNat_inj.1 hlead.2]⟩)]; rfl
      obtain ⟨k1, k2⟩ := hlead
      have k3 : (1 : Int) < (n : Int) := by omega
      clear HR HN h0
      go_enter Tryz.func165, Tryz.ntmps165
      go_wp2_with fail
      all_goals go_ret2
      all_goals exact ⟨by rw [HR2.out]; rfl, rfl⟩
    · have HI : Hid (docD 0 (l.drop 0) = R) := by
        have h := HR.out
        rw [if_neg (by
          rintro (h1 | ⟨h1, h2⟩)
          · exact h0 h1
          · exact hlead ⟨h1, by rw [Option.some.inj h2]; rfl⟩)] at h
        exact h
      have HLd := hidK hlead
      clear HR h0 hlead
      have hsplit : ¬ 1 < n ∨ (1 < n ∧ ¬ c0.toNat = 48) := by
        rcases Decidable.em (1 < n) with h | h
        · exact .inr ⟨h, fun e => HLd.out ⟨h, e⟩⟩
        · exact .inl h
      rcases hsplit with hz1 | ⟨hz1, hz2⟩
      · have k3 : ¬ (1 : Int) < (n : Int) := by omega
        clear HLd
        go_enter Tryz.func165, Tryz.ntmps165
        go_wp2_with fail
        go_loopw [4, 5] (fun s4 s5 wx => ∃ (i m : Nat), i ≤ n ∧ m ≤ 4611686018427387904 ∧ s5 = .int .i64 (i : Int) ∧ s4 = .int .i64 (m : Int) ∧ Hid (docD m (l.drop i) = R) ∧ wx = w) (fun _ v _ => n - (intOf v).toNat)
        case atStart => exact ⟨0, 0, Nat.zero_le _, Nat.zero_le _, rfl, rfl, HI.out, rfl⟩
        case round =>
          obtain ⟨i, m, hi, hm, rfl, rfl, HJ, rfl⟩ := hrel
          by_cases hin : i < n
          · obtain ⟨c, hc⟩ : ∃ c, l[i]? = some c := ⟨_, List.getElem?_eq_getElem (by rw [HN.out]; exact hin)⟩
            have hzi : i < z.size := by omega
            have gi := HG.out i c hc hzi
            have hJ := HJ.out
            rw [doc_cons hc] at hJ
            cases hd : digitB c with
            | false =>
              have HR2 : Hid (R = none) := by rw [← hJ, if_pos hd]; rfl
              unfold digitB at hd
              have hd2 : c.toNat < 48 ∨ 57 < c.toNat := by simp at hd; omega
              have HD2 := hidK hd2
              clear hd hd2 hJ hc HJ
              go_wp2_with fail
              all_goals first
                | (go_ret2; exact ⟨by rw [HR2.out]; rfl, rfl⟩)
                | (exfalso; have h := HD2.out; omega)
                | (exfalso; have h := HD2.out; simp at *; omega)
            | true =>
              rw [if_neg (by rw [hd]; decide)] at hJ
              unfold digitB at hd
              rw [Bool.and_eq_true, decide_eq_true_eq, decide_eq_true_eq] at hd
              obtain ⟨d1, d2⟩ := hd
              obtain ⟨d, hdd⟩ : ∃ d, c.toNat - 48 = d := ⟨_, rfl⟩
              rw [hdd] at hJ
              have hd9 : d ≤ 9 := by omega
              have e1 : (c.toNat : Int) - 48 = (d : Int) := by omega
              have e2 : IntKind.u8.wrap (d : Int) = (d : Int) := wrap_u8 (by omega)
              obtain ⟨q, hq⟩ : ∃ q : Int, (4611686018427387904 - (d : Int)).tdiv 10 = q := ⟨_, rfl⟩
              have HQ := hidK hq
              have hq1 : 0 ≤ q := by rw [← hq, Int.tdiv_eq_ediv_of_nonneg (by omega)]; omega
              have hq2 : q ≤ 4611686018427387904 := by rw [← hq, Int.tdiv_eq_ediv_of_nonneg (by omega)]; omega
              by_cases hbig : 4611686018427387904 < 10 * m + d
              · have HR2 : Hid (R = none) := by rw [← hJ, if_pos hbig]; rfl
                have hqm : q < (m : Int) := by
                  rw [← hq, Int.tdiv_eq_ediv_of_nonneg (by omega)]
                  omega
                clear hJ hc HJ hbig hdd
                go_wp2_with fail
                all_goals first
                  | (go_ret2; exact ⟨by rw [HR2.out]; rfl, rfl⟩)
                  | trace_state
              · rw [if_neg hbig] at hJ
                have HJ2 := hidK hJ
                have hqm : ¬ q < (m : Int) := by
                  rw [← hq, Int.tdiv_eq_ediv_of_nonneg (by omega)]
                  omega
                have hm1 : 10 * (m : Int) ≤ 4611686018427387904 := by omega
                have hm2 : 10 * (m : Int) + (d : Int) ≤ 4611686018427387904 := by omega
                have HBg := hidK hbig
                clear hJ hc HJ hdd hbig
                go_wp2_with fail
                all_goals first
                  | exact ⟨⟨i + 1, 10 * m + d, by omega, by have := HBg.out; omega, by go_num, by go_num, HJ2.out, by first | rfl | trivial⟩, by simp [intOf]; omega⟩
                  | exact ⟨⟨u2, u3, _, _, ⟨i + 1, by omega, 10 * m + d, by have := HBg.out; omega, rfl, rfl, HJ2.out⟩, rfl, rfl, by go_num, by go_num⟩, by simp [intOf]; omega⟩
          · obtain rfl : i = n := by omega
            have HR2 : Hid (R = some m) := by
              have h := HJ.out
              rw [List.drop_eq_nil_of_le (by rw [HN.out]; exact Nat.le_refl _)] at h
              rw [← h]
              rfl
            clear HJ
            go_wp2_with fail
            all_goals go_ret2
            all_goals exact ⟨by rw [HR2.out]; rfl, rfl⟩
      · have k3 : (1 : Int) < (n : Int) := by omega
        clear HLd
        go_enter Tryz.func165, Tryz.ntmps165
        go_wp2_with fail
        go_loopw [4, 5] (fun s4 s5 wx => ∃ (i m : Nat), i ≤ n ∧ m ≤ 4611686018427387904 ∧ s5 = .int .i64 (i : Int) ∧ s4 = .int .i64 (m : Int) ∧ Hid (docD m (l.drop i) = R) ∧ wx = w) (fun _ v _ => n - (intOf v).toNat)
        case atStart => exact ⟨0, 0, Nat.zero_le _, Nat.zero_le _, rfl, rfl, HI.out, rfl⟩
        case round =>
          obtain ⟨i, m, hi, hm, rfl, rfl, HJ, rfl⟩ := hrel
          by_cases hin : i < n
          · obtain ⟨c, hc⟩ : ∃ c, l[i]? = some c := ⟨_, List.getElem?_eq_getElem (by rw [HN.out]; exact hin)⟩
            have hzi : i < z.size := by omega
            have gi := HG.out i c hc hzi
            have hJ := HJ.out
            rw [doc_cons hc] at hJ
            cases hd : digitB c with
            | false =>
              have HR2 : Hid (R = none) := by rw [← hJ, if_pos hd]; rfl
              unfold digitB at hd
              have hd2 : c.toNat < 48 ∨ 57 < c.toNat := by simp at hd; omega
              have HD2 := hidK hd2
              clear hd hd2 hJ hc HJ
              go_wp2_with fail
              all_goals first
                | (go_ret2; exact ⟨by rw [HR2.out]; rfl, rfl⟩)
                | (exfalso; have h := HD2.out; omega)
                | (exfalso; have h := HD2.out; simp at *; omega)
            | true =>
              rw [if_neg (by rw [hd]; decide)] at hJ
              unfold digitB at hd
              rw [Bool.and_eq_true, decide_eq_true_eq, decide_eq_true_eq] at hd
              obtain ⟨d1, d2⟩ := hd
              obtain ⟨d, hdd⟩ : ∃ d, c.toNat - 48 = d := ⟨_, rfl⟩
              rw [hdd] at hJ
              have hd9 : d ≤ 9 := by omega
              have e1 : (c.toNat : Int) - 48 = (d : Int) := by omega
              have e2 : IntKind.u8.wrap (d : Int) = (d : Int) := wrap_u8 (by omega)
              obtain ⟨q, hq⟩ : ∃ q : Int, (4611686018427387904 - (d : Int)).tdiv 10 = q := ⟨_, rfl⟩
              have HQ := hidK hq
              have hq1 : 0 ≤ q := by rw [← hq, Int.tdiv_eq_ediv_of_nonneg (by omega)]; omega
              have hq2 : q ≤ 4611686018427387904 := by rw [← hq, Int.tdiv_eq_ediv_of_nonneg (by omega)]; omega
              by_cases hbig : 4611686018427387904 < 10 * m + d
              · have HR2 : Hid (R = none) := by rw [← hJ, if_pos hbig]; rfl
                have hqm : q < (m : Int) := by
                  rw [← hq, Int.tdiv_eq_ediv_of_nonneg (by omega)]
                  omega
                clear hJ hc HJ hbig hdd
                go_wp2_with fail
                all_goals first
                  | (go_ret2; exact ⟨by rw [HR2.out]; rfl, rfl⟩)
                  | trace_state
              · rw [if_neg hbig] at hJ
                have HJ2 := hidK hJ
                have hqm : ¬ q < (m : Int) := by
                  rw [← hq, Int.tdiv_eq_ediv_of_nonneg (by omega)]
                  omega
                have hm1 : 10 * (m : Int) ≤ 4611686018427387904 := by omega
                have hm2 : 10 * (m : Int) + (d : Int) ≤ 4611686018427387904 := by omega
                have HBg := hidK hbig
                clear hJ hc HJ hdd hbig
                go_wp2_with fail
                all_goals first
                  | exact ⟨⟨i + 1, 10 * m + d, by omega, by have := HBg.out; omega, by go_num, by go_num, HJ2.out, by first | rfl | trivial⟩, by simp [intOf]; omega⟩
                  | exact ⟨⟨u2, u3, _, _, ⟨i + 1, by omega, 10 * m + d, by have := HBg.out; omega, rfl, rfl, HJ2.out⟩, rfl, rfl, by go_num, by go_num⟩, by simp [intOf]; omega⟩
          · obtain rfl : i = n := by omega
            have HR2 : Hid (R = some m) := by
              have h := HJ.out
              rw [List.drop_eq_nil_of_le (by rw [HN.out]; exact Nat.le_refl _)] at h
              rw [← h]
              rfl
            clear HJ
            go_wp2_with fail
            all_goals go_ret2
            all_goals exact ⟨by rw [HR2.out]; rfl, rfl⟩

def intV (o : Option Int) : Value := match o with | some n => .tuple #[.int .i64 n, .bool true] | none => .tuple #[.int .i64 0, .bool false]
set_option maxHeartbeats 2000000 in
theorem wholeR_any (l : List UInt8) (hl : l.length ≤ 2147483647) (w : World) : Calls Tryz.prog 140 #[.string (str l)] w fun e w' => e = .returned (intV (wholeF l)) ∧ w = w' := by
  have HD := hidK fun (m : List UInt8) (hm : m.length ≤ 2147483647) => digitsR_any m hm w
  cases l with
  | nil =>
    have hh : (str []).toList = [] := str_toList []
    have he : (str []).toList.isEmpty = true := by rw [hh]; rfl
    have HD1 := hidK (HD.out [] (by simp))
    have e : digitsF [] = none := rfl
    rw [e] at HD1
    simp only [natV] at HD1
    obtain ⟨z, hz⟩ : ∃ z, str [] = z := ⟨_, rfl⟩
    rw [hz] at HD1 hh he ⊢
    clear hz HD
    go_enter Tryz.func140, Tryz.ntmps140
    go_wp2_with (go_at_call 165; refine HD1.out.mono ?_; rintro e w2 ⟨rfl, rfl⟩)
    all_goals go_ret2
    all_goals exact ⟨rfl, rfl⟩
  | cons c r =>
    have hs : (str (c :: r)).size = r.length + 1 := rfl
    have hh : ¬ (str (c :: r)).toList = [] := by rw [str_toList]; simp
    have he : (str (c :: r)).toList.isEmpty = false := by rw [str_toList]; rfl
    have hz0 : 0 < (str (c :: r)).size := by rw [hs]; omega
    have g0 : (str (c :: r))[0] = c := str_getF _ 0 c rfl hz0
    have hx : (str (c :: r)).extract 1 (str (c :: r)).size = str r := str_dropF (c :: r) 1
    have hrl : r.length + 1 ≤ 2147483647 := hl
    have HW := hidK (whole_doc (c :: r))
    by_cases h45 : c.toNat = 45
    · have hc : c = 45 := UInt8.toNat_inj.1 h45
      have hhd : headF 45 (c :: r) = (r, true) := by simp [headF, hc]
      have HD1 := hidK (HD.out r (by omega))
      rw [hhd] at HW
      simp only [if_true] at HW
      obtain ⟨W, hW⟩ : ∃ W, wholeF (c :: r) = W := ⟨_, rfl⟩
      rw [hW] at HW ⊢
      rw [hs] at hx
      cases hdg : digitsF r with
      | none =>
        rw [hdg] at HD1 HW
        simp only [natV] at HD1
        have HW2 : Hid (W = none) := HW.out
        obtain ⟨z, hz⟩ : ∃ z, str (c :: r) = z := ⟨_, rfl⟩
        obtain ⟨y, hy⟩ : ∃ y, str r = y := ⟨_, rfl⟩
        rw [hy] at HD1 hx
        simp only [hz] at hs hh he hx ⊢
        have hz1 : 0 < z.size := by rw [hs]; omega
        have g1 : z[0] = c := by subst hz; exact g0
        clear g0 hz0 hz hy HD hc hhd hdg hW HW
        go_enter Tryz.func140, Tryz.ntmps140
        go_wp2_with (go_at_call 165; refine HD1.out.mono ?_; rintro e w2 ⟨rfl, rfl⟩)
        all_goals go_ret2
        all_goals exact ⟨by rw [HW2.out]; rfl, rfl⟩
      | some m =>
        rw [hdg] at HD1 HW
        simp only [natV] at HD1
        have HW2 : Hid (W = some (-(m : Int))) := HW.out
        have hmle : m ≤ 4611686018427387904 := by
          unfold digitsF at hdg
          split at hdg
          · cases hdg
          · exact doc_le r 0 m (by omega) hdg
        obtain ⟨z, hz⟩ : ∃ z, str (c :: r) = z := ⟨_, rfl⟩
        obtain ⟨y, hy⟩ : ∃ y, str r = y := ⟨_, rfl⟩
        rw [hy] at HD1 hx
        simp only [hz] at hs hh he hx ⊢
        have hz1 : 0 < z.size := by rw [hs]; omega
        have g1 : z[0] = c := by subst hz; exact g0
        clear g0 hz0 hz hy HD hc hhd hdg hW HW
        go_enter Tryz.func140, Tryz.ntmps140
        go_wp2_with (go_at_call 165; refine HD1.out.mono ?_; rintro e w2 ⟨rfl, rfl⟩)
        all_goals go_ret2
        all_goals exact ⟨by rw [HW2.out]; rfl, rfl⟩
    · have hc : c ≠ 45 := fun e => h45 (by rw [e]; rfl)
      have hhd : headF 45 (c :: r) = (c :: r, false) := by simp [headF, hc]
      have HD1 := hidK (HD.out (c :: r) hl)
      rw [hhd] at HW
      simp only [Bool.false_eq_true, if_false] at HW
      obtain ⟨W, hW⟩ : ∃ W, wholeF (c :: r) = W := ⟨_, rfl⟩
      rw [hW] at HW ⊢
      have HV : Hid (natV (digitsF (c :: r)) = intV W) := by
        rw [HW.out]
        cases digitsF (c :: r) <;> rfl
      rw [HV.out] at HD1
      obtain ⟨z, hz⟩ : ∃ z, str (c :: r) = z := ⟨_, rfl⟩
      rw [hz] at HD1
      simp only [hz] at hs hh he hx ⊢
      have hz1 : 0 < z.size := by rw [hs]; omega
      have g1 : z[0] = c := by subst hz; exact g0
      clear g0 hz0 hz HD hc hhd hW HW HV hx
      cases W with
      | none =>
        simp only [intV] at HD1
        go_enter Tryz.func140, Tryz.ntmps140
        go_wp2_with (go_at_call 165; refine HD1.out.mono ?_; rintro e w2 ⟨rfl, rfl⟩)
        all_goals go_ret2
        all_goals exact ⟨rfl, rfl⟩
      | some v =>
        simp only [intV] at HD1
        go_enter Tryz.func140, Tryz.ntmps140
        go_wp2_with (go_at_call 165; refine HD1.out.mono ?_; rintro e w2 ⟨rfl, rfl⟩)
        all_goals go_ret2
        all_goals exact ⟨rfl, rfl⟩

end Go.Proofs.YtlfcjcaofhcfnaaGreatDoor

namespace Go.Proofs.YtlfcjcaofhcfnaaGreatDoor
open Go.RowKit
set_option linter.unusedVariables false
set_option maxRecDepth 100000

theorem yesR_any (b : Bool) (w : World) : Calls Tryz.prog 120 #[.bool b] w fun e w' => e = .returned (.string (str (yesF b))) ∧ w = w' := by
  cases b with
  | true =>
    go_enter Tryz.func120, Tryz.ntmps120
    go_wp2_with fail
    all_goals go_ret
    all_goals exact ⟨rfl, rfl⟩
  | false =>
    go_enter Tryz.func120, Tryz.ntmps120
    go_wp2_with fail
    all_goals go_ret
    all_goals exact ⟨rfl, rfl⟩
theorem truthR_any (l : List UInt8) (w : World) : Calls Tryz.prog 114 #[.string (str l)] w fun e w' => e = .returned (.bool (truthF l)) ∧ w = w' := by
  have hl : (str l).toList = l := str_toList l
  obtain ⟨z, hz⟩ : ∃ z, str l = z := ⟨_, rfl⟩
  obtain ⟨R, hR⟩ : ∃ R, truthF l = R := ⟨_, rfl⟩
  rw [hz] at hl ⊢
  rw [hR]
  unfold truthF at hR
  by_cases h0 : l = []
  · have k1 : z.toList = [] := by rw [hl]; exact h0
    have k2 : z.toList.isEmpty = true := by rw [k1]; rfl
    have hr : R = false := by rw [← hR, h0]; rfl
    subst hr
    clear hR hl hz h0
    go_enter Tryz.func114, Tryz.ntmps114
    go_wp2_with fail
    all_goals go_ret
    all_goals exact ⟨rfl, rfl⟩
  · have k1 : ¬ z.toList = [] := by rw [hl]; exact h0
    have k2 : z.toList.isEmpty = false := by rw [hl]; cases l with | nil => exact absurd rfl h0 | cons _ _ => rfl
    by_cases h1 : l = [48]
    · have k3 : z.toList = [48] := by rw [hl]; exact h1
      have hr : R = false := by rw [← hR, h1]; rfl
      subst hr
      clear hR hl hz h0 h1
      go_enter Tryz.func114, Tryz.ntmps114
      go_wp2_with fail
      all_goals go_ret
      all_goals exact ⟨rfl, rfl⟩
    · have k3 : ¬ z.toList = [48] := by rw [hl]; exact h1
      have hr : R = true := by rw [← hR]; simp [h0, h1]
      subst hr
      clear hR hl hz h0 h1
      go_enter Tryz.func114, Tryz.ntmps114
      go_wp2_with fail
      all_goals go_ret
      all_goals exact ⟨by simp [k3], rfl⟩
theorem far_mul {x y : Int} (hx : 0 < x.natAbs) : (4611686018427387904 / x.natAbs < y.natAbs) ↔ farB (x * y) = true := by
  rw [Nat.div_lt_iff_lt_mul hx]
  unfold farB
  rw [decide_eq_true_eq]
  have h : (x * y).natAbs = y.natAbs * x.natAbs := by rw [Int.natAbs_mul, Nat.mul_comm]
  rw [← h]
  omega
set_option maxHeartbeats 2000000 in
theorem farR_any (x y : Int) (hx : NumIn x) (hy : NumIn y) (w : World) : Calls Tryz.prog 166 #[.int .i64 x, .int .i64 y] w fun e w' => e = .returned (.bool (farB (x * y))) ∧ w = w' := by
  obtain ⟨x1, x2⟩ := hx
  obtain ⟨y1, y2⟩ := hy
  obtain ⟨a, ha⟩ : ∃ a, x.natAbs = a := ⟨_, rfl⟩
  obtain ⟨b, hb⟩ : ∃ a, y.natAbs = a := ⟨_, rfl⟩
  have m1 : max x (-x) = (a : Int) := by omega
  have m2 : max y (-y) = (b : Int) := by omega
  have ha2 : a ≤ 4611686018427387904 := by omega
  have hb2 : b ≤ 4611686018427387904 := by omega
  obtain ⟨R, hR⟩ : ∃ R, farB (x * y) = R := ⟨_, rfl⟩
  rw [hR]
  by_cases h0 : a = 0
  · have hr : R = false := by
      rw [← hR]
      have : x = 0 := by omega
      rw [this]
      simp [farB]
    subst hr
    have k0 : ¬ (0 : Int) < (a : Int) := by omega
    clear hR ha hb
    go_enter Tryz.func166, Tryz.ntmps166
    go_wp2_with fail
    all_goals go_ret
    all_goals exact ⟨rfl, rfl⟩
  · have k0 : (0 : Int) < (a : Int) := by omega
    have k00 : ¬ (a : Int) = 0 := by omega
    have hfm := far_mul (x := x) (y := y) (by omega)
    rw [ha, hb, hR] at hfm
    obtain ⟨q, hq⟩ : ∃ q : Int, Int.tdiv 4611686018427387904 (a : Int) = q := ⟨_, rfl⟩
    have hq0 : q = ((4611686018427387904 / a : Nat) : Int) := by rw [← hq, Int.tdiv_eq_ediv_of_nonneg (by omega)]; rfl
    have hqn : 0 ≤ q := by rw [hq0]; exact Int.natCast_nonneg _
    have hqm : q ≤ 4611686018427387904 := by rw [hq0]; have := Nat.div_le_self 4611686018427387904 a; omega
    cases R with
    | true =>
      have k1 : q < (b : Int) := by have := hfm.2 rfl; omega
      clear hR ha hb hfm hq0
      go_enter Tryz.func166, Tryz.ntmps166
      go_wp2_with fail
      all_goals go_ret
      all_goals exact ⟨rfl, rfl⟩
    | false =>
      have k1 : ¬ q < (b : Int) := fun h => by have := hfm.1 (by omega); cases this
      clear hR ha hb hfm hq0
      go_enter Tryz.func166, Tryz.ntmps166
      go_wp2_with fail
      all_goals go_ret
      all_goals exact ⟨rfl, rfl⟩

theorem itoaR_any {w : World} (h : NEnv w) (n : Int) (h1 : NumIn n) : Calls Tryz.prog 39 #[.int .i64 n] w fun e w' => e = .returned (.string (str (Lib.itoa n))) ∧ Below w.heap.size w w' := by
  obtain ⟨k1, k2⟩ := h1
  refine (Tryz.strconv_Itoa n (by omega) (by omega) w h.tab).mono ?_
  rintro e w1 ⟨rfl, k, os, hw⟩
  exact ⟨rfl, by rw [hw]; exact Lib.below_grow _ _ (Nat.le_refl _) _ _⟩
def opR (o : Option Int) : Except Int (List UInt8) := match o with | none => .error 100 | some n => .ok (Lib.itoa n)
theorem itoa_yes (b : Bool) : Lib.itoa (unitF b) = yesF b := by rw [itoa_unit]; cases b <;> rfl
set_option maxHeartbeats 2000000 in
theorem sumR_eq (x y : Int) (w : World) : Calls Tryz.prog 141 #[.string ⟨#[101, 124, 61, 61, 124]⟩, .int .i64 x, .int .i64 y] w fun e w' => e = ansF (opR (some (unitF (decide (x = y))))) ∧ Below w.heap.size w w' := by
  have HY := hidK fun b W => yesR_any b W
  have HA : Hid (∀ b : Bool, ansF (opR (some (unitF b))) = .returned (.tuple #[.string (str (yesF b)), .int .i64 0])) := fun b => by
    show Ending.returned (.tuple #[.string (str (Lib.itoa (unitF b))), .int .i64 0]) = _
    rw [itoa_yes]
  go_enter Tryz.func141, Tryz.ntmps141
  go_wp2_with fail
  refine (HY.out _ _).mono ?_
  rintro e w2 ⟨rfl, rfl⟩
  go_wp2_with fail
  all_goals go_ret2
  all_goals exact ⟨by rw [HA.out]; first | rfl | simp, Below.refl _ _⟩
set_option maxHeartbeats 2000000 in
theorem sumR_lt (x y : Int) (w : World) : Calls Tryz.prog 141 #[.string ⟨#[101, 124, 60, 124]⟩, .int .i64 x, .int .i64 y] w fun e w' => e = ansF (opR (some (unitF (decide (x < y))))) ∧ Below w.heap.size w w' := by
  have HY := hidK fun b W => yesR_any b W
  have HA : Hid (∀ b : Bool, ansF (opR (some (unitF b))) = .returned (.tuple #[.string (str (yesF b)), .int .i64 0])) := fun b => by
    show Ending.returned (.tuple #[.string (str (Lib.itoa (unitF b))), .int .i64 0]) = _
    rw [itoa_yes]
  go_enter Tryz.func141, Tryz.ntmps141
  go_wp2_with fail
  refine (HY.out _ _).mono ?_
  rintro e w2 ⟨rfl, rfl⟩
  go_wp2_with fail
  all_goals go_ret2
  all_goals exact ⟨by rw [HA.out]; first | rfl | simp, Below.refl _ _⟩
set_option maxHeartbeats 2000000 in
theorem sumR_gt (x y : Int) (w : World) : Calls Tryz.prog 141 #[.string ⟨#[101, 124, 62, 124]⟩, .int .i64 x, .int .i64 y] w fun e w' => e = ansF (opR (some (unitF (decide (y < x))))) ∧ Below w.heap.size w w' := by
  have HY := hidK fun b W => yesR_any b W
  have HA : Hid (∀ b : Bool, ansF (opR (some (unitF b))) = .returned (.tuple #[.string (str (yesF b)), .int .i64 0])) := fun b => by
    show Ending.returned (.tuple #[.string (str (Lib.itoa (unitF b))), .int .i64 0]) = _
    rw [itoa_yes]
  go_enter Tryz.func141, Tryz.ntmps141
  go_wp2_with fail
  refine (HY.out _ _).mono ?_
  rintro e w2 ⟨rfl, rfl⟩
  go_wp2_with fail
  all_goals go_ret2
  all_goals exact ⟨by rw [HA.out]; first | rfl | simp, Below.refl _ _⟩
set_option maxHeartbeats 4000000 in
theorem sumR_add (x y : Int) (hx : NumIn x) (hy : NumIn y) (w : World) (hE : NEnv w) : Calls Tryz.prog 141 #[.string ⟨#[101, 124, 43, 124]⟩, .int .i64 x, .int .i64 y] w fun e w' => e = ansF (opR (nearF (x + y))) ∧ Below w.heap.size w w' := by
  obtain ⟨x1, x2⟩ := hx
  obtain ⟨y1, y2⟩ := hy
  by_cases hn : NumIn (x + y)
  · rw [near_some hn]
    have HI := hidK (itoaR_any hE _ hn)
    obtain ⟨n1, n2⟩ := hn
    have HA : Hid (ansF (opR (some (x + y))) = .returned (.tuple #[.string (str (Lib.itoa (x + y))), .int .i64 0])) := rfl
    rcases Int.lt_trichotomy y 0 with hz | hz | hz
    · have k1 : ¬ 0 < y := by omega
      have k2 : ¬ x < -4611686018427387904 - y := by omega
      clear hE
      go_enter Tryz.func141, Tryz.ntmps141
      go_wp2_with (go_at_call 39; refine HI.out.mono ?_; rintro e w2 ⟨rfl, hb2⟩)
      all_goals go_ret2
      all_goals exact ⟨by rw [HA.out]; rfl, by assumption⟩
    · have k1 : ¬ 0 < y := by omega
      have k2 : ¬ y < 0 := by omega
      clear hE hz
      go_enter Tryz.func141, Tryz.ntmps141
      go_wp2_with (go_at_call 39; refine HI.out.mono ?_; rintro e w2 ⟨rfl, hb2⟩)
      all_goals go_ret2
      all_goals exact ⟨by rw [HA.out]; rfl, by assumption⟩
    · have k1 : ¬ 4611686018427387904 - y < x := by omega
      have k2 : ¬ y < 0 := by omega
      clear hE
      go_enter Tryz.func141, Tryz.ntmps141
      go_wp2_with (go_at_call 39; refine HI.out.mono ?_; rintro e w2 ⟨rfl, hb2⟩)
      all_goals go_ret2
      all_goals exact ⟨by rw [HA.out]; rfl, by assumption⟩
  · rw [near_none hn]
    have hf : 4611686018427387904 < x + y ∨ x + y < -4611686018427387904 := by unfold NumIn at hn; omega
    rcases hf with hf | hf
    · have k1 : 0 < y := by omega
      have k2 : 4611686018427387904 - y < x := by omega
      clear hE hn hf
      go_enter Tryz.func141, Tryz.ntmps141
      go_wp2_with fail
      all_goals go_ret2
      all_goals exact ⟨rfl, Below.refl _ _⟩
    · have k1 : y < 0 := by omega
      have k2 : x < -4611686018427387904 - y := by omega
      have k3 : ¬ 0 < y := by omega
      clear hE hn hf
      go_enter Tryz.func141, Tryz.ntmps141
      go_wp2_with fail
      all_goals go_ret2
      all_goals exact ⟨rfl, Below.refl _ _⟩
set_option maxHeartbeats 4000000 in
theorem sumR_sub (x y : Int) (hx : NumIn x) (hy : NumIn y) (w : World) (hE : NEnv w) : Calls Tryz.prog 141 #[.string ⟨#[101, 124, 45, 124]⟩, .int .i64 x, .int .i64 y] w fun e w' => e = ansF (opR (nearF (x - y))) ∧ Below w.heap.size w w' := by
  obtain ⟨x1, x2⟩ := hx
  obtain ⟨y1, y2⟩ := hy
  by_cases hn : NumIn (x - y)
  · rw [near_some hn]
    have HI := hidK (itoaR_any hE _ hn)
    obtain ⟨n1, n2⟩ := hn
    have HA : Hid (ansF (opR (some (x - y))) = .returned (.tuple #[.string (str (Lib.itoa (x - y))), .int .i64 0])) := rfl
    rcases Int.lt_trichotomy y 0 with hz | hz | hz
    · have k1 : 0 < -y := by omega
      have k2 : ¬ 4611686018427387904 - -y < x := by omega
      have k3 : ¬ -y < 0 := by omega
      have k4 : x + -y = x - y := by omega
      clear hE
      go_enter Tryz.func141, Tryz.ntmps141
      go_wp2_with (go_at_call 39; refine HI.out.mono ?_; rintro e w2 ⟨rfl, hb2⟩)
      all_goals go_ret2
      all_goals exact ⟨by rw [HA.out]; rfl, by assumption⟩
    · have k1 : ¬ 0 < (-y) := by omega
      have k2 : ¬ (-y) < 0 := by omega
      have k4 : x + -y = x - y := by omega
      clear hE hz
      go_enter Tryz.func141, Tryz.ntmps141
      go_wp2_with (go_at_call 39; refine HI.out.mono ?_; rintro e w2 ⟨rfl, hb2⟩)
      all_goals go_ret2
      all_goals exact ⟨by rw [HA.out]; rfl, by assumption⟩
    · have k1 : ¬ 0 < -y := by omega
      have k2 : ¬ x < -4611686018427387904 - -y := by omega
      have k3 : -y < 0 := by omega
      have k4 : x + -y = x - y := by omega
      clear hE
      go_enter Tryz.func141, Tryz.ntmps141
      go_wp2_with (go_at_call 39; refine HI.out.mono ?_; rintro e w2 ⟨rfl, hb2⟩)
      all_goals go_ret2
      all_goals exact ⟨by rw [HA.out]; rfl, by assumption⟩
  · rw [near_none hn]
    have hf : 4611686018427387904 < x - y ∨ x - y < -4611686018427387904 := by unfold NumIn at hn; omega
    rcases hf with hf | hf
    · have k1 : 0 < -y := by omega
      have k2 : 4611686018427387904 - -y < x := by omega
      clear hE hn hf
      go_enter Tryz.func141, Tryz.ntmps141
      go_wp2_with fail
      all_goals go_ret2
      all_goals exact ⟨rfl, Below.refl _ _⟩
    · have k1 : (-y) < 0 := by omega
      have k2 : x < -4611686018427387904 - (-y) := by omega
      have k3 : ¬ 0 < (-y) := by omega
      clear hE hn hf
      go_enter Tryz.func141, Tryz.ntmps141
      go_wp2_with fail
      all_goals go_ret2
      all_goals exact ⟨rfl, Below.refl _ _⟩
set_option maxHeartbeats 4000000 in
theorem sumR_mul (x y : Int) (hx : NumIn x) (hy : NumIn y) (w : World) (hE : NEnv w) : Calls Tryz.prog 141 #[.string ⟨#[101, 124, 42, 124]⟩, .int .i64 x, .int .i64 y] w fun e w' => e = ansF (opR (nearF (x * y))) ∧ Below w.heap.size w w' := by
  have HF := hidK (farR_any x y hx hy w)
  by_cases hn : NumIn (x * y)
  · rw [near_some hn]
    have HI := hidK (itoaR_any hE _ hn)
    have e : farB (x * y) = false := by unfold farB; rw [decide_eq_false_iff_not]; obtain ⟨h1, h2⟩ := hn; omega
    rw [e] at HF
    obtain ⟨n1, n2⟩ := hn
    obtain ⟨m, hm⟩ : ∃ m, x * y = m := ⟨_, rfl⟩
    rw [hm] at n1 n2 HI ⊢
    have HA : Hid (ansF (opR (some m)) = .returned (.tuple #[.string (str (Lib.itoa m)), .int .i64 0])) := rfl
    clear hE e hx hy
    go_enter Tryz.func141, Tryz.ntmps141
    go_wp2_with (first | (go_at_call 166; refine HF.out.mono ?_; rintro e w2 ⟨rfl, rfl⟩) | (go_at_call 39; refine HI.out.mono ?_; rintro e w2 ⟨rfl, hb2⟩))
    all_goals go_ret2
    all_goals exact ⟨by rw [HA.out]; rfl, by assumption⟩
  · rw [near_none hn]
    have e : farB (x * y) = true := by unfold farB; rw [decide_eq_true_eq]; unfold NumIn at hn; omega
    rw [e] at HF
    clear hE e hx hy hn
    go_enter Tryz.func141, Tryz.ntmps141
    go_wp2_with (go_at_call 166; refine HF.out.mono ?_; rintro e w2 ⟨rfl, rfl⟩)
    all_goals go_ret2
    all_goals exact ⟨rfl, Below.refl _ _⟩
set_option maxHeartbeats 4000000 in
theorem sumR_div (x y : Int) (hx : NumIn x) (hy : NumIn y) (w : World) (hE : NEnv w) : Calls Tryz.prog 141 #[.string ⟨#[101, 124, 47, 124]⟩, .int .i64 x, .int .i64 y] w fun e w' => e = ansF (opR (if y = 0 then none else some (x.tdiv y))) ∧ Below w.heap.size w w' := by
  by_cases h0 : y = 0
  · rw [if_pos h0]
    subst h0
    clear hE
    go_enter Tryz.func141, Tryz.ntmps141
    go_wp2_with fail
    all_goals go_ret2
    all_goals exact ⟨rfl, Below.refl _ _⟩
  · rw [if_neg h0]
    have hn := tdiv_near (b := y) hx
    have hq := tdiv_near (b := y) hx
    have HI := hidK (itoaR_any hE _ hn)
    obtain ⟨n1, n2⟩ := hn
    obtain ⟨q1, q2⟩ := hq
    obtain ⟨x1, x2⟩ := hx
    obtain ⟨y1, y2⟩ := hy
    have HA : Hid (ansF (opR (some (x.tdiv y))) = .returned (.tuple #[.string (str (Lib.itoa (x.tdiv y))), .int .i64 0])) := rfl
    clear hE
    go_enter Tryz.func141, Tryz.ntmps141
    go_wp2_with (go_at_call 39; refine HI.out.mono ?_; rintro e w2 ⟨rfl, hb2⟩)
    all_goals go_ret2
    all_goals exact ⟨by rw [HA.out]; rfl, by assumption⟩
set_option maxHeartbeats 4000000 in
theorem sumR_mod (x y : Int) (hx : NumIn x) (hy : NumIn y) (w : World) (hE : NEnv w) : Calls Tryz.prog 141 #[.string ⟨#[101, 124, 109, 124]⟩, .int .i64 x, .int .i64 y] w fun e w' => e = ansF (opR (if y = 0 then none else some (x.tmod y))) ∧ Below w.heap.size w w' := by
  by_cases h0 : y = 0
  · rw [if_pos h0]
    subst h0
    clear hE
    go_enter Tryz.func141, Tryz.ntmps141
    go_wp2_with fail
    all_goals go_ret2
    all_goals exact ⟨rfl, Below.refl _ _⟩
  · rw [if_neg h0]
    have hn := tmod_near (b := y) hx
    have hq := tdiv_near (b := y) hx
    have HI := hidK (itoaR_any hE _ hn)
    obtain ⟨n1, n2⟩ := hn
    obtain ⟨q1, q2⟩ := hq
    obtain ⟨x1, x2⟩ := hx
    obtain ⟨y1, y2⟩ := hy
    have HA : Hid (ansF (opR (some (x.tmod y))) = .returned (.tuple #[.string (str (Lib.itoa (x.tmod y))), .int .i64 0])) := rfl
    clear hE
    go_enter Tryz.func141, Tryz.ntmps141
    go_wp2_with (go_at_call 39; refine HI.out.mono ?_; rintro e w2 ⟨rfl, hb2⟩)
    all_goals go_ret2
    all_goals exact ⟨by rw [HA.out]; rfl, by assumption⟩

end Go.Proofs.YtlfcjcaofhcfnaaGreatDoor
