/-
  Formats: one turn, as the document reads it.
  Formats: a turn with a number, as the document reads it.
  Formats: a turn that exchanges, as the document reads it.
  Formats: the turns of a head, as the document reads them; isIn.
-/
import Derived.Test.YtlfcjcaofhcfnaaGreatDoorIN
import Derived.Test.YtlfcjcaofhcfnaaGreatDoorGK
namespace Go.Proofs.YtlfcjcaofhcfnaaGreatDoor
open Go.RowKit
set_option linter.unusedVariables false
set_option maxRecDepth 100000

def TurnE (R : Option Turn) (e : Ending) : Prop := match R with
  | some t => e = .returned (.tuple #[turnV t, .bool true])
  | none => ∃ (a b : Int) (c d : ByteArray), e = .returned (.tuple #[.agg #[.int .u8 a, .int .i64 b, .string c, .string d], .bool false])
theorem turnR_nil (w : World) : Calls Tryz.prog 143 #[.string (str [])] w fun e w' => TurnE none e ∧ Below w.heap.size w w' := by
  have h1 : (str []).toList = [] := str_toList []
  have h2 : (str []).toList.isEmpty = true := by rw [h1]; rfl
  obtain ⟨z, hz⟩ : ∃ z, str [] = z := ⟨_, rfl⟩
  rw [hz] at h1 h2 ⊢
  clear hz
  go_enter Tryz.func143, Tryz.ntmps143
  go_wp2_with fail
  all_goals refine ret_cell2 rfl rfl (heap_alloc_new w _) Tryz.underlying152 rfl rfl rfl ?_
  all_goals exact ⟨⟨_, _, _, _, rfl⟩, (Below.refl _ _).alloc (Nat.le_refl _) _⟩
/-- A text's first byte, against texts of one byte. -/
theorem not_one {c d : UInt8} {r : List UInt8} (h : c ≠ d ∨ r ≠ []) : ((str (c :: r)).toList == [d]) = false := by
  rw [str_toList]
  refine beq_eq_false_iff_ne.2 ?_
  intro e
  cases e
  rcases h with h | h <;> exact h rfl
set_option maxHeartbeats 2000000 in
theorem turnR_bare (c : UInt8) (hc : c.toNat = 98 ∨ c.toNat = 100 ∨ c.toNat = 110 ∨ c.toNat = 117 ∨ c.toNat = 119) (w : World) : Calls Tryz.prog 143 #[.string (str [c])] w fun e w' => e = .returned (.tuple #[tV (c.toNat : Int) 0 [] [], .bool true]) ∧ Below w.heap.size w w' := by
  have hs : (str [c]).size = 1 := rfl
  have HG : ∀ h : 0 < (str [c]).size, (str [c])[0] = c := fun h => str_getF _ 0 c rfl h
  have HT : Hid ((str [c]).toList = [c]) := str_toList [c]
  obtain ⟨z, hz⟩ : ∃ z, str [c] = z := ⟨_, rfl⟩
  rw [hz] at hs HG HT ⊢
  have hz0 : 0 < z.size := by omega
  have g0 := HG hz0
  clear hz HG
  rcases hc with h | h | h | h | h
  · obtain rfl : c = 98 := UInt8.toNat_inj.1 h
    have e98 : (z.toList == [98]) = true := by rw [HT.out]; decide
    have e100 : (z.toList == [100]) = false := by rw [HT.out]; decide
    have e110 : (z.toList == [110]) = false := by rw [HT.out]; decide
    have e117 : (z.toList == [117]) = false := by rw [HT.out]; decide
    have e119 : (z.toList == [119]) = false := by rw [HT.out]; decide
    clear HT
    go_enter Tryz.func143, Tryz.ntmps143
    go_wp2_with fail
    all_goals refine ret_cell2 rfl rfl (heap_alloc_new w _) Tryz.underlying152 rfl rfl rfl ?_
    all_goals exact ⟨rfl, (Below.refl _ _).alloc (Nat.le_refl _) _⟩
  · obtain rfl : c = 100 := UInt8.toNat_inj.1 h
    have e98 : (z.toList == [98]) = false := by rw [HT.out]; decide
    have e100 : (z.toList == [100]) = true := by rw [HT.out]; decide
    have e110 : (z.toList == [110]) = false := by rw [HT.out]; decide
    have e117 : (z.toList == [117]) = false := by rw [HT.out]; decide
    have e119 : (z.toList == [119]) = false := by rw [HT.out]; decide
    clear HT
    go_enter Tryz.func143, Tryz.ntmps143
    go_wp2_with fail
    all_goals refine ret_cell2 rfl rfl (heap_alloc_new w _) Tryz.underlying152 rfl rfl rfl ?_
    all_goals exact ⟨rfl, (Below.refl _ _).alloc (Nat.le_refl _) _⟩
  · obtain rfl : c = 110 := UInt8.toNat_inj.1 h
    have e98 : (z.toList == [98]) = false := by rw [HT.out]; decide
    have e100 : (z.toList == [100]) = false := by rw [HT.out]; decide
    have e110 : (z.toList == [110]) = true := by rw [HT.out]; decide
    have e117 : (z.toList == [117]) = false := by rw [HT.out]; decide
    have e119 : (z.toList == [119]) = false := by rw [HT.out]; decide
    clear HT
    go_enter Tryz.func143, Tryz.ntmps143
    go_wp2_with fail
    all_goals refine ret_cell2 rfl rfl (heap_alloc_new w _) Tryz.underlying152 rfl rfl rfl ?_
    all_goals exact ⟨rfl, (Below.refl _ _).alloc (Nat.le_refl _) _⟩
  · obtain rfl : c = 117 := UInt8.toNat_inj.1 h
    have e98 : (z.toList == [98]) = false := by rw [HT.out]; decide
    have e100 : (z.toList == [100]) = false := by rw [HT.out]; decide
    have e110 : (z.toList == [110]) = false := by rw [HT.out]; decide
    have e117 : (z.toList == [117]) = true := by rw [HT.out]; decide
    have e119 : (z.toList == [119]) = false := by rw [HT.out]; decide
    clear HT
    go_enter Tryz.func143, Tryz.ntmps143
    go_wp2_with fail
    all_goals refine ret_cell2 rfl rfl (heap_alloc_new w _) Tryz.underlying152 rfl rfl rfl ?_
    all_goals exact ⟨rfl, (Below.refl _ _).alloc (Nat.le_refl _) _⟩
  · obtain rfl : c = 119 := UInt8.toNat_inj.1 h
    have e98 : (z.toList == [98]) = false := by rw [HT.out]; decide
    have e100 : (z.toList == [100]) = false := by rw [HT.out]; decide
    have e110 : (z.toList == [110]) = false := by rw [HT.out]; decide
    have e117 : (z.toList == [117]) = false := by rw [HT.out]; decide
    have e119 : (z.toList == [119]) = true := by rw [HT.out]; decide
    clear HT
    go_enter Tryz.func143, Tryz.ntmps143
    go_wp2_with fail
    all_goals refine ret_cell2 rfl rfl (heap_alloc_new w _) Tryz.underlying152 rfl rfl rfl ?_
    all_goals exact ⟨rfl, (Below.refl _ _).alloc (Nat.le_refl _) _⟩
set_option maxHeartbeats 2000000 in
theorem turnR_other (c : UInt8) (r : List UInt8) (hl : r.length + 1 ≤ 2147483647) (hb : (c ≠ 98 ∧ c ≠ 100 ∧ c ≠ 110 ∧ c ≠ 117 ∧ c ≠ 119) ∨ r ≠ []) (h1 : c.toNat ≠ 61) (h2 : c.toNat ≠ 112) (h3 : c.toNat ≠ 115) (w : World) : Calls Tryz.prog 143 #[.string (str (c :: r))] w fun e w' => TurnE none e ∧ Below w.heap.size w w' := by
  have hs : (str (c :: r)).size = r.length + 1 := rfl
  have k1 := not_one (c := c) (d := 98) (r := r) (hb.imp (·.1) id)
  have k2 := not_one (c := c) (d := 100) (r := r) (hb.imp (·.2.1) id)
  have k3 := not_one (c := c) (d := 110) (r := r) (hb.imp (·.2.2.1) id)
  have k4 := not_one (c := c) (d := 117) (r := r) (hb.imp (·.2.2.2.1) id)
  have k5 := not_one (c := c) (d := 119) (r := r) (hb.imp (·.2.2.2.2) id)
  have k6 : ¬ (str (c :: r)).toList = [] := by rw [str_toList]; simp
  have k7 : (str (c :: r)).toList.isEmpty = false := by rw [str_toList]; rfl
  have HG : ∀ h : 0 < (str (c :: r)).size, (str (c :: r))[0] = c := fun h => str_getF _ 0 c rfl h
  obtain ⟨z, hz⟩ : ∃ z, str (c :: r) = z := ⟨_, rfl⟩
  rw [hz] at hs k1 k2 k3 k4 k5 k6 k7 HG ⊢
  have hz0 : 0 < z.size := by omega
  have g0 := HG hz0
  have n1 : ¬ c.toNat = 61 := h1
  have n2 : ¬ c.toNat = 112 := h2
  have n3 : ¬ c.toNat = 115 := h3
  clear hz HG hb h1 h2 h3
  go_enter Tryz.func143, Tryz.ntmps143
  go_wp2_with fail
  all_goals refine ret_cell2 rfl rfl (heap_alloc_new w _) Tryz.underlying152 rfl rfl rfl ?_
  all_goals exact ⟨⟨_, _, _, _, rfl⟩, (Below.refl _ _).alloc (Nat.le_refl _) _⟩
theorem four_len {n i m : Nat} : ∀ {l : List UInt8}, fourG n i l = some m → i ≤ 4 → l.length + i ≤ 4
  | [], h, hi => by simp; omega
  | c :: r, h, hi => by
    simp only [fourG] at h
    split at h
    · cases h
    · rename_i hc
      have h4 : ¬ i = 4 := fun e => hc (.inr e)
      have := four_len (l := r) h (by omega)
      simp only [List.length_cons]
      omega

end Go.Proofs.YtlfcjcaofhcfnaaGreatDoor

namespace Go.Proofs.YtlfcjcaofhcfnaaGreatDoor
open Go.RowKit
set_option linter.unusedVariables false
set_option maxRecDepth 100000

theorem wrapB_u8 {d : Int} (h : 0 ≤ d ∧ d ≤ 255) : IntKind.u8.wrap d = d := by
  simp only [IntKind.wrap, IntKind.bits, IntKind.signed]
  simp
  omega
theorem fourC_cons {l : List UInt8} {n i k : Nat} {c : UInt8} (hc : l[k]? = some c) : fourG n i (l.drop k) = if digitB c = false ∨ i = 4 then none else fourG (n * 10 + (c.toNat - 48)) (i + 1) (l.drop (k + 1)) := by
  rw [drop_two hc]
  rfl
theorem four_long : ∀ (l : List UInt8) (n i : Nat), i ≤ 4 → 4 < l.length + i → fourG n i l = none
  | [], n, i, hi, h => by simp at h; omega
  | c :: r, n, i, hi, h => by
    simp only [fourG]
    split
    · rfl
    · rename_i hc
      have h4 : ¬ i = 4 := fun e => hc (.inr e)
      exact four_long r _ _ (by omega) (by simp at h; omega)
theorem fourF_long {l : List UInt8} (h : 4 < l.length) : fourF l = none := by
  unfold fourF
  split
  · rfl
  · exact four_long l 0 0 (by omega) (by omega)
def numV (c : UInt8) (neg : Bool) (n : Nat) : Value := .agg #[.int .u8 (c.toNat : Int), .int .i64 (n : Int), .string (if neg then ⟨#[45]⟩ else ⟨#[]⟩), .string ⟨#[]⟩]
def NumE (c : UInt8) (neg : Bool) (R : Option Nat) (e : Ending) : Prop := match R with
  | some n => e = .returned (.tuple #[numV c neg n, .bool true])
  | none => ∃ (a b : Int) (c d : ByteArray), e = .returned (.tuple #[.agg #[.int .u8 a, .int .i64 b, .string c, .string d], .bool false])
set_option maxHeartbeats 8000000 in
theorem turnR_neg (c : UInt8) (hc : c.toNat = 61 ∨ c.toNat = 112) (d : List UInt8) (hl : (c :: 45 :: d : List UInt8).length ≤ 2147483647) (w : World) : Calls Tryz.prog 143 #[.string (str (c :: 45 :: d))] w fun e w' => NumE c true (fourF d) e ∧ Below w.heap.size w w' := by
  have hcn : c ≠ 98 ∧ c ≠ 100 ∧ c ≠ 110 ∧ c ≠ 117 ∧ c ≠ 119 := by
    refine ⟨?_, ?_, ?_, ?_, ?_⟩ <;> (rintro rfl; revert hc; decide)
  have k1 := not_one (c := c) (d := 98) (r := 45 :: d) (.inl hcn.1)
  have k2 := not_one (c := c) (d := 100) (r := 45 :: d) (.inl hcn.2.1)
  have k3 := not_one (c := c) (d := 110) (r := 45 :: d) (.inl hcn.2.2.1)
  have k4 := not_one (c := c) (d := 117) (r := 45 :: d) (.inl hcn.2.2.2.1)
  have k5 := not_one (c := c) (d := 119) (r := 45 :: d) (.inl hcn.2.2.2.2)
  have k6 : ¬ (str (c :: 45 :: d)).toList = [] := by rw [str_toList]; simp
  have k7 : (str (c :: 45 :: d)).toList.isEmpty = false := by rw [str_toList]; rfl
  have HG : ∀ h : 0 < (str (c :: 45 :: d)).size, (str (c :: 45 :: d))[0] = c := fun h => str_getF _ 0 c rfl h
  have hx1 : (str (c :: 45 :: d)).extract 1 (str (c :: 45 :: d)).size = str (45 :: d) := str_dropF (c :: 45 :: d) 1
  have hs : (str (c :: 45 :: d)).size = d.length + 2 := rfl
  have hx2 : (str (45 :: d)).extract 1 (str (45 :: d)).size = str d := str_dropF (45 :: d) 1
  have hs2 : (str (45 :: d)).size = d.length + 1 := rfl
  have j1 : ¬ (str (45 :: d)).toList = [] := by rw [str_toList]; simp
  have j2 : (str (45 :: d)).toList.isEmpty = false := by rw [str_toList]; rfl
  have HG2 : ∀ h : 0 < (str (45 :: d)).size, (str (45 :: d))[0] = 45 := fun h => str_getF _ 0 45 rfl h
  have HGd : Hid (∀ (k : Nat) (e : UInt8) (h : k < (str d).size), d[k]? = some e → (str d)[k] = e) := fun k e h hc => str_getF d k e hc h
  have hds : (str d).size = d.length := rfl
  rw [hs] at hx1
  obtain ⟨z, hz⟩ : ∃ z, str (c :: 45 :: d) = z := ⟨_, rfl⟩
  obtain ⟨y, hy⟩ : ∃ z, str d = z := ⟨_, rfl⟩
  obtain ⟨x, hx⟩ : ∃ z, str (45 :: d) = z := ⟨_, rfl⟩
  rw [hs2] at hx2
  rw [hx] at hx1 hx2 hs2 j1 j2 HG2
  rw [hy] at hx2
  have hx0 : 0 < x.size := by omega
  have g2 := HG2 hx0
  rw [hz] at hs k1 k2 k3 k4 k5 k6 k7 HG hx1 ⊢
  rw [hy] at HGd hds
  have hz0 : 0 < z.size := by omega
  have g0 := HG hz0
  obtain ⟨n, hn⟩ : ∃ n, d.length = n := ⟨_, rfl⟩
  have HN := hidK hn
  obtain ⟨R, hR⟩ : ∃ R, fourF d = R := ⟨_, rfl⟩
  rw [hR]
  have hl2 : n + 2 ≤ 2147483647 := by have h := hl; simp at h; omega
  rw [hn] at hs hds hx1 hs2 hx2
  clear hz hy HG hcn hl HG2 hx
  have HRf := hidK hR
  clear hR hn
  by_cases hlen : n < 1 ∨ 4 < n
  · have HR2 : Hid (R = none) := by
      rw [← HRf.out]
      rcases hlen with h | h
      · have : d = [] := List.length_eq_zero_iff.1 (by rw [HN.out]; omega)
        rw [this]
        rfl
      · exact fourF_long (by rw [HN.out]; exact h)
    have hlen2 : (n : Int) < 1 ∨ 4 < (n : Int) := by omega
    clear hlen HRf
    rcases hlen2 with h1 | h1
    all_goals rcases hc with hc | hc
    all_goals (
      go_enter Tryz.func143, Tryz.ntmps143
      go_wp2_with fail
      all_goals refine ret_cell2 rfl rfl (heap_alloc_new w _) Tryz.underlying152 rfl rfl rfl ?_
      all_goals exact ⟨by rw [HR2.out]; exact ⟨_, _, _, _, rfl⟩, (Below.refl _ _).alloc (Nat.le_refl _) _⟩)
  · have hl1 : ¬ (n : Int) < 1 := by omega
    have hl4 : ¬ 4 < (n : Int) := by omega
    have HI : Hid (fourG 0 0 (d.drop 0) = R) := by
      rw [← HRf.out]
      unfold fourF
      rw [if_neg (fun h => by rw [h] at HN; have := HN.out; simp at this; omega)]
      rfl
    clear HRf
    have hnb : n ≤ 4 := by omega
    clear hlen
    rcases hc with hc | hc
    · go_enter Tryz.func143, Tryz.ntmps143
      go_wp2_with fail
      go_loopw [6, 7] (fun s6 s7 wx => ∃ (i m : Nat), i ≤ n ∧ m ≤ 10000 ∧ s7 = .int .i64 (i : Int) ∧ s6 = .int .i64 (m : Int) ∧ Hid (m < 10 ^ i ∧ fourG m i (d.drop i) = R) ∧ wx = w.alloc (.cells #[.int .u8 0, .int .i64 0, .string ⟨#[]⟩, .string ⟨#[]⟩] 152)) (fun _ v _ => n - (intOf v).toNat)
      case atStart => exact ⟨0, 0, Nat.zero_le _, Nat.zero_le _, rfl, rfl, ⟨by decide, HI.out⟩, rfl⟩
      case round =>
        obtain ⟨i, m, hi, hm, rfl, rfl, HJ, rfl⟩ := hrel
        by_cases hin : i < n
        · obtain ⟨e, he⟩ : ∃ e, d[i]? = some e := ⟨_, List.getElem?_eq_getElem (by rw [HN.out]; exact hin)⟩
          have hyi : i < y.size := by omega
          have gi := HGd.out i e hyi he
          have hJ := HJ.out.2
          have hJ1 := HJ.out.1
          rw [fourC_cons he] at hJ
          cases hdg : digitB e with
          | false =>
            have HR2 : Hid (R = none) := by rw [← hJ, if_pos (.inl hdg)]; rfl
            unfold digitB at hdg
            have hd2 : e.toNat < 48 ∨ 57 < e.toNat := by simp at hdg; omega
            have HD2 := hidK hd2
            clear hdg hd2 hJ hJ1 he HJ
            go_wp2_with fail
            all_goals first
              | (refine ret_cell2 rfl rfl (heap_alloc_new w _) Tryz.underlying152 rfl rfl rfl ?_; exact ⟨by rw [HR2.out]; exact ⟨_, _, _, _, rfl⟩, (Below.refl _ _).alloc (Nat.le_refl _) _⟩)
              | (exfalso; have h := HD2.out; omega)
              | (exfalso; have h := HD2.out; simp at *; omega)
          | true =>
            rw [if_neg (by rintro (h | h); rw [hdg] at h; cases h; omega)] at hJ
            unfold digitB at hdg
            rw [Bool.and_eq_true, decide_eq_true_eq, decide_eq_true_eq] at hdg
            obtain ⟨d1, d2⟩ := hdg
            obtain ⟨q, hq⟩ : ∃ q, e.toNat - 48 = q := ⟨_, rfl⟩
            rw [hq] at hJ
            have e1 : (e.toNat : Int) - 48 = (q : Int) := by omega
            have e2 : IntKind.u8.wrap (q : Int) = (q : Int) := wrapB_u8 (by omega)
            have hq9 : q ≤ 9 := by omega
            have hm3 : m < 1000 := by
              have h3 : i ≤ 3 := by omega
              have h4 : 10 ^ i ≤ 10 ^ 3 := Nat.pow_le_pow_right (by omega) h3
              omega
            have HJ2 : Hid (m * 10 + q < 10 ^ (i + 1) ∧ fourG (m * 10 + q) (i + 1) (d.drop (i + 1)) = R) := ⟨by rw [Nat.pow_succ]; omega, hJ⟩
            have hmm : 10 * (m : Int) + (q : Int) = ((m * 10 + q : Nat) : Int) := by omega
            clear hJ hJ1 he HJ hq
            go_wp2_with fail
            all_goals first
              | exact ⟨⟨i + 1, m * 10 + q, by omega, by omega, by go_num, by go_num, HJ2.out, by first | rfl | trivial⟩, by first | (simp [intOf]; done) | (simp [intOf]; omega)⟩
              | trace_state
        · obtain rfl : i = n := by omega
          have HR2 : Hid (R = some m) := by
            have h := HJ.out.2
            rw [List.drop_eq_nil_of_le (by rw [HN.out]; exact Nat.le_refl _)] at h
            exact h.symm
          clear HJ
          go_wp2_with fail
          all_goals refine ret_cell2 rfl rfl (heap_two w _ _).1 Tryz.underlying152 rfl rfl rfl ?_
          all_goals exact ⟨by rw [HR2.out]; show Ending.returned _ = Ending.returned _; simp [numV, hc], ((Below.refl _ _).alloc (Nat.le_refl _) _).alloc (by simp) _⟩
    · go_enter Tryz.func143, Tryz.ntmps143
      go_wp2_with fail
      go_loopw [6, 7] (fun s6 s7 wx => ∃ (i m : Nat), i ≤ n ∧ m ≤ 10000 ∧ s7 = .int .i64 (i : Int) ∧ s6 = .int .i64 (m : Int) ∧ Hid (m < 10 ^ i ∧ fourG m i (d.drop i) = R) ∧ wx = w.alloc (.cells #[.int .u8 0, .int .i64 0, .string ⟨#[]⟩, .string ⟨#[]⟩] 152)) (fun _ v _ => n - (intOf v).toNat)
      case atStart => exact ⟨0, 0, Nat.zero_le _, Nat.zero_le _, rfl, rfl, ⟨by decide, HI.out⟩, rfl⟩
      case round =>
        obtain ⟨i, m, hi, hm, rfl, rfl, HJ, rfl⟩ := hrel
        by_cases hin : i < n
        · obtain ⟨e, he⟩ : ∃ e, d[i]? = some e := ⟨_, List.getElem?_eq_getElem (by rw [HN.out]; exact hin)⟩
          have hyi : i < y.size := by omega
          have gi := HGd.out i e hyi he
          have hJ := HJ.out.2
          have hJ1 := HJ.out.1
          rw [fourC_cons he] at hJ
          cases hdg : digitB e with
          | false =>
            have HR2 : Hid (R = none) := by rw [← hJ, if_pos (.inl hdg)]; rfl
            unfold digitB at hdg
            have hd2 : e.toNat < 48 ∨ 57 < e.toNat := by simp at hdg; omega
            have HD2 := hidK hd2
            clear hdg hd2 hJ hJ1 he HJ
            go_wp2_with fail
            all_goals first
              | (refine ret_cell2 rfl rfl (heap_alloc_new w _) Tryz.underlying152 rfl rfl rfl ?_; exact ⟨by rw [HR2.out]; exact ⟨_, _, _, _, rfl⟩, (Below.refl _ _).alloc (Nat.le_refl _) _⟩)
              | (exfalso; have h := HD2.out; omega)
              | (exfalso; have h := HD2.out; simp at *; omega)
          | true =>
            rw [if_neg (by rintro (h | h); rw [hdg] at h; cases h; omega)] at hJ
            unfold digitB at hdg
            rw [Bool.and_eq_true, decide_eq_true_eq, decide_eq_true_eq] at hdg
            obtain ⟨d1, d2⟩ := hdg
            obtain ⟨q, hq⟩ : ∃ q, e.toNat - 48 = q := ⟨_, rfl⟩
            rw [hq] at hJ
            have e1 : (e.toNat : Int) - 48 = (q : Int) := by omega
            have e2 : IntKind.u8.wrap (q : Int) = (q : Int) := wrapB_u8 (by omega)
            have hq9 : q ≤ 9 := by omega
            have hm3 : m < 1000 := by
              have h3 : i ≤ 3 := by omega
              have h4 : 10 ^ i ≤ 10 ^ 3 := Nat.pow_le_pow_right (by omega) h3
              omega
            have HJ2 : Hid (m * 10 + q < 10 ^ (i + 1) ∧ fourG (m * 10 + q) (i + 1) (d.drop (i + 1)) = R) := ⟨by rw [Nat.pow_succ]; omega, hJ⟩
            have hmm : 10 * (m : Int) + (q : Int) = ((m * 10 + q : Nat) : Int) := by omega
            clear hJ hJ1 he HJ hq
            go_wp2_with fail
            all_goals first
              | exact ⟨⟨i + 1, m * 10 + q, by omega, by omega, by go_num, by go_num, HJ2.out, by first | rfl | trivial⟩, by first | (simp [intOf]; done) | (simp [intOf]; omega)⟩
              | trace_state
        · obtain rfl : i = n := by omega
          have HR2 : Hid (R = some m) := by
            have h := HJ.out.2
            rw [List.drop_eq_nil_of_le (by rw [HN.out]; exact Nat.le_refl _)] at h
            exact h.symm
          clear HJ
          go_wp2_with fail
          all_goals refine ret_cell2 rfl rfl (heap_two w _ _).1 Tryz.underlying152 rfl rfl rfl ?_
          all_goals exact ⟨by rw [HR2.out]; show Ending.returned _ = Ending.returned _; simp [numV, hc], ((Below.refl _ _).alloc (Nat.le_refl _) _).alloc (by simp) _⟩
set_option maxHeartbeats 8000000 in
theorem turnR_pos (c : UInt8) (hc : c.toNat = 61 ∨ c.toNat = 112) (d : List UInt8) (hl : (c :: d : List UInt8).length ≤ 2147483647) (hd : (headF 45 d).2 = false) (w : World) : Calls Tryz.prog 143 #[.string (str (c :: d))] w fun e w' => NumE c false (fourF d) e ∧ Below w.heap.size w w' := by
  have hcn : c ≠ 98 ∧ c ≠ 100 ∧ c ≠ 110 ∧ c ≠ 117 ∧ c ≠ 119 := by
    refine ⟨?_, ?_, ?_, ?_, ?_⟩ <;> (rintro rfl; revert hc; decide)
  have k1 := not_one (c := c) (d := 98) (r := d) (.inl hcn.1)
  have k2 := not_one (c := c) (d := 100) (r := d) (.inl hcn.2.1)
  have k3 := not_one (c := c) (d := 110) (r := d) (.inl hcn.2.2.1)
  have k4 := not_one (c := c) (d := 117) (r := d) (.inl hcn.2.2.2.1)
  have k5 := not_one (c := c) (d := 119) (r := d) (.inl hcn.2.2.2.2)
  have k6 : ¬ (str (c :: d)).toList = [] := by rw [str_toList]; simp
  have k7 : (str (c :: d)).toList.isEmpty = false := by rw [str_toList]; rfl
  have HG : ∀ h : 0 < (str (c :: d)).size, (str (c :: d))[0] = c := fun h => str_getF _ 0 c rfl h
  have hx1 : (str (c :: d)).extract 1 (str (c :: d)).size = str (d) := str_dropF (c :: d) 1
  have hs : (str (c :: d)).size = d.length + 1 := rfl
  have HGd : Hid (∀ (k : Nat) (e : UInt8) (h : k < (str d).size), d[k]? = some e → (str d)[k] = e) := fun k e h hc => str_getF d k e hc h
  have hds : (str d).size = d.length := rfl
  rw [hs] at hx1
  obtain ⟨z, hz⟩ : ∃ z, str (c :: d) = z := ⟨_, rfl⟩
  obtain ⟨y, hy⟩ : ∃ z, str d = z := ⟨_, rfl⟩
  rw [hy] at hx1
  rw [hz] at hs k1 k2 k3 k4 k5 k6 k7 HG hx1 ⊢
  rw [hy] at HGd hds
  have hz0 : 0 < z.size := by omega
  have g0 := HG hz0
  obtain ⟨n, hn⟩ : ∃ n, d.length = n := ⟨_, rfl⟩
  have HN := hidK hn
  obtain ⟨R, hR⟩ : ∃ R, fourF d = R := ⟨_, rfl⟩
  rw [hR]
  have hl2 : n + 1 ≤ 2147483647 := by have h := hl; simp at h; omega
  rw [hn] at hs hds hx1
  have hyt : y.toList = d := by rw [← hy]; exact str_toList d
  have hhd : d = [] ∨ ∃ e r, d = e :: r ∧ e.toNat ≠ 45 := by
    cases d with
    | nil => exact .inl rfl
    | cons e r =>
      refine .inr ⟨e, r, rfl, fun h => ?_⟩
      rw [show e = 45 from UInt8.toNat_inj.1 h] at hd
      simp [headF] at hd
  clear hz hy HG hcn hl hd
  have HRf := hidK hR
  clear hR hn
  by_cases hlen : n < 1 ∨ 4 < n
  · have HR2 : Hid (R = none) := by
      rw [← HRf.out]
      rcases hlen with h | h
      · have : d = [] := List.length_eq_zero_iff.1 (by rw [HN.out]; omega)
        rw [this]
        rfl
      · exact fourF_long (by rw [HN.out]; exact h)
    have hlen2 : (n : Int) < 1 ∨ 4 < (n : Int) := by omega
    clear hlen HRf
    rcases hhd with h0 | ⟨e, r, h0, h45⟩
    · have t1 : y.toList = [] := by rw [hyt, h0]
      have t2 : y.toList.isEmpty = true := by rw [t1]; rfl
      have hn0 : n = 0 := by rw [← HN.out, h0]; rfl
      subst hn0
      clear hyt h0 hlen2 HN
      rcases hc with hc | hc
      all_goals (
        go_enter Tryz.func143, Tryz.ntmps143
        go_wp2_with fail
        all_goals refine ret_cell2 rfl rfl (heap_alloc_new w _) Tryz.underlying152 rfl rfl rfl ?_
        all_goals exact ⟨by rw [HR2.out]; exact ⟨_, _, _, _, rfl⟩, (Below.refl _ _).alloc (Nat.le_refl _) _⟩)
    · have t1 : ¬ y.toList = [] := by rw [hyt, h0]; simp
      have t2 : y.toList.isEmpty = false := by rw [hyt, h0]; rfl
      have hn0 : 0 < n := by rw [← HN.out, h0]; simp
      have hy0 : 0 < y.size := by omega
      have gy := HGd.out 0 e hy0 (by rw [h0]; rfl)
      have n45 : ¬ e.toNat = 45 := h45
      have h4 : 4 < (n : Int) := by omega
      clear hyt h0 hlen2 HN
      rcases hc with hc | hc
      all_goals (
        go_enter Tryz.func143, Tryz.ntmps143
        go_wp2_with fail
        all_goals refine ret_cell2 rfl rfl (heap_alloc_new w _) Tryz.underlying152 rfl rfl rfl ?_
        all_goals exact ⟨by rw [HR2.out]; exact ⟨_, _, _, _, rfl⟩, (Below.refl _ _).alloc (Nat.le_refl _) _⟩)
  · have hl1 : ¬ (n : Int) < 1 := by omega
    have hl4 : ¬ 4 < (n : Int) := by omega
    have HI : Hid (fourG 0 0 (d.drop 0) = R) := by
      rw [← HRf.out]
      unfold fourF
      rw [if_neg (fun h => by rw [h] at HN; have := HN.out; simp at this; omega)]
      rfl
    clear HRf
    obtain ⟨e0, r0, h0, h45⟩ : ∃ e r, d = e :: r ∧ e.toNat ≠ 45 := by
      rcases hhd with h0 | h0
      · exfalso
        have := HN.out
        rw [h0] at this
        simp at this
        omega
      · exact h0
    have t1 : ¬ y.toList = [] := by rw [hyt, h0]; simp
    have t2 : y.toList.isEmpty = false := by rw [hyt, h0]; rfl
    have hy0 : 0 < y.size := by omega
    have gy := HGd.out 0 e0 hy0 (by rw [h0]; rfl)
    have n45 : ¬ e0.toNat = 45 := h45
    clear hyt h0 hhd h45
    have hnb : n ≤ 4 := by omega
    clear hlen
    rcases hc with hc | hc
    · go_enter Tryz.func143, Tryz.ntmps143
      go_wp2_with fail
      go_loopw [6, 7] (fun s6 s7 wx => ∃ (i m : Nat), i ≤ n ∧ m ≤ 10000 ∧ s7 = .int .i64 (i : Int) ∧ s6 = .int .i64 (m : Int) ∧ Hid (m < 10 ^ i ∧ fourG m i (d.drop i) = R) ∧ wx = w.alloc (.cells #[.int .u8 0, .int .i64 0, .string ⟨#[]⟩, .string ⟨#[]⟩] 152)) (fun _ v _ => n - (intOf v).toNat)
      case atStart => exact ⟨0, 0, Nat.zero_le _, Nat.zero_le _, rfl, rfl, ⟨by decide, HI.out⟩, rfl⟩
      case round =>
        obtain ⟨i, m, hi, hm, rfl, rfl, HJ, rfl⟩ := hrel
        by_cases hin : i < n
        · obtain ⟨e, he⟩ : ∃ e, d[i]? = some e := ⟨_, List.getElem?_eq_getElem (by rw [HN.out]; exact hin)⟩
          have hyi : i < y.size := by omega
          have gi := HGd.out i e hyi he
          have hJ := HJ.out.2
          have hJ1 := HJ.out.1
          rw [fourC_cons he] at hJ
          cases hdg : digitB e with
          | false =>
            have HR2 : Hid (R = none) := by rw [← hJ, if_pos (.inl hdg)]; rfl
            unfold digitB at hdg
            have hd2 : e.toNat < 48 ∨ 57 < e.toNat := by simp at hdg; omega
            have HD2 := hidK hd2
            clear hdg hd2 hJ hJ1 he HJ
            go_wp2_with fail
            all_goals first
              | (refine ret_cell2 rfl rfl (heap_alloc_new w _) Tryz.underlying152 rfl rfl rfl ?_; exact ⟨by rw [HR2.out]; exact ⟨_, _, _, _, rfl⟩, (Below.refl _ _).alloc (Nat.le_refl _) _⟩)
              | (exfalso; have h := HD2.out; omega)
              | (exfalso; have h := HD2.out; simp at *; omega)
          | true =>
            rw [if_neg (by rintro (h | h); rw [hdg] at h; cases h; omega)] at hJ
            unfold digitB at hdg
            rw [Bool.and_eq_true, decide_eq_true_eq, decide_eq_true_eq] at hdg
            obtain ⟨d1, d2⟩ := hdg
            obtain ⟨q, hq⟩ : ∃ q, e.toNat - 48 = q := ⟨_, rfl⟩
            rw [hq] at hJ
            have e1 : (e.toNat : Int) - 48 = (q : Int) := by omega
            have e2 : IntKind.u8.wrap (q : Int) = (q : Int) := wrapB_u8 (by omega)
            have hq9 : q ≤ 9 := by omega
            have hm3 : m < 1000 := by
              have h3 : i ≤ 3 := by omega
              have h4 : 10 ^ i ≤ 10 ^ 3 := Nat.pow_le_pow_right (by omega) h3
              omega
            have HJ2 : Hid (m * 10 + q < 10 ^ (i + 1) ∧ fourG (m * 10 + q) (i + 1) (d.drop (i + 1)) = R) := ⟨by rw [Nat.pow_succ]; omega, hJ⟩
            have hmm : 10 * (m : Int) + (q : Int) = ((m * 10 + q : Nat) : Int) := by omega
            clear hJ hJ1 he HJ hq
            go_wp2_with fail
            all_goals first
              | exact ⟨⟨i + 1, m * 10 + q, by omega, by omega, by go_num, by go_num, HJ2.out, by first | rfl | trivial⟩, by first | (simp [intOf]; done) | (simp [intOf]; omega)⟩
              | trace_state
        · obtain rfl : i = n := by omega
          have HR2 : Hid (R = some m) := by
            have h := HJ.out.2
            rw [List.drop_eq_nil_of_le (by rw [HN.out]; exact Nat.le_refl _)] at h
            exact h.symm
          clear HJ
          go_wp2_with fail
          all_goals refine ret_cell2 rfl rfl (heap_two w _ _).1 Tryz.underlying152 rfl rfl rfl ?_
          all_goals exact ⟨by rw [HR2.out]; show Ending.returned _ = Ending.returned _; simp [numV, hc], ((Below.refl _ _).alloc (Nat.le_refl _) _).alloc (by simp) _⟩
    · go_enter Tryz.func143, Tryz.ntmps143
      go_wp2_with fail
      go_loopw [6, 7] (fun s6 s7 wx => ∃ (i m : Nat), i ≤ n ∧ m ≤ 10000 ∧ s7 = .int .i64 (i : Int) ∧ s6 = .int .i64 (m : Int) ∧ Hid (m < 10 ^ i ∧ fourG m i (d.drop i) = R) ∧ wx = w.alloc (.cells #[.int .u8 0, .int .i64 0, .string ⟨#[]⟩, .string ⟨#[]⟩] 152)) (fun _ v _ => n - (intOf v).toNat)
      case atStart => exact ⟨0, 0, Nat.zero_le _, Nat.zero_le _, rfl, rfl, ⟨by decide, HI.out⟩, rfl⟩
      case round =>
        obtain ⟨i, m, hi, hm, rfl, rfl, HJ, rfl⟩ := hrel
        by_cases hin : i < n
        · obtain ⟨e, he⟩ : ∃ e, d[i]? = some e := ⟨_, List.getElem?_eq_getElem (by rw [HN.out]; exact hin)⟩
          have hyi : i < y.size := by omega
          have gi := HGd.out i e hyi he
          have hJ := HJ.out.2
          have hJ1 := HJ.out.1
          rw [fourC_cons he] at hJ
          cases hdg : digitB e with
          | false =>
            have HR2 : Hid (R = none) := by rw [← hJ, if_pos (.inl hdg)]; rfl
            unfold digitB at hdg
            have hd2 : e.toNat < 48 ∨ 57 < e.toNat := by simp at hdg; omega
            have HD2 := hidK hd2
            clear hdg hd2 hJ hJ1 he HJ
            go_wp2_with fail
            all_goals first
              | (refine ret_cell2 rfl rfl (heap_alloc_new w _) Tryz.underlying152 rfl rfl rfl ?_; exact ⟨by rw [HR2.out]; exact ⟨_, _, _, _, rfl⟩, (Below.refl _ _).alloc (Nat.le_refl _) _⟩)
              | (exfalso; have h := HD2.out; omega)
              | (exfalso; have h := HD2.out; simp at *; omega)
          | true =>
            rw [if_neg (by rintro (h | h); rw [hdg] at h; cases h; omega)] at hJ
            unfold digitB at hdg
            rw [Bool.and_eq_true, decide_eq_true_eq, decide_eq_true_eq] at hdg
            obtain ⟨d1, d2⟩ := hdg
            obtain ⟨q, hq⟩ : ∃ q, e.toNat - 48 = q := ⟨_, rfl⟩
            rw [hq] at hJ
            have e1 : (e.toNat : Int) - 48 = (q : Int) := by omega
            have e2 : IntKind.u8.wrap (q : Int) = (q : Int) := wrapB_u8 (by omega)
            have hq9 : q ≤ 9 := by omega
            have hm3 : m < 1000 := by
              have h3 : i ≤ 3 := by omega
              have h4 : 10 ^ i ≤ 10 ^ 3 := Nat.pow_le_pow_right (by omega) h3
              omega
            have HJ2 : Hid (m * 10 + q < 10 ^ (i + 1) ∧ fourG (m * 10 + q) (i + 1) (d.drop (i + 1)) = R) := ⟨by rw [Nat.pow_succ]; omega, hJ⟩
            have hmm : 10 * (m : Int) + (q : Int) = ((m * 10 + q : Nat) : Int) := by omega
            clear hJ hJ1 he HJ hq
            go_wp2_with fail
            all_goals first
              | exact ⟨⟨i + 1, m * 10 + q, by omega, by omega, by go_num, by go_num, HJ2.out, by first | rfl | trivial⟩, by first | (simp [intOf]; done) | (simp [intOf]; omega)⟩
              | trace_state
        · obtain rfl : i = n := by omega
          have HR2 : Hid (R = some m) := by
            have h := HJ.out.2
            rw [List.drop_eq_nil_of_le (by rw [HN.out]; exact Nat.le_refl _)] at h
            exact h.symm
          clear HJ
          go_wp2_with fail
          all_goals refine ret_cell2 rfl rfl (heap_two w _ _).1 Tryz.underlying152 rfl rfl rfl ?_
          all_goals exact ⟨by rw [HR2.out]; show Ending.returned _ = Ending.returned _; simp [numV, hc], ((Below.refl _ _).alloc (Nat.le_refl _) _).alloc (by simp) _⟩

end Go.Proofs.YtlfcjcaofhcfnaaGreatDoor

namespace Go.Proofs.YtlfcjcaofhcfnaaGreatDoor
open Go.RowKit
set_option linter.unusedVariables false
set_option maxRecDepth 100000

/-- What the document asks of the pieces. -/
def exchQ : List (List UInt8) → Option Turn
  | [a, x, y, b] => if a = [115] ∧ x ≠ [] ∧ b = [] then some (.exch x y) else none
  | _ => none
theorem split_ahead (c : UInt8) (p : List UInt8) : ∀ (l cur : List UInt8), ∃ h t, splitG c cur l = h :: t ∧ splitG c (p ++ cur) l = (p ++ h) :: t
  | [], cur => ⟨cur, [], rfl, rfl⟩
  | d :: r, cur => by
    simp only [splitG]
    split
    · exact ⟨cur, _, rfl, rfl⟩
    · obtain ⟨h, t, h1, h2⟩ := split_ahead c p r (cur ++ [d])
      exact ⟨h, t, h1, by rw [← h2, List.append_assoc]⟩
theorem exch_same (r : List UInt8) : exchQ (splitG 47 [] (115 :: r)) = exchT r := by
  obtain ⟨h, t, h1, h2⟩ := split_ahead 47 [115] r []
  have e : splitG 47 [] (115 :: r) = splitG 47 ([115] ++ []) r := by
    simp only [splitG]
    rw [if_neg (by decide)]
    rfl
  unfold exchT
  rw [e, h2, h1]
  have hh : ([115] ++ h = [115]) ↔ h = [] := by simp
  match t with
  | [] => rfl
  | [_] => rfl
  | [_, _] => rfl
  | [x, y, b] =>
    simp only [exchQ, exchP]
    by_cases h0 : h = []
    · rw [h0]; simp
    · rw [if_neg (fun k => h0 (hh.1 k.1)), if_neg (fun k => h0 k.1)]
  | _ :: _ :: _ :: _ :: _ => rfl
theorem four_set {w2 : World} {R : Nat} {a b c d : Value} {T : TypeId} (h : w2.heap[R]? = some (.cells #[a, b, c, d] T (0, 0))) (p q r s : Value) : ((((w2.setCell ⟨R, 0, none⟩ p).setCell ⟨R, 1, none⟩ q).setCell ⟨R, 2, none⟩ r).setCell ⟨R, 3, none⟩ s).heap[R]? = some (.cells #[p, q, r, s] T (0, 0)) :=
  heap_setCell_same _ R 3 _ _ _ (heap_setCell_same _ R 2 _ _ _ (heap_setCell_same _ R 1 _ _ _ (heap_setCell_same w2 R 0 _ _ _ h)))
theorem four_below {w w2 : World} (h : Below w.heap.size w w2) (p q r s : Value) : Below w.heap.size w ((((w2.setCell ⟨w.heap.size, 0, none⟩ p).setCell ⟨w.heap.size, 1, none⟩ q).setCell ⟨w.heap.size, 2, none⟩ r).setCell ⟨w.heap.size, 3, none⟩ s) :=
  Below.setCell (Below.setCell (Below.setCell (Below.setCell h (Nat.le_refl _) _) (Nat.le_refl _) _) (Nat.le_refl _) _) (Nat.le_refl _) _
set_option maxHeartbeats 8000000 in
theorem turnR_exch (r : List UInt8) (hl : r.length + 1 ≤ 2147483647) (w : World) : Calls Tryz.prog 143 #[.string (str (115 :: r))] w fun e w' => TurnE (exchT r) e ∧ Below w.heap.size w w' := by
  have hs : (str (115 :: r)).size = r.length + 1 := rfl
  have k1 := not_one (c := 115) (d := 98) (r := r) (.inl (by decide))
  have k2 := not_one (c := 115) (d := 100) (r := r) (.inl (by decide))
  have k3 := not_one (c := 115) (d := 110) (r := r) (.inl (by decide))
  have k4 := not_one (c := 115) (d := 117) (r := r) (.inl (by decide))
  have k5 := not_one (c := 115) (d := 119) (r := r) (.inl (by decide))
  have k6 : ¬ (str (115 :: r)).toList = [] := by rw [str_toList]; simp
  have k7 : (str (115 :: r)).toList.isEmpty = false := by rw [str_toList]; rfl
  have HG : ∀ h : 0 < (str (115 :: r)).size, (str (115 :: r))[0] = 115 := fun h => str_getF _ 0 115 rfl h
  have HP := hidK fun W => piecesR_any (115 :: r) hl 47 W
  have HQ := hidK (exch_same r)
  obtain ⟨R, hR⟩ : ∃ R, exchT r = R := ⟨_, rfl⟩
  rw [hR] at HQ ⊢
  obtain ⟨ps, hps⟩ : ∃ ps, splitG 47 [] (115 :: r) = ps := ⟨_, rfl⟩
  rw [hps] at HP HQ
  obtain ⟨z, hz⟩ : ∃ z, str (115 :: r) = z := ⟨_, rfl⟩
  rw [hz] at hs k1 k2 k3 k4 k5 k6 k7 HG HP ⊢
  have hz0 : 0 < z.size := by omega
  have g0 := HG hz0
  clear hz HG hR hps
  go_enter Tryz.func143, Tryz.ntmps143
  go_wp2_with fail
  refine (HP.out _).mono ?_
  rintro e w2 ⟨v, rfl, hv⟩
  obtain ⟨ad, cap, rfl, hat⟩ := hv.at
  have HB2 := hidK hv.below
  have hblk := (hv.below.block w.heap.size (by simp)).trans (heap_alloc_new w (.cells #[.int .u8 0, .int .i64 0, .string ⟨#[]⟩, .string ⟨#[]⟩] 152))
  have f2 : ∀ j, w2.frozen? ⟨w.heap.size, j, none⟩ = false := fun j => free_atT hblk j
  have b0 : w2.cell? ⟨w.heap.size, 0, none⟩ = some (.int .u8 0) := cell_atT hblk 0
  have b1 : w2.cell? ⟨w.heap.size, 1, none⟩ = some (.int .i64 0) := cell_atT hblk 1
  have b2 : w2.cell? ⟨w.heap.size, 2, none⟩ = some (.string ⟨#[]⟩) := cell_atT hblk 2
  have b3 : w2.cell? ⟨w.heap.size, 3, none⟩ = some (.string ⟨#[]⟩) := cell_atT hblk 3
  have HBk := hidK hblk
  have HBw : Hid (Below w.heap.size w w2) := ((Below.refl _ w).alloc (Nat.le_refl _) _).trans (hv.below.mono (by simp))
  have hcells := fun (i : Nat) (p : List UInt8) (hp : ps[i]? = some p) => hat w2 (Below.refl _ _) i p hp
  obtain ⟨n, hn⟩ : ∃ n, ps.length = n := ⟨_, rfl⟩
  have HN := hidK hn
  have hfew : n ≤ 9223372036854775807 := by have := hv.row.len; unfold maxLen at this; omega
  rw [hn]
  have HC := hidK hcells
  clear hat hv hblk hn hcells HP
  by_cases h4 : n = 4
  · subst h4
    obtain ⟨a, x, y, b, rfl⟩ : ∃ a x y b, ps = [a, x, y, b] := by
      match ps, HN.out with
      | [a, x, y, b], _ => exact ⟨a, x, y, b, rfl⟩
    obtain ⟨g, o, rfl, q0⟩ := HC.out 0 a rfl
    obtain ⟨g', o', e', q1⟩ := HC.out 1 x rfl
    cases e'
    obtain ⟨g', o', e', q2⟩ := HC.out 2 y rfl
    cases e'
    obtain ⟨g', o', e', q3⟩ := HC.out 3 b rfl
    cases e'
    have za := str_toList a
    have zx := str_toList x
    have zb := str_toList b
    obtain ⟨sa, hsa⟩ : ∃ s, str a = s := ⟨_, rfl⟩
    obtain ⟨sx, hsx⟩ : ∃ s, str x = s := ⟨_, rfl⟩
    obtain ⟨sy, hsy⟩ : ∃ s, str y = s := ⟨_, rfl⟩
    obtain ⟨sb, hsb⟩ : ∃ s, str b = s := ⟨_, rfl⟩
    rw [hsa] at q0 za
    rw [hsx] at q1 zx
    rw [hsy] at q2
    rw [hsb] at q3 zb
    have HX := hidK hsx
    have HY := hidK hsy
    have q0' : w2.cell? ⟨g, o, none⟩ = some (.string sa) := q0
    clear hsa hsx hsy hsb HC HN q0
    have hq := HQ.out
    simp only [exchQ] at hq
    by_cases hall : a = [115] ∧ x ≠ [] ∧ b = []
    · rw [if_pos hall] at hq
      subst hq
      obtain ⟨ha, hx, hb⟩ := hall
      have t1 : (sa.toList == [115]) = true := by rw [za, ha]; rfl
      have t1' : sa.toList = [115] := by rw [za, ha]
      have t2 : sx.toList.isEmpty = false := by rw [zx]; cases x with | nil => exact absurd rfl hx | cons _ _ => rfl
      have t2' : ¬ sx.toList = [] := by rw [zx]; exact hx
      have t3 : sb.toList.isEmpty = true := by rw [zb, hb]; rfl
      have t3' : sb.toList = [] := by rw [zb, hb]
      clear za zx zb ha hx hb HQ
      go_wp2_with fail
      go_region
      all_goals go_wp2_with fail
      all_goals refine ret_cell2 rfl rfl (four_set HBk.out _ _ _ _) Tryz.underlying152 rfl rfl rfl ?_
      all_goals exact ⟨by show Ending.returned _ = Ending.returned (.tuple #[tV 115 0 x y, .bool true]); unfold tV; rw [HX.out, HY.out]; rfl, by first | exact four_below HBw.out _ _ _ _ | exact (four_below HBw.out _ _ _ _).drew⟩
    · rw [if_neg hall] at hq
      subst hq
      have hsp : ¬ a = [115] ∨ (a = [115] ∧ x = []) ∨ (a = [115] ∧ x ≠ [] ∧ ¬ b = []) := by
        by_cases ha : a = [115]
        · by_cases hx : x = []
          · exact .inr (.inl ⟨ha, hx⟩)
          · exact .inr (.inr ⟨ha, hx, fun hb => hall ⟨ha, hx, hb⟩⟩)
        · exact .inl ha
      rcases hsp with ha | ⟨ha, hx⟩ | ⟨ha, hx, hb⟩
      · have t1 : (sa.toList == [115]) = false := by rw [za]; exact beq_eq_false_iff_ne.2 ha
        have t1' : ¬ sa.toList = [115] := by rw [za]; exact ha
        clear za zx zb ha HQ hall
        go_wp2_with fail
        all_goals refine ret_cell2 rfl rfl (four_set HBk.out _ _ _ _) Tryz.underlying152 rfl rfl rfl ?_
        all_goals exact ⟨⟨_, _, _, _, rfl⟩, four_below HBw.out _ _ _ _⟩
      · have t1 : (sa.toList == [115]) = true := by rw [za, ha]; rfl
        have t1' : sa.toList = [115] := by rw [za, ha]
        have t2 : sx.toList.isEmpty = true := by rw [zx, hx]; rfl
        have t2' : sx.toList = [] := by rw [zx, hx]
        clear za zx zb ha hx HQ hall
        go_wp2_with fail
        all_goals refine ret_cell2 rfl rfl (four_set HBk.out _ _ _ _) Tryz.underlying152 rfl rfl rfl ?_
        all_goals exact ⟨⟨_, _, _, _, rfl⟩, four_below HBw.out _ _ _ _⟩
      · have t1 : (sa.toList == [115]) = true := by rw [za, ha]; rfl
        have t1' : sa.toList = [115] := by rw [za, ha]
        have t2 : sx.toList.isEmpty = false := by rw [zx]; cases x with | nil => exact absurd rfl hx | cons _ _ => rfl
        have t2' : ¬ sx.toList = [] := by rw [zx]; exact hx
        have t3 : sb.toList.isEmpty = false := by rw [zb]; cases b with | nil => exact absurd rfl hb | cons _ _ => rfl
        have t3' : ¬ sb.toList = [] := by rw [zb]; exact hb
        clear za zx zb ha hx hb HQ hall
        go_wp2_with fail
        all_goals refine ret_cell2 rfl rfl (four_set HBk.out _ _ _ _) Tryz.underlying152 rfl rfl rfl ?_
        all_goals exact ⟨⟨_, _, _, _, rfl⟩, four_below HBw.out _ _ _ _⟩
  · have h4' : ¬ (n : Int) = 4 := by omega
    have HR2 : Hid (R = none) := by
      rw [← HQ.out]
      match ps, HN.out with
      | [], _ => rfl
      | [_], _ => rfl
      | [_, _], _ => rfl
      | [_, _, _], _ => rfl
      | [_, _, _, _], h => exact absurd h.symm h4
      | _ :: _ :: _ :: _ :: _ :: _, _ => rfl
    clear HQ HC
    go_wp2_with fail
    all_goals refine ret_cell2 rfl rfl (four_set HBk.out _ _ _ _) Tryz.underlying152 rfl rfl rfl ?_
    all_goals exact ⟨by rw [HR2.out]; exact ⟨_, _, _, _, rfl⟩, four_below HBw.out _ _ _ _⟩
/-- Every turn. -/
theorem num_turn {c : UInt8} {neg : Bool} {R : Option Nat} {e : Ending} {p : Nat → Turn} (h : NumE c neg R e) (hp : ∀ n, turnV (p n) = numV c neg n) : TurnE (R.map p) e := by
  cases R with
  | none => exact h
  | some n =>
    have h2 : e = .returned (.tuple #[numV c neg n, .bool true]) := h
    show e = .returned (.tuple #[turnV (p n), .bool true])
    rw [h2, hp]
theorem turnR_any (l : List UInt8) (hl : l.length ≤ 2147483647) (R : Option Turn) (hR : turnF l = some R) (w : World) : Calls Tryz.prog 143 #[.string (str l)] w fun e w' => TurnE R e ∧ Below w.heap.size w w' := by
  cases l with
  | nil =>
    cases hR
    exact turnR_nil w
  | cons c r =>
    have hl2 : r.length + 1 ≤ 2147483647 := hl
    have num : ∀ (p m : Nat → Turn), (c.toNat = 61 ∨ c.toNat = 112) → (∀ n, turnV (p n) = numV c false n) → (∀ n, turnV (m n) = numV c true n) → numF p m r = R → Calls Tryz.prog 143 #[.string (str (c :: r))] w fun e w' => TurnE R e ∧ Below w.heap.size w w' := by
      intro p m hc hp hm hn
      unfold numF at hn
      cases hb : (headF 45 r).2 with
      | true =>
        rw [hb, if_pos rfl] at hn
        obtain ⟨d, rfl⟩ : ∃ d, r = 45 :: d := by
          cases r with
          | nil => cases hb
          | cons e d =>
            simp only [headF] at hb
            split at hb
            · rename_i h; exact ⟨d, by rw [h]⟩
            · cases hb
        have hh : (headF 45 (45 :: d)).1 = d := by simp [headF]
        rw [hh] at hn
        refine (turnR_neg c hc d hl w).mono fun e w' ⟨h1, h2⟩ => ⟨?_, h2⟩
        rw [← hn]
        exact num_turn h1 hm
      | false =>
        rw [hb, if_neg (by decide)] at hn
        refine (turnR_pos c hc r hl hb w).mono fun e w' ⟨h1, h2⟩ => ⟨?_, h2⟩
        rw [← hn]
        exact num_turn h1 hp
    have bare : ∀ (t : Turn), (c.toNat = 98 ∨ c.toNat = 100 ∨ c.toNat = 110 ∨ c.toNat = 117 ∨ c.toNat = 119) → turnV t = tV (c.toNat : Int) 0 [] [] → bareF t r = R → Calls Tryz.prog 143 #[.string (str (c :: r))] w fun e w' => TurnE R e ∧ Below w.heap.size w w' := by
      intro t hc ht hn
      unfold bareF at hn
      by_cases h0 : r = []
      · rw [if_pos h0] at hn
        subst h0 hn
        refine (turnR_bare c hc w).mono fun e w' ⟨h1, h2⟩ => ⟨?_, h2⟩
        show e = .returned (.tuple #[turnV t, .bool true])
        rw [h1, ht]
      · rw [if_neg h0] at hn
        subst hn
        exact turnR_other c r hl2 (.inr h0) (by omega) (by omega) (by omega) w
    simp only [turnF] at hR
    by_cases c1 : c.toNat = 61
    · rw [if_pos c1] at hR
      exact num .cut .last (.inl c1) (fun n => by unfold numV; rw [c1]; rfl) (fun n => by unfold numV; rw [c1]; rfl) (Option.some.inj hR)
    rw [if_neg c1] at hR
    by_cases c2 : c.toNat = 112
    · rw [if_pos c2] at hR
      exact num .behind .ahead (.inr c2) (fun n => by unfold numV; rw [c2]; rfl) (fun n => by unfold numV; rw [c2]; rfl) (Option.some.inj hR)
    rw [if_neg c2] at hR
    by_cases c3 : c.toNat = 98
    · rw [if_pos c3] at hR
      exact bare .base (.inl c3) (by rw [c3]; rfl) (Option.some.inj hR)
    rw [if_neg c3] at hR
    by_cases c4 : c.toNat = 100
    · rw [if_pos c4] at hR
      exact bare .folder (by omega) (by rw [c4]; rfl) (Option.some.inj hR)
    rw [if_neg c4] at hR
    by_cases c5 : c.toNat = 110
    · rw [if_pos c5] at hR
      exact bare .count (by omega) (by rw [c5]; rfl) (Option.some.inj hR)
    rw [if_neg c5] at hR
    by_cases c6 : c.toNat = 117
    · rw [if_pos c6] at hR
      exact bare .great (by omega) (by rw [c6]; rfl) (Option.some.inj hR)
    rw [if_neg c6] at hR
    by_cases c7 : c.toNat = 119
    · rw [if_pos c7] at hR
      exact bare .small (by omega) (by rw [c7]; rfl) (Option.some.inj hR)
    rw [if_neg c7] at hR
    by_cases c8 : c.toNat = 115
    · rw [if_pos c8] at hR
      obtain rfl : c = 115 := UInt8.toNat_inj.1 c8
      have := turnR_exch r hl2 w
      rw [Option.some.inj hR] at this
      exact this
    rw [if_neg c8] at hR
    cases hR
    exact turnR_other c r hl2 (.inl ⟨fun h => c3 (by rw [h]; rfl), fun h => c4 (by rw [h]; rfl), fun h => c5 (by rw [h]; rfl), fun h => c6 (by rw [h]; rfl), fun h => c7 (by rw [h]; rfl)⟩) c1 c2 c8 w

end Go.Proofs.YtlfcjcaofhcfnaaGreatDoor

namespace Go.Proofs.YtlfcjcaofhcfnaaGreatDoor
open Go.RowKit
set_option linter.unusedVariables false
set_option maxRecDepth 100000

def turnCs : Turn → List Value
  | .cut n => [.int .u8 61, .int .i64 n, .string (str []), .string (str [])]
  | .last n => [.int .u8 61, .int .i64 n, .string (str [45]), .string (str [])]
  | .behind n => [.int .u8 112, .int .i64 n, .string (str []), .string (str [])]
  | .ahead n => [.int .u8 112, .int .i64 n, .string (str [45]), .string (str [])]
  | .base => [.int .u8 98, .int .i64 0, .string (str []), .string (str [])]
  | .folder => [.int .u8 100, .int .i64 0, .string (str []), .string (str [])]
  | .count => [.int .u8 110, .int .i64 0, .string (str []), .string (str [])]
  | .great => [.int .u8 117, .int .i64 0, .string (str []), .string (str [])]
  | .small => [.int .u8 119, .int .i64 0, .string (str []), .string (str [])]
  | .exch x y => [.int .u8 115, .int .i64 0, .string (str x), .string (str y)]
theorem turn_four (t : Turn) : ∃ a b c d, turnV t = .agg #[.int .u8 a, .int .i64 b, .string c, .string d] ∧ turnCs t = [.int .u8 a, .int .i64 b, .string c, .string d] := by
  cases t <;> exact ⟨_, _, _, _, rfl, rfl⟩
def turnsV (ts : List Turn) : List Value := ts.flatMap turnCs
theorem turnsR_snoc (ts : List Turn) (t : Turn) : turnsV (ts ++ [t]) = turnsV ts ++ turnCs t := by simp [turnsV]
theorem infoTurnR : (Tryz.prog.info? 152).map (fun i => (i.zero, i.size, i.bytes)) = some (some (.agg #[.int .u8 0, .int .i64 0, .string ⟨#[]⟩, .string ⟨#[]⟩]), 4, 48) := by kernel_rfl
theorem underTurnsR : Tryz.prog.underlying 148 = some (.slice 152) := by kernel_rfl
/-- A list of turns of one's own. -/
abbrev Trns (w w' : World) (v : Value) (ts : List Turn) : Prop := Mine w w' 152 4 v ts.length (turnsV ts)
theorem turnsR_at : ∀ (ts : List Turn) (i : Nat) (t : Turn), ts[i]? = some t → ∀ j x, (turnCs t)[j]? = some x → (turnsV ts)[i * 4 + j]? = some x
  | [], i, t, h => by simp at h
  | u :: ts, 0, t, h => by
    cases h
    intro j x hx
    have e : turnsV (u :: ts) = turnCs u ++ turnsV ts := rfl
    have := (List.getElem?_eq_some_iff.1 hx).1
    rw [e, Nat.zero_mul, Nat.zero_add, List.getElem?_append_left this]
    exact hx
  | u :: ts, i + 1, t, h => by
    intro j x hx
    have ih := turnsR_at ts i t h j x hx
    have e : turnsV (u :: ts) = turnCs u ++ turnsV ts := rfl
    have el : (turnCs u).length = 4 := by cases u <;> rfl
    have e1 : (i + 1) * 4 + j = (turnCs u).length + (i * 4 + j) := by rw [el]; omega
    rw [e, e1, List.getElem?_append_right (Nat.le_add_right _ _), Nat.add_sub_cancel_left]
    exact ih
theorem Mine.trns {w W : World} {v : Value} {ts : List Turn} (h : Trns w W v ts) : ∃ ad cap, v = .slice ad ts.length cap ∧ ∀ W', Below W.heap.size W W' → ∀ (i : Nat) (t : Turn), ts[i]? = some t → ∃ g o, ad = some ⟨g, o, none⟩ ∧ ∀ j x, (turnCs t)[j]? = some x → W'.cell? ⟨g, o + i * 4 + j, none⟩ = some x := by
  obtain ⟨ad, cap, e, h1, h2, h3, h4⟩ := h.row.shape
  refine ⟨ad, cap, e, fun W' hW i t ht => ?_⟩
  have hi := (List.getElem?_eq_some_iff.1 ht).1
  cases ad with
  | none =>
    have := (h3 rfl).1
    omega
  | some a =>
    obtain ⟨ad', cap', e', h1', h2', h3', h4'⟩ := (h.more hW).row.shape
    cases e.symm.trans e'
    obtain ⟨g, o, rfl, _, h5, h6⟩ := h4' a rfl
    exact ⟨g, o, rfl, fun j x hx => by
      have := (h6 W' rfl).1 _ _ (turnsR_at ts i t ht j x hx)
      rw [Nat.add_assoc]
      exact this⟩

theorem drop_twoL {α : Type} : ∀ {l : List α} {k : Nat} {c : α}, l[k]? = some c → l.drop k = c :: l.drop (k + 1)
  | [], k, c, h => by simp at h
  | d :: r, 0, c, h => by cases h; rfl
  | d :: r, k + 1, c, h => drop_twoL (l := r) h
structure TrnS (ps : List (List UInt8)) (k : Nat) (ts : List Turn) (R : Option (List Turn)) : Prop where
  all : ∃ S, turnsG (ps.drop k) = some S ∧ R = S.map (ts ++ ·)
  few : ts.length = k
theorem TrnS.step {ps : List (List UInt8)} {k : Nat} {ts : List Turn} {R : Option (List Turn)} (h : TrnS ps k ts R) {p : List UInt8} (hp : ps[k]? = some p) {t : Turn} (ht : turnF p = some (some t)) : TrnS ps (k + 1) (ts ++ [t]) R := by
  obtain ⟨S, h1, h2⟩ := h.all
  rw [drop_twoL hp] at h1
  obtain ⟨S2, h3⟩ := turns_told (ps.drop (k + 1))
  simp only [turnsG, ht, h3] at h1
  refine ⟨⟨S2, h3, ?_⟩, by simp [h.few]⟩
  rw [h2]
  cases S2 with
  | none => cases h1; rfl
  | some s => cases h1; simp
theorem TrnS.stop {ps : List (List UInt8)} {k : Nat} {ts : List Turn} {R : Option (List Turn)} (h : TrnS ps k ts R) {p : List UInt8} (hp : ps[k]? = some p) (ht : turnF p = some none) : R = none := by
  obtain ⟨S, h1, h2⟩ := h.all
  rw [drop_twoL hp] at h1
  simp only [turnsG, ht] at h1
  cases h1
  exact h2
theorem TrnS.done {ps : List (List UInt8)} {k : Nat} {ts : List Turn} {R : Option (List Turn)} (h : TrnS ps k ts R) (hk : ps.length ≤ k) : R = some ts := by
  obtain ⟨S, h1, h2⟩ := h.all
  rw [List.drop_eq_nil_of_le hk] at h1
  cases h1
  rw [h2]
  simp
set_option maxHeartbeats 4000000 in
theorem turnsR_any (l : List UInt8) (hl : l.length ≤ 2147483646) (R : Option (List Turn)) (hR : turnsF l = some R) (w : World) : Calls Tryz.prog 119 #[.string (str l)] w fun e w' => ∃ v, e = .returned v ∧ Trns w w' v (R.getD []) := by
  have HP := hidK fun W => piecesR_any l (by omega) 59 W
  have HT : Hid (∀ p : List UInt8, p ∈ splitG 59 [] l → ∀ S, turnF p = some S → ∀ W, Calls Tryz.prog 143 #[.string (str p)] W fun e w' => TurnE S e ∧ Below W.heap.size W w') := fun p hp S hS W => turnR_any p (by have := splitG_short 59 l [] p hp; simp at this; omega) S hS W
  have hRl : (splitG 59 [] l).length ≤ l.length + 1 := splitG_count _ _ _
  have HR : Hid (TrnS (splitG 59 [] l) 0 [] R) := ⟨⟨R, hR, by cases R <;> simp⟩, rfl⟩
  obtain ⟨ps, hps⟩ : ∃ ps, splitG 59 [] l = ps := ⟨_, rfl⟩
  obtain ⟨z, hz⟩ : ∃ z, str l = z := ⟨_, rfl⟩
  rw [hz] at HP ⊢
  rw [hps] at HP HT HR hRl
  have hn2 : ps.length ≤ 2147483647 := by omega
  clear hz hps hRl hR hl
  go_enter Tryz.func119, Tryz.ntmps119
  go_wp2_with fail
  refine (HP.out _).mono ?_
  rintro e w1 ⟨v, rfl, hv⟩
  obtain ⟨ad, cap, rfl, hat⟩ := hv.at
  have HB1 := hidK hv.below
  have HC := hidK hat
  obtain ⟨n, hn⟩ : ∃ n, ps.length = n := ⟨_, rfl⟩
  have HN := hidK hn
  rw [hn] at hn2 ⊢
  clear hat hv hn HP
  go_wp2_with fail
  go_loopw [4, 5] (fun s4 s5 wx => ∃ (k : Nat) (ts : List Turn), k ≤ n ∧ s5 = .int .i64 (k : Int) ∧ Hid (TrnS ps k ts R) ∧ Hid (Trns w1 wx s4 ts)) (fun _ v _ => n - (intOf v).toNat)
  case atStart => exact ⟨0, [], Nat.zero_le _, rfl, HR.out, Mine.nil (Below.refl _ _)⟩
  case round =>
    obtain ⟨k, ts, hk, rfl, HS, HM⟩ := hrel
    obtain ⟨sp, hsp⟩ : ∃ sp, u4 = sp := ⟨_, rfl⟩
    rw [hsp] at HM ⊢
    clear hsp
    have hfew := HS.out.few
    by_cases hkn : k < n
    · obtain ⟨p, hp⟩ : ∃ p, ps[k]? = some p := ⟨_, List.getElem?_eq_getElem (by rw [HN.out]; exact hkn)⟩
      obtain ⟨g, o, rfl, hc0⟩ := HC.out wr HM.out.below k p hp
      obtain ⟨S, hS⟩ := turn_told p
      have HTk := hidK fun W => HT.out p (List.mem_of_getElem? hp) S hS W
      have HPk := hidK hp
      have HSk := hidK hS
      obtain ⟨y, hy⟩ : ∃ y, str p = y := ⟨_, rfl⟩
      rw [hy] at HTk hc0
      clear hp hS hy
      go_wp2_with fail
      refine (HTk.out _).mono ?_
      rintro x w2 ⟨hx, hb2⟩
      have HM2 := hidK (HM.out.more hb2)
      clear HM hb2
      cases S with
      | none =>
        obtain ⟨a, b, c, d, rfl⟩ := hx
        have HQ := hidK (HS.out.stop HPk.out HSk.out)
        have HB2 := hidK (HM2.out.below)
        go_wp2_with fail
        all_goals go_ret
        all_goals exact ⟨_, rfl, by rw [HQ.out]; exact Mine.nil (HB1.out.trans ((HB2.out.trans (((Below.refl _ _).alloc (Nat.le_refl _) _).mono HB2.out.size)).mono HB1.out.size))⟩
      | some t =>
        obtain ⟨a, b, c, d, hv, hcs⟩ := turn_four t
        have hx2 : x = .returned (.tuple #[turnV t, .bool true]) := hx
        rw [hv] at hx2
        subst hx2
        have HS2 := hidK (HS.out.step HPk.out HSk.out)
        have HV := hidK hcs
        clear hx hv hcs HS
        go_wp2_with (refine wpList_append_row ((w2.alloc (.cells #[.int .u8 a, .int .i64 b, .string c, .string d] 152)).alloc (.cells #[.int .u8 a, .int .i64 b, .string c, .string d] 152)) rfl _ _ 148 148 rfl underTurnsR infoTurnR rfl (v := sp) (by simp [Act.eval]) (u := .slice (some ⟨w2.heap.size + 1, 0, none⟩) 1 1) (by simp [Act.eval]) (HM2.out.row.below (heap_two w2 _ _).2.2.2) (Src.block underTurnsR _ _ [.int .u8 a, .int .i64 b, .string c, .string d] _ 4 (heap_two w2 _ _).2.1 rfl rfl) ?x1 ?x2 ?x3)
        case x1 => omega
        case x2 => unfold maxLen; omega
        case x3 =>
          intro v7 w7 hr7 hg7
          have HM7 := hidK ((HM2.out.grown (heap_two w2 _ _).2.2.2 hr7.out hg7.out).cast (n' := (ts ++ [t]).length) (xs' := turnsV (ts ++ [t])) (by simp <;> omega) (by rw [turnsR_snoc, HV.out]))
          clear hr7 hg7 HM2 HV
          go_wp2_with fail
          all_goals (
            go_roundw
            case rel => exact ⟨k + 1, ts ++ [t], by omega, by go_num, HS2.out, HM7.out⟩
            case measure => simp [intOf]; omega)
    · obtain rfl : k = n := by omega
      have HQ := hidK (HS.out.done (by rw [HN.out]; exact Nat.le_refl _))
      go_wp2_with fail
      all_goals go_ret
      all_goals exact ⟨_, rfl, by rw [HQ.out]; exact ⟨HM.out.row, HB1.out.trans (HM.out.below.mono HB1.out.size), fun g hg => by have := HM.out.young g hg; have := HB1.out.size; omega⟩⟩

end Go.Proofs.YtlfcjcaofhcfnaaGreatDoor
