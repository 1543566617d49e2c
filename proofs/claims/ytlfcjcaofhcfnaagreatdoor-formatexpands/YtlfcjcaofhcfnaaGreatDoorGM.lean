/-
  Formats: the two parts of a rest.
  Formats: the heads of numbers.
  Formats: the heads of texts and of truths.
-/
import Derived.Test.YtlfcjcaofhcfnaaGreatDoorGI
import Derived.Test.YtlfcjcaofhcfnaaGreatDoorGL
import Derived.Lib.AppendIntMem
namespace Go.Proofs.YtlfcjcaofhcfnaaGreatDoor
open Go.RowKit
set_option linter.unusedVariables false
set_option maxRecDepth 100000

def Out2 (r : Except Int (List UInt8 × List UInt8)) (e : Ending) : Prop := match r with
  | .ok (s, t) => e = .returned (.tuple #[.string (str s), .string (str t), .nilIface])
  | .error k => ∃ v, e = .returned (.tuple #[.string (str []), .string (str []), v]) ∧ ErrV v k
/-- What a method means, from a world on. -/
def MeanOk (g : Nat) (sub : List UInt8 → Res) (w : World) (xb : Nat) (d : Int) : Prop := ∀ W, Below w.heap.size w W → ∀ q : List UInt8, q.length ≤ 2147483647 → ∀ res, sub q = some res → Calls Tryz.prog g #[.pointer (some ⟨xb, 0, none⟩), .string (str q), .int .i64 d] W fun e w' => Out res e ∧ Below W.heap.size W w'
theorem both_few {sub : List UInt8 → Res} {ps : List (List UInt8)} {res : Except Int (List UInt8 × List UInt8)} (hn : ps.length ≠ 2) (h : twoF sub ps = some res) : res = .error 100 := by
  match ps, hn, h with
  | [], hn, h => exact (Option.some.inj h).symm
  | [a], hn, h => exact (Option.some.inj h).symm
  | [a, b], hn, h => exact absurd rfl hn
  | a :: b :: c :: r, hn, h => exact (Option.some.inj h).symm
set_option maxHeartbeats 4000000 in
theorem both_any {g : Nat} (hg : Enters g) {sub : List UInt8 → Res} {w : World} {xb : Nat} {d : Int} (hM : MeanOk g sub w xb d) (p : List UInt8) (hp : p.length ≤ 2147483647) (res : Except Int (List UInt8 × List UInt8)) (h : bothF sub p = some res) :
    Calls Tryz.prog 97 #[.pointer (some ⟨xb, 0, none⟩), .string (str p), .int .i64 d, .func (.func g) #[.pointer (some ⟨xb, 0, none⟩)] #[]] w fun e w' => Out2 res e ∧ Below w.heap.size w w' := by
  unfold Enters at hg
  have HC := hidK (cut_any p hp w)
  have hsh : ∀ q ∈ cutF p, q.length ≤ 2147483647 := fun q hq => by
    have := cut_short _ _ _ _ q hq
    simp at this
    omega
  have HOp := hidK hM
  unfold MeanOk at HOp
  obtain ⟨z, hz⟩ : ∃ z, str p = z := ⟨_, rfl⟩
  rw [hz] at HC ⊢
  unfold bothF at h
  obtain ⟨ps, hps⟩ : ∃ ps, cutF p = ps := ⟨_, rfl⟩
  rw [hps] at HC hsh h
  have HSh := hidK hsh
  have HH := hidK h
  clear hz hps h hsh hM hp
  by_cases hn : ps.length = 2
  · obtain ⟨a, b, rfl⟩ : ∃ a b, ps = [a, b] := by
      match ps, hn with
      | [a, b], _ => exact ⟨a, b, rfl⟩
    clear hn
    unfold twoF at HH
    go_enter Tryz.func97, Tryz.ntmps97
    go_wp2_with fail
    refine HC.out.mono ?_
    rintro x w1 ⟨v, rfl, ht⟩
    obtain ⟨ad, cap, rfl, hat⟩ := ht.at
    have HB1 := hidK ht.below
    obtain ⟨gq, o, rfl, qa⟩ := hat w1 (Below.refl _ _) 0 a rfl
    have HAt : Hid (∀ W', Below w1.heap.size w1 W' → ∀ (i : Nat) (l : List UInt8), [a, b][i]? = some l → W'.cell? ⟨gq, o + i, none⟩ = some (.string (str l))) := fun W' hW i l hl => by
      obtain ⟨g', o', e, h⟩ := hat W' hW i l hl
      cases e
      exact h
    have qa' : w1.cell? ⟨gq, o, none⟩ = some (.string (str a)) := qa
    have ha := HSh.out a (by simp)
    have hb := HSh.out b (by simp)
    clear ht hat HC
    cases hoa : sub a with
    | none =>
      have := HH.out
      rw [hoa] at this
      cases this
    | some ra =>
      have HO := hidK (HOp.out w1 HB1.out a ha ra hoa)
      rw [hoa] at HH
      clear hoa
      go_wp2_with (go_at_fn g; refine HO.out.mono ?_)
      all_goals rintro x w2 ⟨ho, hb2⟩
      cases ra with
      | error k =>
        obtain ⟨v, rfl, hv⟩ := ho
        obtain ⟨t, y, rfl⟩ := hv.iface
        have HRs : Hid (res = .error k) := (Option.some.inj HH.out).symm
        have HV := hidK hv
        have HB2 := hidK (HB1.out.trans (hb2.mono HB1.out.size))
        clear hv hb2 HH
        go_wp2_with fail
        all_goals go_ret3
        all_goals exact ⟨by rw [HRs.out]; exact ⟨_, rfl, HV.out⟩, HB2.out⟩
      | ok sa =>
        have ho' : x = .returned (.tuple #[.string (str sa), .nilIface]) := ho
        subst ho'
        have HB2 := hidK (HB1.out.trans (hb2.mono HB1.out.size))
        have qb := HAt.out w2 hb2 1 b rfl
        obtain ⟨zs, hzs⟩ : ∃ zs, str sa = zs := ⟨_, rfl⟩
        have HZs := hidK hzs
        rw [hzs]
        clear ho hb2 hzs HAt
        cases hob : sub b with
        | none =>
          have := HH.out
          simp only [hob] at this
          cases this
        | some rb =>
          have HO2 := hidK (HOp.out w2 HB2.out b hb rb hob)
          simp only [hob] at HH
          clear hob HOp
          go_wp2_with (go_at_fn g; refine HO2.out.mono ?_)
          all_goals rintro x w3 ⟨ho, hb3⟩
          cases rb with
          | error k =>
            obtain ⟨v, rfl, hv⟩ := ho
            obtain ⟨t, y, rfl⟩ := hv.iface
            have HRs : Hid (res = .error k) := (Option.some.inj HH.out).symm
            have HV := hidK hv
            have HB3 := hidK (HB2.out.trans (hb3.mono HB2.out.size))
            clear hv hb3 HH
            go_wp2_with fail
            all_goals go_ret3
            all_goals exact ⟨by rw [HRs.out]; exact ⟨_, rfl, HV.out⟩, HB3.out⟩
          | ok sb =>
            have ho' : x = .returned (.tuple #[.string (str sb), .nilIface]) := ho
            subst ho'
            have HRs : Hid (res = .ok (sa, sb)) := (Option.some.inj HH.out).symm
            have HB3 := hidK (HB2.out.trans (hb3.mono HB2.out.size))
            clear ho hb3 HH
            go_wp2_with fail
            all_goals go_ret3
            all_goals exact ⟨by rw [HRs.out, ← HZs.out]; rfl, HB3.out⟩
  · have HRs := hidK (both_few hn HH.out)
    obtain ⟨n, hnn⟩ : ∃ n, ps.length = n := ⟨_, rfl⟩
    go_enter Tryz.func97, Tryz.ntmps97
    go_wp2_with fail
    refine HC.out.mono ?_
    rintro x w1 ⟨v, rfl, ht⟩
    obtain ⟨ad, cap, rfl, -⟩ := ht.at
    have HB1 := hidK ht.below
    rw [hnn]
    rw [hnn] at hn
    clear ht HH HOp HSh hnn HC
    have hn2 : ¬ (n : Int) = 2 := by omega
    have hb2 : ((n : Int) == 2) = false := by simpa using hn2
    have hc2 : ((n : Int) != 2) = true := by simpa using hn2
    go_wp2_with fail
    all_goals go_ret3
    all_goals exact ⟨by rw [HRs.out]; exact ⟨_, rfl, .fault 100⟩, HB1.out⟩
end Go.Proofs.YtlfcjcaofhcfnaaGreatDoor

namespace Go.Proofs.YtlfcjcaofhcfnaaGreatDoor
open Go.RowKit
set_option linter.unusedVariables false
set_option maxRecDepth 100000

theorem wholeN {w : World} (h : NEnv w) (l : List UInt8) (hl : l.length ≤ 2147483647) : Calls Tryz.prog 103 #[.string (str l)] w fun e w' => e = .returned (wholeV (wholeF l)) ∧ Below w.heap.size w w' := by
  obtain ⟨ev, h1, h2⟩ := h.err
  exact whole_any l hl ev h1 w h2
theorem whole_in {l : List UInt8} {z : Int} (h : wholeF l = some z) : NumIn z := by
  unfold wholeF at h
  split at h
  · cases h
  · split at h
    · cases h
    · split at h
      · cases h
      · have h2 := (Option.some.inj h).symm
        subst h2
        unfold NumIn
        split <;> omega
theorem formatInt_any {w : World} (h : NEnv w) (n : Int) (hn : NumIn n) : Calls Tryz.prog 104 #[.int .i64 n, .int .i64 10] w fun e w' => e = .returned (.string (str (Lib.itoa n))) ∧ Below w.heap.size w w' := by
  obtain ⟨h1, h2⟩ := hn
  have HF := hidK (Tryz.internal_strconv_FormatInt_10 n (by omega) (by omega) w h.tab)
  obtain ⟨z, hz⟩ : ∃ z : ByteArray, ⟨(Lib.itoa n).toArray⟩ = z := ⟨_, rfl⟩
  have hz2 : str (Lib.itoa n) = z := hz
  rw [hz] at HF
  rw [hz2]
  clear hz hz2 h
  go_enter Tryz.func104, Tryz.ntmps104
  go_wp2_with fail
  refine HF.out.mono ?_
  rintro e w1 ⟨rfl, k, os, hw⟩
  have hb : Below w.heap.size w w1 := by rw [hw]; exact Lib.below_grow _ _ (Nat.le_refl _) _ _
  clear hw
  go_wp2_with fail
  all_goals go_ret
  all_goals exact ⟨rfl, hb⟩
/-- What comes of two numbers: a function's value and what it answers. -/
def OfOk (g : Nat) (lb : Array Value) (op : Int → Int → Option Int) (w : World) : Prop := ∀ W, Below w.heap.size w W → ∀ a b, NumIn a → NumIn b → Calls Tryz.prog g (#[.int .i64 a, .int .i64 b] ++ lb) W fun e w' => ∃ n ok, e = .returned (.tuple #[.int .i64 n, .bool ok]) ∧ Below W.heap.size W w' ∧ -9223372036854775808 ≤ n ∧ n ≤ 9223372036854775807 ∧ op a b = if ok = true ∧ farB n = false then some n else none
set_option maxHeartbeats 4000000 in
theorem numbers_head {g : Nat} (hg : Enters g) {lb : Array Value} {op : Int → Int → Option Int} {sub : List UInt8 → Res} {w : World} {xb : Nat} {d : Int} (hN : NEnv w) (hO : OfOk g lb op w) (hM : MeanOk 100 sub w xb d) (hs : ∀ q s, sub q = some (.ok s) → s.length ≤ 2147483647) {xc oc : Nat} (h1 : w.cell? ⟨xc, 0, none⟩ = some (.pointer (some ⟨xb, 0, none⟩))) (h2 : w.cell? ⟨oc, 0, none⟩ = some (.func (.func g) #[] lb)) (p : List UInt8) (hp : p.length ≤ 2147483647) (res : Except Int (List UInt8)) (h : numbersF op (bothF sub p) = some res) :
    Calls Tryz.prog 102 #[.string (str p), .int .i64 d, .pointer (some ⟨xc, 0, none⟩), .pointer (some ⟨oc, 0, none⟩)] w fun e w' => Out res e ∧ Below w.heap.size w w' := by
  unfold Enters at hg
  have eop : Enters 100 := enters_of Tryz.func100 (by kernel_rfl) rfl
  have HNe := hidK hN
  have HOf := hidK hO
  have H2 := hidK h2
  cases hb : bothF sub p with
  | none => rw [hb] at h; cases h
  | some rb =>
    have HB := hidK (both_any eop hM p hp rb hb)
    rw [hb] at h
    have HH := hidK h
    obtain ⟨z, hz⟩ : ∃ z, str p = z := ⟨_, rfl⟩
    rw [hz] at HB ⊢
    cases rb with
    | error k =>
      have HRs : Hid (res = .error k) := (Option.some.inj HH.out).symm
      clear hz hb h hO hN hM hs hp eop HH HOf HNe h2
      go_enter Tryz.func102, Tryz.ntmps102
      go_wp2_with fail
      all_goals refine HB.out.mono ?_
      all_goals rintro x w1 ⟨⟨v, rfl, hv⟩, hb1⟩
      obtain ⟨t, y, rfl⟩ := hv.iface
      have HV := hidK hv
      clear hv HB
      go_wp2_with fail
      all_goals go_ret2
      all_goals exact ⟨by rw [HRs.out]; exact ⟨_, rfl, HV.out⟩, hb1⟩
    | ok st =>
      obtain ⟨s, t⟩ := st
      have hst : s.length ≤ 2147483647 ∧ t.length ≤ 2147483647 := by
        unfold bothF at hb
        match hc : cutF p, hb with
        | [], hb => cases hb
        | [a], hb => cases hb
        | a :: b :: c :: r, hb => cases hb
        | [a, b], hb =>
          unfold twoF at hb
          cases ha : sub a with
          | none => simp only [ha] at hb; cases hb
          | some ra =>
            cases ra with
            | error k => simp only [ha] at hb; cases hb
            | ok sa =>
              cases hb2 : sub b with
              | none => simp only [ha, hb2] at hb; cases hb
              | some rb =>
                cases rb with
                | error k => simp only [ha, hb2] at hb; cases hb
                | ok sb =>
                  simp only [ha, hb2] at hb
                  cases hb
                  exact ⟨hs _ _ ha, hs _ _ hb2⟩
      obtain ⟨hsl, htl⟩ := hst
      have HW : Hid (∀ W, Below w.heap.size w W → ∀ l : List UInt8, l.length ≤ 2147483647 → Calls Tryz.prog 103 #[.string (str l)] W fun e w' => e = .returned (wholeV (wholeF l)) ∧ Below W.heap.size W w') := fun W hW l hl => wholeN (HNe.out.below hW) l hl
      have HWs := hidK fun W hW => HW.out W hW s hsl
      have HWt := hidK fun W hW => HW.out W hW t htl
      have hh : (match wholeF s with
        | none => some (.error 100)
        | some a => match wholeF t with
          | none => some (.error 100)
          | some b => match op a b with
            | none => some (.error 100)
            | some n => some (.ok (Lib.itoa n)) : Res) = some res := HH.out
      have hin1 : ∀ z, wholeF s = some z → NumIn z := fun _ h => whole_in h
      have hin2 : ∀ z, wholeF t = some z → NumIn z := fun _ h => whole_in h
      obtain ⟨A, hA⟩ : ∃ A, wholeF s = A := ⟨_, rfl⟩
      obtain ⟨B, hB⟩ : ∃ B, wholeF t = B := ⟨_, rfl⟩
      rw [hA] at HWs hh hin1
      rw [hB] at HWt hh hin2
      obtain ⟨zs, hzs⟩ : ∃ zs, str s = zs := ⟨_, rfl⟩
      obtain ⟨zt, hzt⟩ : ∃ zt, str t = zt := ⟨_, rfl⟩
      have HB' : Hid (Calls Tryz.prog 97 #[.pointer (some ⟨xb, 0, none⟩), .string z, .int .i64 d, .func (.func 100) #[.pointer (some ⟨xb, 0, none⟩)] #[]] w fun e w' => e = .returned (.tuple #[.string zs, .string zt, .nilIface]) ∧ Below w.heap.size w w') := HB.out.mono fun e w' k => ⟨by have k1 : e = .returned (.tuple #[.string (str s), .string (str t), .nilIface]) := k.1; rw [k1, hzs, hzt], k.2⟩
      rw [hzs] at HWs
      rw [hzt] at HWt
      have Hh := hidK hh
      have Hin := hidK (And.intro hin1 hin2)
      clear hz hb h hO hN hM hs hp eop HH h2 HB HW hA hB hzs hzt hh hin1 hin2 hsl htl
      go_enter Tryz.func102, Tryz.ntmps102
      go_wp2_with fail
      all_goals refine HB'.out.mono ?_
      all_goals rintro x w1 ⟨rfl, hb1⟩
      have HB1 := hidK hb1
      have HS1 := hidK (HWs.out w1 hb1)
      clear hb1 HWs HB'
      cases A with
      | none =>
        have HRs : Hid (res = .error 100) := (Option.some.inj Hh.out).symm
        clear Hh HOf HNe
        cases B with
        | none =>
          go_wp2_with fail
          all_goals refine HS1.out.mono ?_
          all_goals rintro x w2 ⟨rfl, hb2⟩
          have HB2 := hidK (HB1.out.trans (hb2.mono HB1.out.size))
          have HT2 := hidK (HWt.out w2 HB2.out)
          clear hb2 HWt
          simp only [wholeV] at HT2 ⊢
          go_wp2_with fail
          all_goals refine HT2.out.mono ?_
          all_goals rintro x w3 ⟨rfl, hb3⟩
          have HB3 := hidK (HB2.out.trans (hb3.mono HB2.out.size))
          clear hb3
          go_wp2_with fail
          all_goals go_ret2
          all_goals exact ⟨by rw [HRs.out]; exact ⟨_, rfl, .fault 100⟩, HB3.out⟩
        | some b =>
          go_wp2_with fail
          all_goals refine HS1.out.mono ?_
          all_goals rintro x w2 ⟨rfl, hb2⟩
          have HB2 := hidK (HB1.out.trans (hb2.mono HB1.out.size))
          have HT2 := hidK (HWt.out w2 HB2.out)
          clear hb2 HWt
          simp only [wholeV] at HT2 ⊢
          go_wp2_with fail
          all_goals refine HT2.out.mono ?_
          all_goals rintro x w3 ⟨rfl, hb3⟩
          have HB3 := hidK (HB2.out.trans (hb3.mono HB2.out.size))
          clear hb3
          go_wp2_with fail
          all_goals go_ret2
          all_goals exact ⟨by rw [HRs.out]; exact ⟨_, rfl, .fault 100⟩, HB3.out⟩
      | some a =>
        have ha : NumIn a := Hin.out.1 a rfl
        cases B with
        | none =>
          have HRs : Hid (res = .error 100) := (Option.some.inj Hh.out).symm
          clear Hh HOf HNe Hin
          go_wp2_with fail
          all_goals refine HS1.out.mono ?_
          all_goals rintro x w2 ⟨rfl, hb2⟩
          have HB2 := hidK (HB1.out.trans (hb2.mono HB1.out.size))
          have HT2 := hidK (HWt.out w2 HB2.out)
          clear hb2 HWt
          simp only [wholeV] at HT2 ⊢
          go_wp2_with fail
          all_goals refine HT2.out.mono ?_
          all_goals rintro x w3 ⟨rfl, hb3⟩
          have HB3 := hidK (HB2.out.trans (hb3.mono HB2.out.size))
          clear hb3
          go_wp2_with fail
          all_goals go_ret2
          all_goals exact ⟨by rw [HRs.out]; exact ⟨_, rfl, .fault 100⟩, HB3.out⟩
        | some b =>
          have hb0 : NumIn b := Hin.out.2 b rfl
          have hh : (match op a b with
            | none => some (.error 100)
            | some n => some (.ok (Lib.itoa n)) : Res) = some res := Hh.out
          have Hh2 := hidK hh
          have HO3 := hidK fun W hW => HOf.out W hW a b ha hb0
          clear Hh Hin hh HOf ha hb0
          go_wp2_with fail
          all_goals refine HS1.out.mono ?_
          all_goals rintro x w2 ⟨rfl, hb2⟩
          have HB2 := hidK (HB1.out.trans (hb2.mono HB1.out.size))
          have HT2 := hidK (HWt.out w2 HB2.out)
          clear hb2 HWt
          simp only [wholeV] at HT2 ⊢
          go_wp2_with fail
          all_goals refine HT2.out.mono ?_
          all_goals rintro x w3 ⟨rfl, hb3⟩
          have HB3 := hidK (HB2.out.trans (hb3.mono HB2.out.size))
          clear hb3
          have hq := cell_later HB3.out H2.out
          have HOw := hidK (HO3.out w3 HB3.out)
          clear HO3
          go_wp2_with (go_at_fn g; refine HOw.out.mono ?_)
          all_goals rintro x w4 ⟨n, ok, rfl, hb4, hn1, hn2, hop⟩
          have HB4 := hidK (HB3.out.trans (hb4.mono HB3.out.size))
          have Hh3 := Hh2.out
          rw [hop] at Hh3
          clear hb4 hop Hh2
          cases ok with
          | false =>
            rw [if_neg (by simp)] at Hh3
            have HRs : Hid (res = .error 100) := (Option.some.inj Hh3).symm
            clear Hh3
            go_wp2_with fail
            all_goals go_ret2
            all_goals exact ⟨by rw [HRs.out]; exact ⟨_, rfl, .fault 100⟩, HB4.out⟩
          | true =>
            by_cases hlo : n < -4611686018427387904
            · rw [if_neg (by rintro ⟨-, h⟩; unfold farB at h; rw [decide_eq_false_iff_not] at h; omega)] at Hh3
              have HRs : Hid (res = .error 100) := (Option.some.inj Hh3).symm
              clear Hh3
              go_wp2_with fail
              all_goals go_ret2
              all_goals exact ⟨by rw [HRs.out]; exact ⟨_, rfl, .fault 100⟩, HB4.out⟩
            by_cases hhi : 4611686018427387904 < n
            · rw [if_neg (by rintro ⟨-, h⟩; unfold farB at h; rw [decide_eq_false_iff_not] at h; omega)] at Hh3
              have HRs : Hid (res = .error 100) := (Option.some.inj Hh3).symm
              clear Hh3
              go_wp2_with fail
              all_goals go_ret2
              all_goals exact ⟨by rw [HRs.out]; exact ⟨_, rfl, .fault 100⟩, HB4.out⟩
            rw [if_pos ⟨rfl, by unfold farB; rw [decide_eq_false_iff_not]; omega⟩] at Hh3
            have HRs : Hid (res = .ok (Lib.itoa n)) := (Option.some.inj Hh3).symm
            have HFi := hidK (formatInt_any (HNe.out.below HB4.out) n ⟨by omega, by omega⟩)
            obtain ⟨zn, hzn⟩ : ∃ zn, str (Lib.itoa n) = zn := ⟨_, rfl⟩
            have HZn := hidK hzn
            rw [hzn] at HFi
            clear Hh3 hzn
            go_wp2_with fail
            all_goals refine HFi.out.mono ?_
            all_goals rintro x w5 ⟨rfl, hb5⟩
            have HB5 := hidK (HB4.out.trans (hb5.mono HB4.out.size))
            clear hb5
            go_wp2_with fail
            all_goals go_ret2
            all_goals exact ⟨by rw [HRs.out]; show Ending.returned _ = Ending.returned (.tuple #[.string (str (Lib.itoa n)), .nilIface]); rw [HZn.out]; rfl, HB5.out⟩
end Go.Proofs.YtlfcjcaofhcfnaaGreatDoor

namespace Go.Proofs.YtlfcjcaofhcfnaaGreatDoor
open Go.RowKit
set_option linter.unusedVariables false
set_option maxRecDepth 100000

theorem yes_any (b : Bool) (w : World) : Calls Tryz.prog 98 #[.bool b] w fun e w' => e = .returned (.string (str (yesF b))) ∧ w = w' := by
  cases b with
  | true =>
    go_enter Tryz.func98, Tryz.ntmps98
    go_wp2_with fail
    all_goals go_ret
    all_goals exact ⟨rfl, rfl⟩
  | false =>
    go_enter Tryz.func98, Tryz.ntmps98
    go_wp2_with fail
    all_goals go_ret
    all_goals exact ⟨rfl, rfl⟩
/-- What is said of two texts. -/
def IsOk (g : Nat) (lb : Array Value) (q : List UInt8 → List UInt8 → Bool) (w : World) : Prop := ∀ W, Below w.heap.size w W → ∀ a b : List UInt8, a.length ≤ 2147483647 → b.length ≤ 2147483647 → Calls Tryz.prog g (#[.string (str a), .string (str b)] ++ lb) W fun e w' => e = .returned (.bool (q a b)) ∧ Below W.heap.size W w'
theorem both_short {sub : List UInt8 → Res} (hs : ∀ q s, sub q = some (.ok s) → s.length ≤ 2147483647) {p s t : List UInt8} (hb : bothF sub p = some (.ok (s, t))) : s.length ≤ 2147483647 ∧ t.length ≤ 2147483647 := by
  unfold bothF at hb
  match hc : cutF p, hb with
  | [], hb => cases hb
  | [a], hb => cases hb
  | a :: b :: c :: r, hb => cases hb
  | [a, b], hb =>
    unfold twoF at hb
    cases ha : sub a with
    | none => simp only [ha] at hb; cases hb
    | some ra =>
      cases ra with
      | error k => simp only [ha] at hb; cases hb
      | ok sa =>
        cases hb2 : sub b with
        | none => simp only [ha, hb2] at hb; cases hb
        | some rb =>
          cases rb with
          | error k => simp only [ha, hb2] at hb; cases hb
          | ok sb =>
            simp only [ha, hb2] at hb
            cases hb
            exact ⟨hs _ _ ha, hs _ _ hb2⟩
set_option maxHeartbeats 4000000 in
theorem texts_head {g : Nat} (hg : Enters g) {lb : Array Value} {q : List UInt8 → List UInt8 → Bool} {sub : List UInt8 → Res} {w : World} {xb : Nat} {d : Int} (hO : IsOk g lb q w) (hM : MeanOk 10 sub w xb d) (hs : ∀ q s, sub q = some (.ok s) → s.length ≤ 2147483647) {xc oc : Nat} (h1 : w.cell? ⟨xc, 0, none⟩ = some (.pointer (some ⟨xb, 0, none⟩))) (h2 : w.cell? ⟨oc, 0, none⟩ = some (.func (.func g) #[] lb)) (p : List UInt8) (hp : p.length ≤ 2147483647) (res : Except Int (List UInt8)) (h : textsF q (bothF sub p) = some res) :
    Calls Tryz.prog 96 #[.string (str p), .int .i64 d, .pointer (some ⟨xc, 0, none⟩), .pointer (some ⟨oc, 0, none⟩)] w fun e w' => Out res e ∧ Below w.heap.size w w' := by
  unfold Enters at hg
  have eop : Enters 10 := enters_of Tryz.func10 (by kernel_rfl) rfl
  have HOf := hidK hO
  have H2 := hidK h2
  cases hb : bothF sub p with
  | none => rw [hb] at h; cases h
  | some rb =>
    have HB := hidK (both_any eop hM p hp rb hb)
    rw [hb] at h
    have HH := hidK h
    obtain ⟨z, hz⟩ : ∃ z, str p = z := ⟨_, rfl⟩
    rw [hz] at HB ⊢
    cases rb with
    | error k =>
      have HRs : Hid (res = .error k) := (Option.some.inj HH.out).symm
      clear hz hb h hO hM hs hp eop HH HOf h2
      go_enter Tryz.func96, Tryz.ntmps96
      go_wp2_with fail
      all_goals refine HB.out.mono ?_
      all_goals rintro x w1 ⟨⟨v, rfl, hv⟩, hb1⟩
      obtain ⟨t, y, rfl⟩ := hv.iface
      have HV := hidK hv
      clear hv HB
      go_wp2_with fail
      all_goals go_ret2
      all_goals exact ⟨by rw [HRs.out]; exact ⟨_, rfl, HV.out⟩, hb1⟩
    | ok st =>
      obtain ⟨s, t⟩ := st
      obtain ⟨hsl, htl⟩ := both_short hs hb
      have HRs : Hid (res = .ok (yesF (q s t))) := (Option.some.inj HH.out).symm
      have HI := hidK fun W hW => HOf.out W hW s t hsl htl
      obtain ⟨Q, hQ⟩ : ∃ Q, q s t = Q := ⟨_, rfl⟩
      rw [hQ] at HRs HI
      have HY := hidK fun W => yes_any Q W
      obtain ⟨zs, hzs⟩ : ∃ zs, str s = zs := ⟨_, rfl⟩
      obtain ⟨zt, hzt⟩ : ∃ zt, str t = zt := ⟨_, rfl⟩
      obtain ⟨zy, hzy⟩ : ∃ zy, str (yesF Q) = zy := ⟨_, rfl⟩
      have HZy := hidK hzy
      have HB' : Hid (Calls Tryz.prog 97 #[.pointer (some ⟨xb, 0, none⟩), .string z, .int .i64 d, .func (.func 10) #[.pointer (some ⟨xb, 0, none⟩)] #[]] w fun e w' => e = .returned (.tuple #[.string zs, .string zt, .nilIface]) ∧ Below w.heap.size w w') := HB.out.mono fun e w' k => ⟨by have k1 : e = .returned (.tuple #[.string (str s), .string (str t), .nilIface]) := k.1; rw [k1, hzs, hzt], k.2⟩
      rw [hzs, hzt] at HI
      rw [hzy] at HY
      clear hz hb h hO hM hs hp eop HH h2 HB hzs hzt hzy hsl htl HOf hQ
      go_enter Tryz.func96, Tryz.ntmps96
      go_wp2_with fail
      all_goals refine HB'.out.mono ?_
      all_goals rintro x w1 ⟨rfl, hb1⟩
      have HB1 := hidK hb1
      have HI1 := hidK (HI.out w1 hb1)
      have hq := cell_later hb1 H2.out
      clear hb1 HI HB'
      go_wp2_with (go_at_fn g; refine HI1.out.mono ?_)
      all_goals rintro x w2 ⟨rfl, hb2⟩
      have HB2 := hidK (HB1.out.trans (hb2.mono HB1.out.size))
      clear hb2
      go_wp2_with (go_at_call 98; refine (HY.out _).mono ?_; rintro x w3 ⟨rfl, rfl⟩)
      all_goals go_ret2
      all_goals exact ⟨by rw [HRs.out]; show Ending.returned _ = Ending.returned (.tuple #[.string (str (yesF Q)), .nilIface]); rw [HZy.out]; rfl, HB2.out⟩
end Go.Proofs.YtlfcjcaofhcfnaaGreatDoor
