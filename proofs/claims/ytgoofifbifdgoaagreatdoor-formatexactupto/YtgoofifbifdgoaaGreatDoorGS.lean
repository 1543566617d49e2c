/-
  FormatExact: the walk.
-/
import Derived.Test.YtgoofifbifdgoaaGreatDoorGN
import Derived.Test.YtgoofifbifdgoaaGreatDoorGP
import Derived.Test.YtgoofifbifdgoaaGreatDoorGQ
namespace Go.Proofs.YtgoofifbifdgoaaGreatDoor
open Go.RowKit
set_option linter.unusedVariables false
set_option maxRecDepth 20000

theorem bytes_str (l : List UInt8) : (⟨l.toArray⟩ : ByteArray) = str l := rfl
set_option maxHeartbeats 8000000 in
theorem formatExact_walk (s t : List UInt8) (w : World) (hE : FEnv w) (hs : s.length ≤ 1048576) (ht : t.length ≤ 1048576) :
    Calls Tryz.prog 3 #[.string (str s), .string (str t)] w fun e w' => e = .returned (.bool true) ∧ Below w.heap.size w w' := by
  have HW : Hid (∀ W, Below w.heap.size w W → Calls Tryz.prog 9 #[] W fun e w' => e = .returned (.bool true) ∧ Below W.heap.size W w') := fun W h => works_true (hE.below h).max (hE.below h).err
  have hbl := bsl_len s
  have HM1 := hidK fun W => match_any (bslF s) t (by omega) (by omega) W
  have HM2 := hidK fun W => match_any (bslF s) s (by omega) (by omega) W
  have HM3 := hidK fun W => match_any (bslF s ++ [42]) (s ++ t) (by simp; omega) (by simp; omega) W
  have HM4 := hidK fun W => match_any (bslF s ++ [42]) t (by simp; omega) (by omega) W
  have HM5 := hidK fun W => match_any (bslF s ++ [63]) t (by simp; omega) (by omega) W
  have HM6 := hidK fun W => match_any (42 :: (bslF s ++ [42])) (t ++ (s ++ t)) (by simp; omega) (by simp; omega) W
  rw [exact_same] at HM1
  rw [exact_same, decide_eq_true rfl] at HM2
  rw [exact_behind] at HM3
  rw [exact_begins] at HM4
  rw [exact_more] at HM5
  rw [exact_within] at HM6
  have e3 : str (bslF s ++ [42]) = str (bslF s) ++ ⟨#[42]⟩ := (str_cat _ [42]).symm
  have e5 : str (bslF s ++ [63]) = str (bslF s) ++ ⟨#[63]⟩ := (str_cat _ [63]).symm
  have e6 : str (42 :: (bslF s ++ [42])) = ⟨#[42]⟩ ++ str (bslF s) ++ ⟨#[42]⟩ := by
    have h1 : (⟨#[42]⟩ : ByteArray) = str [42] := rfl
    rw [h1, str_cat, str_cat]
    rfl
  have e7 : str (s ++ t) = str s ++ str t := (str_cat _ _).symm
  have e8 : str (t ++ (s ++ t)) = str t ++ str s ++ str t := by rw [str_cat, str_cat, List.append_assoc]
  rw [e3, e7] at HM3
  rw [e3] at HM4
  rw [e5] at HM5
  rw [e6, e8] at HM6
  have HG : Hid (∀ i c, s[i]? = some c → (str s).extract i (i + 1) = str [c]) := fun i c hc => by show _ = _; rw [str_midF, Nat.add_sub_cancel_left, drop_at hc]; rfl
  obtain ⟨P, hP⟩ : ∃ P, str (bslF s) = P := ⟨_, rfl⟩
  have hPs : P.size = 2 * s.length := by rw [← hP, str_size, hbl]
  have HP := hidK hP
  obtain ⟨z, hz⟩ : ∃ z, str s = z := ⟨_, rfl⟩
  obtain ⟨y, hy⟩ : ∃ y, str t = y := ⟨_, rfl⟩
  have hzs : z.size = s.length := by rw [← hz]; rfl
  have hys : y.size = t.length := by rw [← hy]; rfl
  have HZ := hidK hz
  have HY := hidK hy
  rw [hP] at HM1 HM2 HM3 HM4 HM5 HM6
  rw [hz] at HM2 HM3 HM6 HG ⊢
  rw [hy] at HM1 HM3 HM4 HM5 HM6 ⊢
  obtain ⟨n, hn⟩ : ∃ n, s.length = n := ⟨_, rfl⟩
  have HN := hidK hn
  rw [hn] at hzs hs hPs
  rw [hn] at HM5
  obtain ⟨m, hm⟩ : ∃ m, t.length = m := ⟨_, rfl⟩
  have HM := hidK hm
  rw [hm] at hys ht
  rw [hm] at HM5
  clear e3 e5 e6 e7 e8 hP hz hy hn hm hE hbl
  go_enter Tryz.func3, Tryz.ntmps3
  go_wp2_with fail
  go_loopw [5, 6] (fun s5 s6 wx => ∃ (i : Nat) (x : ByteArray), i ≤ n ∧ s6 = .int .i64 (i : Int) ∧ s5 = .string x ∧ x.size = 2 * i ∧ Hid (x = str (bslF (s.take i))) ∧ Hid (Below w.heap.size w wx)) (fun _ v _ => n - (intOf v).toNat)
  case atStart => exact ⟨0, _, Nat.zero_le _, rfl, rfl, by decide, rfl, Below.refl _ _⟩
  case round =>
    obtain ⟨i, x, hi, rfl, rfl, hx, HX, HB⟩ := hrel
    by_cases hin : i < n
    · obtain ⟨c, hc⟩ : ∃ c, s[i]? = some c := ⟨_, List.getElem?_eq_getElem (by rw [HN.out]; exact hin)⟩
      have hmid := HG.out i c hc
      have hsn : s.take (i + 1) = s.take i ++ [c] := by rw [List.take_add_one, hc]; rfl
      obtain ⟨u1, hu1⟩ : ∃ u1, str [c] = u1 := ⟨_, rfl⟩
      rw [hu1] at hmid
      have hu1s : u1.size = 1 := by rw [← hu1]; rfl
      have HU2 : Hid (x ++ ⟨#[92]⟩ ++ u1 = str (bslF (s.take (i + 1)))) := by
        show _ = _
        have h1 : (⟨#[92]⟩ : ByteArray) = str [92] := rfl
        rw [hsn, bsl_snoc, HX.out, ← hu1, h1, str_cat, str_cat, List.append_assoc]
        rfl
      have hsl := fun W => slice_mid z i (i + 1) (i : Int) ((i : Int) + 1) rfl (by omega) (by omega) (by omega) W
      rw [hmid] at hsl
      have hxs : (x ++ ⟨#[92]⟩).size = x.size + 1 := by rw [ByteArray.size_append]; rfl
      obtain ⟨xa, hxa⟩ : ∃ xa, x ++ ⟨#[92]⟩ = xa := ⟨_, rfl⟩
      rw [hxa] at HU2 hxs
      have hus : (xa ++ u1).size = xa.size + 1 := by rw [ByteArray.size_append, hu1s]
      obtain ⟨um, hum⟩ : ∃ um, xa ++ u1 = um := ⟨_, rfl⟩
      rw [hum] at HU2 hus
      clear HX hsn hu1 hmid hc
      go_wp2_with fail
      all_goals (try go_region)
      all_goals (try go_wp2_with fail)
      all_goals exact ⟨⟨i + 1, um, by omega, by go_num, rfl, by omega, HU2.out, by first | exact HB.out | exact HB.out.drew⟩, by simp [intOf]; omega⟩
    · obtain rfl : i = n := by omega
      have hall : s.take i = s := List.take_of_length_le (by rw [HN.out]; omega)
      have hxP : x = P := by have h := HX.out; rw [hall] at h; rw [h, HP.out]
      subst hxP
      clear HX hall hx
      have he1 : (z.toList == y.toList) = decide (s = t) := by
        rw [← HZ.out, ← HY.out, str_toList, str_toList]
        by_cases h : s = t <;> simp [h]
      by_cases hpre : s.isPrefixOf t = true
      · obtain ⟨r, hr⟩ := List.isPrefixOf_iff_prefix.1 hpre
        rw [hpre] at HM4 HM5
        have him : i ≤ m := by have h := congrArg List.length hr; rw [List.length_append, HN.out, HM.out] at h; omega
        have hcut : y.extract 0 i = z := by rw [← HY.out, str_takeF, ← hr, ← HN.out, List.take_left' rfl, HZ.out]
        by_cases hst : s = t
        · have hmi : m = i := by rw [← HN.out, ← HM.out, hst]
          rw [decide_eq_true hst] at he1 HM1
          subst hmi
          rw [decide_eq_false (by omega), Bool.true_and] at HM5
          have hq : ((m : Int) == (m : Int) + 1) = false := beq_eq_false_iff_ne.2 (by omega)
          clear hr hpre hst
          go_wp2_with fail
          refine (HW.out _ HB.out).mono ?_
          rintro e w1 ⟨rfl, hb1⟩
          have HB1 := hidK (HB.out.trans (hb1.mono HB.out.size))
          clear hb1
          go_wp2_with fail
          refine (HM1.out _).mono ?_
          rintro e w2 ⟨rfl, hb2⟩
          have HB2 := hidK (HB1.out.trans (hb2.mono HB1.out.size))
          clear hb2
          go_wp2_with fail
          refine (HM2.out _).mono ?_
          rintro e w3 ⟨rfl, hb3⟩
          have HB3 := hidK (HB2.out.trans (hb3.mono HB2.out.size))
          clear hb3
          go_wp2_with fail
          refine (HM3.out _).mono ?_
          rintro e w4 ⟨rfl, hb4⟩
          have HB4 := hidK (HB3.out.trans (hb4.mono HB3.out.size))
          clear hb4
          go_wp2_with fail
          refine (HM4.out _).mono ?_
          rintro e w5 ⟨rfl, hb5⟩
          have HB5 := hidK (HB4.out.trans (hb5.mono HB4.out.size))
          clear hb5
          go_wp2_with fail
          refine (HM5.out _).mono ?_
          rintro e w6 ⟨rfl, hb6⟩
          have HB6 := hidK (HB5.out.trans (hb6.mono HB5.out.size))
          clear hb6
          go_wp2_with fail
          refine (HM6.out _).mono ?_
          rintro e w7 ⟨rfl, hb7⟩
          have HB7 := hidK (HB6.out.trans (hb7.mono HB6.out.size))
          clear hb7
          go_wp2_with fail
          all_goals go_ret
          all_goals exact ⟨rfl, HB7.out⟩
        · rw [decide_eq_false hst] at he1 HM1
          rw [Bool.true_and] at HM5
          have hne : ¬ m = i := fun h => hst (by
            have h2 := congrArg List.length hr
            rw [List.length_append, HN.out, HM.out] at h2
            have h3 : r = [] := List.length_eq_zero_iff.1 (by omega)
            rw [← hr, h3, List.append_nil])
          by_cases hm1 : m = i + 1
          · rw [decide_eq_true hm1] at HM5
            subst hm1
            clear hr hpre hst
            go_wp2_with fail
            refine (HW.out _ HB.out).mono ?_
            rintro e w1 ⟨rfl, hb1⟩
            have HB1 := hidK (HB.out.trans (hb1.mono HB.out.size))
            clear hb1
            go_wp2_with fail
            refine (HM1.out _).mono ?_
            rintro e w2 ⟨rfl, hb2⟩
            have HB2 := hidK (HB1.out.trans (hb2.mono HB1.out.size))
            clear hb2
            go_wp2_with fail
            refine (HM2.out _).mono ?_
            rintro e w3 ⟨rfl, hb3⟩
            have HB3 := hidK (HB2.out.trans (hb3.mono HB2.out.size))
            clear hb3
            go_wp2_with fail
            refine (HM3.out _).mono ?_
            rintro e w4 ⟨rfl, hb4⟩
            have HB4 := hidK (HB3.out.trans (hb4.mono HB3.out.size))
            clear hb4
            go_wp2_with fail
            refine (HM4.out _).mono ?_
            rintro e w5 ⟨rfl, hb5⟩
            have HB5 := hidK (HB4.out.trans (hb5.mono HB4.out.size))
            clear hb5
            go_wp2_with fail
            refine (HM5.out _).mono ?_
            rintro e w6 ⟨rfl, hb6⟩
            have HB6 := hidK (HB5.out.trans (hb6.mono HB5.out.size))
            clear hb6
            go_wp2_with fail
            refine (HM6.out _).mono ?_
            rintro e w7 ⟨rfl, hb7⟩
            have HB7 := hidK (HB6.out.trans (hb7.mono HB6.out.size))
            clear hb7
            go_wp2_with fail
            all_goals go_ret
            all_goals exact ⟨rfl, HB7.out⟩
          · rw [decide_eq_false hm1] at HM5
            have hq : ((m : Int) == (i : Int) + 1) = false := beq_eq_false_iff_ne.2 (by omega)
            clear hr hpre hst
            go_wp2_with fail
            refine (HW.out _ HB.out).mono ?_
            rintro e w1 ⟨rfl, hb1⟩
            have HB1 := hidK (HB.out.trans (hb1.mono HB.out.size))
            clear hb1
            go_wp2_with fail
            refine (HM1.out _).mono ?_
            rintro e w2 ⟨rfl, hb2⟩
            have HB2 := hidK (HB1.out.trans (hb2.mono HB1.out.size))
            clear hb2
            go_wp2_with fail
            refine (HM2.out _).mono ?_
            rintro e w3 ⟨rfl, hb3⟩
            have HB3 := hidK (HB2.out.trans (hb3.mono HB2.out.size))
            clear hb3
            go_wp2_with fail
            refine (HM3.out _).mono ?_
            rintro e w4 ⟨rfl, hb4⟩
            have HB4 := hidK (HB3.out.trans (hb4.mono HB3.out.size))
            clear hb4
            go_wp2_with fail
            refine (HM4.out _).mono ?_
            rintro e w5 ⟨rfl, hb5⟩
            have HB5 := hidK (HB4.out.trans (hb5.mono HB4.out.size))
            clear hb5
            go_wp2_with fail
            refine (HM5.out _).mono ?_
            rintro e w6 ⟨rfl, hb6⟩
            have HB6 := hidK (HB5.out.trans (hb6.mono HB5.out.size))
            clear hb6
            go_wp2_with fail
            refine (HM6.out _).mono ?_
            rintro e w7 ⟨rfl, hb7⟩
            have HB7 := hidK (HB6.out.trans (hb7.mono HB6.out.size))
            clear hb7
            go_wp2_with fail
            all_goals go_ret
            all_goals exact ⟨rfl, HB7.out⟩
      · have hst : ¬ s = t := fun h => hpre (by rw [h, List.isPrefixOf_iff_prefix]; exact List.prefix_refl _)
        have hpf : s.isPrefixOf t = false := by cases h9 : s.isPrefixOf t with | false => rfl | true => exact absurd h9 hpre
        rw [decide_eq_false hst] at he1 HM1
        rw [hpf] at HM4 HM5
        rw [Bool.false_and] at HM5
        by_cases him : i ≤ m
        · have hcut : ((y.extract 0 i).toList == z.toList) = false := by
            rw [← HY.out, str_takeF, ← HZ.out, str_toList, str_toList]
            refine beq_eq_false_iff_ne.2 fun h => hpre ?_
            rw [List.isPrefixOf_iff_prefix, ← h]
            exact List.take_prefix _ _
          clear hpre hst hpf
          go_wp2_with fail
          refine (HW.out _ HB.out).mono ?_
          rintro e w1 ⟨rfl, hb1⟩
          have HB1 := hidK (HB.out.trans (hb1.mono HB.out.size))
          clear hb1
          go_wp2_with fail
          refine (HM1.out _).mono ?_
          rintro e w2 ⟨rfl, hb2⟩
          have HB2 := hidK (HB1.out.trans (hb2.mono HB1.out.size))
          clear hb2
          go_wp2_with fail
          refine (HM2.out _).mono ?_
          rintro e w3 ⟨rfl, hb3⟩
          have HB3 := hidK (HB2.out.trans (hb3.mono HB2.out.size))
          clear hb3
          go_wp2_with fail
          refine (HM3.out _).mono ?_
          rintro e w4 ⟨rfl, hb4⟩
          have HB4 := hidK (HB3.out.trans (hb4.mono HB3.out.size))
          clear hb4
          go_wp2_with fail
          refine (HM4.out _).mono ?_
          rintro e w5 ⟨rfl, hb5⟩
          have HB5 := hidK (HB4.out.trans (hb5.mono HB4.out.size))
          clear hb5
          go_wp2_with fail
          refine (HM5.out _).mono ?_
          rintro e w6 ⟨rfl, hb6⟩
          have HB6 := hidK (HB5.out.trans (hb6.mono HB5.out.size))
          clear hb6
          go_wp2_with fail
          refine (HM6.out _).mono ?_
          rintro e w7 ⟨rfl, hb7⟩
          have HB7 := hidK (HB6.out.trans (hb7.mono HB6.out.size))
          clear hb7
          go_wp2_with fail
          all_goals go_ret
          all_goals exact ⟨rfl, HB7.out⟩
        · clear hpre hst hpf
          go_wp2_with fail
          refine (HW.out _ HB.out).mono ?_
          rintro e w1 ⟨rfl, hb1⟩
          have HB1 := hidK (HB.out.trans (hb1.mono HB.out.size))
          clear hb1
          go_wp2_with fail
          refine (HM1.out _).mono ?_
          rintro e w2 ⟨rfl, hb2⟩
          have HB2 := hidK (HB1.out.trans (hb2.mono HB1.out.size))
          clear hb2
          go_wp2_with fail
          refine (HM2.out _).mono ?_
          rintro e w3 ⟨rfl, hb3⟩
          have HB3 := hidK (HB2.out.trans (hb3.mono HB2.out.size))
          clear hb3
          go_wp2_with fail
          refine (HM3.out _).mono ?_
          rintro e w4 ⟨rfl, hb4⟩
          have HB4 := hidK (HB3.out.trans (hb4.mono HB3.out.size))
          clear hb4
          go_wp2_with fail
          refine (HM4.out _).mono ?_
          rintro e w5 ⟨rfl, hb5⟩
          have HB5 := hidK (HB4.out.trans (hb5.mono HB4.out.size))
          clear hb5
          go_wp2_with fail
          refine (HM5.out _).mono ?_
          rintro e w6 ⟨rfl, hb6⟩
          have HB6 := hidK (HB5.out.trans (hb6.mono HB5.out.size))
          clear hb6
          go_wp2_with fail
          refine (HM6.out _).mono ?_
          rintro e w7 ⟨rfl, hb7⟩
          have HB7 := hidK (HB6.out.trans (hb7.mono HB6.out.size))
          clear hb7
          go_wp2_with fail
          all_goals go_ret
          all_goals exact ⟨rfl, HB7.out⟩
end Go.Proofs.YtgoofifbifdgoaaGreatDoor
