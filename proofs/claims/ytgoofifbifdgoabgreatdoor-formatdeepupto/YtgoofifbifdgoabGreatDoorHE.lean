/-
  FormatDeep: the walk.
-/
import Derived.Test.YtgoofifbifdgoabGreatDoorGN
import Derived.Test.YtgoofifbifdgoabGreatDoorGQ
namespace Go.Proofs.YtgoofifbifdgoabGreatDoor
open Go.RowKit
set_option linter.unusedVariables false
set_option maxRecDepth 100000

theorem three_countD (c : UInt8) : ([35, 44, 125] : List UInt8).count c = if threeB c then 1 else 0 := by
  have key : ∀ n : Fin 256, ([35, 44, 125] : List UInt8).count (UInt8.ofNat n.val) = if threeB (UInt8.ofNat n.val) then 1 else 0 := by decide +kernel
  have h := key ⟨c.toNat, c.toNat_lt⟩
  rwa [show UInt8.ofNat c.toNat = c from UInt8.ofNat_toNat] at h
theorem deep_str (k : Nat) (p : List UInt8) : str (deepT (k + 1) p) = ⟨#[35, 123, 63, 49, 44]⟩ ++ str (deepT k p) ++ ⟨#[125]⟩ := by
  have h1 : (⟨#[35, 123, 63, 49, 44]⟩ : ByteArray) = str [35, 123, 63, 49, 44] := rfl
  have h2 : (⟨#[125]⟩ : ByteArray) = str [125] := rfl
  rw [h1, h2, str_cat, str_cat]
  rfl
theorem deep_len (p : List UInt8) : ∀ k, (deepT k p).length = p.length + 6 * k
  | 0 => rfl
  | k + 1 => by
    have h := deep_len p k
    have e : deepT (k + 1) p = [35, 123] ++ ((63 :: ([49] ++ 44 :: deepT k p)) ++ [125]) := rfl
    rw [e]
    simp only [List.length_append, List.length_cons, List.length_nil]
    omega
/-- What Expand answers of so many places. -/
def deepR (k : Nat) (text : List UInt8) : Except Int (List UInt8) := if 16 < k then .error 101 else boundF text
theorem deep_res (k : Nat) (text : List UInt8) : sayF [] 16 (deepT k (escQ threeB text)) = some (deepR k text) := by
  unfold deepR
  split
  · exact deep_far [] text 16 k (by omega)
  · exact deep_say [] text k 16 (by omega)
theorem ans_deep (k : Nat) (text : List UInt8) : ansF (deepR k text) = if 16 < k then .returned (.tuple #[.string (str []), .int .i64 101]) else if 1024 < text.length then .returned (.tuple #[.string (str []), .int .i64 2]) else .returned (.tuple #[.string (str text), .int .i64 0]) := by
  unfold deepR
  split
  · rfl
  · unfold boundF
    split <;> rfl
set_option maxHeartbeats 8000000 in
/-- From the loop on. -/
theorem formatDeep_walk (a : Int) (text : List UInt8) (w : World) (hE : FEnv w) (hl : text.length ≤ 1048576) (ha1 : -9223372036854775808 ≤ a) (ha2 : a ≤ 9223372036854775807) :
    Calls Tryz.prog 3 #[.int .i64 a, .string (str text)] w fun e w' => e = .returned (.bool true) ∧ Below w.heap.size w w' := by
  have HW : Hid (∀ W, Below w.heap.size w W → Calls Tryz.prog 9 #[] W fun e w' => e = .returned (.bool true) ∧ Below W.heap.size W w') := fun W h => works_true (hE.below h).max (hE.below h).err
  have HEs := hidK fun W => escaped_any text [35, 44, 125] threeB (by omega) (by decide) three_countD W
  have hpl := (esc_len threeB text).2
  have HX : Hid (∀ k W, k < 40 → Below w.heap.size w W → Calls Tryz.prog 8 #[.string (str (deepT k (escQ threeB text))), .slice none 0 0] W fun e w' => e = ansF (deepR k text) ∧ Below W.heap.size W w') := fun k W hk hb =>
    exp_any (vars0_in W) (hE.below hb).max (fun p hp => by simp at hp) (hE.below hb).err _ (by rw [deep_len]; omega) _ (deep_res k text)
  have HD : Hid (∀ k, str (deepT (k + 1) (escQ threeB text)) = ⟨#[35, 123, 63, 49, 44]⟩ ++ str (deepT k (escQ threeB text)) ++ ⟨#[125]⟩) := fun k => deep_str k _
  have HDs : Hid (∀ k, (str (deepT k (escQ threeB text))).size = (escQ threeB text).length + 6 * k) := fun k => deep_len _ k
  have HA : Hid (∀ k, ansF (deepR k text) = if 16 < k then .returned (.tuple #[.string (str []), .int .i64 101]) else if 1024 < text.length then .returned (.tuple #[.string (str []), .int .i64 2]) else .returned (.tuple #[.string (str text), .int .i64 0])) := fun k => ans_deep k text
  obtain ⟨F, hF⟩ : ∃ F : Nat → ByteArray, F = fun k => str (deepT k (escQ threeB text)) := ⟨_, rfl⟩
  have h0 : str (escQ threeB text) = F 0 := by rw [hF]; rfl
  have hFk : ∀ k, str (deepT k (escQ threeB text)) = F k := fun k => by rw [hF]
  rw [h0] at HEs
  simp only [hFk] at HX HD HDs
  obtain ⟨pl, hpl2⟩ : ∃ pl, (escQ threeB text).length = pl := ⟨_, rfl⟩
  rw [hpl2] at HDs hpl
  have hts : (str text).size = text.length := rfl
  obtain ⟨z, hz⟩ : ∃ z, str text = z := ⟨_, rfl⟩
  rw [hz] at HEs hts HA ⊢
  obtain ⟨n, hn⟩ : ∃ n, text.length = n := ⟨_, rfl⟩
  rw [hn] at hl hts HA hpl
  have s2 : (str []).toList = [] := str_toList _
  obtain ⟨z0, hz0⟩ : ∃ z0, str [] = z0 := ⟨_, rfl⟩
  rw [hz0] at s2 HA
  clear hF h0 hFk hpl2 hz hn hz0 hE
  obtain ⟨r, hr⟩ : ∃ r, a.tmod 40 = r := ⟨_, rfl⟩
  have hr1 : -40 < r := by rw [← hr]; have := Int.lt_tmod_of_pos a (show (0 : Int) < 40 by decide); omega
  have hr2 : r < 40 := by rw [← hr]; exact Int.tmod_lt_of_pos a (by decide)
  by_cases hneg : r < 0
  · obtain ⟨k, hk⟩ : ∃ k : Nat, r + 40 = (k : Int) := ⟨(r + 40).toNat, by omega⟩
    have hk40 : k < 40 := by omega
    go_enter Tryz.func3, Tryz.ntmps3
    go_wp2_with fail
    refine (HEs.out _).mono ?_
    rintro e w1 ⟨rfl, hb1⟩
    have HB1 := hidK hb1
    clear hb1 HEs
    go_wp2_with fail
    go_loopw [5, 6] (fun s5 s6 wx => ∃ i : Nat, i ≤ k ∧ s6 = .int .i64 (i : Int) ∧ s5 = .string (F i) ∧ Hid (Below w.heap.size w wx)) (fun _ v _ => k - (intOf v).toNat)
    case atStart => exact ⟨0, Nat.zero_le _, rfl, rfl, HB1.out⟩
    case round =>
      clear HB1
      obtain ⟨i, hi, rfl, rfl, HB⟩ := hrel
      by_cases hik : i < k
      · have hF := HD.out i
        have hFs := HDs.out i
        obtain ⟨x, hx⟩ : ∃ x, F i = x := ⟨_, rfl⟩
        rw [hx] at hF hFs ⊢
        obtain ⟨y, hy⟩ : ∃ y, F (i + 1) = y := ⟨_, rfl⟩
        have HY := hidK hy
        rw [hy] at hF
        have h5 : (⟨#[35, 123, 63, 49, 44]⟩ ++ x : ByteArray).size = x.size + 5 := by rw [ByteArray.size_append]; show 5 + _ = _; omega
        obtain ⟨xa, hxa⟩ : ∃ xa, (⟨#[35, 123, 63, 49, 44]⟩ ++ x : ByteArray) = xa := ⟨_, rfl⟩
        rw [hxa] at hF h5
        have hF2 : xa ++ ⟨#[125]⟩ = y := hF.symm
        clear hF hx hy HX HA
        go_wp2_with fail
        go_roundw
        case rel => exact ⟨i + 1, by omega, by go_num, by rw [HY.out], HB.out⟩
        case measure => simp [intOf]; omega
      · obtain rfl : i = k := by omega
        by_cases h16 : 16 < i
        · have HAk := HA.out i
          rw [if_pos h16] at HAk
          have HXk := hidK (fun W hb => HX.out i W hk40 hb)
          simp only [HAk] at HXk
          clear HAk HX HA HD HDs
          go_wp2_with fail
          refine (HXk.out _ HB.out).mono ?_
          rintro e w2 ⟨rfl, hb2⟩
          have HB2 := hidK (HB.out.trans (hb2.mono HB.out.size))
          clear hb2
          go_wp2_with fail
          refine (HW.out _ HB2.out).mono ?_
          rintro e w3 ⟨rfl, hb3⟩
          have HB3 := hidK (HB2.out.trans (hb3.mono HB2.out.size))
          clear hb3
          go_wp2_with fail
          all_goals go_ret
          all_goals exact ⟨rfl, HB3.out⟩
        · by_cases h1 : 1024 < n
          · have HAk := HA.out i
            rw [if_neg h16, if_pos h1] at HAk
            have HXk := hidK (fun W hb => HX.out i W hk40 hb)
            simp only [HAk] at HXk
            clear HAk HX HA HD HDs
            go_wp2_with fail
            refine (HXk.out _ HB.out).mono ?_
            rintro e w2 ⟨rfl, hb2⟩
            have HB2 := hidK (HB.out.trans (hb2.mono HB.out.size))
            clear hb2
            go_wp2_with fail
            refine (HW.out _ HB2.out).mono ?_
            rintro e w3 ⟨rfl, hb3⟩
            have HB3 := hidK (HB2.out.trans (hb3.mono HB2.out.size))
            clear hb3
            go_wp2_with fail
            all_goals go_ret
            all_goals exact ⟨rfl, HB3.out⟩
          · have HAk := HA.out i
            rw [if_neg h16, if_neg h1] at HAk
            have HXk := hidK (fun W hb => HX.out i W hk40 hb)
            simp only [HAk] at HXk
            clear HAk HX HA HD HDs
            go_wp2_with fail
            refine (HXk.out _ HB.out).mono ?_
            rintro e w2 ⟨rfl, hb2⟩
            have HB2 := hidK (HB.out.trans (hb2.mono HB.out.size))
            clear hb2
            go_wp2_with fail
            refine (HW.out _ HB2.out).mono ?_
            rintro e w3 ⟨rfl, hb3⟩
            have HB3 := hidK (HB2.out.trans (hb3.mono HB2.out.size))
            clear hb3
            go_wp2_with fail
            all_goals go_ret
            all_goals exact ⟨rfl, HB3.out⟩
  · obtain ⟨k, rfl⟩ : ∃ k : Nat, r = (k : Int) := ⟨r.toNat, by omega⟩
    have hk40 : k < 40 := by omega
    go_enter Tryz.func3, Tryz.ntmps3
    go_wp2_with fail
    refine (HEs.out _).mono ?_
    rintro e w1 ⟨rfl, hb1⟩
    have HB1 := hidK hb1
    clear hb1 HEs
    go_wp2_with fail
    go_loopw [5, 6] (fun s5 s6 wx => ∃ i : Nat, i ≤ k ∧ s6 = .int .i64 (i : Int) ∧ s5 = .string (F i) ∧ Hid (Below w.heap.size w wx)) (fun _ v _ => k - (intOf v).toNat)
    case atStart => exact ⟨0, Nat.zero_le _, rfl, rfl, HB1.out⟩
    case round =>
      clear HB1
      obtain ⟨i, hi, rfl, rfl, HB⟩ := hrel
      by_cases hik : i < k
      · have hF := HD.out i
        have hFs := HDs.out i
        obtain ⟨x, hx⟩ : ∃ x, F i = x := ⟨_, rfl⟩
        rw [hx] at hF hFs ⊢
        obtain ⟨y, hy⟩ : ∃ y, F (i + 1) = y := ⟨_, rfl⟩
        have HY := hidK hy
        rw [hy] at hF
        have h5 : (⟨#[35, 123, 63, 49, 44]⟩ ++ x : ByteArray).size = x.size + 5 := by rw [ByteArray.size_append]; show 5 + _ = _; omega
        obtain ⟨xa, hxa⟩ : ∃ xa, (⟨#[35, 123, 63, 49, 44]⟩ ++ x : ByteArray) = xa := ⟨_, rfl⟩
        rw [hxa] at hF h5
        have hF2 : xa ++ ⟨#[125]⟩ = y := hF.symm
        clear hF hx hy HX HA
        go_wp2_with fail
        go_roundw
        case rel => exact ⟨i + 1, by omega, by go_num, by rw [HY.out], HB.out⟩
        case measure => simp [intOf]; omega
      · obtain rfl : i = k := by omega
        by_cases h16 : 16 < i
        · have HAk := HA.out i
          rw [if_pos h16] at HAk
          have HXk := hidK (fun W hb => HX.out i W hk40 hb)
          simp only [HAk] at HXk
          clear HAk HX HA HD HDs
          go_wp2_with fail
          refine (HXk.out _ HB.out).mono ?_
          rintro e w2 ⟨rfl, hb2⟩
          have HB2 := hidK (HB.out.trans (hb2.mono HB.out.size))
          clear hb2
          go_wp2_with fail
          refine (HW.out _ HB2.out).mono ?_
          rintro e w3 ⟨rfl, hb3⟩
          have HB3 := hidK (HB2.out.trans (hb3.mono HB2.out.size))
          clear hb3
          go_wp2_with fail
          all_goals go_ret
          all_goals exact ⟨rfl, HB3.out⟩
        · by_cases h1 : 1024 < n
          · have HAk := HA.out i
            rw [if_neg h16, if_pos h1] at HAk
            have HXk := hidK (fun W hb => HX.out i W hk40 hb)
            simp only [HAk] at HXk
            clear HAk HX HA HD HDs
            go_wp2_with fail
            refine (HXk.out _ HB.out).mono ?_
            rintro e w2 ⟨rfl, hb2⟩
            have HB2 := hidK (HB.out.trans (hb2.mono HB.out.size))
            clear hb2
            go_wp2_with fail
            refine (HW.out _ HB2.out).mono ?_
            rintro e w3 ⟨rfl, hb3⟩
            have HB3 := hidK (HB2.out.trans (hb3.mono HB2.out.size))
            clear hb3
            go_wp2_with fail
            all_goals go_ret
            all_goals exact ⟨rfl, HB3.out⟩
          · have HAk := HA.out i
            rw [if_neg h16, if_neg h1] at HAk
            have HXk := hidK (fun W hb => HX.out i W hk40 hb)
            simp only [HAk] at HXk
            clear HAk HX HA HD HDs
            go_wp2_with fail
            refine (HXk.out _ HB.out).mono ?_
            rintro e w2 ⟨rfl, hb2⟩
            have HB2 := hidK (HB.out.trans (hb2.mono HB.out.size))
            clear hb2
            go_wp2_with fail
            refine (HW.out _ HB2.out).mono ?_
            rintro e w3 ⟨rfl, hb3⟩
            have HB3 := hidK (HB2.out.trans (hb3.mono HB2.out.size))
            clear hb3
            go_wp2_with fail
            all_goals go_ret
            all_goals exact ⟨rfl, HB3.out⟩
end Go.Proofs.YtgoofifbifdgoabGreatDoor
