/-
  FormatSums: the walk, numbers within their bounds (lt).
-/
import Derived.Test.YtpfhhpmoagmhhaaGreatDoorHC
namespace Go.Proofs.YtpfhhpmoagmhhaaGreatDoor
open Go.RowKit
open Go.Lib (decDigits itoa)
set_option linter.unusedVariables false
set_option maxRecDepth 100000

set_option maxHeartbeats 8000000 in
theorem formatSums_lt (x y : Int) (h1 : x < y) (hx : NumIn x) (hy : NumIn y) (w : World) (hE : FEnv w) :
    Calls Tryz.prog 3 #[.int .i64 x, .int .i64 y] w fun e w' => e = .returned (.bool true) ∧ Below w.heap.size w w' := by
  have H1 := hidK h1
  clear h1
  have HW := hidK (works_all hE)
  have x1 := hx.1
  have x2 := hx.2
  have y1 := hy.1
  have y2 := hy.2
  have HIx := hidK fun W (hW : Below w.heap.size w W) => itoa_all (hE.below hW).num x (by omega) (by omega)
  have HIy := hidK fun W (hW : Below w.heap.size w W) => itoa_all (hE.below hW).num y (by omega) (by omega)
  have lx := itoa_len hx
  have ly := itoa_len hy
  have HXa : Hid (∀ (l : List UInt8) R, l.length ≤ 1000 → sayF (sumVs x y) 16 l = some R → ∀ W sv, Below w.heap.size w W → VarsIn W sv (sumVs x y) → Calls Tryz.prog 8 #[.string (str l), sv] W fun e w' => e = ansF R ∧ Below W.heap.size W w') := fun l R hl hR W sv hb hv => exp_any hv (hE.below hb).num (fun p hp => by
    simp only [sumVs, List.mem_cons, List.not_mem_nil, or_false] at hp
    rcases hp with rfl | rfl
    · show (itoa x).length ≤ _; omega
    · show (itoa y).length ≤ _; omega) (hE.below hb).err l (by omega) R hR
  have HX1 := hidK (HXa.out (sumF1 (itoa x) (itoa y)) _ (by simp [sumF1, hLt, hEq, hGt]; omega) (say_cmp hx hy))
  have HX2 := hidK (HXa.out sumF2 _ (by decide) (say_back hx hy))
  have HX3 := hidK (HXa.out (placeT (sumIn hDiv)) _ (by decide) (say_div 15 hx hy))
  have HX4 := hidK (HXa.out (placeT (sumIn hMod)) _ (by decide) (say_mod 15 hx hy))
  have HX5 : Hid (y ≠ 0 → _) := fun h0 => HXa.out sumF3 _ (by decide) (say_parts hx hy h0)
  rw [cmp_text] at HX1
  have hfar := far_cond hx hy
  have hcat : ((((⟨#[35, 123, 101, 124, 60, 124, 58]⟩ : ByteArray) ++ str (itoa x)) ++ (⟨#[44, 121, 125, 35, 123, 101, 124, 61, 61, 124, 58, 120, 44]⟩ : ByteArray)) ++ str (itoa y)) ++ (⟨#[125, 35, 123, 101, 124, 62, 124, 58, 120, 44, 121, 125]⟩ : ByteArray) = str (sumF1 (itoa x) (itoa y)) := by
    apply ByteArray.ext
    simp [str, sumF1, hLt, hEq, hGt]
  have e2 : str sumF2 = (⟨#[35, 123, 101, 124, 45, 124, 58, 35, 123, 101, 124, 43, 124, 58, 120, 44, 121, 125, 44, 121, 125]⟩ : ByteArray) := by decide +kernel
  have e3 : str (placeT (sumIn hDiv)) = (⟨#[35, 123, 101, 124, 47, 124, 58, 120, 44, 121, 125]⟩ : ByteArray) := by decide +kernel
  have e4 : str (placeT (sumIn hMod)) = (⟨#[35, 123, 101, 124, 109, 124, 58, 120, 44, 121, 125]⟩ : ByteArray) := by decide +kernel
  have e5 : str sumF3 = (⟨#[35, 123, 101, 124, 43, 124, 58, 35, 123, 101, 124, 42, 124, 58, 35, 123, 101, 124, 47, 124, 58, 120, 44, 121, 125, 44, 121, 125, 44, 35, 123, 101, 124, 109, 124, 58, 120, 44, 121, 125, 125]⟩ : ByteArray) := by decide +kernel
  rw [e2] at HX2
  rw [e3] at HX3
  rw [e4] at HX4
  rw [e5] at HX5
  have HV := hidK fun W => vars2_in W (itoa x) (itoa y)
  have hsx : (str (itoa x)).size = (itoa x).length := rfl
  have hsy : (str (itoa y)).size = (itoa y).length := rfl
  obtain ⟨zx, hzx⟩ : ∃ z, str (itoa x) = z := ⟨_, rfl⟩
  obtain ⟨zy, hzy⟩ : ∃ z, str (itoa y) = z := ⟨_, rfl⟩
  obtain ⟨zf, hzf⟩ : ∃ z, str (sumF1 (itoa x) (itoa y)) = z := ⟨_, rfl⟩
  have HVs : Hid (∀ W : World, VarsIn (W.alloc (.cells #[.string ⟨#[120]⟩, .string zx, .string ⟨#[121]⟩, .string zy] 28)) (.slice (some ⟨W.heap.size, 0, none⟩) 2 2) (sumVs x y)) := fun W => by
    have h := HV.out W
    rw [hzx, hzy] at h
    exact h
  have A2 : Hid (ansF (if farB (x + y) = false then .ok (itoa x) else .error 100) = if farB (x + y) = false then .returned (.tuple #[.string zx, .int .i64 0]) else .returned (.tuple #[.string (str []), .int .i64 100])) := by rw [← hzx]; split <;> rfl
  have A5 : Hid (ansF (.ok (itoa x)) = .returned (.tuple #[.string zx, .int .i64 0])) := by rw [← hzx]; rfl
  rw [hzx] at HIx hcat hsx
  rw [hzy] at HIy hcat hsy
  rw [hzf] at HX1 hcat
  have bx : zx.size ≤ 20 := by omega
  have by' : zy.size ≤ 20 := by omega
  have c1 : ¬ x < -4611686018427387904 := by omega
  have c2 : ¬ 4611686018427387904 < x := by omega
  have c3 : ¬ y < -4611686018427387904 := by omega
  have c4 : ¬ 4611686018427387904 < y := by omega
  have s0 : (str []).toList = [] := str_toList _
  have HFar := hidK hfar
  clear hzx hzy hzf HV HXa hE e2 e3 e4 e5 lx ly hsx hsy hfar hx hy
  go_enter Tryz.func3, Tryz.ntmps3
  go_wp2_with fail
  refine HW.out.mono ?_
  rintro e w1 ⟨rfl, hb1⟩
  have HB1 := hidK hb1
  clear hb1 HW
  go_wp2_with fail
  refine (HIx.out _ HB1.out).mono ?_
  rintro e w2 ⟨rfl, hb2⟩
  have HB2 := hidK (HB1.out.trans (hb2.mono HB1.out.size))
  clear hb2
  go_wp2_with fail
  refine (HIy.out _ HB2.out).mono ?_
  rintro e w3 ⟨rfl, hb3⟩
  have HB3 := hidK (HB2.out.trans (hb3.mono HB2.out.size))
  have HB4 : Hid (Below w.heap.size w (w3.alloc (.cells #[.string ⟨#[120]⟩, .string zx, .string ⟨#[121]⟩, .string zy] 28))) := HB3.out.alloc HB3.out.size _
  have HV4 := hidK (HVs.out w3)
  clear hb3 HIx HIy HVs
  go_wp2_with fail
  obtain ⟨w4, hw4⟩ : ∃ w4, w3.alloc (.cells #[.string ⟨#[120]⟩, .string zx, .string ⟨#[121]⟩, .string zy] 28) = w4 := ⟨_, rfl⟩
  obtain ⟨g4, hg4⟩ : ∃ g, w3.heap.size = g := ⟨_, rfl⟩
  rw [hw4] at HB4 HV4
  rw [hg4] at HV4
  simp only [hw4, hg4]
  clear hw4 hg4 HB3
  refine (HX1.out w4 _ HB4.out HV4.out).mono ?_
  rintro e w5 ⟨rfl, hb5⟩
  have HV5 := hidK (HV4.out.below hb5)
  have HB5 := hidK (HB4.out.trans (hb5.mono HB4.out.size))
  clear hb5 HX1 HB4 HV4
  have A1 : Hid (ansF (.ok (if x < y then [49, 48, 48] else if x = y then [48, 49, 48] else [48, 48, 49])) = .returned (.tuple #[.string (if x < y then ⟨#[49, 48, 48]⟩ else if x = y then ⟨#[48, 49, 48]⟩ else ⟨#[48, 48, 49]⟩), .int .i64 0])) := by
    by_cases h1 : x < y
    · simp only [if_pos h1]; rfl
    · by_cases h2 : x = y
      · simp only [if_neg h1, if_pos h2]; rfl
      · simp only [if_neg h1, if_neg h2]; rfl
  rw [A1.out]
  have h1 := H1.out
  rw [if_pos h1]
  go_wp2_with fail
  all_goals first
    | (exfalso; omega)
    | skip
  clear h1
  refine (HX2.out w5 _ HB5.out HV5.out).mono ?_
  rintro e w6 ⟨rfl, hb6⟩
  have HV6 := hidK (HV5.out.below hb6)
  have HB6 := hidK (HB5.out.trans (hb6.mono HB5.out.size))
  clear hb6 HX2 HB5 HV5
  rw [A2.out]
  by_cases hfr : farB (x + y) = false
  · rw [if_pos hfr]
    have hnf : ¬ (x > 0 ∧ y > 4611686018427387904 - x ∨ x < 0 ∧ y < -4611686018427387904 - x) := fun h => by
      have h2 := HFar.out.1 h
      rw [hfr] at h2
      cases h2
    clear hfr A2 HFar
    rcases Int.lt_trichotomy x 0 with hz | hz | hz
    · have k1 : ¬ 0 < x := by omega
      have k2 : ¬ y < -4611686018427387904 - x := by omega
      clear hnf
      by_cases h0 : y = 0
      · have y0 : (y == 0) = true := by rw [h0]; rfl
        have A3 : Hid (ansF (if y = 0 then .error 100 else .ok (itoa (x.tdiv y))) = .returned (.tuple #[.string (str []), .int .i64 100])) := by rw [if_pos h0]; rfl
        have A4 : Hid (ansF (if y = 0 then .error 100 else .ok (itoa (x.tmod y))) = .returned (.tuple #[.string (str []), .int .i64 100])) := by rw [if_pos h0]; rfl
        have H0 := hidK h0
        clear h0
        go_wp2_with fail
        all_goals first
          | (exfalso; have h := H0.out; omega)
          | skip
        all_goals (
          refine (HX3.out w6 _ HB6.out HV6.out).mono ?_
          rintro e w7 ⟨rfl, hb7⟩
          have HV7 := hidK (HV6.out.below hb7)
          have HB7 := hidK (HB6.out.trans (hb7.mono HB6.out.size))
          clear hb7
          rw [A3.out]
          go_wp2_with fail
          refine (HX4.out w7 _ HB7.out HV7.out).mono ?_
          rintro e w8 ⟨rfl, hb8⟩
          have HB8 := hidK (HB7.out.trans (hb8.mono HB7.out.size))
          clear hb8
          rw [A4.out]
          go_wp2_with fail
          all_goals go_ret
          all_goals exact ⟨rfl, HB8.out⟩)
      · have HX6 := hidK (HX5.out h0)
        have H0 := hidK h0
        go_wp2_with fail
        all_goals first
          | (exfalso; have h := H0.out; omega)
          | skip
        refine (HX6.out w6 _ HB6.out HV6.out).mono ?_
        rintro e w7 ⟨rfl, hb7⟩
        have HB7 := hidK (HB6.out.trans (hb7.mono HB6.out.size))
        clear hb7
        rw [A5.out]
        go_wp2_with fail
        all_goals go_ret
        all_goals exact ⟨by simp, HB7.out⟩
    · have k1 : ¬ 0 < x := by omega
      have k2 : ¬ x < 0 := by omega
      clear hnf hz
      by_cases h0 : y = 0
      · have y0 : (y == 0) = true := by rw [h0]; rfl
        have A3 : Hid (ansF (if y = 0 then .error 100 else .ok (itoa (x.tdiv y))) = .returned (.tuple #[.string (str []), .int .i64 100])) := by rw [if_pos h0]; rfl
        have A4 : Hid (ansF (if y = 0 then .error 100 else .ok (itoa (x.tmod y))) = .returned (.tuple #[.string (str []), .int .i64 100])) := by rw [if_pos h0]; rfl
        have H0 := hidK h0
        clear h0
        go_wp2_with fail
        all_goals first
          | (exfalso; have h := H0.out; omega)
          | skip
        all_goals (
          refine (HX3.out w6 _ HB6.out HV6.out).mono ?_
          rintro e w7 ⟨rfl, hb7⟩
          have HV7 := hidK (HV6.out.below hb7)
          have HB7 := hidK (HB6.out.trans (hb7.mono HB6.out.size))
          clear hb7
          rw [A3.out]
          go_wp2_with fail
          refine (HX4.out w7 _ HB7.out HV7.out).mono ?_
          rintro e w8 ⟨rfl, hb8⟩
          have HB8 := hidK (HB7.out.trans (hb8.mono HB7.out.size))
          clear hb8
          rw [A4.out]
          go_wp2_with fail
          all_goals go_ret
          all_goals exact ⟨rfl, HB8.out⟩)
      · have HX6 := hidK (HX5.out h0)
        have H0 := hidK h0
        go_wp2_with fail
        all_goals first
          | (exfalso; have h := H0.out; omega)
          | skip
        refine (HX6.out w6 _ HB6.out HV6.out).mono ?_
        rintro e w7 ⟨rfl, hb7⟩
        have HB7 := hidK (HB6.out.trans (hb7.mono HB6.out.size))
        clear hb7
        rw [A5.out]
        go_wp2_with fail
        all_goals go_ret
        all_goals exact ⟨by simp, HB7.out⟩
    · have k1 : ¬ x < 0 := by omega
      have k2 : ¬ 4611686018427387904 - x < y := by omega
      clear hnf
      by_cases h0 : y = 0
      · have y0 : (y == 0) = true := by rw [h0]; rfl
        have A3 : Hid (ansF (if y = 0 then .error 100 else .ok (itoa (x.tdiv y))) = .returned (.tuple #[.string (str []), .int .i64 100])) := by rw [if_pos h0]; rfl
        have A4 : Hid (ansF (if y = 0 then .error 100 else .ok (itoa (x.tmod y))) = .returned (.tuple #[.string (str []), .int .i64 100])) := by rw [if_pos h0]; rfl
        have H0 := hidK h0
        clear h0
        go_wp2_with fail
        all_goals first
          | (exfalso; have h := H0.out; omega)
          | skip
        all_goals (
          refine (HX3.out w6 _ HB6.out HV6.out).mono ?_
          rintro e w7 ⟨rfl, hb7⟩
          have HV7 := hidK (HV6.out.below hb7)
          have HB7 := hidK (HB6.out.trans (hb7.mono HB6.out.size))
          clear hb7
          rw [A3.out]
          go_wp2_with fail
          refine (HX4.out w7 _ HB7.out HV7.out).mono ?_
          rintro e w8 ⟨rfl, hb8⟩
          have HB8 := hidK (HB7.out.trans (hb8.mono HB7.out.size))
          clear hb8
          rw [A4.out]
          go_wp2_with fail
          all_goals go_ret
          all_goals exact ⟨rfl, HB8.out⟩)
      · have HX6 := hidK (HX5.out h0)
        have H0 := hidK h0
        go_wp2_with fail
        all_goals first
          | (exfalso; have h := H0.out; omega)
          | skip
        refine (HX6.out w6 _ HB6.out HV6.out).mono ?_
        rintro e w7 ⟨rfl, hb7⟩
        have HB7 := hidK (HB6.out.trans (hb7.mono HB6.out.size))
        clear hb7
        rw [A5.out]
        go_wp2_with fail
        all_goals go_ret
        all_goals exact ⟨by simp, HB7.out⟩
  · rw [if_neg hfr]
    have hfr2 : farB (x + y) = true := by cases hb : farB (x + y) with | true => rfl | false => exact absurd hb hfr
    have hfa := HFar.out.2 hfr2
    clear hfr hfr2 A2 HFar
    rcases hfa with ⟨hz, hq⟩ | ⟨hz, hq⟩
    · have k1 : ¬ x < 0 := by omega
      have k2 : 4611686018427387904 - x < y := by omega
      have k3 : 0 < x := hz
      clear hz hq
      by_cases h0 : y = 0
      · have y0 : (y == 0) = true := by rw [h0]; rfl
        have A3 : Hid (ansF (if y = 0 then .error 100 else .ok (itoa (x.tdiv y))) = .returned (.tuple #[.string (str []), .int .i64 100])) := by rw [if_pos h0]; rfl
        have A4 : Hid (ansF (if y = 0 then .error 100 else .ok (itoa (x.tmod y))) = .returned (.tuple #[.string (str []), .int .i64 100])) := by rw [if_pos h0]; rfl
        have H0 := hidK h0
        clear h0
        go_wp2_with fail
        all_goals first
          | (exfalso; have h := H0.out; omega)
          | skip
        all_goals (
          refine (HX3.out w6 _ HB6.out HV6.out).mono ?_
          rintro e w7 ⟨rfl, hb7⟩
          have HV7 := hidK (HV6.out.below hb7)
          have HB7 := hidK (HB6.out.trans (hb7.mono HB6.out.size))
          clear hb7
          rw [A3.out]
          go_wp2_with fail
          refine (HX4.out w7 _ HB7.out HV7.out).mono ?_
          rintro e w8 ⟨rfl, hb8⟩
          have HB8 := hidK (HB7.out.trans (hb8.mono HB7.out.size))
          clear hb8
          rw [A4.out]
          go_wp2_with fail
          all_goals go_ret
          all_goals exact ⟨rfl, HB8.out⟩)
      · have HX6 := hidK (HX5.out h0)
        have H0 := hidK h0
        go_wp2_with fail
        all_goals first
          | (exfalso; have h := H0.out; omega)
          | skip
        refine (HX6.out w6 _ HB6.out HV6.out).mono ?_
        rintro e w7 ⟨rfl, hb7⟩
        have HB7 := hidK (HB6.out.trans (hb7.mono HB6.out.size))
        clear hb7
        rw [A5.out]
        go_wp2_with fail
        all_goals go_ret
        all_goals exact ⟨by simp, HB7.out⟩
    · have k1 : ¬ 0 < x := by omega
      have k2 : y < -4611686018427387904 - x := by omega
      clear hq
      by_cases h0 : y = 0
      · have y0 : (y == 0) = true := by rw [h0]; rfl
        have A3 : Hid (ansF (if y = 0 then .error 100 else .ok (itoa (x.tdiv y))) = .returned (.tuple #[.string (str []), .int .i64 100])) := by rw [if_pos h0]; rfl
        have A4 : Hid (ansF (if y = 0 then .error 100 else .ok (itoa (x.tmod y))) = .returned (.tuple #[.string (str []), .int .i64 100])) := by rw [if_pos h0]; rfl
        have H0 := hidK h0
        clear h0
        go_wp2_with fail
        all_goals first
          | (exfalso; have h := H0.out; omega)
          | skip
        all_goals (
          refine (HX3.out w6 _ HB6.out HV6.out).mono ?_
          rintro e w7 ⟨rfl, hb7⟩
          have HV7 := hidK (HV6.out.below hb7)
          have HB7 := hidK (HB6.out.trans (hb7.mono HB6.out.size))
          clear hb7
          rw [A3.out]
          go_wp2_with fail
          refine (HX4.out w7 _ HB7.out HV7.out).mono ?_
          rintro e w8 ⟨rfl, hb8⟩
          have HB8 := hidK (HB7.out.trans (hb8.mono HB7.out.size))
          clear hb8
          rw [A4.out]
          go_wp2_with fail
          all_goals go_ret
          all_goals exact ⟨rfl, HB8.out⟩)
      · have HX6 := hidK (HX5.out h0)
        have H0 := hidK h0
        go_wp2_with fail
        all_goals first
          | (exfalso; have h := H0.out; omega)
          | skip
        refine (HX6.out w6 _ HB6.out HV6.out).mono ?_
        rintro e w7 ⟨rfl, hb7⟩
        have HB7 := hidK (HB6.out.trans (hb7.mono HB6.out.size))
        clear hb7
        rw [A5.out]
        go_wp2_with fail
        all_goals go_ret
        all_goals exact ⟨by simp, HB7.out⟩

end Go.Proofs.YtpfhhpmoagmhhaaGreatDoor
