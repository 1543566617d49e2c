/-
  Formats: the beginning of a text.
-/
import Derived.Test.YtgoofifbifdgoaaGreatDoorFPlc
namespace Go.Proofs.YtgoofifbifdgoaaGreatDoor
open Go.RowKit
set_option linter.unusedVariables false
set_option maxRecDepth 100000

theorem plain_zero {l : List UInt8} {c : UInt8} {r : List UInt8} (h : l = c :: r) (h0 : ¬ 0 < plainF l) : c = 35 := by
  subst h
  by_cases hc : c.toNat = 35
  · exact UInt8.toNat_inj.1 hc
  · exfalso
    apply h0
    unfold plainF
    rw [List.takeWhile_cons_of_pos (by simp [hc])]
    simp

set_option maxHeartbeats 4000000 in
theorem next_any {r : Nat} (hS : ∀ r', r = r' + 1 → SayOk r') (hr : r ≤ 16) {w : World} {xb : Nat} {vs : Vars} (hX : XE w xb vs) (l : List UInt8) (hne : l ≠ []) (hp : l.length ≤ 2147483647) (res : Except Int (List UInt8 × Nat)) (h : saidF (plF vs r) vs l = some res) :
    Calls Tryz.prog 28 #[.pointer (some ⟨xb, 0, none⟩), .string (str l), .int .i64 ((16 : Int) - (r : Int))] w fun e w' => OutN res e ∧ Below w.heap.size w w' := by
  have HPl := hidK (plainBytes_any l w)
  obtain ⟨d0, hd0⟩ : ∃ d : Int, (16 : Int) - (r : Int) = d := ⟨_, rfl⟩
  unfold saidF nextF at h
  by_cases h0 : 0 < plainF l
  · rw [if_pos h0] at h
    have HRs : Hid (res = .ok (l.take (plainF l), plainF l)) := (Option.some.inj h).symm
    have hpl := plain_le l
    have hT := str_takeF l (plainF l)
    have hs : (str l).size = l.length := rfl
    obtain ⟨k, hk⟩ : ∃ k, plainF l = k := ⟨_, rfl⟩
    obtain ⟨z, hz⟩ : ∃ z, str l = z := ⟨_, rfl⟩
    obtain ⟨y, hy⟩ : ∃ y, str (l.take k) = y := ⟨_, rfl⟩
    rw [hk] at HPl HRs hpl hT h0
    rw [hz] at HPl hT hs ⊢
    rw [hy] at hT
    rw [hd0]
    have HY := hidK hy
    have hk0 : (0 : Int) < (k : Int) := by omega
    have hkz : k ≤ z.size := by omega
    have hkz2 : (k : Int) ≤ (z.size : Int) := by omega
    clear h hk hz hy hd0 hS hX hs h0
    go_enter Tryz.func28, Tryz.ntmps28
    go_wp2_with (go_at_call 75; refine HPl.out.mono ?_; rintro x w1 ⟨rfl, rfl⟩)
    all_goals exact bodyPost_ret (results_tmp3 (by rfl) _ _ _) rfl ⟨by rw [HRs.out]; show Ending.returned _ = Ending.returned (.tuple #[.string (str (l.take k)), .int .i64 (k : Int), .nilIface]); rw [HY.out]; rfl, Below.refl _ _⟩
  · rw [if_neg h0] at h
    have hp0 : plainF l = 0 := by omega
    rw [hp0] at HPl
    cases l with
    | nil => exact absurd rfl hne
    | cons c l2 =>
    cases l2 with
    | nil =>
      have HRs : Hid (res = .ok ([c], 1)) := (Option.some.inj h).symm
      have hs : (str [c]).size = 1 := rfl
      obtain ⟨z, hz⟩ : ∃ z, str [c] = z := ⟨_, rfl⟩
      rw [hz] at HPl hs ⊢
      rw [hd0]
      have HZ := hidK hz
      clear h hz hd0 hS hX h0 hp0
      go_enter Tryz.func28, Tryz.ntmps28
      go_wp2_with (go_at_call 75; refine HPl.out.mono ?_; rintro x w1 ⟨rfl, rfl⟩)
      all_goals exact bodyPost_ret (results_tmp3 (by rfl) _ _ _) rfl ⟨by rw [HRs.out]; show Ending.returned _ = Ending.returned (.tuple #[.string (str [c]), .int .i64 1, .nilIface]); rw [HZ.out]; rfl, Below.refl _ _⟩
    | cons d t =>
      obtain rfl : c = 35 := plain_zero rfl h0
      have hs : (str (35 :: d :: t)).size = t.length + 2 := rfl
      have hg1 : ∀ h : 1 < (str (35 :: d :: t)).size, (str (35 :: d :: t))[1] = d := fun h => str_getF _ 1 d rfl h
      have hM1 : (str (35 :: d :: t)).extract 1 2 = str [d] := by rw [str_midF]; rfl
      have hM0 : (str (35 :: d :: t)).extract 0 1 = str [35] := by rw [str_takeF]; rfl
      have HSh := hidK (shortForm_any d w)
      have hpt : t.length + 2 ≤ 2147483647 := hp
      simp only [] at h
      by_cases hthree : d.toNat = 35 ∨ d.toNat = 44 ∨ d.toNat = 125
      · rw [if_pos hthree] at h
        have HRs : Hid (res = .ok ([d], 2)) := (Option.some.inj h).symm
        obtain ⟨z, hz⟩ : ∃ z, str (35 :: d :: t) = z := ⟨_, rfl⟩
        obtain ⟨y, hy⟩ : ∃ y, str [d] = y := ⟨_, rfl⟩
        rw [hz] at HPl hs hg1 hM1 ⊢
        rw [hy] at hM1
        rw [hd0]
        have HY := hidK hy
        have hz1 : 1 < z.size := by omega
        have hz2 : 2 ≤ z.size := by omega
        have hz4 : (2 : Int) ≤ (z.size : Int) := by omega
        have hz3 : ¬ (z.size : Int) = 1 := by omega
        have g1 := hg1 hz1
        clear h hz hy hd0 hS hX h0 hp0 hM0 HSh hg1 hs hp hpt
        go_enter Tryz.func28, Tryz.ntmps28
        rcases hthree with h3 | h3 | h3
        all_goals (
          go_wp2_with (go_at_call 75; refine HPl.out.mono ?_; rintro x w1 ⟨rfl, rfl⟩)
          all_goals exact bodyPost_ret (results_tmp3 (by rfl) _ _ _) rfl ⟨by rw [HRs.out]; show Ending.returned _ = Ending.returned (.tuple #[.string (str [d]), .int .i64 2, .nilIface]); rw [HY.out]; rfl, Below.refl _ _⟩)
      · rw [if_neg hthree] at h
        obtain ⟨n1, n2⟩ := not_or.1 hthree
        obtain ⟨n2, n3⟩ := not_or.1 n2
        by_cases h123 : d.toNat = 123
        · rw [if_pos h123] at h
          obtain rfl : d = 123 := UInt8.toNat_inj.1 h123
          have hh : placeN vs r t = some res := h
          have HP := hidK (place_any hS hr hX t hpt res hh)
          obtain ⟨z, hz⟩ : ∃ z, str (35 :: 123 :: t) = z := ⟨_, rfl⟩
          rw [hz] at HPl hs hg1 HP ⊢
          rw [hd0] at HP ⊢
          have hz1 : 1 < z.size := by omega
          have hz3 : ¬ (z.size : Int) = 1 := by omega
          have g1 := hg1 hz1
          clear h hh hz hd0 hS hX h0 hp0 hM0 hM1 HSh hg1 hs hp hpt hthree n1 n2 n3 h123
          go_enter Tryz.func28, Tryz.ntmps28
          go_wp2_with (go_at_call 75; refine HPl.out.mono ?_; rintro x w1 ⟨rfl, rfl⟩)
          refine HP.out.mono ?_
          rintro x w3 ⟨ho3, hb3⟩
          cases res with
          | ok sn =>
            obtain ⟨s3, n3⟩ := sn
            have ho' : x = .returned (.tuple #[.string (str s3), .int .i64 (n3 : Int), .nilIface]) := ho3
            subst ho'
            clear ho3
            go_wp2_with fail
            all_goals exact bodyPost_ret (results_tmp3 (by rfl) _ _ _) rfl ⟨by show Ending.returned _ = Ending.returned (.tuple #[.string (str s3), .int .i64 (n3 : Int), .nilIface]); rfl, hb3⟩
          | error k3 =>
            obtain ⟨v3, rfl, hv3⟩ := ho3
            go_wp2_with fail
            all_goals exact bodyPost_ret (results_tmp3 (by rfl) _ _ _) rfl ⟨⟨_, rfl, hv3⟩, hb3⟩
        · rw [if_neg h123] at h
          obtain ⟨z, hz⟩ : ∃ z, str (35 :: d :: t) = z := ⟨_, rfl⟩
          rw [hz] at HPl hs hg1 hM0 ⊢
          rw [hd0]
          have hz1 : 1 < z.size := by omega
          have hz2 : 1 ≤ z.size := by omega
          have hz4 : (1 : Int) ≤ (z.size : Int) := by omega
          have hz3 : ¬ (z.size : Int) = 1 := by omega
          have g1 := hg1 hz1
          by_cases hsf : shortF d = []
          · rw [if_neg (by simp [hsf])] at h
            have HRs : Hid (res = .ok ([35], 1)) := (Option.some.inj h).symm
            rw [hsf] at HSh
            have hnl : (str []).toList = [] := str_toList []
            have hnl2 : (str []).toList.isEmpty = true := by rw [hnl]; rfl
            obtain ⟨y, hy⟩ : ∃ y, str [35] = y := ⟨_, rfl⟩
            rw [hy] at hM0
            have HY := hidK hy
            obtain ⟨e0, he0⟩ : ∃ e0, str [] = e0 := ⟨_, rfl⟩
            rw [he0] at HSh hnl hnl2
            clear h hy hz hd0 hS hX h0 hp0 hM1 hg1 hs hp hpt hthree he0 hsf
            go_enter Tryz.func28, Tryz.ntmps28
            go_wp2_with (first | (go_at_call 75; refine HPl.out.mono ?_; rintro x w1 ⟨rfl, rfl⟩) | (go_at_call 77; refine HSh.out.mono ?_; rintro x w1 ⟨rfl, rfl⟩))
            all_goals exact bodyPost_ret (results_tmp3 (by rfl) _ _ _) rfl ⟨by rw [HRs.out]; show Ending.returned _ = Ending.returned (.tuple #[.string (str [35]), .int .i64 1, .nilIface]); rw [HY.out]; rfl, Below.refl _ _⟩
          · rw [if_pos hsf] at h
            have HRs : Hid (res = .ok (valF vs (shortF d), 2)) := (Option.some.inj h).symm
            have HV := hidK (hX.val (shortF d))
            have hnl : ¬ (str (shortF d)).toList = [] := by rw [str_toList]; exact hsf
            have hnl2 : (str (shortF d)).toList.isEmpty = false := by rw [str_toList]; simpa using hsf
            obtain ⟨e0, he0⟩ : ∃ e0, str (shortF d) = e0 := ⟨_, rfl⟩
            rw [he0] at HSh hnl hnl2 HV
            clear h hz hd0 hS hX h0 hp0 hM0 hM1 hg1 hs hp hpt hthree he0 hsf
            go_enter Tryz.func28, Tryz.ntmps28
            go_wp2_with (first | (go_at_call 75; refine HPl.out.mono ?_; rintro x w1 ⟨rfl, rfl⟩) | (go_at_call 77; refine HSh.out.mono ?_; rintro x w1 ⟨rfl, rfl⟩) | (go_at_call 78; refine HV.out.mono ?_; rintro x w2 ⟨rfl, hb2⟩))
            all_goals exact bodyPost_ret (results_tmp3 (by rfl) _ _ _) rfl ⟨by rw [HRs.out]; show Ending.returned _ = Ending.returned (.tuple #[.string (str (valF vs (shortF d))), .int .i64 2, .nilIface]); rfl, by assumption⟩

end Go.Proofs.YtgoofifbifdgoaaGreatDoor
