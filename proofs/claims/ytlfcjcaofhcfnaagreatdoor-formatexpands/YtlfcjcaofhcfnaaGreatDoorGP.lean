/-
  Formats: a place; the beginning of a text.
  Formats: the beginning of a text.
-/
import Derived.Test.YtlfcjcaofhcfnaaGreatDoorGO
namespace Go.Proofs.YtlfcjcaofhcfnaaGreatDoor
open Go.RowKit
set_option linter.unusedVariables false
set_option maxRecDepth 100000

/-- What is told of the beginning of a text. -/
def OutN (r : Except Int (List UInt8 × Nat)) (e : Ending) : Prop := match r with
  | .ok (s, n) => e = .returned (.tuple #[.string (str s), .int .i64 (n : Int), .nilIface])
  | .error k => ∃ v, e = .returned (.tuple #[.string (str []), .int .i64 0, v]) ∧ ErrV v k
/-- What a place's inside says, so many places being allowed. -/
def plF (vs : Vars) : Nat → List UInt8 → Res
  | 0, _ => some (.error 101)
  | r + 1, l => placeF (sayF vs r) vs l
theorem say_eq (vs : Vars) (r : Nat) (l : List UInt8) : sayF vs r l = loopF (plF vs r) vs l.length l [] := by
  cases r <;> rfl
theorem insG_le : ∀ (f : Nat) (l : List UInt8) (o : Int) (k i : Nat), insG f l o k = some i → k ≤ i ∧ i < k + l.length
  | 0, l, o, k, i, h => by cases h
  | f + 1, l, o, k, i, h => by
    unfold insG at h
    split at h
    · cases h
    · rename_i hne
      have hp := pass_le hne
      have hp1 := pass_pos l
      split at h
      · cases h
        have : 0 < l.length := List.length_pos_iff.2 hne
        omega
      · have := insG_le f _ _ _ i h
        rw [List.length_drop] at this
        omega
theorem inside_le {l : List UInt8} {i : Nat} (h : insideF l = some i) : i < l.length := by
  have := insG_le _ _ _ _ _ h
  omega
def placeN (vs : Vars) (r : Nat) (t : List UInt8) : Option (Except Int (List UInt8 × Nat)) := match insideF t with
  | none => some (.error 100)
  | some k => match plF vs r (t.take k) with
    | none => none
    | some (.error e) => some (.error e)
    | some (.ok s) => some (.ok (s, k + 3))

set_option maxHeartbeats 4000000 in
theorem place_any {r : Nat} (hS : ∀ r', r = r' + 1 → SayOk r') (hr : r ≤ 16) {w : World} {xb : Nat} {vs : Vars} (hX : XE w xb vs) (t : List UInt8) (hp : t.length + 2 ≤ 2147483647) (res : Except Int (List UInt8 × Nat)) (h : placeN vs r t = some res) :
    Calls Tryz.prog 67 #[.pointer (some ⟨xb, 0, none⟩), .string (str (35 :: 123 :: t)), .int .i64 ((16 : Int) - (r : Int))] w fun e w' => OutN res e ∧ Below w.heap.size w w' := by
  have HIn := hidK (ins_any t (by omega) w)
  have hD : (str (35 :: 123 :: t)).extract 2 (str (35 :: 123 :: t)).size = str t := str_dropF (35 :: 123 :: t) 2
  have hM : ∀ j, (str (35 :: 123 :: t)).extract 2 (2 + j) = str (t.take j) := fun j => by
    rw [str_midF]
    simp
  have hs : (str (35 :: 123 :: t)).size = t.length + 2 := rfl
  obtain ⟨z, hz⟩ : ∃ z, str (35 :: 123 :: t) = z := ⟨_, rfl⟩
  obtain ⟨zt, hzt⟩ : ∃ zt, str t = zt := ⟨_, rfl⟩
  rw [hz] at hD hM hs ⊢
  rw [hzt] at hD HIn
  rw [hs] at hD
  unfold placeN at h
  obtain ⟨d, hd⟩ : ∃ d : Int, (16 : Int) - (r : Int) = d := ⟨_, rfl⟩
  have hd1 : 0 ≤ d ∧ d ≤ 16 := by omega
  obtain ⟨hd1, hd2⟩ := hd1
  obtain ⟨n, hn⟩ : ∃ n, t.length = n := ⟨_, rfl⟩
  rw [hn] at hD hs hp
  cases hi : insideF t with
  | none =>
    rw [hi] at HIn h
    have HRs : Hid (res = .error 100) := (Option.some.inj h).symm
    rw [hd]
    clear h hi hM hz hzt hd hn hS hX
    go_enter Tryz.func67, Tryz.ntmps67
    go_wp2_with (go_at_call 109; refine HIn.out.mono ?_; rintro x w1 ⟨rfl, rfl⟩)
    all_goals exact bodyPost_ret (results_tmp3 (by rfl) _ _ _) rfl ⟨by rw [HRs.out]; exact ⟨_, rfl, .fault 100⟩, Below.refl _ _⟩
  | some k =>
    rw [hi] at HIn h
    simp only at h
    have hk := inside_le hi
    rw [hn] at hk
    have hMk := hM k
    obtain ⟨zi, hzi⟩ : ∃ zi, str (t.take k) = zi := ⟨_, rfl⟩
    simp only [Option.getD_some, Option.isSome_some] at HIn
    obtain ⟨K, hK⟩ : ∃ K, 2 + k = K := ⟨_, rfl⟩
    rw [hK] at hMk
    have HK := hidK hK
    have hK1 : (2 : Int) + (k : Int) = (K : Int) := by omega
    have hK2 : 2 ≤ K := by omega
    have hK3 : K ≤ n + 2 := by omega
    have hK4 : (K : Int) ≤ (n : Int) + 2 := by omega
    have hK5 : (2 : Int) ≤ (K : Int) := by omega
    clear hK
    cases r with
    | zero =>
      have HRs : Hid (res = .error 101) := (Option.some.inj h).symm
      have hd16 : d = 16 := by omega
      subst hd16
      rw [hd]
      rw [hzi] at hMk
      clear h hi hM hz hzt hd hn hS hX hzi
      go_enter Tryz.func67, Tryz.ntmps67
      go_wp2_with (go_at_call 109; refine HIn.out.mono ?_; rintro x w1 ⟨rfl, rfl⟩)
      all_goals exact bodyPost_ret (results_tmp3 (by rfl) _ _ _) rfl ⟨by rw [HRs.out]; exact ⟨_, rfl, .within _ _ _ (.fault 101)⟩, Below.refl _ _⟩
    | succ r =>
      have hd16 : ¬ d = 16 := by omega
      have hdd : d + 1 = (16 : Int) - (r : Int) := by omega
      cases hpl : placeF (sayF vs r) vs (t.take k) with
      | none =>
        have h2 : plF vs (r + 1) (t.take k) = none := hpl
        rw [h2] at h
        cases h
      | some rp =>
        have h2 : plF vs (r + 1) (t.take k) = some rp := hpl
        rw [h2] at h
        have HIs := hidK (inside_any (hS r rfl) (by omega) hX (t.take k) (by rw [List.length_take]; omega) rp hpl)
        rw [← hdd, hzi] at HIs
        rw [hzi] at hMk
        rw [hd]
        have HH := hidK h
        clear h hi hM hz hzt hd hn hS hX hzi hpl h2 hdd
        go_enter Tryz.func67, Tryz.ntmps67
        go_wp2_with (go_at_call 109; refine HIn.out.mono ?_; rintro x w1 ⟨rfl, rfl⟩)
        refine HIs.out.mono ?_
        rintro x w3 ⟨ho3, hb3⟩
        cases rp with
        | ok s3 =>
          have ho' : x = .returned (.tuple #[.string (str s3), .nilIface]) := ho3
          subst ho'
          have HRs : Hid (res = .ok (s3, k + 3)) := (Option.some.inj HH.out).symm
          have E3 : Hid (((k + 3 : Nat) : Int) = (K : Int) + 1) := by show _ = _; have := HK.out; omega
          clear ho3 HH
          go_wp2_with fail
          all_goals exact bodyPost_ret (results_tmp3 (by rfl) _ _ _) rfl ⟨by rw [HRs.out]; show Ending.returned _ = Ending.returned (.tuple #[.string (str s3), .int .i64 ((k + 3 : Nat) : Int), .nilIface]); rw [E3.out]; rfl, hb3⟩
        | error k3 =>
          obtain ⟨v3, rfl, hv3⟩ := ho3
          obtain ⟨tt, y, rfl⟩ := hv3.iface
          have HRs : Hid (res = .error k3) := (Option.some.inj HH.out).symm
          have HV := hidK hv3
          clear HH hv3
          go_wp2_with fail
          all_goals exact bodyPost_ret (results_tmp3 (by rfl) _ _ _) rfl ⟨by rw [HRs.out]; exact ⟨_, rfl, .within _ _ _ HV.out⟩, hb3⟩

end Go.Proofs.YtlfcjcaofhcfnaaGreatDoor

namespace Go.Proofs.YtlfcjcaofhcfnaaGreatDoor
open Go.RowKit
set_option linter.unusedVariables false
set_option maxRecDepth 100000

theorem plain_zero {l : List UInt8} {c : UInt8} {r : List UInt8} (h : l = c :: r) (h0 : ¬ 0 < plainF l) : c = 35 := by
  subst h
  by_cases hc : c.toNat = 35
  · exact UInt8.toNat_inj.1 hc
  · exfalso
    apply h0
    unfold plainF
    rw [List.takeWhile_cons_of_pos (by simp [hc])]
    simp

set_option maxHeartbeats 4000000 in
theorem next_any {r : Nat} (hS : ∀ r', r = r' + 1 → SayOk r') (hr : r ≤ 16) {w : World} {xb : Nat} {vs : Vars} (hX : XE w xb vs) (l : List UInt8) (hne : l ≠ []) (hp : l.length ≤ 2147483647) (res : Except Int (List UInt8 × Nat)) (h : saidF (plF vs r) vs l = some res) :
    Calls Tryz.prog 16 #[.pointer (some ⟨xb, 0, none⟩), .string (str l), .int .i64 ((16 : Int) - (r : Int))] w fun e w' => OutN res e ∧ Below w.heap.size w w' := by
  have HPl := hidK (plainBytes_any l w)
  obtain ⟨d0, hd0⟩ : ∃ d : Int, (16 : Int) - (r : Int) = d := ⟨_, rfl⟩
  unfold saidF nextF at h
  by_cases h0 : 0 < plainF l
  · rw [if_pos h0] at h
    have HRs : Hid (res = .ok (l.take (plainF l), plainF l)) := (Option.some.inj h).symm
    have hpl := plain_le l
    have hT := str_takeF l (plainF l)
    have hs : (str l).size = l.length := rfl
    obtain ⟨k, hk⟩ : ∃ k, plainF l = k := ⟨_, rfl⟩
    obtain ⟨z, hz⟩ : ∃ z, str l = z := ⟨_, rfl⟩
    obtain ⟨y, hy⟩ : ∃ y, str (l.take k) = y := ⟨_, rfl⟩
    rw [hk] at HPl HRs hpl hT h0
    rw [hz] at HPl hT hs ⊢
    rw [hy] at hT
    rw [hd0]
    have HY := hidK hy
    have hk0 : (0 : Int) < (k : Int) := by omega
    have hkz : k ≤ z.size := by omega
    have hkz2 : (k : Int) ≤ (z.size : Int) := by omega
    clear h hk hz hy hd0 hS hX hs h0
    go_enter Tryz.func16, Tryz.ntmps16
    go_wp2_with (go_at_call 66; refine HPl.out.mono ?_; rintro x w1 ⟨rfl, rfl⟩)
    all_goals exact bodyPost_ret (results_tmp3 (by rfl) _ _ _) rfl ⟨by rw [HRs.out]; show Ending.returned _ = Ending.returned (.tuple #[.string (str (l.take k)), .int .i64 (k : Int), .nilIface]); rw [HY.out]; rfl, Below.refl _ _⟩
  · rw [if_neg h0] at h
    have hp0 : plainF l = 0 := by omega
    rw [hp0] at HPl
    cases l with
    | nil => exact absurd rfl hne
    | cons c l2 =>
    cases l2 with
    | nil =>
      have HRs : Hid (res = .ok ([c], 1)) := (Option.some.inj h).symm
      have hs : (str [c]).size = 1 := rfl
      obtain ⟨z, hz⟩ : ∃ z, str [c] = z := ⟨_, rfl⟩
      rw [hz] at HPl hs ⊢
      rw [hd0]
      have HZ := hidK hz
      clear h hz hd0 hS hX h0 hp0
      go_enter Tryz.func16, Tryz.ntmps16
      go_wp2_with (go_at_call 66; refine HPl.out.mono ?_; rintro x w1 ⟨rfl, rfl⟩)
      all_goals exact bodyPost_ret (results_tmp3 (by rfl) _ _ _) rfl ⟨by rw [HRs.out]; show Ending.returned _ = Ending.returned (.tuple #[.string (str [c]), .int .i64 1, .nilIface]); rw [HZ.out]; rfl, Below.refl _ _⟩
    | cons d t =>
      obtain rfl : c = 35 := plain_zero rfl h0
      have hs : (str (35 :: d :: t)).size = t.length + 2 := rfl
      have hg1 : ∀ h : 1 < (str (35 :: d :: t)).size, (str (35 :: d :: t))[1] = d := fun h => str_getF _ 1 d rfl h
      have hM1 : (str (35 :: d :: t)).extract 1 2 = str [d] := by rw [str_midF]; rfl
      have hM0 : (str (35 :: d :: t)).extract 0 1 = str [35] := by rw [str_takeF]; rfl
      have HSh := hidK (shortForm_any d w)
      have hpt : t.length + 2 ≤ 2147483647 := hp
      simp only [] at h
      by_cases hthree : d.toNat = 35 ∨ d.toNat = 44 ∨ d.toNat = 125
      · rw [if_pos hthree] at h
        have HRs : Hid (res = .ok ([d], 2)) := (Option.some.inj h).symm
        obtain ⟨z, hz⟩ : ∃ z, str (35 :: d :: t) = z := ⟨_, rfl⟩
        obtain ⟨y, hy⟩ : ∃ y, str [d] = y := ⟨_, rfl⟩
        rw [hz] at HPl hs hg1 hM1 ⊢
        rw [hy] at hM1
        rw [hd0]
        have HY := hidK hy
        have hz1 : 1 < z.size := by omega
        have hz2 : 2 ≤ z.size := by omega
        have hz4 : (2 : Int) ≤ (z.size : Int) := by omega
        have hz3 : ¬ (z.size : Int) = 1 := by omega
        have g1 := hg1 hz1
        clear h hz hy hd0 hS hX h0 hp0 hM0 HSh hg1 hs hp hpt
        go_enter Tryz.func16, Tryz.ntmps16
        rcases hthree with h3 | h3 | h3
        all_goals (
          go_wp2_with (go_at_call 66; refine HPl.out.mono ?_; rintro x w1 ⟨rfl, rfl⟩)
          all_goals exact bodyPost_ret (results_tmp3 (by rfl) _ _ _) rfl ⟨by rw [HRs.out]; show Ending.returned _ = Ending.returned (.tuple #[.string (str [d]), .int .i64 2, .nilIface]); rw [HY.out]; rfl, Below.refl _ _⟩)
      · rw [if_neg hthree] at h
        obtain ⟨n1, n2⟩ := not_or.1 hthree
        obtain ⟨n2, n3⟩ := not_or.1 n2
        by_cases h123 : d.toNat = 123
        · rw [if_pos h123] at h
          obtain rfl : d = 123 := UInt8.toNat_inj.1 h123
          have hh : placeN vs r t = some res := h
          have HP := hidK (place_any hS hr hX t hpt res hh)
          obtain ⟨z, hz⟩ : ∃ z, str (35 :: 123 :: t) = z := ⟨_, rfl⟩
          rw [hz] at HPl hs hg1 HP ⊢
          rw [hd0] at HP ⊢
          have hz1 : 1 < z.size := by omega
          have hz3 : ¬ (z.size : Int) = 1 := by omega
          have g1 := hg1 hz1
          clear h hh hz hd0 hS hX h0 hp0 hM0 hM1 HSh hg1 hs hp hpt hthree n1 n2 n3 h123
          go_enter Tryz.func16, Tryz.ntmps16
          go_wp2_with (go_at_call 66; refine HPl.out.mono ?_; rintro x w1 ⟨rfl, rfl⟩)
          refine HP.out.mono ?_
          rintro x w3 ⟨ho3, hb3⟩
          cases res with
          | ok sn =>
            obtain ⟨s3, n3⟩ := sn
            have ho' : x = .returned (.tuple #[.string (str s3), .int .i64 (n3 : Int), .nilIface]) := ho3
            subst ho'
            clear ho3
            go_wp2_with fail
            all_goals exact bodyPost_ret (results_tmp3 (by rfl) _ _ _) rfl ⟨by show Ending.returned _ = Ending.returned (.tuple #[.string (str s3), .int .i64 (n3 : Int), .nilIface]); rfl, hb3⟩
          | error k3 =>
            obtain ⟨v3, rfl, hv3⟩ := ho3
            go_wp2_with fail
            all_goals exact bodyPost_ret (results_tmp3 (by rfl) _ _ _) rfl ⟨⟨_, rfl, hv3⟩, hb3⟩
        · rw [if_neg h123] at h
          obtain ⟨z, hz⟩ : ∃ z, str (35 :: d :: t) = z := ⟨_, rfl⟩
          rw [hz] at HPl hs hg1 hM0 ⊢
          rw [hd0]
          have hz1 : 1 < z.size := by omega
          have hz2 : 1 ≤ z.size := by omega
          have hz4 : (1 : Int) ≤ (z.size : Int) := by omega
          have hz3 : ¬ (z.size : Int) = 1 := by omega
          have g1 := hg1 hz1
          by_cases hsf : shortF d = []
          · rw [if_neg (by simp [hsf])] at h
            have HRs : Hid (res = .ok ([35], 1)) := (Option.some.inj h).symm
            rw [hsf] at HSh
            have hnl : (str []).toList = [] := str_toList []
            have hnl2 : (str []).toList.isEmpty = true := by rw [hnl]; rfl
            obtain ⟨y, hy⟩ : ∃ y, str [35] = y := ⟨_, rfl⟩
            rw [hy] at hM0
            have HY := hidK hy
            obtain ⟨e0, he0⟩ : ∃ e0, str [] = e0 := ⟨_, rfl⟩
            rw [he0] at HSh hnl hnl2
            clear h hy hz hd0 hS hX h0 hp0 hM1 hg1 hs hp hpt hthree he0 hsf
            go_enter Tryz.func16, Tryz.ntmps16
            go_wp2_with (first | (go_at_call 66; refine HPl.out.mono ?_; rintro x w1 ⟨rfl, rfl⟩) | (go_at_call 68; refine HSh.out.mono ?_; rintro x w1 ⟨rfl, rfl⟩))
            all_goals exact bodyPost_ret (results_tmp3 (by rfl) _ _ _) rfl ⟨by rw [HRs.out]; show Ending.returned _ = Ending.returned (.tuple #[.string (str [35]), .int .i64 1, .nilIface]); rw [HY.out]; rfl, Below.refl _ _⟩
          · rw [if_pos hsf] at h
            have HRs : Hid (res = .ok (valF vs (shortF d), 2)) := (Option.some.inj h).symm
            have HV := hidK (hX.val (shortF d))
            have hnl : ¬ (str (shortF d)).toList = [] := by rw [str_toList]; exact hsf
            have hnl2 : (str (shortF d)).toList.isEmpty = false := by rw [str_toList]; simpa using hsf
            obtain ⟨e0, he0⟩ : ∃ e0, str (shortF d) = e0 := ⟨_, rfl⟩
            rw [he0] at HSh hnl hnl2 HV
            clear h hz hd0 hS hX h0 hp0 hM0 hM1 hg1 hs hp hpt hthree he0 hsf
            go_enter Tryz.func16, Tryz.ntmps16
            go_wp2_with (first | (go_at_call 66; refine HPl.out.mono ?_; rintro x w1 ⟨rfl, rfl⟩) | (go_at_call 68; refine HSh.out.mono ?_; rintro x w1 ⟨rfl, rfl⟩) | (go_at_call 69; refine HV.out.mono ?_; rintro x w2 ⟨rfl, hb2⟩))
            all_goals exact bodyPost_ret (results_tmp3 (by rfl) _ _ _) rfl ⟨by rw [HRs.out]; show Ending.returned _ = Ending.returned (.tuple #[.string (str (valF vs (shortF d))), .int .i64 2, .nilIface]); rfl, by assumption⟩

end Go.Proofs.YtlfcjcaofhcfnaaGreatDoor
