/-
  Formats: a place; the beginning of a text.
  Formats: the beginning of a text.
  Formats: a Builder: its length; nothing written into an empty one.
  Formats: what a text says, at every depth.
-/
import Derived.Test.YtgoofifbifdgoabGreatDoorGH
import Derived.Test.YtgoofifbifdgoabGreatDoorGC
namespace Go.Proofs.YtgoofifbifdgoabGreatDoor
open Go.RowKit
set_option linter.unusedVariables false
set_option maxRecDepth 100000

/-- What is told of the beginning of a text. -/
def OutN (r : Except Int (List UInt8 × Nat)) (e : Ending) : Prop := match r with
  | .ok (s, n) => e = .returned (.tuple #[.string (str s), .int .i64 (n : Int), .nilIface])
  | .error k => ∃ v, e = .returned (.tuple #[.string (str []), .int .i64 0, v]) ∧ ErrV v k
/-- What a place's inside says, so many places being allowed. -/
def plF (vs : Vars) : Nat → List UInt8 → Res
  | 0, _ => some (.error 101)
  | r + 1, l => placeF (sayF vs r) vs l
theorem say_eq (vs : Vars) (r : Nat) (l : List UInt8) : sayF vs r l = loopF (plF vs r) vs l.length l [] := by
  cases r <;> rfl
theorem insG_le : ∀ (f : Nat) (l : List UInt8) (o : Int) (k i : Nat), insG f l o k = some i → k ≤ i ∧ i < k + l.length
  | 0, l, o, k, i, h => by cases h
  | f + 1, l, o, k, i, h => by
    unfold insG at h
    split at h
    · cases h
    · rename_i hne
      have hp := pass_le hne
      have hp1 := pass_pos l
      split at h
      · cases h
        have : 0 < l.length := List.length_pos_iff.2 hne
        omega
      · have := insG_le f _ _ _ i h
        rw [List.length_drop] at this
        omega
theorem inside_le {l : List UInt8} {i : Nat} (h : insideF l = some i) : i < l.length := by
  have := insG_le _ _ _ _ _ h
  omega
def placeN (vs : Vars) (r : Nat) (t : List UInt8) : Option (Except Int (List UInt8 × Nat)) := match insideF t with
  | none => some (.error 100)
  | some k => match plF vs r (t.take k) with
    | none => none
    | some (.error e) => some (.error e)
    | some (.ok s) => some (.ok (s, k + 3))

set_option maxHeartbeats 4000000 in
theorem place_any {r : Nat} (hS : ∀ r', r = r' + 1 → SayOk r') (hr : r ≤ 16) {w : World} {xb : Nat} {vs : Vars} (hX : XE w xb vs) (t : List UInt8) (hp : t.length + 2 ≤ 2147483647) (res : Except Int (List UInt8 × Nat)) (h : placeN vs r t = some res) :
    Calls Tryz.prog 79 #[.pointer (some ⟨xb, 0, none⟩), .string (str (35 :: 123 :: t)), .int .i64 ((16 : Int) - (r : Int))] w fun e w' => OutN res e ∧ Below w.heap.size w w' := by
  have HIn := hidK (ins_any t (by omega) w)
  have hD : (str (35 :: 123 :: t)).extract 2 (str (35 :: 123 :: t)).size = str t := str_dropF (35 :: 123 :: t) 2
  have hM : ∀ j, (str (35 :: 123 :: t)).extract 2 (2 + j) = str (t.take j) := fun j => by
    rw [str_midF]
    simp
  have hs : (str (35 :: 123 :: t)).size = t.length + 2 := rfl
  obtain ⟨z, hz⟩ : ∃ z, str (35 :: 123 :: t) = z := ⟨_, rfl⟩
  obtain ⟨zt, hzt⟩ : ∃ zt, str t = zt := ⟨_, rfl⟩
  rw [hz] at hD hM hs ⊢
  rw [hzt] at hD HIn
  rw [hs] at hD
  unfold placeN at h
  obtain ⟨d, hd⟩ : ∃ d : Int, (16 : Int) - (r : Int) = d := ⟨_, rfl⟩
  have hd1 : 0 ≤ d ∧ d ≤ 16 := by omega
  obtain ⟨hd1, hd2⟩ := hd1
  obtain ⟨n, hn⟩ : ∃ n, t.length = n := ⟨_, rfl⟩
  rw [hn] at hD hs hp
  cases hi : insideF t with
  | none =>
    rw [hi] at HIn h
    have HRs : Hid (res = .error 100) := (Option.some.inj h).symm
    rw [hd]
    clear h hi hM hz hzt hd hn hS hX
    go_enter Tryz.func79, Tryz.ntmps79
    go_wp2_with (go_at_call 121; refine HIn.out.mono ?_; rintro x w1 ⟨rfl, rfl⟩)
    all_goals exact bodyPost_ret (results_tmp3 (by rfl) _ _ _) rfl ⟨by rw [HRs.out]; exact ⟨_, rfl, .fault 100⟩, Below.refl _ _⟩
  | some k =>
    rw [hi] at HIn h
    simp only at h
    have hk := inside_le hi
    rw [hn] at hk
    have hMk := hM k
    obtain ⟨zi, hzi⟩ : ∃ zi, str (t.take k) = zi := ⟨_, rfl⟩
    simp only [Option.getD_some, Option.isSome_some] at HIn
    obtain ⟨K, hK⟩ : ∃ K, 2 + k = K := ⟨_, rfl⟩
    rw [hK] at hMk
    have HK := hidK hK
    have hK1 : (2 : Int) + (k : Int) = (K : Int) := by omega
    have hK2 : 2 ≤ K := by omega
    have hK3 : K ≤ n + 2 := by omega
    have hK4 : (K : Int) ≤ (n : Int) + 2 := by omega
    have hK5 : (2 : Int) ≤ (K : Int) := by omega
    clear hK
    cases r with
    | zero =>
      have HRs : Hid (res = .error 101) := (Option.some.inj h).symm
      have hd16 : d = 16 := by omega
      subst hd16
      rw [hd]
      rw [hzi] at hMk
      clear h hi hM hz hzt hd hn hS hX hzi
      go_enter Tryz.func79, Tryz.ntmps79
      go_wp2_with (go_at_call 121; refine HIn.out.mono ?_; rintro x w1 ⟨rfl, rfl⟩)
      all_goals exact bodyPost_ret (results_tmp3 (by rfl) _ _ _) rfl ⟨by rw [HRs.out]; exact ⟨_, rfl, .within _ _ _ (.fault 101)⟩, Below.refl _ _⟩
    | succ r =>
      have hd16 : ¬ d = 16 := by omega
      have hdd : d + 1 = (16 : Int) - (r : Int) := by omega
      cases hpl : placeF (sayF vs r) vs (t.take k) with
      | none =>
        have h2 : plF vs (r + 1) (t.take k) = none := hpl
        rw [h2] at h
        cases h
      | some rp =>
        have h2 : plF vs (r + 1) (t.take k) = some rp := hpl
        rw [h2] at h
        have HIs := hidK (inside_any (hS r rfl) (by omega) hX (t.take k) (by rw [List.length_take]; omega) rp hpl)
        rw [← hdd, hzi] at HIs
        rw [hzi] at hMk
        rw [hd]
        have HH := hidK h
        clear h hi hM hz hzt hd hn hS hX hzi hpl h2 hdd
        go_enter Tryz.func79, Tryz.ntmps79
        go_wp2_with (go_at_call 121; refine HIn.out.mono ?_; rintro x w1 ⟨rfl, rfl⟩)
        refine HIs.out.mono ?_
        rintro x w3 ⟨ho3, hb3⟩
        cases rp with
        | ok s3 =>
          have ho' : x = .returned (.tuple #[.string (str s3), .nilIface]) := ho3
          subst ho'
          have HRs : Hid (res = .ok (s3, k + 3)) := (Option.some.inj HH.out).symm
          have E3 : Hid (((k + 3 : Nat) : Int) = (K : Int) + 1) := by show _ = _; have := HK.out; omega
          clear ho3 HH
          go_wp2_with fail
          all_goals exact bodyPost_ret (results_tmp3 (by rfl) _ _ _) rfl ⟨by rw [HRs.out]; show Ending.returned _ = Ending.returned (.tuple #[.string (str s3), .int .i64 ((k + 3 : Nat) : Int), .nilIface]); rw [E3.out]; rfl, hb3⟩
        | error k3 =>
          obtain ⟨v3, rfl, hv3⟩ := ho3
          obtain ⟨tt, y, rfl⟩ := hv3.iface
          have HRs : Hid (res = .error k3) := (Option.some.inj HH.out).symm
          have HV := hidK hv3
          clear HH hv3
          go_wp2_with fail
          all_goals exact bodyPost_ret (results_tmp3 (by rfl) _ _ _) rfl ⟨by rw [HRs.out]; exact ⟨_, rfl, .within _ _ _ HV.out⟩, hb3⟩

end Go.Proofs.YtgoofifbifdgoabGreatDoor

namespace Go.Proofs.YtgoofifbifdgoabGreatDoor
open Go.RowKit
set_option linter.unusedVariables false
set_option maxRecDepth 100000

theorem plain_zero {l : List UInt8} {c : UInt8} {r : List UInt8} (h : l = c :: r) (h0 : ¬ 0 < plainF l) : c = 35 := by
  subst h
  by_cases hc : c.toNat = 35
  · exact UInt8.toNat_inj.1 hc
  · exfalso
    apply h0
    unfold plainF
    rw [List.takeWhile_cons_of_pos (by simp [hc])]
    simp

set_option maxHeartbeats 4000000 in
theorem next_any {r : Nat} (hS : ∀ r', r = r' + 1 → SayOk r') (hr : r ≤ 16) {w : World} {xb : Nat} {vs : Vars} (hX : XE w xb vs) (l : List UInt8) (hne : l ≠ []) (hp : l.length ≤ 2147483647) (res : Except Int (List UInt8 × Nat)) (h : saidF (plF vs r) vs l = some res) :
    Calls Tryz.prog 26 #[.pointer (some ⟨xb, 0, none⟩), .string (str l), .int .i64 ((16 : Int) - (r : Int))] w fun e w' => OutN res e ∧ Below w.heap.size w w' := by
  have HPl := hidK (plainBytes_any l w)
  obtain ⟨d0, hd0⟩ : ∃ d : Int, (16 : Int) - (r : Int) = d := ⟨_, rfl⟩
  unfold saidF nextF at h
  by_cases h0 : 0 < plainF l
  · rw [if_pos h0] at h
    have HRs : Hid (res = .ok (l.take (plainF l), plainF l)) := (Option.some.inj h).symm
    have hpl := plain_le l
    have hT := str_takeF l (plainF l)
    have hs : (str l).size = l.length := rfl
    obtain ⟨k, hk⟩ : ∃ k, plainF l = k := ⟨_, rfl⟩
    obtain ⟨z, hz⟩ : ∃ z, str l = z := ⟨_, rfl⟩
    obtain ⟨y, hy⟩ : ∃ y, str (l.take k) = y := ⟨_, rfl⟩
    rw [hk] at HPl HRs hpl hT h0
    rw [hz] at HPl hT hs ⊢
    rw [hy] at hT
    rw [hd0]
    have HY := hidK hy
    have hk0 : (0 : Int) < (k : Int) := by omega
    have hkz : k ≤ z.size := by omega
    have hkz2 : (k : Int) ≤ (z.size : Int) := by omega
    clear h hk hz hy hd0 hS hX hs h0
    go_enter Tryz.func26, Tryz.ntmps26
    go_wp2_with (go_at_call 78; refine HPl.out.mono ?_; rintro x w1 ⟨rfl, rfl⟩)
    all_goals exact bodyPost_ret (results_tmp3 (by rfl) _ _ _) rfl ⟨by rw [HRs.out]; show Ending.returned _ = Ending.returned (.tuple #[.string (str (l.take k)), .int .i64 (k : Int), .nilIface]); rw [HY.out]; rfl, Below.refl _ _⟩
  · rw [if_neg h0] at h
    have hp0 : plainF l = 0 := by omega
    rw [hp0] at HPl
    cases l with
    | nil => exact absurd rfl hne
    | cons c l2 =>
    cases l2 with
    | nil =>
      have HRs : Hid (res = .ok ([c], 1)) := (Option.some.inj h).symm
      have hs : (str [c]).size = 1 := rfl
      obtain ⟨z, hz⟩ : ∃ z, str [c] = z := ⟨_, rfl⟩
      rw [hz] at HPl hs ⊢
      rw [hd0]
      have HZ := hidK hz
      clear h hz hd0 hS hX h0 hp0
      go_enter Tryz.func26, Tryz.ntmps26
      go_wp2_with (go_at_call 78; refine HPl.out.mono ?_; rintro x w1 ⟨rfl, rfl⟩)
      all_goals exact bodyPost_ret (results_tmp3 (by rfl) _ _ _) rfl ⟨by rw [HRs.out]; show Ending.returned _ = Ending.returned (.tuple #[.string (str [c]), .int .i64 1, .nilIface]); rw [HZ.out]; rfl, Below.refl _ _⟩
    | cons d t =>
      obtain rfl : c = 35 := plain_zero rfl h0
      have hs : (str (35 :: d :: t)).size = t.length + 2 := rfl
      have hg1 : ∀ h : 1 < (str (35 :: d :: t)).size, (str (35 :: d :: t))[1] = d := fun h => str_getF _ 1 d rfl h
      have hM1 : (str (35 :: d :: t)).extract 1 2 = str [d] := by rw [str_midF]; rfl
      have hM0 : (str (35 :: d :: t)).extract 0 1 = str [35] := by rw [str_takeF]; rfl
      have HSh := hidK (shortForm_any d w)
      have hpt : t.length + 2 ≤ 2147483647 := hp
      simp only [] at h
      by_cases hthree : d.toNat = 35 ∨ d.toNat = 44 ∨ d.toNat = 125
      · rw [if_pos hthree] at h
        have HRs : Hid (res = .ok ([d], 2)) := (Option.some.inj h).symm
        obtain ⟨z, hz⟩ : ∃ z, str (35 :: d :: t) = z := ⟨_, rfl⟩
        obtain ⟨y, hy⟩ : ∃ y, str [d] = y := ⟨_, rfl⟩
        rw [hz] at HPl hs hg1 hM1 ⊢
        rw [hy] at hM1
        rw [hd0]
        have HY := hidK hy
        have hz1 : 1 < z.size := by omega
        have hz2 : 2 ≤ z.size := by omega
        have hz4 : (2 : Int) ≤ (z.size : Int) := by omega
        have hz3 : ¬ (z.size : Int) = 1 := by omega
        have g1 := hg1 hz1
        clear h hz hy hd0 hS hX h0 hp0 hM0 HSh hg1 hs hp hpt
        go_enter Tryz.func26, Tryz.ntmps26
        rcases hthree with h3 | h3 | h3
        all_goals (
          go_wp2_with (go_at_call 78; refine HPl.out.mono ?_; rintro x w1 ⟨rfl, rfl⟩)
          all_goals exact bodyPost_ret (results_tmp3 (by rfl) _ _ _) rfl ⟨by rw [HRs.out]; show Ending.returned _ = Ending.returned (.tuple #[.string (str [d]), .int .i64 2, .nilIface]); rw [HY.out]; rfl, Below.refl _ _⟩)
      · rw [if_neg hthree] at h
        obtain ⟨n1, n2⟩ := not_or.1 hthree
        obtain ⟨n2, n3⟩ := not_or.1 n2
        by_cases h123 : d.toNat = 123
        · rw [if_pos h123] at h
          obtain rfl : d = 123 := UInt8.toNat_inj.1 h123
          have hh : placeN vs r t = some res := h
          have HP := hidK (place_any hS hr hX t hpt res hh)
          obtain ⟨z, hz⟩ : ∃ z, str (35 :: 123 :: t) = z := ⟨_, rfl⟩
          rw [hz] at HPl hs hg1 HP ⊢
          rw [hd0] at HP ⊢
          have hz1 : 1 < z.size := by omega
          have hz3 : ¬ (z.size : Int) = 1 := by omega
          have g1 := hg1 hz1
          clear h hh hz hd0 hS hX h0 hp0 hM0 hM1 HSh hg1 hs hp hpt hthree n1 n2 n3 h123
          go_enter Tryz.func26, Tryz.ntmps26
          go_wp2_with (go_at_call 78; refine HPl.out.mono ?_; rintro x w1 ⟨rfl, rfl⟩)
          refine HP.out.mono ?_
          rintro x w3 ⟨ho3, hb3⟩
          cases res with
          | ok sn =>
            obtain ⟨s3, n3⟩ := sn
            have ho' : x = .returned (.tuple #[.string (str s3), .int .i64 (n3 : Int), .nilIface]) := ho3
            subst ho'
            clear ho3
            go_wp2_with fail
            all_goals exact bodyPost_ret (results_tmp3 (by rfl) _ _ _) rfl ⟨by show Ending.returned _ = Ending.returned (.tuple #[.string (str s3), .int .i64 (n3 : Int), .nilIface]); rfl, hb3⟩
          | error k3 =>
            obtain ⟨v3, rfl, hv3⟩ := ho3
            go_wp2_with fail
            all_goals exact bodyPost_ret (results_tmp3 (by rfl) _ _ _) rfl ⟨⟨_, rfl, hv3⟩, hb3⟩
        · rw [if_neg h123] at h
          obtain ⟨z, hz⟩ : ∃ z, str (35 :: d :: t) = z := ⟨_, rfl⟩
          rw [hz] at HPl hs hg1 hM0 ⊢
          rw [hd0]
          have hz1 : 1 < z.size := by omega
          have hz2 : 1 ≤ z.size := by omega
          have hz4 : (1 : Int) ≤ (z.size : Int) := by omega
          have hz3 : ¬ (z.size : Int) = 1 := by omega
          have g1 := hg1 hz1
          by_cases hsf : shortF d = []
          · rw [if_neg (by simp [hsf])] at h
            have HRs : Hid (res = .ok ([35], 1)) := (Option.some.inj h).symm
            rw [hsf] at HSh
            have hnl : (str []).toList = [] := str_toList []
            have hnl2 : (str []).toList.isEmpty = true := by rw [hnl]; rfl
            obtain ⟨y, hy⟩ : ∃ y, str [35] = y := ⟨_, rfl⟩
            rw [hy] at hM0
            have HY := hidK hy
            obtain ⟨e0, he0⟩ : ∃ e0, str [] = e0 := ⟨_, rfl⟩
            rw [he0] at HSh hnl hnl2
            clear h hy hz hd0 hS hX h0 hp0 hM1 hg1 hs hp hpt hthree he0 hsf
            go_enter Tryz.func26, Tryz.ntmps26
            go_wp2_with (first | (go_at_call 78; refine HPl.out.mono ?_; rintro x w1 ⟨rfl, rfl⟩) | (go_at_call 80; refine HSh.out.mono ?_; rintro x w1 ⟨rfl, rfl⟩))
            all_goals exact bodyPost_ret (results_tmp3 (by rfl) _ _ _) rfl ⟨by rw [HRs.out]; show Ending.returned _ = Ending.returned (.tuple #[.string (str [35]), .int .i64 1, .nilIface]); rw [HY.out]; rfl, Below.refl _ _⟩
          · rw [if_pos hsf] at h
            have HRs : Hid (res = .ok (valF vs (shortF d), 2)) := (Option.some.inj h).symm
            have HV := hidK (hX.val (shortF d))
            have hnl : ¬ (str (shortF d)).toList = [] := by rw [str_toList]; exact hsf
            have hnl2 : (str (shortF d)).toList.isEmpty = false := by rw [str_toList]; simpa using hsf
            obtain ⟨e0, he0⟩ : ∃ e0, str (shortF d) = e0 := ⟨_, rfl⟩
            rw [he0] at HSh hnl hnl2 HV
            clear h hz hd0 hS hX h0 hp0 hM0 hM1 hg1 hs hp hpt hthree he0 hsf
            go_enter Tryz.func26, Tryz.ntmps26
            go_wp2_with (first | (go_at_call 78; refine HPl.out.mono ?_; rintro x w1 ⟨rfl, rfl⟩) | (go_at_call 80; refine HSh.out.mono ?_; rintro x w1 ⟨rfl, rfl⟩) | (go_at_call 81; refine HV.out.mono ?_; rintro x w2 ⟨rfl, hb2⟩))
            all_goals exact bodyPost_ret (results_tmp3 (by rfl) _ _ _) rfl ⟨by rw [HRs.out]; show Ending.returned _ = Ending.returned (.tuple #[.string (str (valF vs (shortF d))), .int .i64 2, .nilIface]); rfl, by assumption⟩

end Go.Proofs.YtgoofifbifdgoabGreatDoor

namespace Go.Proofs.YtgoofifbifdgoabGreatDoor
open Go.RowKit
set_option linter.unusedVariables false
set_option maxRecDepth 100000

theorem append_void (W : World) : (Builtin.append_ #[67, 9] 67 #[.slice none 0 0, .string ⟨#[]⟩]).run Tryz.prog W = .ok (.slice none 0 0) W := by kernel_rfl
theorem owns_len {w : World} {B : Nat} {v : Value} {l : List UInt8} (h : Owns w B v l) : ∃ a c, v = .slice a l.length c := by
  rcases h.2 with ⟨rfl, h0⟩ | ⟨g, cap, cur, rfl, _⟩
  · exact ⟨none, 0, by rw [h0]⟩
  · exact ⟨_, _, rfl⟩
set_option maxHeartbeats 1000000 in
theorem len_in {w : World} {B b o : Nat} {T : TypeId} {cs : Array Value} {v : Value} {l : List UInt8} (h : BuilderIn w B b o T cs v l) (hl : l.length ≤ 2147483647) :
    Calls Tryz.prog 27 #[.pointer (some ⟨b, o, none⟩)] w fun e w' => e = .returned (.int .i64 (l.length : Int)) ∧ w = w' := by
  obtain ⟨a, c, rfl⟩ := owns_len h.own
  have c1 : w.cell? ⟨b, o + 1, none⟩ = some (.slice a l.length c) := (cell_at h.blk (o + 1)).trans h.buf
  obtain ⟨n, hn⟩ : ∃ n, l.length = n := ⟨_, rfl⟩
  rw [hn] at c1 hl ⊢
  clear h hn
  go_enter Tryz.func27, Tryz.ntmps27
  go_wp2
  all_goals go_ret
  all_goals exact ⟨rfl, rfl⟩
set_option maxHeartbeats 1000000 in
theorem writeVoid_in {w : World} {B b o : Nat} {T : TypeId} {cs : Array Value} (h : BuilderIn w B b o T cs (.slice none 0 0) []) :
    Calls Tryz.prog 28 #[.pointer (some ⟨b, o, none⟩), .string ⟨#[]⟩] w fun e w' => (∃ r, e = .returned r) ∧ ∃ cs', BuilderIn w' B b o T cs' (.slice none 0 0) [] ∧ But [b] w w' := by
  have HC : Hid (Calls Tryz.prog 82 #[.pointer (some ⟨b, o, none⟩)] w fun e w' => e = .returned (.tuple #[]) ∧ BuilderIn w' B b o T (cs.set! o (.pointer (some ⟨b, o, none⟩))) (.slice none 0 0) [] ∧ But [b] w w') := copyCheck_in h
  obtain ⟨ds, hds⟩ : ∃ ds, cs.set! o (.pointer (some ⟨b, o, none⟩)) = ds := ⟨_, rfl⟩
  rw [hds] at HC
  have hos : o + 1 < cs.size := (Array.getElem?_eq_some_iff.1 h.buf).1
  have hdz : o + 1 < ds.size := by rw [← hds, Array.set!_eq_setIfInBounds, Array.size_setIfInBounds]; exact hos
  clear h hds hos
  go_enter Tryz.func28, Tryz.ntmps28
  go_wp2_with fail
  refine HC.out.mono ?_
  rintro e w1 ⟨rfl, h1, hb1⟩
  have c1 : w1.cell? ⟨b, o + 1, none⟩ = some (.slice none 0 0) := (cell_at h1.blk (o + 1)).trans h1.buf
  have f1 : w1.frozen? ⟨b, o + 1, none⟩ = false := free_at h1.blk _
  have hav := append_void w1
  have H1 := hidK h1
  have HB1 := hidK hb1
  clear h1 hb1 HC
  go_wp2_with fail
  all_goals go_ret2
  refine ⟨⟨_, rfl⟩, _, ⟨set_at H1.out.blk _ _, ?_, ?_, H1.out.own.keep (fun g hg => by cases hg), H1.out.ty, ?_⟩, But.setCell HB1.out (.inl (by simp)) _⟩
  · rw [Array.set!_eq_setIfInBounds, Array.getElem?_setIfInBounds]
    simpa using H1.out.adr
  · rw [Array.set!_eq_setIfInBounds, Array.getElem?_setIfInBounds]
    simp
    omega
  · rw [Array.set!_eq_setIfInBounds, Array.size_setIfInBounds]
    exact H1.out.lies
/-- A text written, with what is known of an empty one. -/
theorem write_in {w : World} {B b : Nat} {T : TypeId} {cs : Array Value} {v : Value} {l : List UInt8} (t : List UInt8) (h : BuilderIn w B b 0 T cs v l) (hB : B ≤ w.heap.size) (hBb : B ≤ b) (h0 : l = [] → v = .slice none 0 0) (hlen : l.length + t.length ≤ 1024) :
    Calls Tryz.prog 28 #[.pointer (some ⟨b, 0, none⟩), .string (str t)] w fun e w' => (∃ r, e = .returned r) ∧ ∃ cs' v', BuilderIn w' B b 0 T cs' v' (l ++ t) ∧ (l ++ t = [] → v' = .slice none 0 0) ∧ ∃ S, But S w w' ∧ ∀ k ∈ S, B ≤ k := by
  by_cases hv : l ++ t = []
  · obtain ⟨rfl, rfl⟩ := List.append_eq_nil_iff.1 hv
    have hv0 := h0 rfl
    subst hv0
    refine (writeVoid_in h).mono ?_
    rintro e w' ⟨hr, cs', h1, h2⟩
    exact ⟨hr, cs', _, h1, fun _ => rfl, _, h2, fun k hk => by rw [List.mem_singleton.1 hk]; exact hBb⟩
  · refine (writeString_in (str t) h hB (by rw [str_size]; omega)).mono ?_
    rintro e w' ⟨hr, v', h1, h2⟩
    refine ⟨hr, _, v', h1, fun e => absurd e hv, _, h2, fun k hk => ?_⟩
    rcases List.mem_cons.1 hk with rfl | hk
    · exact hBb
    · have e : v.ownBlock = some k := by simpa using hk
      exact (World.ownsRow.lt h.own k e).1

end Go.Proofs.YtgoofifbifdgoabGreatDoor

namespace Go.Proofs.YtgoofifbifdgoabGreatDoor
open Go.RowKit
set_option linter.unusedVariables false
set_option maxRecDepth 100000

theorem builderLies : liesAt Tryz.prog Tryz.prog.depth 69 (2 / Tryz.prog.cellsOf 69) 0 69 1 = true := by kernel_rfl
/-- Where the loop stands. -/
structure EI (w W : World) (b : Nat) (said : List UInt8) : Prop where
  bld : ∃ cs v, BuilderIn W w.heap.size b 0 69 cs v said ∧ (said = [] → v = .slice none 0 0)
  below : Below w.heap.size w W
  late : w.heap.size ≤ b
theorem EI.start (w : World) : EI w (w.alloc (.cells #[.pointer none, .slice none 0 0] 69)) w.heap.size [] :=
  ⟨⟨_, _, ⟨heap_alloc_new w _, .inl rfl, rfl, World.ownsRow_nil _ _ _ _, by decide, builderLies⟩, fun _ => rfl⟩, (Below.refl _ _).alloc (Nat.le_refl _) _, Nat.le_refl _⟩
theorem BuilderIn.more {w w' : World} {B b o : Nat} {T : TypeId} {cs : Array Value} {v : Value} {l : List UInt8} (h : BuilderIn w B b o T cs v l) (hb : Below w.heap.size w w') : BuilderIn w' B b o T cs v l :=
  ⟨(hb.block b (lt_block h.blk)).trans h.blk, h.adr, h.buf, h.own.below hb, h.ty, h.lies⟩
theorem EI.more {w W W' : World} {b : Nat} {said : List UInt8} (h : EI w W b said) (hb : Below W.heap.size W W') : EI w W' b said := by
  obtain ⟨cs, v, h1, h2⟩ := h.bld
  exact ⟨⟨cs, v, h1.more hb, h2⟩, h.below.trans (hb.mono h.below.size), h.late⟩
theorem EI.len {w W : World} {b : Nat} {said : List UInt8} (h : EI w W b said) (hl : said.length ≤ 1024) : Calls Tryz.prog 27 #[.pointer (some ⟨b, 0, none⟩)] W fun e w' => e = .returned (.int .i64 (said.length : Int)) ∧ W = w' := by
  obtain ⟨cs, v, h1, h2⟩ := h.bld
  exact len_in h1 (by omega)
theorem EI.write {w W : World} {b : Nat} {said : List UInt8} (h : EI w W b said) (t : List UInt8) (hl : said.length + t.length ≤ 1024) : Calls Tryz.prog 28 #[.pointer (some ⟨b, 0, none⟩), .string (str t)] W fun e w' => (∃ r, e = .returned r) ∧ EI w w' b (said ++ t) := by
  obtain ⟨cs, v, h1, h2⟩ := h.bld
  refine (write_in t h1 h.below.size h.late h2 hl).mono ?_
  rintro e w' ⟨hr, cs', v', k1, k2, S, k3, k4⟩
  exact ⟨hr, ⟨⟨cs', v', k1, k2⟩, k3.under h.below h.below.size k4, h.late⟩⟩
theorem EI.string {w W : World} {b : Nat} {said : List UInt8} (h : EI w W b said) : Calls Tryz.prog 29 #[.pointer (some ⟨b, 0, none⟩)] W fun e w' => e = .returned (.string (str said)) ∧ Below w.heap.size w w' := by
  obtain ⟨cs, v, h1, h2⟩ := h.bld
  refine (string_in h1 h2).mono ?_
  rintro e w' ⟨rfl, k1, k2⟩
  exact ⟨rfl, k2.under h.below h.below.size fun k hk => (World.ownsRow.lt h1.own k (by simpa using hk)).1⟩
theorem said_pos {pl : List UInt8 → Res} {vs : Vars} {l s : List UInt8} {n : Nat} (hne : l ≠ []) (h : saidF pl vs l = some (.ok (s, n))) : 1 ≤ n ∧ n ≤ l.length := by
  unfold saidF at h
  have hpl := plain_le l
  have hll : 0 < l.length := List.length_pos_iff.2 hne
  unfold nextF at h
  by_cases h0 : 0 < plainF l
  · rw [if_pos h0] at h
    simp only [Option.some.injEq, Except.ok.injEq, Prod.mk.injEq] at h
    omega
  · rw [if_neg h0] at h
    cases l with
    | nil => exact absurd rfl hne
    | cons c l2 =>
      cases l2 with
      | nil =>
        simp only [Option.some.injEq, Except.ok.injEq, Prod.mk.injEq] at h
        simp only [List.length_cons]
        omega
      | cons d t =>
        simp only [] at h
        have e : (c :: d :: t).length = t.length + 2 := rfl
        rw [e]
        split at h
        · rename_i e1
          split at e1
          · cases e1
          split at e1
          · cases e1
          split at e1
          · cases e1
          · cases e1
        · rename_i s1 n1 e1
          simp only [Option.some.injEq, Except.ok.injEq, Prod.mk.injEq] at h
          split at e1
          · cases e1
            omega
          split at e1
          · cases e1
          split at e1
          · cases e1
          · cases e1
            omega
        · simp only [Option.some.injEq, Except.ok.injEq, Prod.mk.injEq] at h
          omega
        · have hr : restF (c :: d :: t) = t := rfl
          rw [hr] at h
          split at h
          · cases h
          · rename_i k hk
            have := inside_le hk
            split at h
            · cases h
            · cases h
            · simp only [Option.some.injEq, Except.ok.injEq, Prod.mk.injEq] at h
              omega

theorem turned_short : ∀ (ts : List Turn) (l s : List UInt8), turnedF ts l = some (.ok s) → l.length ≤ 2147483647 → s.length ≤ 2147483647
  | [], l, s, h, hl => by
    simp only [turnedF, Option.some.injEq, Except.ok.injEq] at h
    subst h
    exact hl
  | t :: ts, l, s, h, hl => by
    rw [turned_cons] at h
    split at h
    · cases h
    · exact turned_short ts _ s h (by omega)
theorem then_ok {r : Res} {k : List UInt8 → Res} {s : List UInt8} (h : r.then k = some (.ok s)) : ∃ a, r = some (.ok a) ∧ k a = some (.ok s) := by
  cases r with
  | none => cases h
  | some x => cases x with
    | error e => cases h
    | ok a => exact ⟨a, rfl, h⟩
theorem place_short {vs : Vars} {r : Nat} (hv : ∀ p ∈ vs, p.2.length ≤ 2147483647) {l s : List UInt8} (h : placeF (sayF vs r) vs l = some (.ok s)) : s.length ≤ 2147483647 := by
  have hsay : ∀ {q : List UInt8}, sayF vs r q = some (.ok s) → s.length ≤ 2147483647 := fun hq => by have := say_short hq; omega
  unfold placeF at h
  split at h
  · unfold choiceF at h
    split at h
    · obtain ⟨a, _, h2⟩ := then_ok h
      split at h2
      · exact hsay h2
      · simp only [Option.some.injEq, Except.ok.injEq] at h2
        subst h2
        simp
    · obtain ⟨a, _, h2⟩ := then_ok h
      split at h2
      · exact hsay h2
      · exact hsay h2
    · cases h
  · split at h
    · unfold headedF at h
      split at h
      · cases h
      · split at h
        · cases h
        · cases h
        · obtain ⟨a, h1, h2⟩ := then_ok h
          exact turned_short _ _ _ h2 (operand_short hv h1)
    · split at h
      · simp only [Option.some.injEq, Except.ok.injEq] at h
        subst h
        exact val_short hv _
      · cases h
theorem said_short {vs : Vars} {r : Nat} (hv : ∀ p ∈ vs, p.2.length ≤ 2147483647) {l s : List UInt8} {n : Nat} (hl : l.length ≤ 2147483647) (h : saidF (plF vs r) vs l = some (.ok (s, n))) : s.length ≤ 2147483647 := by
  unfold saidF at h
  split at h
  · simp only [Option.some.injEq, Except.ok.injEq, Prod.mk.injEq] at h
    rw [← h.1, List.length_take]
    omega
  · rename_i s1 n1 e1
    simp only [Option.some.injEq, Except.ok.injEq, Prod.mk.injEq] at h
    rw [← h.1]
    unfold nextF at e1
    split at e1
    · cases e1
    · split at e1
      · cases e1
      · cases e1
        simp
      · split at e1
        · cases e1
          simp
        · split at e1
          · cases e1
          · split at e1
            · cases e1
            · cases e1
              simp
  · simp only [Option.some.injEq, Except.ok.injEq, Prod.mk.injEq] at h
    rw [← h.1]
    exact val_short hv _
  · split at h
    · cases h
    · split at h
      · cases h
      · cases h
      · rename_i s1 h1
        simp only [Option.some.injEq, Except.ok.injEq, Prod.mk.injEq] at h
        rw [← h.1]
        cases r with
        | zero => cases h1
        | succ r => exact place_short hv h1

set_option maxHeartbeats 4000000 in
theorem expand_any {r : Nat} (hS : ∀ r', r = r' + 1 → SayOk r') (hr : r ≤ 16) : SayOk r := by
  intro w xb vs hX l hl res hres
  have HNx := hidK (fun W (hW : Below w.heap.size w W) (x : List UInt8) (hx : x ≠ []) (hxl : x.length ≤ 2147483647) res' h' => next_any hS hr (hX.below hW) x hx hxl res' h')
  obtain ⟨d, hd⟩ : ∃ d : Int, (16 : Int) - (r : Int) = d := ⟨_, rfl⟩
  rw [hd] at HNx ⊢
  rw [say_eq] at hres
  have HR := hidK hres
  have HE := hidK (EI.start w)
  obtain ⟨b, hb⟩ : ∃ b, w.heap.size = b := ⟨_, rfl⟩
  have HBe : Hid (w.heap.size = b) := hb
  have HE0 : Hid (EI w (w.alloc (.cells #[.pointer none, .slice none 0 0] 69)) b []) := by
    have h := HE.out
    rw [← hb]
    exact h
  have HVs := hidK hX.short
  clear hd hres hS hX hb HE
  go_enter Tryz.func17, Tryz.ntmps17
  go_wp2_with fail
  rw [HBe.out]
  go_loopw [1] (fun s1 wx => ∃ (x said : List UInt8) (f : Nat), x.length ≤ 2147483647 ∧ x.length ≤ l.length ∧ said.length ≤ 1024 ∧ s1 = .string (str x) ∧ Hid (x.length ≤ f ∧ loopF (plF vs r) vs f x said = some res) ∧ Hid (EI w wx b said)) (fun v _ => match v with | .string s => s.size | _ => 0)
  case atStart => exact ⟨l, [], l.length, hl, Nat.le_refl _, by simp, rfl, ⟨Nat.le_refl _, HR.out⟩, HE0.out⟩
  case round =>
    obtain ⟨x, said, f, hxl, hxx, hsl, rfl, HF, HI⟩ := hrel
    by_cases hx : x = []
    · have HRs : Hid (res = .ok said) := by
        have h := HF.out.2
        rw [hx] at h
        cases f with
        | zero => exact (Option.some.inj h).symm
        | succ f =>
          unfold loopF at h
          rw [if_pos rfl] at h
          exact (Option.some.inj h).symm
      have HSt := hidK HI.out.string
      have h0 : (str x).toList = [] := by rw [str_toList]; exact hx
      have h1 : (str x).toList.isEmpty = true := by rw [h0]; rfl
      obtain ⟨z, hz⟩ : ∃ z, str x = z := ⟨_, rfl⟩
      rw [hz] at h0 h1 ⊢
      clear HF HI HNx hz hx hxl hxx
      go_wp2_with fail
      refine HSt.out.mono ?_
      rintro e w2 ⟨rfl, hb2⟩
      go_wp2_with fail
      all_goals go_ret2
      all_goals exact ⟨by rw [HRs.out]; rfl, hb2⟩
    · have h0 : ¬ (str x).toList = [] := by rw [str_toList]; exact hx
      have h1 : (str x).toList.isEmpty = false := by rw [str_toList]; cases x with | nil => exact absurd rfl hx | cons _ _ => rfl
      have hxp : 0 < x.length := List.length_pos_iff.2 hx
      obtain ⟨hf1, hf2⟩ := HF.out
      obtain ⟨f', rfl⟩ : ∃ f', f = f' + 1 := ⟨f - 1, by omega⟩
      unfold loopF at hf2
      rw [if_neg hx] at hf2
      have hDr := fun n => str_dropF x n
      have HDr := hidK hDr
      have hzs : (str x).size = x.length := rfl
      cases hsd : saidF (plF vs r) vs x with
      | none =>
        rw [hsd] at hf2
        cases hf2
      | some rr =>
        rw [hsd] at hf2
        have HN := hidK (HNx.out wr HI.out.below x hx hxl rr hsd)
        cases rr with
        | error k =>
          have HRs : Hid (res = .error k) := (Option.some.inj hf2).symm
          obtain ⟨z, hz⟩ : ∃ z, str x = z := ⟨_, rfl⟩
          rw [hz] at h0 h1 HN ⊢
          clear HF hf2 hf1 HNx hz hx hxl hxx hsd HDr hDr hzs hxp
          go_wp2_with fail
          refine HN.out.mono ?_
          rintro e w2 ⟨⟨v, rfl, hv⟩, hb2⟩
          obtain ⟨tt, y, rfl⟩ := hv.iface
          have HV := hidK hv
          have HB2 := hidK (HI.out.below.trans (hb2.mono HI.out.below.size))
          clear hv hb2
          go_wp2_with fail
          all_goals go_ret2
          all_goals exact ⟨by rw [HRs.out]; exact ⟨_, rfl, HV.out⟩, HB2.out⟩
        | ok sn =>
          obtain ⟨sp, n⟩ := sn
          simp only [] at hf2
          obtain ⟨hn1, hn2⟩ := said_pos hx hsd
          have hss : (str sp).size = sp.length := rfl
          have hspl := said_short HVs.out hxl hsd
          obtain ⟨z, hz⟩ : ∃ z, str x = z := ⟨_, rfl⟩
          rw [hz] at h0 h1 HN hzs HDr ⊢
          by_cases h1024 : 1024 < said.length + sp.length
          · rw [if_pos h1024] at hf2
            have HRs : Hid (res = .error 2) := (Option.some.inj hf2).symm
            clear HF hf2 hf1 HNx hz hx hxx hsd HDr hDr hxp
            go_wp2_with fail
            refine HN.out.mono ?_
            rintro e w2 ⟨ho, hb2⟩
            have ho' : e = .returned (.tuple #[.string (str sp), .int .i64 (n : Int), .nilIface]) := ho
            subst ho'
            have HI2 := hidK (HI.out.more hb2)
            have HLe := hidK (HI2.out.len hsl)
            obtain ⟨zs, hzs2⟩ : ∃ zs, str sp = zs := ⟨_, rfl⟩
            rw [hzs2] at hss ⊢
            obtain ⟨q, hq⟩ : ∃ q, said.length = q := ⟨_, rfl⟩
            rw [hq] at HLe hsl h1024
            have hbig : (1024 : Int) < (q : Int) + (zs.size : Int) := by omega
            have hzl : zs.size ≤ 2147483647 := by rw [hss]; exact hspl
            clear ho hb2 hzs2 hq h1024 hss hspl
            have HB2 := hidK HI2.out.below
            go_wp2_with fail
            refine HLe.out.mono ?_
            rintro e w3 ⟨rfl, rfl⟩
            go_wp2_with fail
            all_goals go_ret2
            all_goals exact ⟨by rw [HRs.out]; exact ⟨_, rfl, .fault 2⟩, HB2.out⟩
          · rw [if_neg h1024] at hf2
            have HF2 : Hid ((x.drop n).length ≤ f' ∧ loopF (plF vs r) vs f' (x.drop n) (said ++ sp) = some res) := ⟨by rw [List.length_drop]; omega, hf2⟩
            have HXd : Hid ((x.drop n).length + n = x.length) := by show _ = _; rw [List.length_drop]; omega
            have hdn := HDr.out n
            rw [hzs] at hdn
            obtain ⟨y, hy⟩ : ∃ y, str (x.drop n) = y := ⟨_, rfl⟩
            rw [hy] at hdn
            have HY := hidK hy
            obtain ⟨m, hm⟩ : ∃ m, x.length = m := ⟨_, rfl⟩
            rw [hm] at hzs hdn hn2 hxl HXd
            have hnz : (n : Int) ≤ (m : Int) := by omega
            clear HF hf2 hf1 HNx hz hx hsd HDr hDr hxp hy
            go_wp2_with fail
            refine HN.out.mono ?_
            rintro e w2 ⟨ho, hb2⟩
            have ho' : e = .returned (.tuple #[.string (str sp), .int .i64 (n : Int), .nilIface]) := ho
            subst ho'
            have HI2 := hidK (HI.out.more hb2)
            have HLe := hidK (HI2.out.len hsl)
            have HWr := hidK (HI2.out.write sp (by omega))
            obtain ⟨zs, hzs2⟩ : ∃ zs, str sp = zs := ⟨_, rfl⟩
            rw [hzs2] at hss HWr ⊢
            have HSl : Hid ((said ++ sp).length ≤ 1024) := by show _ ≤ _; rw [List.length_append]; omega
            obtain ⟨q, hq⟩ : ∃ q, said.length = q := ⟨_, rfl⟩
            rw [hq] at HLe hsl h1024
            have hbig : ¬ (1024 : Int) < (q : Int) + (zs.size : Int) := by omega
            have hzl : zs.size ≤ 2147483647 := by rw [hss]; exact hspl
            clear ho hb2 hzs2 hq h1024 hss hspl
            go_wp2_with fail
            refine HLe.out.mono ?_
            rintro e w3 ⟨rfl, rfl⟩
            go_wp2_with fail
            refine HWr.out.mono ?_
            rintro e w4 ⟨⟨rv, rfl⟩, he4⟩
            have HE4 := hidK he4
            clear he4
            go_wp2_with fail
            go_roundw
            case rel => exact ⟨x.drop n, said ++ sp, f', by have := HXd.out; omega, by have := HXd.out; omega, HSl.out, by rw [HY.out], HF2.out, HE4.out⟩
            case measure =>
              have h8 := HXd.out
              rw [← HY.out]
              show (str (List.drop n x)).size < z.size
              rw [str_size]
              omega

theorem say_any : ∀ r : Nat, r ≤ 16 → SayOk r
  | 0, hr => expand_any (fun r' h => by cases h) hr
  | r + 1, hr => expand_any (fun r' h => by cases h; exact say_any r (by omega)) hr

end Go.Proofs.YtgoofifbifdgoabGreatDoor
