/-
  The walk of OctalCounts.
-/
import Derived.Test.YtkdfpoficieknabDoorIdsW
import Derived.WalkKit
namespace Go.Proofs.YtkdfpoficieknabDoor
open Go.RowKit
set_option linter.unusedVariables false

/-- The texts that are read back. -/
theorem number_in {w W : World} (hN : NumV w) (hb : Below w.heap.size w W) (n : Int) :
    Calls Tryd.prog 14 #[.string (str (putL n))] W fun e w' => e = .returned (.tuple #[.int .i64 (if 0 ≤ n ∧ n ≤ 4611686018427387904 then n else 0), .bool (decide (0 ≤ n ∧ n ≤ 4611686018427387904))]) ∧ Below w.heap.size w w' :=
  (number_any (str (putL n)) W (hN.below hb) (by have := putL_length n; rw [str_size]; omega)).mono fun e w' ⟨h, hb2⟩ => by
    refine ⟨?_, hb.trans (hb2.mono hb.size)⟩
    by_cases hin : 0 ≤ n ∧ n ≤ 4611686018427387904
    · have hn : Num (str (putL n)).data.toList n := ⟨hin, rfl⟩
      rw [if_pos hin, decide_eq_true hin]
      rcases h with ⟨m, rfl, hm⟩ | ⟨_, hno⟩
      · rw [num_one hm hn]
      · exact absurd hn (hno n)
    · rw [if_neg hin, decide_eq_false hin]
      rcases h with ⟨m, rfl, hm⟩ | ⟨rfl, hno⟩
      · have e := hm.2
        rw [str_data, putL_out hin, putL_in hm.1] at e
        exact absurd e (dec_ne _)
      · rfl

theorem id_in {w W : World} (hN : NumV w) (hb : Below w.heap.size w W) (c : UInt8) (n : Int) :
    Calls Tryd.prog 19 #[.int .u8 c.toNat, .string (str (putI c n))] W fun e w' => e = .returned (.tuple #[.int .i64 (if 1 ≤ n ∧ n ≤ 4611686018427387904 then n else 0), .bool (decide (1 ≤ n ∧ n ≤ 4611686018427387904))]) ∧ Below w.heap.size w w' :=
  (id_any c (str (putI c n)) W (hN.below hb) (by rw [str_size]; unfold putI; split; (have := putL_length n; simp; omega); simp)).mono fun e w' ⟨h, hb2⟩ => by
    refine ⟨?_, hb.trans (hb2.mono hb.size)⟩
    by_cases hin : 1 ≤ n ∧ n ≤ 4611686018427387904
    · have hn : IsId c (str (putI c n)).data.toList n := ⟨putL n, by rw [str_data, putI_in hin], ⟨⟨by omega, hin.2⟩, rfl⟩, hin.1⟩
      rw [if_pos hin, decide_eq_true hin]
      rcases h with ⟨m, rfl, hm⟩ | ⟨_, hno⟩
      · rw [id_one hm hn]
      · exact absurd hn (hno n)
    · rw [if_neg hin, decide_eq_false hin]
      rcases h with ⟨m, rfl, hm⟩ | ⟨rfl, hno⟩
      · obtain ⟨r, e, _⟩ := hm
        rw [str_data, putI_out hin] at e
        cases e
      · rfl

/-- A numeral's digits: what stands at each place; no needless zero. -/
theorem put_digit (n : Int) (k : Nat) (h : k < (str (putL n)).size) : 48 ≤ (str (putL n))[k].toNat ∧ (str (putL n))[k].toNat ≤ 57 := by
  have hm : (str (putL n))[k] ∈ putL n := byte_mem (str (putL n)) k h
  generalize (str (putL n))[k] = c at hm ⊢
  have hin : 0 ≤ n ∧ n ≤ 4611686018427387904 := putL_bounds (by intro e; rw [e] at hm; cases hm)
  rw [putL_in hin] at hm
  exact dec_digit _ _ hm
theorem dec_head (u : Nat) (h : u ≠ 0) : ∀ c r, Go.Lib.decDigits u = c :: r → c.toNat ≠ 48 := by
  induction u using Nat.strongRecOn with
  | _ u ih =>
    intro c r e
    by_cases h10 : u < 10
    · rw [dec_small h10] at e
      injection e with e1 _
      rw [← e1, digit_nat h10]
      omega
    · rw [dec_big h10] at e
      cases hd : Go.Lib.decDigits (u / 10) with
      | nil => exact absurd hd (dec_ne _)
      | cons c' r' =>
        rw [hd] at e
        injection e with e1 _
        rw [← e1]
        exact ih (u / 10) (by omega) (by omega) c' r' hd
theorem put_head (n : Int) (hn : n ≠ 0) (h : 0 < (str (putL n)).size) : (str (putL n))[0].toNat ≠ 48 := by
  have hc : putL n = (str (putL n))[0] :: ((str (putL n)).extract 1 (str (putL n)).size).data.toList := head_cons0 (str (putL n)) h
  generalize (str (putL n))[0] = c at hc ⊢
  generalize ((str (putL n)).extract 1 (str (putL n)).size).data.toList = r at hc
  have hin : 0 ≤ n ∧ n ≤ 4611686018427387904 := putL_bounds (by rw [hc]; simp)
  rw [putL_in hin] at hc
  exact dec_head n.toNat (by omega) _ _ hc

theorem putFive {w W : World} (hN : NumV w) (hb : Below w.heap.size w W) :
    Calls Tryd.prog 16 #[.int .i64 5] W fun e w' => e = .returned (.string ⟨#[53]⟩) ∧ Below w.heap.size w w' :=
  (putNumber_any 5 W (hN.below hb) (by omega) (by omega)).mono fun e w' ⟨h, hb2⟩ => ⟨h.trans (ret_str (by decide +kernel)), hb.trans (hb2.mono hb.size)⟩

set_option maxHeartbeats 2000000 in
/-- Beyond the bounds. -/
theorem counts_out (c : UInt8) (n : Int) (w : World) (hN : NumV w) (x0 : -9223372036854775808 ≤ n) (x1 : n ≤ 9223372036854775807) (hout : n < 0 ∨ 4611686018427387904 < n) :
    Calls Tryd.prog 6 #[.int .i64 n, .int .u8 c.toNat] w fun e w' => e = .returned (.bool true) ∧ Below w.heap.size w w' := by
  have e0 : ¬ (0 ≤ n ∧ n ≤ 4611686018427387904) := by omega
  have e1 : ¬ (1 ≤ n ∧ n ≤ 4611686018427387904) := by omega
  have V1 : Hid (∀ W, Below w.heap.size w W → Calls Tryd.prog 16 #[.int .i64 n] W fun e w' => e = .returned (.string ⟨#[]⟩) ∧ Below w.heap.size w w') := fun W hb =>
    (putNumber_any n W (hN.below hb) x0 x1).mono fun e w' ⟨h, hb2⟩ => ⟨h.trans (ret_str (by rw [putL_out e0]; rfl)), hb.trans (hb2.mono hb.size)⟩
  have V2 : Hid (∀ W, Below w.heap.size w W → Calls Tryd.prog 14 #[.string ⟨#[]⟩] W fun e w' => e = .returned (.tuple #[.int .i64 0, .bool false]) ∧ Below w.heap.size w w') := fun W hb => by
    have h := number_in hN hb n
    rw [if_neg e0, decide_eq_false e0, putL_out e0] at h
    exact h
  have V3 : Hid (∀ W, Below w.heap.size w W → Calls Tryd.prog 18 #[.int .u8 c.toNat, .int .i64 n] W fun e w' => e = .returned (.string ⟨#[]⟩) ∧ Below w.heap.size w w') := fun W hb =>
    (putId_any c n W (hN.below hb) x0 x1).mono fun e w' ⟨h, hb2⟩ => ⟨h.trans (ret_str (by rw [putI_out e1]; rfl)), hb.trans (hb2.mono hb.size)⟩
  have V4 : Hid (∀ W, Below w.heap.size w W → Calls Tryd.prog 19 #[.int .u8 c.toNat, .string ⟨#[]⟩] W fun e w' => e = .returned (.tuple #[.int .i64 0, .bool false]) ∧ Below w.heap.size w w') := fun W hb => by
    have h := id_in hN hb c n
    rw [if_neg e1, decide_eq_false e1, putI_out e1] at h
    exact h
  clear e0 e1
  have hb0 := Below.refl w.heap.size w
  rcases hout with hlo | hhi
  all_goals
    go_enter Tryd.func6, Tryd.ntmps6
    go_wp2_with fail
    refine (V1.out _ hb0).mono ?_
    rintro e w1 ⟨rfl, hb1⟩
    go_wp2_with fail
    refine (V2.out _ hb1).mono ?_
    rintro e w2 ⟨rfl, hb2⟩
    go_wp2
    go_loop [8] (fun i => i = .int .i64 0) (fun i => 0)
    case atStart => rfl
    case round =>
      obtain rfl := hrel
      go_wp2_with fail
      refine (V3.out _ hb2).mono ?_
      rintro e w3 ⟨rfl, hb3⟩
      go_wp2_with fail
      refine (V4.out _ hb3).mono ?_
      rintro e w4 ⟨rfl, hb4⟩
      go_wp2_with fail
      refine (putFive hN hb4).mono ?_
      rintro e w5 ⟨rfl, hb5⟩
      go_wp2
      all_goals go_ret
      all_goals exact ⟨rfl, hb5⟩

set_option maxHeartbeats 2000000 in
/-- At nought. -/
theorem counts_zero (c : UInt8) (w : World) (hN : NumV w) :
    Calls Tryd.prog 6 #[.int .i64 0, .int .u8 c.toNat] w fun e w' => e = .returned (.bool true) ∧ Below w.heap.size w w' := by
  have e0 : (0 : Int) ≤ 0 ∧ (0 : Int) ≤ 4611686018427387904 := by omega
  have e1 : ¬ ((1 : Int) ≤ 0 ∧ (0 : Int) ≤ 4611686018427387904) := by omega
  have ez : str (putL 0) = ⟨#[48]⟩ := by decide +kernel
  have V1 : Hid (∀ W, Below w.heap.size w W → Calls Tryd.prog 16 #[.int .i64 0] W fun e w' => e = .returned (.string ⟨#[48]⟩) ∧ Below w.heap.size w w') := fun W hb =>
    (putNumber_any 0 W (hN.below hb) (by omega) (by omega)).mono fun e w' ⟨h, hb2⟩ => ⟨h.trans (ret_str ez), hb.trans (hb2.mono hb.size)⟩
  have V2 : Hid (∀ W, Below w.heap.size w W → Calls Tryd.prog 14 #[.string ⟨#[48]⟩] W fun e w' => e = .returned (.tuple #[.int .i64 0, .bool true]) ∧ Below w.heap.size w w') := fun W hb => by
    have h := number_in hN hb 0
    rw [if_pos e0, decide_eq_true e0, ez] at h
    exact h
  have V3 : Hid (∀ W, Below w.heap.size w W → Calls Tryd.prog 18 #[.int .u8 c.toNat, .int .i64 0] W fun e w' => e = .returned (.string ⟨#[]⟩) ∧ Below w.heap.size w w') := fun W hb =>
    (putId_any c 0 W (hN.below hb) (by omega) (by omega)).mono fun e w' ⟨h, hb2⟩ => ⟨h.trans (ret_str (by rw [putI_out e1]; rfl)), hb.trans (hb2.mono hb.size)⟩
  have V4 : Hid (∀ W, Below w.heap.size w W → Calls Tryd.prog 19 #[.int .u8 c.toNat, .string ⟨#[]⟩] W fun e w' => e = .returned (.tuple #[.int .i64 0, .bool false]) ∧ Below w.heap.size w w') := fun W hb => by
    have h := id_in hN hb c 0
    rw [if_neg e1, decide_eq_false e1, putI_out e1] at h
    exact h
  clear e0 e1 ez
  have hb0 := Below.refl w.heap.size w
  go_enter Tryd.func6, Tryd.ntmps6
  go_wp2_with fail
  refine (V1.out _ hb0).mono ?_
  rintro e w1 ⟨rfl, hb1⟩
  go_wp2_with fail
  refine (V2.out _ hb1).mono ?_
  rintro e w2 ⟨rfl, hb2⟩
  go_wp2
  go_loop [8] (fun i => i = .int .i64 0 ∨ i = .int .i64 1) (fun i => 1 - (intOf i).toNat)
  case atStart => exact .inl rfl
  case round =>
    rcases hrel with rfl | rfl
    · go_wp2
      go_round
      case rel => exact .inr rfl
      case measure => simp [intOf]
    · go_wp2_with fail
      refine (V3.out _ hb2).mono ?_
      rintro e w3 ⟨rfl, hb3⟩
      go_wp2_with fail
      refine (V4.out _ hb3).mono ?_
      rintro e w4 ⟨rfl, hb4⟩
      go_wp2_with fail
      refine (putFive hN hb4).mono ?_
      rintro e w5 ⟨rfl, hb5⟩
      go_wp2
      all_goals go_ret
      all_goals exact ⟨rfl, hb5⟩

set_option maxHeartbeats 4000000 in
/-- Within the bounds. -/
theorem counts_in (c : UInt8) (n : Int) (w : World) (hN : NumV w) (x0 : 1 ≤ n) (x1 : n ≤ 4611686018427387904) :
    Calls Tryd.prog 6 #[.int .i64 n, .int .u8 c.toNat] w fun e w' => e = .returned (.bool true) ∧ Below w.heap.size w w' := by
  have e0 : 0 ≤ n ∧ n ≤ 4611686018427387904 := by omega
  have e1 : 1 ≤ n ∧ n ≤ 4611686018427387904 := by omega
  have V1 : Hid (∀ W, Below w.heap.size w W → Calls Tryd.prog 16 #[.int .i64 n] W fun e w' => e = .returned (.string (str (putL n))) ∧ Below w.heap.size w w') := fun W hb =>
    (putNumber_any n W (hN.below hb) (by omega) (by omega)).mono fun e w' ⟨h, hb2⟩ => ⟨h, hb.trans (hb2.mono hb.size)⟩
  have V2 : Hid (∀ W, Below w.heap.size w W → Calls Tryd.prog 14 #[.string (str (putL n))] W fun e w' => e = .returned (.tuple #[.int .i64 n, .bool true]) ∧ Below w.heap.size w w') := fun W hb => by
    have h := number_in hN hb n
    rw [if_pos e0, decide_eq_true e0] at h
    exact h
  have V3 : Hid (∀ W, Below w.heap.size w W → Calls Tryd.prog 18 #[.int .u8 c.toNat, .int .i64 n] W fun e w' => e = .returned (.string (str (c :: putL n))) ∧ Below w.heap.size w w') := fun W hb =>
    (putId_any c n W (hN.below hb) (by omega) (by omega)).mono fun e w' ⟨h, hb2⟩ => ⟨h.trans (ret_str (by rw [putI_in e1])), hb.trans (hb2.mono hb.size)⟩
  have V4 : Hid (∀ W, Below w.heap.size w W → Calls Tryd.prog 19 #[.int .u8 c.toNat, .string (str (c :: putL n))] W fun e w' => e = .returned (.tuple #[.int .i64 n, .bool true]) ∧ Below w.heap.size w w') := fun W hb => by
    have h := id_in hN hb c n
    rw [if_pos e1, decide_eq_true e1, putI_in e1] at h
    exact h
  have hc0 : ∀ W : World, (convert 35 9 (.slice (some ⟨W.heap.size, 0, none⟩) 1 1)).run Tryd.prog (W.alloc (.cells #[.int .u8 (c.toNat : Int)] 5)) = .ok (.string (str [c])) (W.alloc (.cells #[.int .u8 (c.toNat : Int)] 5)) := fun W =>
    (Owns.made W W.heap.size [c] (Nat.le_refl _) (show 1 ≤ maxLen by decide)).text (P := Tryd.prog) 35 9 5 Tryd.underlying35 Tryd.underlying5 Tryd.underlying9
  have z1 : (str [c]).size = 1 := rfl
  have z2 : (str (putL n)).size ≤ 19 := by rw [str_size]; exact putL_length _
  have q1 : ((str (c :: putL n)).toList == (str [c] ++ str (putL n)).toList) = true := by rw [str_cat]; simp
  have hn0 : (n != 0) = true := by rw [bne_iff_ne]; omega
  have HD : Hid (∀ k (h : k < (str (putL n)).size), 48 ≤ (str (putL n))[k].toNat ∧ (str (putL n))[k].toNat ≤ 57) := put_digit n
  have HZ : Hid (∀ (h : 0 < (str (putL n)).size), (str (putL n))[0].toNat ≠ 48) := put_head n (by omega)
  clear e0 e1
  have hb0 := Below.refl w.heap.size w
  go_enter Tryd.func6, Tryd.ntmps6
  go_wp2_with fail
  refine (V1.out _ hb0).mono ?_
  rintro e w1 ⟨rfl, hb1⟩
  go_wp2_with fail
  refine (V2.out _ hb1).mono ?_
  rintro e w2 ⟨rfl, hb2⟩
  go_wp2
  go_loop [8] (fun i => ∃ k : Nat, k ≤ (str (putL n)).size ∧ i = .int .i64 k) (fun i => (str (putL n)).size - (intOf i).toNat)
  case atStart => exact ⟨0, Nat.zero_le _, rfl⟩
  case round =>
    obtain ⟨k, hk, rfl⟩ := hrel
    by_cases hlt : k < (str (putL n)).size
    · have hp : 0 < (str (putL n)).size := by omega
      have d1 := (HD.out k hlt).1
      have d2 := (HD.out k hlt).2
      have d1' : ¬ ((str (putL n))[k].toNat : Int) < 48 := by omega
      have d2' : ¬ 57 < ((str (putL n))[k].toNat : Int) := by omega
      have d3 : (((str (putL n))[0].toNat : Int) == 48) = false := by rw [beq_eq_false_iff_ne]; have := HZ.out hp; omega
      by_cases hk0 : k = 0
      · have hk1 : ((k : Int) == 0) = true := by rw [hk0]; rfl
        clear hk0 d1 d2
        go_wp2
        all_goals
          go_round
          case rel => exact ⟨k + 1, by omega, by go_num⟩
          case measure => simp [intOf]; omega
      · have hk1 : ((k : Int) == 0) = false := by rw [beq_eq_false_iff_ne]; omega
        clear hk0 d1 d2
        go_wp2
        all_goals
          go_round
          case rel => exact ⟨k + 1, by omega, by go_num⟩
          case measure => simp [intOf]; omega
    · go_wp2_with fail
      refine (V3.out _ hb2).mono ?_
      rintro e w3 ⟨rfl, hb3⟩
      go_wp2_with fail
      refine (V4.out _ hb3).mono ?_
      rintro e w4 ⟨rfl, hb4⟩
      go_wp2
      all_goals go_ret
      all_goals exact ⟨rfl, hb4.alloc hb4.size _⟩

theorem octalCounts_walk (a0 a1 : Int) (w0 : (Lit.int .i64 a0).wf = true) (w1 : (Lit.int .u8 a1).wf = true) (w : World) (hN : NumV w) :
    Calls Tryd.prog 6 #[.int .i64 a0, .int .u8 a1] w fun e w' => e = .returned (.bool true) ∧ Below w.heap.size w w' := by
  obtain ⟨c, rfl⟩ := byte_of w1
  have hx : -9223372036854775808 ≤ a0 ∧ a0 ≤ 9223372036854775807 := by simpa [Lit.wf, IntKind.min, IntKind.max, IntKind.signed, IntKind.bits] using w0
  by_cases hout : a0 < 0 ∨ 4611686018427387904 < a0
  · exact counts_out c a0 w hN hx.1 hx.2 hout
  · by_cases hz : a0 = 0
    · subst hz
      exact counts_zero c w hN
    · exact counts_in c a0 w hN (by omega) (by omega)
end Go.Proofs.YtkdfpoficieknabDoor
