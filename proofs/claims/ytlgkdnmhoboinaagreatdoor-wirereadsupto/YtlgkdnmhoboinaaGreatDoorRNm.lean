/-
  The document's numbers and ids (mullionref01), by the same plain functions.
  The document's names and words (mullionref01).
-/
import Derived.Test.YtlgkdnmhoboinaaGreatDoorOctD
import Derived.Test.YtlgkdnmhoboinaaGreatDoorNameA
import Derived.WalkKit
import Derived.RegionTactic
import Derived.Deep.RegionWith
import Derived.Deep.DrawnRows
import Derived.Lib.AppendStr
namespace Go.Proofs.YtlgkdnmhoboinaaGreatDoor
open Go.RowKit
open Go.Lib (decDigits atoiAll)
set_option linter.unusedVariables false

theorem refPutNumber_nat : ∀ (m : Nat) (n : Int) (w : World), n.toNat = m → -9223372036854775808 ≤ n → n ≤ 9223372036854775807 →
    Calls Tryz.prog 84 #[.int .i64 n] w fun e w' => e = .returned (.string (str (putL n))) ∧ Below w.heap.size w w' := by
  intro m
  induction m using Nat.strongRecOn with
  | _ m ih =>
    intro n w hm h0 h1
    have IH := (show Hid _ from ih)
    clear ih
    by_cases hneg : n < 0
    · have HE : Hid (putL n = []) := putL_out (by omega)
      rw [HE.out]
      clear hm
      go_enter Tryz.func84, Tryz.ntmps84
      go_wp2
      go_ret
      exact ⟨rfl, Below.refl _ _⟩
    · by_cases hbig : 4611686018427387904 < n
      · have HE : Hid (putL n = []) := putL_out (by omega)
        rw [HE.out]
        clear hm
        go_enter Tryz.func84, Tryz.ntmps84
        go_wp2
        go_ret
        exact ⟨rfl, Below.refl _ _⟩
      · by_cases h10 : n < 10
        · obtain ⟨c, hc⟩ : ∃ c : UInt8, 48 + n = (c.toNat : Int) := ⟨UInt8.ofNat (48 + n.toNat), by rw [UInt8.toNat_ofNat']; omega⟩
          have HE : Hid (putL n = [c]) := putL_one (by omega) h10 hc
          rw [HE.out]
          have hcv := (Owns.made w w.heap.size [c] (Nat.le_refl _) (show 1 ≤ maxLen by decide)).text (P := Tryz.prog) 42 9 5 Tryz.underlying42 Tryz.underlying5 Tryz.underlying9
          have hcw : (convert 42 9 (.slice (some ⟨w.heap.size, 0, none⟩) 1 1)).run Tryz.prog (w.alloc (.cells #[.int .u8 (c.toNat : Int)] 5)) = .ok (.string (str [c])) (w.alloc (.cells #[.int .u8 (c.toNat : Int)] 5)) := hcv
          have hcb : c.toNat < 256 := UInt8.toNat_lt c
          clear hcv hm
          go_enter Tryz.func84, Tryz.ntmps84
          go_wp2
          go_ret
          exact ⟨rfl, (Below.refl _ _).alloc (Nat.le_refl _) _⟩
        · have HE : Hid (putL n = putL (n / 10) ++ putL (n % 10)) := putL_more (by omega) (by omega)
          obtain ⟨q, hq⟩ : ∃ q, n / 10 = q := ⟨_, rfl⟩
          obtain ⟨r, hr⟩ : ∃ r, n % 10 = r := ⟨_, rfl⟩
          rw [HE.out, hq, hr]
          have A1 : Hid (∀ W, Calls Tryz.prog 84 #[.int .i64 q] W fun e w' => e = .returned (.string (str (putL q))) ∧ Below W.heap.size W w') := fun W => IH.out q.toNat (by omega) q W rfl (by omega) (by omega)
          have A2 : Hid (∀ W, Calls Tryz.prog 84 #[.int .i64 r] W fun e w' => e = .returned (.string (str (putL r))) ∧ Below W.heap.size W w') := fun W => IH.out r.toNat (by omega) r W rfl (by omega) (by omega)
          have z1 : (str (putL q)).size ≤ 19 := by rw [str_size]; exact putL_length _
          have z2 : (str (putL r)).size ≤ 19 := by rw [str_size]; exact putL_length _
          clear IH hm HE
          go_enter Tryz.func84, Tryz.ntmps84
          go_wp2_with fail
          refine (A1.out _).mono ?_
          rintro e w1 ⟨rfl, hb1⟩
          go_wp2_with fail
          refine (A2.out _).mono ?_
          rintro e w2 ⟨rfl, hb2⟩
          go_wp2
          go_ret
          exact ⟨ret_str (str_cat _ _), hb1.trans (hb2.mono hb1.size)⟩


theorem refPutNumber_any (n : Int) (w : World) (h0 : -9223372036854775808 ≤ n) (h1 : n ≤ 9223372036854775807) :
    Calls Tryz.prog 84 #[.int .i64 n] w fun e w' => e = .returned (.string (str (putL n))) ∧ Below w.heap.size w w' :=
  refPutNumber_nat n.toNat n w rfl h0 h1


set_option maxHeartbeats 2000000 in
theorem refNumber_any (s : ByteArray) (w : World) (hs : s.size ≤ 140737488355328) :
    Calls Tryz.prog 52 #[.string s] w fun e w' =>
      ((∃ n, e = .returned (.tuple #[.int .i64 n, .bool true]) ∧ Num s.data.toList n) ∨ (e = .returned (.tuple #[.int .i64 0, .bool false]) ∧ ∀ n, ¬ Num s.data.toList n)) ∧ Below w.heap.size w w' := by
  go_enter Tryz.func52, Tryz.ntmps52
  go_wp2
  go_loop [4, 5] (fun m i => ∃ (k : Nat) (a : Int), k ≤ s.size ∧ i = .int .i64 k ∧ m = .int .i64 a ∧ 0 ≤ a ∧ a ≤ 4611686018427387909 ∧ Hid ((val 0 (s.data.toList.take k) : Int) = a)) (fun _ i => s.size - (intOf i).toNat)
  case atStart => exact ⟨0, 0, Nat.zero_le _, rfl, rfl, by omega, by omega, rfl⟩
  case round =>
    obtain ⟨k, a, hk, rfl, rfl, ha0, ha1, HV⟩ := hrel
    by_cases hlt : k < s.size
    · by_cases hbad : s[k].toNat < 48 ∨ 57 < s[k].toNat ∨ 18 < k ∨ 461168601842738790 < a
      · have HN : Hid (∀ n, ¬ Num s.data.toList n) := fun n hn => by
          have d := num_digit hn s[k] (byte_mem s k hlt)
          have e1 := num_val hn
          have e2 := num_length hn
          rw [size_data] at e2
          have e3 := val_take s (k + 1)
          rw [take_snoc s k hlt, val_snoc] at e3
          have e4 := HV.out
          have e5 := hn.1
          omega
        have HB : Hid (s[k].toNat < 48 ∨ 57 < s[k].toNat ∨ 18 < k ∨ 461168601842738790 < a) := hbad
        clear hbad
        go_wp2
        all_goals first
          | (go_ret2; exact ⟨.inr ⟨rfl, HN.out⟩, Below.refl _ _⟩)
          | (exfalso; have := HB.out; omega)
      · have b1 : ¬ (s[k].toNat : Int) < 48 := by omega
        have b2 : ¬ 57 < (s[k].toNat : Int) := by omega
        have b3 : ¬ 18 < (k : Int) := by omega
        have b4 : ¬ 461168601842738790 < a := by omega
        have HS : Hid ((val 0 (s.data.toList.take (k + 1)) : Int) = 10 * a + ((s[k].toNat : Int) - 48)) := by
          show _ = _
          have e4 := HV.out
          rw [take_snoc s k hlt, val_snoc]
          omega
        clear hbad HV
        go_wp2
        go_round
        case rel => exact ⟨k + 1, 10 * a + ((s[k].toNat : Int) - 48), by omega, by go_num, by go_num, by omega, by omega, HS⟩
        case measure => simp [intOf]; omega
    · have HV' : Hid ((val 0 s.data.toList : Int) = a) := by
        have := HV.out
        rw [show k = s.size by omega, take_all] at this
        exact this
      clear HV
      by_cases h0 : s.size = 0
      · have he := empty_of0 s h0
        have HN : Hid (∀ n, ¬ Num s.data.toList n) := fun n hn => by
          have e1 := hn.2
          rw [putL_in hn.1, ← Lib.toList_data, he] at e1
          exact dec_ne _ e1
        go_wp2
        all_goals go_ret2
        exact ⟨.inr ⟨rfl, HN.out⟩, Below.refl _ _⟩
      · obtain ⟨hne, hne'⟩ := toList_ne0 (s := s) (by omega)
        have HU : Hid (∀ n, Num s.data.toList n → n = a) := fun n hn => by
          have := num_val hn
          have := HV'.out
          omega
        by_cases he : ((str (putL a)).toList == s.toList) = true
        · have HM : Hid (Num s.data.toList a) := num_of_eq (by omega) he
          go_wp2_with (go_at_call 84; refine (refPutNumber_any a _ (by omega) (by omega)).mono ?_; rintro e w2 ⟨rfl, hb2⟩)
          all_goals go_ret2
          exact ⟨.inl ⟨a, rfl, HM.out⟩, hb2⟩
        · have he' : ((str (putL a)).toList == s.toList) = false := by simpa using he
          have HM : Hid (∀ n, ¬ Num s.data.toList n) := no_num HU.out he'
          clear he
          go_wp2_with (go_at_call 84; refine (refPutNumber_any a _ (by omega) (by omega)).mono ?_; rintro e w2 ⟨rfl, hb2⟩)
          all_goals go_ret2
          exact ⟨.inr ⟨rfl, HM.out⟩, hb2⟩

set_option maxRecDepth 20000 in
set_option maxHeartbeats 1000000 in
theorem refPutId_any (c : UInt8) (n : Int) (w : World) (h0 : -9223372036854775808 ≤ n) (h1 : n ≤ 9223372036854775807) :
    Calls Tryz.prog 78 #[.int .u8 c.toNat, .int .i64 n] w fun e w' => e = .returned (.string (str (putI c n))) ∧ Below w.heap.size w w' := by
  by_cases hin : 1 ≤ n ∧ n ≤ 4611686018427387904
  · have HE : Hid (putI c n = c :: putL n) := putI_in hin
    rw [HE.out]
    obtain ⟨i0, i1⟩ := hin
    have z1 : (str [c]).size = 1 := rfl
    have z2 : (str (putL n)).size ≤ 19 := by rw [str_size]; exact putL_length _
    have hc0 : ∀ W : World, (convert 42 9 (.slice (some ⟨W.heap.size, 0, none⟩) 1 1)).run Tryz.prog (W.alloc (.cells #[.int .u8 (c.toNat : Int)] 5)) = .ok (.string (str [c])) (W.alloc (.cells #[.int .u8 (c.toNat : Int)] 5)) := fun W =>
      (Owns.made W W.heap.size [c] (Nat.le_refl _) (show 1 ≤ maxLen by decide)).text (P := Tryz.prog) 42 9 5 Tryz.underlying42 Tryz.underlying5 Tryz.underlying9
    have hc1 : ∀ W : World, (convert 42 9 (.slice (some ⟨W.heap.size, 0, none⟩) 1 1)).run Tryz.prog (W.alloc (.cells #[.int .u8 (c.toNat : Int)] 5)).drew = .ok (.string (str [c])) (W.alloc (.cells #[.int .u8 (c.toNat : Int)] 5)).drew := fun W =>
      Owns.text (P := Tryz.prog) (w := (W.alloc (.cells #[.int .u8 (c.toNat : Int)] 5)).drew) (B := W.heap.size) (Owns.made W W.heap.size [c] (Nat.le_refl _) (show 1 ≤ maxLen by decide)) 42 9 5 Tryz.underlying42 Tryz.underlying5 Tryz.underlying9
    go_enter Tryz.func78, Tryz.ntmps78
    go_wp2_with fail
    go_region_with (go_at_call 84; refine (refPutNumber_any n _ h0 h1).mono ?_; rintro e w2 ⟨rfl, hb2⟩; (try have hc2 := kept_text hb2))
    all_goals go_wp2
    all_goals go_ret
    all_goals first
      | exact ⟨ret_str (str_cat [c] (putL n)), (Below.refl _ _).drew.trans (((Below.refl _ _).alloc (Nat.le_refl _) _).trans (hb2.mono (by simp)))⟩
      | exact ⟨ret_str (str_cat [c] (putL n)), ((Below.refl _ _).alloc (Nat.le_refl _) _).drew.trans (hb2.mono (by simp))⟩
      | exact ⟨ret_str (str_cat [c] (putL n)), ((Below.refl w.heap.size w).drew.trans hb2).alloc hb2.size _⟩
      | go_show
  · have HE : Hid (putI c n = []) := putI_out hin
    rw [HE.out]
    by_cases hlo : n < 1
    · go_enter Tryz.func78, Tryz.ntmps78
      go_wp2
      go_ret
      exact ⟨rfl, Below.refl _ _⟩
    · have hbig : 4611686018427387904 < n := by omega
      go_enter Tryz.func78, Tryz.ntmps78
      go_wp2
      go_ret
      exact ⟨rfl, Below.refl _ _⟩

set_option maxHeartbeats 1000000 in
theorem refId_any (c : UInt8) (s : ByteArray) (w : World) (hs : s.size ≤ 140737488355328) :
    Calls Tryz.prog 53 #[.int .u8 c.toNat, .string s] w fun e w' =>
      ((∃ n, e = .returned (.tuple #[.int .i64 n, .bool true]) ∧ IsId c s.data.toList n) ∨ (e = .returned (.tuple #[.int .i64 0, .bool false]) ∧ ∀ n, ¬ IsId c s.data.toList n)) ∧ Below w.heap.size w w' := by
  by_cases h0 : s.size = 0
  · have he := empty_of0 s h0
    have HN : Hid (∀ n, ¬ IsId c s.data.toList n) := id_none c _ (by rw [← Lib.toList_data, he]; simp)
    go_enter Tryz.func53, Tryz.ntmps53
    go_wp2
    all_goals go_ret2
    all_goals exact ⟨.inr ⟨rfl, HN.out⟩, Below.refl _ _⟩
  · have hp : 0 < s.size := by omega
    obtain ⟨hne, hne'⟩ := toList_ne0 hp
    have h1 : (1 : Int) ≤ (s.size : Int) := by omega
    by_cases hc : s[0] = c
    · have HT : Hid (s.data.toList = c :: (s.extract 1 s.size).data.toList) := by
        have := head_cons0 s hp
        rw [hc] at this
        exact this
      have hc' : ((s[0].toNat : Int) != (c.toNat : Int)) = false := by rw [hc]; simp
      have hx : (s.extract 1 s.size).size ≤ 140737488355328 := by simp; omega
      clear hc
      go_enter Tryz.func53, Tryz.ntmps53
      go_wp2_with fail
      refine (refNumber_any _ _ hx).mono ?_
      obtain ⟨q, hq⟩ := hid_ex (s.extract 1 s.size).data.toList
      rw [hq.out]
      rintro e w1 ⟨h, hb1⟩
      rcases h with ⟨n, rfl, hn⟩ | ⟨rfl, hno⟩
      · have hnb := hn.1
        by_cases hz : n < 1
        · have HN : Hid (∀ m, ¬ IsId c s.data.toList m) := fun m hm => by
            obtain ⟨e1, e2⟩ := id_tail (HT.out.trans (by rw [hq.out])) hm
            have := num_val e1
            have := num_val hn
            omega
          clear hn
          go_wp2
          all_goals go_ret2
          all_goals exact ⟨.inr ⟨rfl, HN.out⟩, hb1⟩
        · have HI : Hid (IsId c s.data.toList n) := ⟨_, HT.out.trans (by rw [hq.out]), hn, by omega⟩
          clear hn
          go_wp2
          all_goals go_ret2
          all_goals exact ⟨.inl ⟨n, rfl, HI.out⟩, hb1⟩
      · have HN : Hid (∀ m, ¬ IsId c s.data.toList m) := fun m hm => hno m (id_tail (HT.out.trans (by rw [hq.out])) hm).1
        clear hno
        go_wp2
        all_goals go_ret2
        all_goals exact ⟨.inr ⟨rfl, HN.out⟩, hb1⟩
    · have HN : Hid (∀ m, ¬ IsId c s.data.toList m) := id_none c _ (fun r e => by rw [head_cons0 s hp] at e; injection e with e1 _; exact hc e1)
      have hc' : ((s[0].toNat : Int) != (c.toNat : Int)) = true := by
        rw [bne_iff_ne]
        intro e
        exact hc (UInt8.toNat_inj.1 (by omega))
      clear hc
      go_enter Tryz.func53, Tryz.ntmps53
      go_wp2
      all_goals go_ret2
      all_goals exact ⟨.inr ⟨rfl, HN.out⟩, Below.refl _ _⟩

end Go.Proofs.YtlgkdnmhoboinaaGreatDoor

namespace Go.Proofs.YtlgkdnmhoboinaaGreatDoor
open Go.RowKit
set_option linter.unusedVariables false

theorem holds_any (s : ByteArray) (c : UInt8) (w : World) (hs : s.size ≤ maxLen) :
    Calls Tryz.prog 121 #[.string s, .int .u8 c.toNat] w fun e w' => e = .returned (.bool (has s c)) ∧ w = w' := by
  unfold maxLen at hs
  go_enter Tryz.func121, Tryz.ntmps121
  go_wp2
  go_loop [5] (fun i => ∃ k : Nat, k ≤ s.size ∧ i = .int .i64 k ∧ ∀ j (hj : j < s.size), j < k → s[j] ≠ c) (fun i => s.size - (intOf i).toNat)
  case atStart => exact ⟨0, Nat.zero_le _, rfl, fun j _ h => by omega⟩
  case round =>
    obtain ⟨k, hk, rfl, hno⟩ := hrel
    by_cases hlt : k < s.size
    · have HN : Hid (∀ j (hj : j < s.size), j < k → s[j] ≠ c) := hno
      clear hno
      by_cases he : ((s[k].toNat : Int) == (c.toNat : Int)) = true
      · go_wp2
        go_ret
        exact ⟨ret_bool (has_of_lt k hlt (UInt8.toNat_inj.1 (by have := eq_of_beq he; omega))).symm, rfl⟩
      · have he' : ((s[k].toNat : Int) == (c.toNat : Int)) = false := by simpa using he
        clear he
        have HE : Hid (s[k] ≠ c) := fun h => by rw [h] at he'; simp at he'
        go_wp2
        go_round
        case rel =>
          refine ⟨k + 1, by omega, by go_num, fun j hj h => ?_⟩
          by_cases hjk : j = k
          · subst hjk; exact HE.out
          · exact HN.out j hj (by omega)
        case measure => simp [intOf]; omega
    · go_wp2
      go_ret
      exact ⟨ret_bool (has_false fun j hj => hno j hj (by omega)).symm, rfl⟩


theorem nb_parts {c : UInt8} (h : nb c = true) : ¬ (c.toNat : Int) < 32 ∧ ¬ 126 < (c.toNat : Int) ∧ ((c.toNat : Int) == 46) = false ∧ ((c.toNat : Int) == 58) = false := by
  have := of_nb_true h
  refine ⟨by omega, by omega, ?_, ?_⟩ <;> (rw [beq_eq_false_iff_ne]; omega)


set_option maxHeartbeats 400000 in
theorem refIsName_any (s : ByteArray) (w : World) (hs : s.size ≤ maxLen) :
    Calls Tryz.prog 79 #[.string s] w fun e w' => e = .returned (.bool (nameB s)) ∧ w = w' := by
  unfold maxLen at hs
  by_cases h0 : s.size = 0
  · obtain rfl : s = ByteArray.empty := ByteArray.size_eq_zero_iff.1 h0
    go_enter Tryz.func79, Tryz.ntmps79
    go_wp2
    all_goals go_ret
    all_goals exact ⟨rfl, rfl⟩
  · have hp : 0 < s.size := by omega
    by_cases h32 : 32 < s.size
    · go_enter Tryz.func79, Tryz.ntmps79
      go_wp2
      all_goals go_ret
      all_goals exact ⟨ret_bool (nameB_out (by omega)).symm, rfl⟩
    · go_enter Tryz.func79, Tryz.ntmps79
      go_wp2
      go_loop [3] (fun i => ∃ k : Nat, k ≤ s.size ∧ i = .int .i64 k ∧ ∀ j (hj : j < s.size), j < k → nb s[j] = true) (fun i => s.size - (intOf i).toNat)
      case atStart => exact ⟨0, Nat.zero_le _, rfl, fun j _ h => by omega⟩
      case round =>
        obtain ⟨k, hk, rfl, hno⟩ := hrel
        have HN : Hid (∀ j (hj : j < s.size), j < k → nb s[j] = true) := hno
        clear hno
        by_cases hlt : k < s.size
        · by_cases hb : nb s[k] = true
          · have HB : Hid (nb s[k] = true) := hb
            obtain ⟨b1, b2, b3, b4⟩ := nb_parts hb
            clear hb
            go_wp2
            go_round
            case rel =>
              refine ⟨k + 1, by omega, by go_num, fun j hj h => ?_⟩
              by_cases hjk : j = k
              · subst hjk; exact HB.out
              · exact HN.out j hj (by omega)
            case measure => simp [intOf]; omega
          · have hb' : nb s[k] = false := by simpa using hb
            have HB : Hid (nb s[k] = false) := hb'
            have HQ : Hid (¬ (32 ≤ s[k].toNat ∧ s[k].toNat ≤ 126 ∧ s[k].toNat ≠ 46 ∧ s[k].toNat ≠ 58)) := of_nb_false hb'
            clear hb hb'
            go_wp2
            all_goals first
              | (go_ret; exact ⟨ret_bool (nameB_bad k hlt HB.out).symm, rfl⟩)
              | (exfalso; have hq := HQ.out; simp only [beq_eq_false_iff_ne] at *; omega)
        · have HB : Hid (nameB s = (!has bars s[0] && decide (s[s.size - 1].toNat ≠ 32))) :=
            nameB_in hp (by omega) (fun j hj => HN.out j hj (by omega))
          cases hh : has bars s[0]
          all_goals
            go_wp2_with (go_at_call 121; refine (holds_any bars _ _ (by decide)).mono ?_; rintro e w' ⟨rfl, rfl⟩)
            all_goals go_ret
            all_goals first
              | exact ⟨ret_bool (end_yes HB.out hh), rfl⟩
              | exact ⟨ret_bool (end_no HB.out hh), rfl⟩


theorem refIsWord_any (s : ByteArray) (w : World) (hs : s.size ≤ maxLen) :
    Calls Tryz.prog 80 #[.string s] w fun e w' => e = .returned (.bool (nameB s && !has s 32)) ∧ w = w' := by
  cases hn : nameB s
  all_goals
    go_enter Tryz.func80, Tryz.ntmps80
    go_wp2_with (first | (go_at_call 79; refine (refIsName_any _ _ hs).mono ?_; rintro e w' ⟨rfl, rfl⟩) | (go_at_call 121; refine (holds_any _ 32 _ hs).mono ?_; rintro e w' ⟨rfl, rfl⟩))
    all_goals go_ret
  · exact ⟨rfl, rfl⟩
  · exact ⟨ret_bool (by simp), rfl⟩


end Go.Proofs.YtlgkdnmhoboinaaGreatDoor
