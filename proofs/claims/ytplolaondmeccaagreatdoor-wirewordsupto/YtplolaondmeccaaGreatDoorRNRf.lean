/-
  The document's numbers and ids (mullionref01), by the same plain functions.
  The document's names and words (mullionref01).
  The walks of the document's Escape and EscapeBody.
  The walks of the document's Unescape and UnescapeBody.
  The walk of the document's UnescapeBody.
-/
import Derived.Test.YtplolaondmeccaaGreatDoorOctD
import Derived.Test.YtplolaondmeccaaGreatDoorNameA
import Derived.Test.YtplolaondmeccaaGreatDoorEscA
import Derived.Test.YtplolaondmeccaaGreatDoorUnB
import Derived.WalkKit
import Derived.RegionTactic
import Derived.Deep.RegionWith
import Derived.Deep.DrawnRows
import Derived.Lib.AppendStr
import Derived.Deep.QuietTactic
import Derived.BigQuiet
namespace Go.Proofs.YtplolaondmeccaaGreatDoor
open Go.RowKit
open Go.Lib (decDigits atoiAll)
set_option linter.unusedVariables false

theorem refPutNumber_nat : ∀ (m : Nat) (n : Int) (w : World), n.toNat = m → -9223372036854775808 ≤ n → n ≤ 9223372036854775807 →
    Calls Tryz.prog 148 #[.int .i64 n] w fun e w' => e = .returned (.string (str (putL n))) ∧ Below w.heap.size w w' := by
  intro m
  induction m using Nat.strongRecOn with
  | _ m ih =>
    intro n w hm h0 h1
    have IH := (show Hid _ from ih)
    clear ih
    by_cases hneg : n < 0
    · have HE : Hid (putL n = []) := putL_out (by omega)
      rw [HE.out]
      clear hm
      go_enter Tryz.func148, Tryz.ntmps148
      go_wp2
      go_ret
      exact ⟨rfl, Below.refl _ _⟩
    · by_cases hbig : 4611686018427387904 < n
      · have HE : Hid (putL n = []) := putL_out (by omega)
        rw [HE.out]
        clear hm
        go_enter Tryz.func148, Tryz.ntmps148
        go_wp2
        go_ret
        exact ⟨rfl, Below.refl _ _⟩
      · by_cases h10 : n < 10
        · obtain ⟨c, hc⟩ : ∃ c : UInt8, 48 + n = (c.toNat : Int) := ⟨UInt8.ofNat (48 + n.toNat), by rw [UInt8.toNat_ofNat']; omega⟩
          have HE : Hid (putL n = [c]) := putL_one (by omega) h10 hc
          rw [HE.out]
          have hcv := (Owns.made w w.heap.size [c] (Nat.le_refl _) (show 1 ≤ maxLen by decide)).text (P := Tryz.prog) 79 9 5 Tryz.underlying79 Tryz.underlying5 Tryz.underlying9
          have hcw : (convert 79 9 (.slice (some ⟨w.heap.size, 0, none⟩) 1 1)).run Tryz.prog (w.alloc (.cells #[.int .u8 (c.toNat : Int)] 5)) = .ok (.string (str [c])) (w.alloc (.cells #[.int .u8 (c.toNat : Int)] 5)) := hcv
          have hcb : c.toNat < 256 := UInt8.toNat_lt c
          clear hcv hm
          go_enter Tryz.func148, Tryz.ntmps148
          go_wp2
          go_ret
          exact ⟨rfl, (Below.refl _ _).alloc (Nat.le_refl _) _⟩
        · have HE : Hid (putL n = putL (n / 10) ++ putL (n % 10)) := putL_more (by omega) (by omega)
          obtain ⟨q, hq⟩ : ∃ q, n / 10 = q := ⟨_, rfl⟩
          obtain ⟨r, hr⟩ : ∃ r, n % 10 = r := ⟨_, rfl⟩
          rw [HE.out, hq, hr]
          have A1 : Hid (∀ W, Calls Tryz.prog 148 #[.int .i64 q] W fun e w' => e = .returned (.string (str (putL q))) ∧ Below W.heap.size W w') := fun W => IH.out q.toNat (by omega) q W rfl (by omega) (by omega)
          have A2 : Hid (∀ W, Calls Tryz.prog 148 #[.int .i64 r] W fun e w' => e = .returned (.string (str (putL r))) ∧ Below W.heap.size W w') := fun W => IH.out r.toNat (by omega) r W rfl (by omega) (by omega)
          have z1 : (str (putL q)).size ≤ 19 := by rw [str_size]; exact putL_length _
          have z2 : (str (putL r)).size ≤ 19 := by rw [str_size]; exact putL_length _
          clear IH hm HE
          go_enter Tryz.func148, Tryz.ntmps148
          go_wp2_with fail
          refine (A1.out _).mono ?_
          rintro e w1 ⟨rfl, hb1⟩
          go_wp2_with fail
          refine (A2.out _).mono ?_
          rintro e w2 ⟨rfl, hb2⟩
          go_wp2
          go_ret
          exact ⟨ret_str (str_cat _ _), hb1.trans (hb2.mono hb1.size)⟩


theorem refPutNumber_any (n : Int) (w : World) (h0 : -9223372036854775808 ≤ n) (h1 : n ≤ 9223372036854775807) :
    Calls Tryz.prog 148 #[.int .i64 n] w fun e w' => e = .returned (.string (str (putL n))) ∧ Below w.heap.size w w' :=
  refPutNumber_nat n.toNat n w rfl h0 h1


set_option maxHeartbeats 2000000 in
theorem refNumber_any (s : ByteArray) (w : World) (hs : s.size ≤ 140737488355328) :
    Calls Tryz.prog 110 #[.string s] w fun e w' =>
      ((∃ n, e = .returned (.tuple #[.int .i64 n, .bool true]) ∧ Num s.data.toList n) ∨ (e = .returned (.tuple #[.int .i64 0, .bool false]) ∧ ∀ n, ¬ Num s.data.toList n)) ∧ Below w.heap.size w w' := by
  go_enter Tryz.func110, Tryz.ntmps110
  go_wp2
  go_loop [4, 5] (fun m i => ∃ (k : Nat) (a : Int), k ≤ s.size ∧ i = .int .i64 k ∧ m = .int .i64 a ∧ 0 ≤ a ∧ a ≤ 4611686018427387909 ∧ Hid ((val 0 (s.data.toList.take k) : Int) = a)) (fun _ i => s.size - (intOf i).toNat)
  case atStart => exact ⟨0, 0, Nat.zero_le _, rfl, rfl, by omega, by omega, rfl⟩
  case round =>
    obtain ⟨k, a, hk, rfl, rfl, ha0, ha1, HV⟩ := hrel
    by_cases hlt : k < s.size
    · by_cases hbad : s[k].toNat < 48 ∨ 57 < s[k].toNat ∨ 18 < k ∨ 461168601842738790 < a
      · have HN : Hid (∀ n, ¬ Num s.data.toList n) := fun n hn => by
          have d := num_digit hn s[k] (byte_mem s k hlt)
          have e1 := num_val hn
          have e2 := num_length hn
          rw [size_data] at e2
          have e3 := val_take s (k + 1)
          rw [take_snoc s k hlt, val_snoc] at e3
          have e4 := HV.out
          have e5 := hn.1
          omega
        have HB : Hid (s[k].toNat < 48 ∨ 57 < s[k].toNat ∨ 18 < k ∨ 461168601842738790 < a) := hbad
        clear hbad
        go_wp2
        all_goals first
          | (go_ret2; exact ⟨.inr ⟨rfl, HN.out⟩, Below.refl _ _⟩)
          | (exfalso; have := HB.out; omega)
      · have b1 : ¬ (s[k].toNat : Int) < 48 := by omega
        have b2 : ¬ 57 < (s[k].toNat : Int) := by omega
        have b3 : ¬ 18 < (k : Int) := by omega
        have b4 : ¬ 461168601842738790 < a := by omega
        have HS : Hid ((val 0 (s.data.toList.take (k + 1)) : Int) = 10 * a + ((s[k].toNat : Int) - 48)) := by
          show _ = _
          have e4 := HV.out
          rw [take_snoc s k hlt, val_snoc]
          omega
        clear hbad HV
        go_wp2
        go_round
        case rel => exact ⟨k + 1, 10 * a + ((s[k].toNat : Int) - 48), by omega, by go_num, by go_num, by omega, by omega, HS⟩
        case measure => simp [intOf]; omega
    · have HV' : Hid ((val 0 s.data.toList : Int) = a) := by
        have := HV.out
        rw [show k = s.size by omega, take_all] at this
        exact this
      clear HV
      by_cases h0 : s.size = 0
      · have he := empty_of0 s h0
        have HN : Hid (∀ n, ¬ Num s.data.toList n) := fun n hn => by
          have e1 := hn.2
          rw [putL_in hn.1, ← Lib.toList_data, he] at e1
          exact dec_ne _ e1
        go_wp2
        all_goals go_ret2
        exact ⟨.inr ⟨rfl, HN.out⟩, Below.refl _ _⟩
      · obtain ⟨hne, hne'⟩ := toList_ne0 (s := s) (by omega)
        have HU : Hid (∀ n, Num s.data.toList n → n = a) := fun n hn => by
          have := num_val hn
          have := HV'.out
          omega
        by_cases he : ((str (putL a)).toList == s.toList) = true
        · have HM : Hid (Num s.data.toList a) := num_of_eq (by omega) he
          go_wp2_with (go_at_call 148; refine (refPutNumber_any a _ (by omega) (by omega)).mono ?_; rintro e w2 ⟨rfl, hb2⟩)
          all_goals go_ret2
          exact ⟨.inl ⟨a, rfl, HM.out⟩, hb2⟩
        · have he' : ((str (putL a)).toList == s.toList) = false := by simpa using he
          have HM : Hid (∀ n, ¬ Num s.data.toList n) := no_num HU.out he'
          clear he
          go_wp2_with (go_at_call 148; refine (refPutNumber_any a _ (by omega) (by omega)).mono ?_; rintro e w2 ⟨rfl, hb2⟩)
          all_goals go_ret2
          exact ⟨.inr ⟨rfl, HM.out⟩, hb2⟩

set_option maxRecDepth 20000 in
set_option maxHeartbeats 1000000 in
theorem refPutId_any (c : UInt8) (n : Int) (w : World) (h0 : -9223372036854775808 ≤ n) (h1 : n ≤ 9223372036854775807) :
    Calls Tryz.prog 167 #[.int .u8 c.toNat, .int .i64 n] w fun e w' => e = .returned (.string (str (putI c n))) ∧ Below w.heap.size w w' := by
  by_cases hin : 1 ≤ n ∧ n ≤ 4611686018427387904
  · have HE : Hid (putI c n = c :: putL n) := putI_in hin
    rw [HE.out]
    obtain ⟨i0, i1⟩ := hin
    have z1 : (str [c]).size = 1 := rfl
    have z2 : (str (putL n)).size ≤ 19 := by rw [str_size]; exact putL_length _
    have hc0 : ∀ W : World, (convert 79 9 (.slice (some ⟨W.heap.size, 0, none⟩) 1 1)).run Tryz.prog (W.alloc (.cells #[.int .u8 (c.toNat : Int)] 5)) = .ok (.string (str [c])) (W.alloc (.cells #[.int .u8 (c.toNat : Int)] 5)) := fun W =>
      (Owns.made W W.heap.size [c] (Nat.le_refl _) (show 1 ≤ maxLen by decide)).text (P := Tryz.prog) 79 9 5 Tryz.underlying79 Tryz.underlying5 Tryz.underlying9
    have hc1 : ∀ W : World, (convert 79 9 (.slice (some ⟨W.heap.size, 0, none⟩) 1 1)).run Tryz.prog (W.alloc (.cells #[.int .u8 (c.toNat : Int)] 5)).drew = .ok (.string (str [c])) (W.alloc (.cells #[.int .u8 (c.toNat : Int)] 5)).drew := fun W =>
      Owns.text (P := Tryz.prog) (w := (W.alloc (.cells #[.int .u8 (c.toNat : Int)] 5)).drew) (B := W.heap.size) (Owns.made W W.heap.size [c] (Nat.le_refl _) (show 1 ≤ maxLen by decide)) 79 9 5 Tryz.underlying79 Tryz.underlying5 Tryz.underlying9
    go_enter Tryz.func167, Tryz.ntmps167
    go_wp2_with fail
    go_region_with (go_at_call 148; refine (refPutNumber_any n _ h0 h1).mono ?_; rintro e w2 ⟨rfl, hb2⟩; (try have hc2 := kept_text hb2))
    all_goals go_wp2
    all_goals go_ret
    all_goals first
      | exact ⟨ret_str (str_cat [c] (putL n)), (Below.refl _ _).drew.trans (((Below.refl _ _).alloc (Nat.le_refl _) _).trans (hb2.mono (by simp)))⟩
      | exact ⟨ret_str (str_cat [c] (putL n)), ((Below.refl _ _).alloc (Nat.le_refl _) _).drew.trans (hb2.mono (by simp))⟩
      | exact ⟨ret_str (str_cat [c] (putL n)), ((Below.refl w.heap.size w).drew.trans hb2).alloc hb2.size _⟩
      | go_show
  · have HE : Hid (putI c n = []) := putI_out hin
    rw [HE.out]
    by_cases hlo : n < 1
    · go_enter Tryz.func167, Tryz.ntmps167
      go_wp2
      go_ret
      exact ⟨rfl, Below.refl _ _⟩
    · have hbig : 4611686018427387904 < n := by omega
      go_enter Tryz.func167, Tryz.ntmps167
      go_wp2
      go_ret
      exact ⟨rfl, Below.refl _ _⟩

set_option maxHeartbeats 1000000 in
theorem refId_any (c : UInt8) (s : ByteArray) (w : World) (hs : s.size ≤ 140737488355328) :
    Calls Tryz.prog 111 #[.int .u8 c.toNat, .string s] w fun e w' =>
      ((∃ n, e = .returned (.tuple #[.int .i64 n, .bool true]) ∧ IsId c s.data.toList n) ∨ (e = .returned (.tuple #[.int .i64 0, .bool false]) ∧ ∀ n, ¬ IsId c s.data.toList n)) ∧ Below w.heap.size w w' := by
  by_cases h0 : s.size = 0
  · have he := empty_of0 s h0
    have HN : Hid (∀ n, ¬ IsId c s.data.toList n) := id_none c _ (by rw [← Lib.toList_data, he]; simp)
    go_enter Tryz.func111, Tryz.ntmps111
    go_wp2
    all_goals go_ret2
    all_goals exact ⟨.inr ⟨rfl, HN.out⟩, Below.refl _ _⟩
  · have hp : 0 < s.size := by omega
    obtain ⟨hne, hne'⟩ := toList_ne0 hp
    have h1 : (1 : Int) ≤ (s.size : Int) := by omega
    by_cases hc : s[0] = c
    · have HT : Hid (s.data.toList = c :: (s.extract 1 s.size).data.toList) := by
        have := head_cons0 s hp
        rw [hc] at this
        exact this
      have hc' : ((s[0].toNat : Int) != (c.toNat : Int)) = false := by rw [hc]; simp
      have hx : (s.extract 1 s.size).size ≤ 140737488355328 := by simp; omega
      clear hc
      go_enter Tryz.func111, Tryz.ntmps111
      go_wp2_with fail
      refine (refNumber_any _ _ hx).mono ?_
      obtain ⟨q, hq⟩ := hid_ex (s.extract 1 s.size).data.toList
      rw [hq.out]
      rintro e w1 ⟨h, hb1⟩
      rcases h with ⟨n, rfl, hn⟩ | ⟨rfl, hno⟩
      · have hnb := hn.1
        by_cases hz : n < 1
        · have HN : Hid (∀ m, ¬ IsId c s.data.toList m) := fun m hm => by
            obtain ⟨e1, e2⟩ := id_tail (HT.out.trans (by rw [hq.out])) hm
            have := num_val e1
            have := num_val hn
            omega
          clear hn
          go_wp2
          all_goals go_ret2
          all_goals exact ⟨.inr ⟨rfl, HN.out⟩, hb1⟩
        · have HI : Hid (IsId c s.data.toList n) := ⟨_, HT.out.trans (by rw [hq.out]), hn, by omega⟩
          clear hn
          go_wp2
          all_goals go_ret2
          all_goals exact ⟨.inl ⟨n, rfl, HI.out⟩, hb1⟩
      · have HN : Hid (∀ m, ¬ IsId c s.data.toList m) := fun m hm => hno m (id_tail (HT.out.trans (by rw [hq.out])) hm).1
        clear hno
        go_wp2
        all_goals go_ret2
        all_goals exact ⟨.inr ⟨rfl, HN.out⟩, hb1⟩
    · have HN : Hid (∀ m, ¬ IsId c s.data.toList m) := id_none c _ (fun r e => by rw [head_cons0 s hp] at e; injection e with e1 _; exact hc e1)
      have hc' : ((s[0].toNat : Int) != (c.toNat : Int)) = true := by
        rw [bne_iff_ne]
        intro e
        exact hc (UInt8.toNat_inj.1 (by omega))
      clear hc
      go_enter Tryz.func111, Tryz.ntmps111
      go_wp2
      all_goals go_ret2
      all_goals exact ⟨.inr ⟨rfl, HN.out⟩, Below.refl _ _⟩

end Go.Proofs.YtplolaondmeccaaGreatDoor

namespace Go.Proofs.YtplolaondmeccaaGreatDoor
open Go.RowKit
set_option linter.unusedVariables false

theorem holds_any (s : ByteArray) (c : UInt8) (w : World) (hs : s.size ≤ maxLen) :
    Calls Tryz.prog 153 #[.string s, .int .u8 c.toNat] w fun e w' => e = .returned (.bool (has s c)) ∧ w = w' := by
  unfold maxLen at hs
  go_enter Tryz.func153, Tryz.ntmps153
  go_wp2
  go_loop [5] (fun i => ∃ k : Nat, k ≤ s.size ∧ i = .int .i64 k ∧ ∀ j (hj : j < s.size), j < k → s[j] ≠ c) (fun i => s.size - (intOf i).toNat)
  case atStart => exact ⟨0, Nat.zero_le _, rfl, fun j _ h => by omega⟩
  case round =>
    obtain ⟨k, hk, rfl, hno⟩ := hrel
    by_cases hlt : k < s.size
    · have HN : Hid (∀ j (hj : j < s.size), j < k → s[j] ≠ c) := hno
      clear hno
      by_cases he : ((s[k].toNat : Int) == (c.toNat : Int)) = true
      · go_wp2
        go_ret
        exact ⟨ret_bool (has_of_lt k hlt (UInt8.toNat_inj.1 (by have := eq_of_beq he; omega))).symm, rfl⟩
      · have he' : ((s[k].toNat : Int) == (c.toNat : Int)) = false := by simpa using he
        clear he
        have HE : Hid (s[k] ≠ c) := fun h => by rw [h] at he'; simp at he'
        go_wp2
        go_round
        case rel =>
          refine ⟨k + 1, by omega, by go_num, fun j hj h => ?_⟩
          by_cases hjk : j = k
          · subst hjk; exact HE.out
          · exact HN.out j hj (by omega)
        case measure => simp [intOf]; omega
    · go_wp2
      go_ret
      exact ⟨ret_bool (has_false fun j hj => hno j hj (by omega)).symm, rfl⟩


theorem nb_parts {c : UInt8} (h : nb c = true) : ¬ (c.toNat : Int) < 32 ∧ ¬ 126 < (c.toNat : Int) ∧ ((c.toNat : Int) == 46) = false ∧ ((c.toNat : Int) == 58) = false := by
  have := of_nb_true h
  refine ⟨by omega, by omega, ?_, ?_⟩ <;> (rw [beq_eq_false_iff_ne]; omega)


set_option maxHeartbeats 400000 in
theorem refIsName_any (s : ByteArray) (w : World) (hs : s.size ≤ maxLen) :
    Calls Tryz.prog 152 #[.string s] w fun e w' => e = .returned (.bool (nameB s)) ∧ w = w' := by
  unfold maxLen at hs
  by_cases h0 : s.size = 0
  · obtain rfl : s = ByteArray.empty := ByteArray.size_eq_zero_iff.1 h0
    go_enter Tryz.func152, Tryz.ntmps152
    go_wp2
    all_goals go_ret
    all_goals exact ⟨rfl, rfl⟩
  · have hp : 0 < s.size := by omega
    by_cases h32 : 32 < s.size
    · go_enter Tryz.func152, Tryz.ntmps152
      go_wp2
      all_goals go_ret
      all_goals exact ⟨ret_bool (nameB_out (by omega)).symm, rfl⟩
    · go_enter Tryz.func152, Tryz.ntmps152
      go_wp2
      go_loop [3] (fun i => ∃ k : Nat, k ≤ s.size ∧ i = .int .i64 k ∧ ∀ j (hj : j < s.size), j < k → nb s[j] = true) (fun i => s.size - (intOf i).toNat)
      case atStart => exact ⟨0, Nat.zero_le _, rfl, fun j _ h => by omega⟩
      case round =>
        obtain ⟨k, hk, rfl, hno⟩ := hrel
        have HN : Hid (∀ j (hj : j < s.size), j < k → nb s[j] = true) := hno
        clear hno
        by_cases hlt : k < s.size
        · by_cases hb : nb s[k] = true
          · have HB : Hid (nb s[k] = true) := hb
            obtain ⟨b1, b2, b3, b4⟩ := nb_parts hb
            clear hb
            go_wp2
            go_round
            case rel =>
              refine ⟨k + 1, by omega, by go_num, fun j hj h => ?_⟩
              by_cases hjk : j = k
              · subst hjk; exact HB.out
              · exact HN.out j hj (by omega)
            case measure => simp [intOf]; omega
          · have hb' : nb s[k] = false := by simpa using hb
            have HB : Hid (nb s[k] = false) := hb'
            have HQ : Hid (¬ (32 ≤ s[k].toNat ∧ s[k].toNat ≤ 126 ∧ s[k].toNat ≠ 46 ∧ s[k].toNat ≠ 58)) := of_nb_false hb'
            clear hb hb'
            go_wp2
            all_goals first
              | (go_ret; exact ⟨ret_bool (nameB_bad k hlt HB.out).symm, rfl⟩)
              | (exfalso; have hq := HQ.out; simp only [beq_eq_false_iff_ne] at *; omega)
        · have HB : Hid (nameB s = (!has bars s[0] && decide (s[s.size - 1].toNat ≠ 32))) :=
            nameB_in hp (by omega) (fun j hj => HN.out j hj (by omega))
          cases hh : has bars s[0]
          all_goals
            go_wp2_with (go_at_call 153; refine (holds_any bars _ _ (by decide)).mono ?_; rintro e w' ⟨rfl, rfl⟩)
            all_goals go_ret
            all_goals first
              | exact ⟨ret_bool (end_yes HB.out hh), rfl⟩
              | exact ⟨ret_bool (end_no HB.out hh), rfl⟩


theorem refIsWord_any (s : ByteArray) (w : World) (hs : s.size ≤ maxLen) :
    Calls Tryz.prog 117 #[.string s] w fun e w' => e = .returned (.bool (nameB s && !has s 32)) ∧ w = w' := by
  cases hn : nameB s
  all_goals
    go_enter Tryz.func117, Tryz.ntmps117
    go_wp2_with (first | (go_at_call 152; refine (refIsName_any _ _ hs).mono ?_; rintro e w' ⟨rfl, rfl⟩) | (go_at_call 153; refine (holds_any _ 32 _ hs).mono ?_; rintro e w' ⟨rfl, rfl⟩))
    all_goals go_ret
  · exact ⟨rfl, rfl⟩
  · exact ⟨ret_bool (by simp), rfl⟩


end Go.Proofs.YtplolaondmeccaaGreatDoor

set_option maxRecDepth 20000
namespace Go.Proofs.YtplolaondmeccaaGreatDoor
open Go.RowKit
set_option linter.unusedVariables false
attribute [local go_sem ↓] Go.wp_at_zero Go.wp_at_succ

theorem must_any (c : UInt8) (w : World) :
    Calls Tryz.prog 151 #[.int .u8 c.toNat] w fun e w' => e = .returned (.bool (mustB c)) ∧ w = w' := by
  go_enter Tryz.func151, Tryz.ntmps151
  go_wp2
  all_goals go_ret
  all_goals refine ⟨ret_bool ?_, rfl⟩
  all_goals (unfold mustB; rw [Bool.eq_iff_iff]; simp; omega)

/-- The row that three makes. -/
def codeRow (b : UInt8) (t : TypeId) : Obj := .cells #[.int .u8 92, .int .u8 (d1 b).toNat, .int .u8 (d2 b).toNat, .int .u8 (d3 b).toNat] t

theorem three_any (b : UInt8) (w : World) :
    Calls Tryz.prog 109 #[.int .u8 b.toNat] w fun e w' => e = .returned (.slice (some ⟨w.heap.size, 0, none⟩) 4 4) ∧ w.alloc (codeRow b 5) = w' := by
  have hb : b.toNat < 256 := UInt8.toNat_lt b
  have E1 : Hid (((d1 b).toNat : Int) = 48 + (b.toNat : Int) / 64) := by show _ = _; rw [d1_nat]; omega
  have E2 : Hid (((d2 b).toNat : Int) = 48 + (b.toNat : Int) / 8 % 8) := by show _ = _; rw [d2_nat]; omega
  have E3 : Hid (((d3 b).toNat : Int) = 48 + (b.toNat : Int) % 8) := by show _ = _; rw [d3_nat]; omega
  unfold codeRow
  rw [E1.out, E2.out, E3.out]
  clear E1 E2 E3
  go_enter Tryz.func109, Tryz.ntmps109
  go_wp2
  go_ret
  exact ⟨rfl, rfl⟩

theorem Owns.code (w : World) (B : Nat) (b : UInt8) (hB : B ≤ w.heap.size) : Owns (w.alloc (codeRow b 5)) B (.slice (some ⟨w.heap.size, 0, none⟩) 4 4) (code b) :=
  Owns.made w B (Go.Proofs.YtplolaondmeccaaGreatDoor.code b) hB (by rw [code_length]; decide)

theorem three_own (b : UInt8) (w : World) :
    Calls Tryz.prog 109 #[.int .u8 b.toNat] w fun e w' => ∃ v, e = .returned v ∧ Owns w' w.heap.size v (code b) ∧ Below w.heap.size w w' :=
  (three_any b w).mono fun _ _ ⟨h1, h2⟩ => ⟨_, h1, h2 ▸ Owns.code w _ b (Nat.le_refl _), h2 ▸ (Below.refl _ _).alloc (Nat.le_refl _) _⟩

set_option maxHeartbeats 1000000 in
theorem refEscape_any (s : ByteArray) (w : World) (hs : s.size ≤ 140737488355328) (hlen : (esc s.data.toList).length ≤ 140737488355328) :
    Calls Tryz.prog 115 #[.string s] w fun e w' => e = .returned (.string (str (esc s.data.toList))) ∧ Below w.heap.size w w' := by
  have HL : Hid ((esc s.data.toList).length ≤ 140737488355328) := hlen
  clear hlen
  go_enter Tryz.func115, Tryz.ntmps115
  go_wp2
  go_loopw [3, 4] (fun u i wr => ∃ k : Nat, k ≤ s.size ∧ i = .int .i64 k ∧ Owns wr w.heap.size u (esc (s.data.toList.take k)) ∧ Below w.heap.size w wr) (fun _ i _ => s.size - (intOf i).toNat)
  case atStart => exact ⟨0, Nat.zero_le _, rfl, by simpa [esc_nil] using Owns.nil _ _, Below.refl _ _⟩
  case round =>
    obtain ⟨k, hk, rfl, hown, hb⟩ := hrel
    have hBr : w.heap.size ≤ wr.heap.size := hb.size
    by_cases hlt : k < s.size
    · have HT : Hid (esc (s.data.toList.take (k + 1)) = esc (s.data.toList.take k) ++ esc1 s[k]) := by
        show _ = _
        rw [take_snoc s k hlt, esc_snoc]
      have HLk : Hid ((esc (s.data.toList.take k)).length + (esc1 s[k]).length ≤ 140737488355328) := by
        have h1 := esc_take s.data.toList (k + 1)
        rw [HT.out, List.length_append] at h1
        have h2 := HL.out
        show _ ≤ _
        omega
      by_cases hm : mustB s[k] = true
      · have hl4 : (esc (s.data.toList.take k)).length + 4 ≤ 140737488355328 := by have := HLk.out; rw [esc1_must hm] at this; exact this
        go_wp2_with (first
          | (go_at_call 151; refine (must_any _ _).mono ?_; rintro e w' ⟨rfl, rfl⟩)
          | (go_at_call 109; refine (three_any _ _).mono ?_; rintro e w' ⟨rfl, rfl⟩)
          | (at_builtin; refine wpList_append_bytes _ rfl (.tmp 15) (.tmp 19) 79 rfl Tryz.underlying79 info5 w.heap.size _ _ rfl (hown.alloc _) ⟨wr.heap.size, 0, none⟩ 4 4 (code s[k]) rfl rfl (code_cells wr s[k] _) hl4 ?_ ?_; (simp; omega); (intro v' w2 hown2 hb2)))
        go_roundw
        case rel => exact ⟨k + 1, by omega, by go_num, by rw [HT.out, esc1_must hm]; exact hown2, (hb.alloc hBr _).trans hb2⟩
        case measure => simp [intOf]; omega
      · have hm' : mustB s[k] = false := by simpa using hm
        clear hm
        have hl1 : (esc (s.data.toList.take k)).length + 1 ≤ 140737488355328 := by have := HLk.out; rw [esc1_not hm'] at this; exact this
        go_wp2_with (first
          | (go_at_call 151; refine (must_any _ _).mono ?_; rintro e w' ⟨rfl, rfl⟩)
          | (at_builtin; refine wpList_append_bytes _ rfl (.tmp 21) (.tmp 25) 79 rfl Tryz.underlying79 info5 w.heap.size _ _ rfl (hown.alloc _) ⟨wr.heap.size, 0, none⟩ 1 1 [s[k]] rfl rfl (one_cell wr s[k] _) hl1 ?_ ?_; (simp; omega); (intro v' w2 hown2 hb2)))
        go_roundw
        case rel => exact ⟨k + 1, by omega, by go_num, by rw [HT.out, esc1_not hm']; exact hown2, (hb.alloc hBr _).trans hb2⟩
        case measure => simp [intOf]; omega
    · have hke : k = s.size := by omega
      have HE : Hid (esc (s.data.toList.take k) = esc s.data.toList) := by show _ = _; rw [hke, take_all]
      have hc := (hown.as HE.out).text (P := Tryz.prog) 79 9 5 Tryz.underlying79 Tryz.underlying5 Tryz.underlying9
      clear hke
      go_wp2
      go_ret
      exact ⟨rfl, hb⟩

set_option maxHeartbeats 1000000 in
theorem refEscapeBody_any (s : ByteArray) (w : World) (hs : s.size ≤ 140737488355328) (hlB : (escB s.data.toList).length ≤ 140737488355328) :
    Calls Tryz.prog 112 #[.string s] w fun e w' => e = .returned (.string (str (escB s.data.toList))) ∧ Below w.heap.size w w' := by
  have HB : Hid ((escB s.data.toList).length ≤ 140737488355328) := hlB
  clear hlB
  by_cases h0 : s.size = 0
  · have he := empty_of s h0
    have HE : Hid (escB s.data.toList = esc s.data.toList) := escB_not (by rw [← Lib.toList_data, he]; simp)
    have hlE : (esc s.data.toList).length ≤ 140737488355328 := by rw [← HE.out]; exact HB.out
    rw [HE.out]
    go_enter Tryz.func112, Tryz.ntmps112
    go_wp2_with (go_at_call 115; refine (refEscape_any _ _ hs hlE).mono ?_; rintro e w1 ⟨rfl, hb⟩)
    all_goals go_ret
    exact ⟨rfl, hb⟩
  · have hp : 0 < s.size := by omega
    by_cases hc : s[0].toNat = 37
    · have HE : Hid (escB s.data.toList = code 37 ++ esc (s.extract 1 s.size).data.toList) := by
        show _ = _
        rw [extract_tail]
        exact escB_pct s[0] _ (head_cons s hp) (UInt8.toNat_inj.1 hc)
      rw [HE.out]
      have h1 : (1 : Int) ≤ (s.size : Int) := by omega
      have hs2 : (s.extract 1 s.size).size ≤ 140737488355328 := by simp; omega
      have hl3 : 4 + (esc (s.extract 1 s.size).data.toList).length ≤ 140737488355328 := by
        have := HB.out
        rw [HE.out, List.length_append] at this
        exact this
      have hl2 : (esc (s.extract 1 s.size).data.toList).length ≤ 140737488355328 := by omega
      obtain ⟨r, HR⟩ := hid_ex (esc (s.extract 1 s.size).data.toList)
      obtain ⟨q, HQ⟩ := hid_ex (code 37)
      have hz : (str q).size = 4 := by rw [← HQ.out]; rfl
      have hz' : (str r).size ≤ 140737488355328 := by rw [← HR.out]; exact hl2
      clear hl3
      go_enter Tryz.func112, Tryz.ntmps112
      go_wp2_with fail
      go_region_with (first | (go_at_call 109; refine (three_own 37 _).mono ?_; rintro e w1 ⟨v1, rfl, hown1, hb1⟩; have hc1 := (hown1.as HQ.out).text (P := Tryz.prog) 79 9 5 Tryz.underlying79 Tryz.underlying5 Tryz.underlying9) | (go_at_call 115; refine (refEscape_any _ _ hs2 hl2).mono ?_; rw [HR.out]; rintro e w2 ⟨rfl, hb2⟩; have hc2 := ((hown1.as HQ.out).below hb2).text (P := Tryz.prog) 79 9 5 Tryz.underlying79 Tryz.underlying5 Tryz.underlying9))
      all_goals go_wp2
      all_goals go_ret
      all_goals exact ⟨ret_str (by rw [HR.out, ← HQ.out]; rfl), (Below.drew (Below.refl _ _)).trans (hb1.trans (hb2.mono hb1.size))⟩
    · have HE : Hid (escB s.data.toList = esc s.data.toList) := escB_not (by rw [head_cons s hp]; intro r e; exact hc (by injection e with e1 _; rw [e1]; rfl))
      have hlE : (esc s.data.toList).length ≤ 140737488355328 := by rw [← HE.out]; exact HB.out
      rw [HE.out]
      have hc' : ((s[0].toNat : Int) == 37) = false := by rw [beq_eq_false_iff_ne]; omega
      go_enter Tryz.func112, Tryz.ntmps112
      go_wp2_with (go_at_call 115; refine (refEscape_any _ _ hs hlE).mono ?_; rintro e w1 ⟨rfl, hb⟩)
      all_goals go_ret
      exact ⟨rfl, hb⟩

theorem refEscape_in {w W : World} (hb : Below w.heap.size w W) (s : ByteArray) (hs : s.size ≤ 140737488355328) (hlen : (esc s.data.toList).length ≤ 140737488355328) :
    Calls Tryz.prog 115 #[.string s] W fun e w' => e = .returned (.string (str (esc s.data.toList))) ∧ Below w.heap.size w w' :=
  (refEscape_any s W hs hlen).mono fun _ _ ⟨h1, h2⟩ => ⟨h1, hb.trans (h2.mono hb.size)⟩
theorem refEscapeBody_in {w W : World} (hb : Below w.heap.size w W) (s : ByteArray) (hs : s.size ≤ 140737488355328) (hlen : (escB s.data.toList).length ≤ 140737488355328) :
    Calls Tryz.prog 112 #[.string s] W fun e w' => e = .returned (.string (str (escB s.data.toList))) ∧ Below w.heap.size w w' :=
  (refEscapeBody_any s W hs hlen).mono fun _ _ ⟨h1, h2⟩ => ⟨h1, hb.trans (h2.mono hb.size)⟩
end Go.Proofs.YtplolaondmeccaaGreatDoor

set_option maxRecDepth 20000
namespace Go.Proofs.YtplolaondmeccaaGreatDoor
open Go.RowKit
set_option linter.unusedVariables false
attribute [local go_sem ↓] Go.wp_at_zero Go.wp_at_succ

/-- An octal digit's worth. -/
def digI (c : UInt8) : Int := if 48 ≤ c.toNat ∧ c.toNat ≤ 55 then (c.toNat : Int) - 48 else -1
theorem digI_bd (c : UInt8) : -1 ≤ digI c ∧ digI c ≤ 7 := by unfold digI; split <;> omega
theorem ret_int {a b : Int} (h : a = b) : Ending.returned (.int .i64 a) = .returned (.int .i64 b) := by rw [h]

theorem digit_any (c : UInt8) (w : World) :
    Calls Tryz.prog 114 #[.int .u8 c.toNat] w fun e w' => e = .returned (.int .i64 (digI c)) ∧ w' = w := by
  have hc : c.toNat < 256 := UInt8.toNat_lt c
  by_cases h1 : 48 ≤ (c.toNat : Int)
  · by_cases h2 : (c.toNat : Int) ≤ 55
    · have HE : Hid (digI c = (c.toNat : Int) - 48) := if_pos ⟨by omega, by omega⟩
      rw [HE.out]
      clear HE
      go_enter Tryz.func114, Tryz.ntmps114
      go_wp2
      all_goals go_ret
      all_goals exact ⟨rfl, rfl⟩
    · have HE : Hid (digI c = -1) := if_neg (by omega)
      rw [HE.out]
      clear HE
      go_enter Tryz.func114, Tryz.ntmps114
      go_wp2
      all_goals go_ret
      all_goals exact ⟨rfl, rfl⟩
  · have HE : Hid (digI c = -1) := if_neg (by omega)
    rw [HE.out]
    clear HE
    go_enter Tryz.func114, Tryz.ntmps114
    go_wp2
    all_goals go_ret
    all_goals exact ⟨rfl, rfl⟩

theorem digI_d (b : UInt8) : digI (d1 b) = (b.toNat / 64 : Nat) ∧ digI (d2 b) = (b.toNat / 8 % 8 : Nat) ∧ digI (d3 b) = (b.toNat % 8 : Nat) := by
  have := UInt8.toNat_lt b
  refine ⟨?_, ?_, ?_⟩
  · unfold digI; rw [d1_nat, if_pos (by omega)]; omega
  · unfold digI; rw [d2_nat, if_pos (by omega)]; omega
  · unfold digI; rw [d3_nat, if_pos (by omega)]; omega

/-- What has been read is what any text that is written so begins with. -/
def Reads (s : ByteArray) (k : Nat) (out : List UInt8) : Prop := ∀ t, esc t = s.data.toList → ∃ t', t = out ++ t' ∧ esc t' = s.data.toList.drop k

theorem Reads.start (s : ByteArray) : Reads s 0 [] := fun t h => ⟨t, rfl, h⟩

theorem Reads.plain {s : ByteArray} {k : Nat} {out : List UInt8} (h : Reads s k out) (hk : k < s.size) (hn : ¬ (s[k].toNat = 92 ∧ k + 3 < s.size)) : Reads s (k + 1) (out ++ [s[k]]) := by
  intro t ht
  obtain ⟨t', rfl, e⟩ := h t ht
  rw [drop_cons s k hk] at e
  cases t' with
  | nil => cases e
  | cons c t' =>
    rw [esc_cons] at e
    cases hc : mustB c
    · rw [esc1_not hc] at e
      injection e with e1 e2
      exact ⟨t', by rw [e1]; simp, e2⟩
    · rw [esc1_must hc] at e
      exfalso
      apply hn
      have hl := congrArg List.length e
      rw [List.length_append, code_length, List.length_cons, List.length_drop, size_data] at hl
      injection e with e1 _
      exact ⟨by rw [← e1]; rfl, by omega⟩

theorem four_at (s : ByteArray) (k : Nat) (h : k + 3 < s.size) : s.data.toList.drop k = [s[k], s[k + 1], s[k + 2], s[k + 3]] ++ s.data.toList.drop (k + 4) := by
  rw [drop_cons s k (by omega), drop_cons s (k + 1) (by omega), drop_cons s (k + 2) (by omega), drop_cons s (k + 3) (by omega)]
  rfl

theorem Reads.four {s : ByteArray} {k : Nat} {out : List UInt8} (h : Reads s k out) (hk : k + 3 < s.size) (h92 : s[k].toNat = 92) {t : List UInt8} (ht : esc t = s.data.toList) :
    ∃ c t', t = out ++ [c] ++ t' ∧ s[k + 1] = d1 c ∧ s[k + 2] = d2 c ∧ s[k + 3] = d3 c ∧ esc t' = s.data.toList.drop (k + 4) := by
  obtain ⟨t', rfl, e⟩ := h t ht
  rw [four_at s k hk] at e
  cases t' with
  | nil => cases e
  | cons c t' =>
    rw [esc_cons] at e
    cases hc : mustB c
    · rw [esc1_not hc] at e
      injection e with e1 _
      rw [e1] at hc
      have : s[k] = 92 := UInt8.toNat_inj.1 h92
      rw [this, must92] at hc
      cases hc
    · rw [esc1_must hc] at e
      obtain ⟨e1, e2⟩ := List.append_inj e rfl
      unfold code at e1
      simp only [List.cons.injEq] at e1
      exact ⟨c, t', by simp, e1.2.1.symm, e1.2.2.1.symm, e1.2.2.2.1.symm, e2⟩

theorem Reads.value {s : ByteArray} {k : Nat} {out : List UInt8} (h : Reads s k out) (hk : k + 3 < s.size) (h92 : s[k].toNat = 92) {t : List UInt8} (ht : esc t = s.data.toList) :
    ∃ c t', t = out ++ [c] ++ t' ∧ esc t' = s.data.toList.drop (k + 4) ∧ 0 ≤ digI s[k + 1] ∧ 0 ≤ digI s[k + 2] ∧ 0 ≤ digI s[k + 3] ∧ 64 * digI s[k + 1] + 8 * digI s[k + 2] + digI s[k + 3] = (c.toNat : Int) := by
  obtain ⟨c, t', e, e1, e2, e3, e4⟩ := h.four hk h92 ht
  refine ⟨c, t', e, e4, ?_⟩
  obtain ⟨f1, f2, f3⟩ := digI_d c
  rw [e1, e2, e3, f1, f2, f3]
  have := UInt8.toNat_lt c
  omega

theorem Reads.code {s : ByteArray} {k : Nat} {out : List UInt8} (h : Reads s k out) (hk : k + 3 < s.size) (h92 : s[k].toNat = 92) (b : UInt8) (hb : 64 * digI s[k + 1] + 8 * digI s[k + 2] + digI s[k + 3] = (b.toNat : Int)) : Reads s (k + 4) (out ++ [b]) := by
  intro t ht
  obtain ⟨c, t', e, e4, _, _, _, hv⟩ := h.value hk h92 ht
  have : c = b := UInt8.toNat_inj.1 (by omega)
  exact ⟨t', by rw [e, this], e4⟩

theorem Reads.bad {s : ByteArray} {k : Nat} {out : List UInt8} (h : Reads s k out) (hk : k + 3 < s.size) (h92 : s[k].toNat = 92)
    (hb : digI s[k + 1] < 0 ∨ digI s[k + 2] < 0 ∨ digI s[k + 3] < 0 ∨ 255 < 64 * digI s[k + 1] + 8 * digI s[k + 2] + digI s[k + 3]) (t : List UInt8) : esc t ≠ s.data.toList := by
  intro ht
  obtain ⟨c, t', e, e4, h1, h2, h3, hv⟩ := h.value hk h92 ht
  have := UInt8.toNat_lt c
  omega

theorem Reads.done {s : ByteArray} {out : List UInt8} (h : Reads s s.size out) (hne : esc out ≠ s.data.toList) (t : List UInt8) : esc t ≠ s.data.toList := by
  intro ht
  obtain ⟨t', rfl, e⟩ := h t ht
  rw [List.drop_of_length_le (by simp)] at e
  have := (esc_length t').1
  rw [e] at this
  have h0 : t' = [] := List.length_eq_zero_iff.1 (by simpa using this)
  subst h0
  rw [List.append_nil] at ht
  exact hne ht

theorem index_at (s : ByteArray) (k d : Nat) (h : k + d < s.size) (W : World) : (Instr.index 9 (.string s) (.int .i64 ((k : Int) + (d : Int)))).run Tryz.prog W = .ok (.int .u8 (s[k + d].toNat : Int)) W := by
  rw [run_index_string W 9 s .i64 _ Tryz.underlying9]
  have e : ((k : Int) + (d : Int)).toNat = k + d := by omega
  rw [dif_pos (show 0 ≤ (k : Int) + (d : Int) ∧ (k : Int) + (d : Int) < s.size by omega)]
  simp only [e]

set_option maxHeartbeats 4000000 in
theorem refUnescape_any (s : ByteArray) (w : World) (hs : s.size ≤ 2097152) :
    Calls Tryz.prog 67 #[.string s] w fun e w' =>
      ((∃ t, e = .returned (.tuple #[.string (str t), .int .i64 0]) ∧ esc t = s.data.toList) ∨ (e = .returned (.tuple #[.string ⟨#[]⟩, .int .i64 10]) ∧ ∀ t, esc t ≠ s.data.toList)) ∧ Below w.heap.size w w' := by
  go_enter Tryz.func67, Tryz.ntmps67
  go_wp2
  go_loopw [4, 5] (fun u i wr => ∃ (k : Nat) (out : List UInt8), k ≤ s.size ∧ i = .int .i64 k ∧ Owns wr w.heap.size u out ∧ out.length ≤ k ∧ Reads s k out ∧ Below w.heap.size w wr) (fun _ i _ => s.size - (intOf i).toNat)
  case atStart => exact ⟨0, [], Nat.zero_le _, rfl, Owns.nil _ _, Nat.le_refl _, Reads.start s, Below.refl _ _⟩
  case round =>
    obtain ⟨k, out, hk, rfl, hown, hlo, hrd, hb⟩ := hrel
    have HR : Hid (Reads s k out) := hrd
    clear hrd
    have hBr : w.heap.size ≤ wr.heap.size := hb.size
    have hl1 : out.length + 1 ≤ 140737488355328 := by omega
    by_cases hlt : k < s.size
    · by_cases h92 : s[k].toNat = 92
      · by_cases h3 : k + 3 < s.size
        · have h92' : ((s[k].toNat : Int) != 92) = false := by rw [h92]; rfl
          have j1 : (k : Int) + 1 < (s.size : Int) := by omega
          have j2 : (k : Int) + 2 < (s.size : Int) := by omega
          have j3 : (k : Int) + 3 < (s.size : Int) := by omega
          have k1 : k + 1 < s.size := by omega
          have k2 : k + 2 < s.size := by omega
          have bx := digI_bd s[k + 1]
          have bY := digI_bd s[k + 2]
          have bz := digI_bd s[k + 3]
          have h92n : ¬ ((s[k].toNat : Int) != 92) = true := by rw [h92']; simp
          have i1 : ∀ W, (Instr.index 9 (.string s) (.int .i64 ((k : Int) + 1))).run Tryz.prog W = .ok (.int .u8 (s[k + 1].toNat : Int)) W := index_at s k 1 k1
          have i2 : ∀ W, (Instr.index 9 (.string s) (.int .i64 ((k : Int) + 2))).run Tryz.prog W = .ok (.int .u8 (s[k + 2].toNat : Int)) W := index_at s k 2 k2
          have i3 : ∀ W, (Instr.index 9 (.string s) (.int .i64 ((k : Int) + 3))).run Tryz.prog W = .ok (.int .u8 (s[k + 3].toNat : Int)) W := index_at s k 3 h3
          by_cases hv : 0 ≤ digI s[k + 1] ∧ 0 ≤ digI s[k + 2] ∧ 0 ≤ digI s[k + 3] ∧ 64 * digI s[k + 1] + 8 * digI s[k + 2] + digI s[k + 3] ≤ 255
          · obtain ⟨v1, v2, v3, v4⟩ := hv
            obtain ⟨b, HB⟩ : ∃ b : UInt8, Hid (64 * digI s[k + 1] + 8 * digI s[k + 2] + digI s[k + 3] = (b.toNat : Int)) := by
              refine ⟨UInt8.ofNat (64 * digI s[k + 1] + 8 * digI s[k + 2] + digI s[k + 3]).toNat, ?_⟩
              show _ = _
              rw [UInt8.toNat_ofNat']
              omega
            have HS : Hid (Reads s (k + 4) (out ++ [b])) := HR.out.code h3 h92 b HB.out
            have hbb : b.toNat < 256 := UInt8.toNat_lt b
            have hbv := HB.out
            go_wp2
            go_quiet ((go_at_call 114; exact Calls.quiet_of_same (digit_any _ _)))
            clear i1 i2 i3
            go_wp2_with (at_builtin; refine wpList_append_bytes _ rfl (.tmp 70) (.tmp 73) 79 rfl Tryz.underlying79 info5 w.heap.size _ _ rfl (hown.alloc _) ⟨wr.heap.size, 0, none⟩ 1 1 [b] rfl rfl (one_cell wr b _) hl1 ?_ ?_; (simp; omega); (intro v' w3 hown3 hb3))
            go_roundw
            case rel => exact ⟨k + 4, out ++ [b], by omega, by go_num, hown3, by simp; omega, HS.out, ((hb.trans ⟨rfl, rfl, rfl, Nat.le_refl _, fun _ _ => rfl⟩ : Below w.heap.size w (wr.drewN _)).alloc hBr _).trans hb3⟩
            case measure => simp [intOf]; omega
          · have HN : Hid (∀ t, esc t ≠ s.data.toList) := HR.out.bad h3 h92 (by omega)
            have HV : Hid (digI s[k + 1] < 0 ∨ digI s[k + 2] < 0 ∨ digI s[k + 3] < 0 ∨ 255 < 64 * digI s[k + 1] + 8 * digI s[k + 2] + digI s[k + 3]) := by show _ ∨ _; omega
            clear hv
            go_wp2
            go_quiet ((go_at_call 114; exact Calls.quiet_of_same (digit_any _ _)))
            clear i1 i2 i3
            go_wp2_with (at_builtin; exfalso; have := HV.out; omega)
            all_goals go_ret2
            all_goals exact ⟨.inr ⟨rfl, HN.out⟩, hb.trans ⟨rfl, rfl, rfl, Nat.le_refl _, fun _ _ => rfl⟩⟩
        · have h92' : ((s[k].toNat : Int) != 92) = false := by rw [h92]; rfl
          have h3' : (s.size : Int) ≤ (k : Int) + 3 := by omega
          clear h92
          have HS : Hid (Reads s (k + 1) (out ++ [s[k]])) := HR.out.plain hlt (fun h => h3 h.2)
          go_wp2_with (at_builtin; refine wpList_append_bytes _ rfl (.tmp 28) (.tmp 32) 79 rfl Tryz.underlying79 info5 w.heap.size _ _ rfl (hown.alloc _) ⟨wr.heap.size, 0, none⟩ 1 1 [s[k]] rfl rfl (one_cell wr s[k] _) hl1 ?_ ?_; (simp; omega); (intro v' w3 hown3 hb3))
          go_roundw
          case rel => exact ⟨k + 1, out ++ [s[k]], by omega, by go_num, hown3, by simp; omega, HS.out, (hb.alloc hBr _).trans hb3⟩
          case measure => simp [intOf]; omega
      · have h92' : ((s[k].toNat : Int) != 92) = true := by simp; omega
        have HS : Hid (Reads s (k + 1) (out ++ [s[k]])) := HR.out.plain hlt (fun h => h92 h.1)
        go_wp2_with (at_builtin; refine wpList_append_bytes _ rfl (.tmp 28) (.tmp 32) 79 rfl Tryz.underlying79 info5 w.heap.size _ _ rfl (hown.alloc _) ⟨wr.heap.size, 0, none⟩ 1 1 [s[k]] rfl rfl (one_cell wr s[k] _) hl1 ?_ ?_; (simp; omega); (intro v' w3 hown3 hb3))
        go_roundw
        case rel => exact ⟨k + 1, out ++ [s[k]], by omega, by go_num, hown3, by simp; omega, HS.out, (hb.alloc hBr _).trans hb3⟩
        case measure => simp [intOf]; omega
    · have HE : Hid (Reads s s.size out) := by have := HR.out; rwa [show k = s.size by omega] at this
      have z1 : (str out).size ≤ 140737488355328 := by rw [str_size]; omega
      have z2 : (esc (str out).data.toList).length ≤ 140737488355328 := by have := (esc_length out).2; rw [str_data]; omega
      have hc := hown.text (P := Tryz.prog) 79 9 5 Tryz.underlying79 Tryz.underlying5 Tryz.underlying9
      by_cases he : ((str (esc (str out).data.toList)).toList == s.toList) = true
      · have HT : Hid (esc out = s.data.toList) := by
          have := eq_of_beq he
          rw [str_toList, Lib.toList_data, str_data] at this
          exact this
        go_wp2_with (go_at_call 115; refine (refEscape_any _ _ z1 z2).mono ?_; rintro e w2 ⟨rfl, hb2⟩)
        all_goals go_ret2
        exact ⟨.inl ⟨out, rfl, HT.out⟩, hb.trans (hb2.mono hBr)⟩
      · have he' : ((str (esc (str out).data.toList)).toList == s.toList) = false := by simpa using he
        have HN : Hid (∀ t, esc t ≠ s.data.toList) := HE.out.done (fun h => he (by rw [str_toList, Lib.toList_data, str_data, h]; simp))
        clear he
        go_wp2_with (go_at_call 115; refine (refEscape_any _ _ z1 z2).mono ?_; rintro e w2 ⟨rfl, hb2⟩)
        all_goals go_ret2
        exact ⟨.inr ⟨rfl, HN.out⟩, hb.trans (hb2.mono hBr)⟩
end Go.Proofs.YtplolaondmeccaaGreatDoor

set_option maxRecDepth 20000
namespace Go.Proofs.YtplolaondmeccaaGreatDoor
open Go.RowKit
set_option linter.unusedVariables false

theorem rank0 {l t : List UInt8} (h : esc t = l) : t.length ≤ l.length := by rw [← h]; exact (esc_length t).1
theorem ret_pair {a b : ByteArray} {n : Int} (h : a = b) : Ending.returned (.tuple #[.string a, .int .i64 n]) = .returned (.tuple #[.string b, .int .i64 n]) := by rw [h]

theorem take4 (s : ByteArray) (h : 4 ≤ s.size) (q : List UInt8) (he : ((s.extract 0 4).toList == (str q).toList) = true) (hq : code 37 = q) : s.data.toList = code 37 ++ s.data.toList.drop 4 := by
  have e := eq_of_beq he
  rw [str_toList, Lib.toList_data, Lib.extract_data] at e
  rw [hq, ← e]
  simp
theorem take4' (s : ByteArray) (q : List UInt8) (he : ((s.extract 0 4).toList == (str q).toList) = false) (hq : code 37 = q) (r : List UInt8) : s.data.toList ≠ code 37 ++ r := by
  intro e
  rw [beq_eq_false_iff_ne] at he
  apply he
  rw [str_toList, Lib.toList_data, Lib.extract_data, ← hq, e]
  rfl

set_option maxHeartbeats 4000000 in
theorem refUnescapeBody_any (s : ByteArray) (w : World) (hs : s.size ≤ 2097152) :
    Calls Tryz.prog 63 #[.string s] w fun e w' =>
      ((∃ t, e = .returned (.tuple #[.string (str t), .int .i64 0]) ∧ escB t = s.data.toList) ∨ (e = .returned (.tuple #[.string ⟨#[]⟩, .int .i64 10]) ∧ ∀ t, escB t ≠ s.data.toList)) ∧ Below w.heap.size w w' := by
  obtain ⟨q, HQ⟩ := hid_ex (code 37)
  have hz : (str q).size = 4 := by rw [← HQ.out]; rfl
  by_cases h4 : 4 ≤ s.size
  · by_cases hq : ((s.extract 0 4).toList == (str q).toList) = true
    · have HS : Hid (s.data.toList = code 37 ++ s.data.toList.drop 4) := take4 s h4 q hq HQ.out
      have hx : (s.extract 4 s.size).size ≤ 2097152 := by simp; omega
      have i4 : (4 : Int) ≤ (s.size : Int) := by omega
      go_enter Tryz.func63, Tryz.ntmps63
      go_wp2_with (go_at_call 109; refine (three_own 37 _).mono ?_; rintro e w1 ⟨v1, rfl, hown1, hb1⟩; have hc1 := (hown1.as HQ.out).text (P := Tryz.prog) 79 9 5 Tryz.underlying79 Tryz.underlying5 Tryz.underlying9)
      refine (refUnescape_any _ _ hx).mono ?_
      rw [extract_drop]
      rintro e w2 ⟨h, hb2⟩
      have HB : Hid (Below w.heap.size w w2) := hb1.trans (hb2.mono hb1.size)
      rcases h with ⟨t, rfl, ht⟩ | ⟨rfl, hno⟩
      · have HT : Hid (escB (37 :: t) = s.data.toList) := by
          show code 37 ++ esc t = _
          rw [ht]; exact HS.out.symm
        have hl := rank0 ht
        rw [List.length_drop, size_data] at hl
        have hz2 : (str t).size ≤ 2097152 := by rw [str_size]; omega
        clear ht hl hb2 hb1 hown1 hc1
        go_wp2
        all_goals go_ret2
        exact ⟨.inl ⟨37 :: t, ret_pair rfl, HT.out⟩, HB.out⟩
      · have HN : Hid (∀ t, escB t ≠ s.data.toList) := fun t e => by
          rw [HS.out] at e
          obtain ⟨r, rfl, e2⟩ := escB_code e
          exact hno r e2
        clear hno hb2 hb1 hown1 hc1
        go_wp2
        all_goals go_ret2
        exact ⟨.inr ⟨rfl, HN.out⟩, HB.out⟩
    · have hq' : ((s.extract 0 4).toList == (str q).toList) = false := by simpa using hq
      have HC : Hid (∀ r, s.data.toList ≠ code 37 ++ r) := take4' s q hq' HQ.out
      have i4 : (4 : Int) ≤ (s.size : Int) := by omega
      have hp : 0 < s.size := by omega
      clear hq
      by_cases h37 : s[0].toNat = 37
      · have HN : Hid (∀ t, escB t ≠ s.data.toList) := fun t e => by
          rw [head_cons s hp, UInt8.toNat_inj.1 (show s[0].toNat = (37 : UInt8).toNat from h37)] at e
          exact escB_ne37 _ _ e
        go_enter Tryz.func63, Tryz.ntmps63
        go_wp2_with (go_at_call 109; refine (three_own 37 _).mono ?_; rintro e w1 ⟨v1, rfl, hown1, hb1⟩; have hc1 := (hown1.as HQ.out).text (P := Tryz.prog) 79 9 5 Tryz.underlying79 Tryz.underlying5 Tryz.underlying9)
        all_goals go_ret2
        exact ⟨.inr ⟨rfl, HN.out⟩, hb1⟩
      · have H37 : Hid (∀ r, s.data.toList ≠ 37 :: r) := head_not hp h37
        have h37' : ((s[0].toNat : Int) == 37) = false := by rw [beq_eq_false_iff_ne]; omega
        clear h37
        go_enter Tryz.func63, Tryz.ntmps63
        go_wp2_with (go_at_call 109; refine (three_own 37 _).mono ?_; rintro e w1 ⟨v1, rfl, hown1, hb1⟩; have hc1 := (hown1.as HQ.out).text (P := Tryz.prog) 79 9 5 Tryz.underlying79 Tryz.underlying5 Tryz.underlying9)
        refine (refUnescape_any _ _ hs).mono ?_
        rintro e w2 ⟨h, hb2⟩
        have HB : Hid (Below w.heap.size w w2) := hb1.trans (hb2.mono hb1.size)
        rcases h with ⟨t, rfl, ht⟩ | ⟨rfl, hno⟩
        · have HT : Hid (escB t = s.data.toList) := escB_of H37.out ht
          clear ht hb2 hb1 hown1 hc1
          go_wp2
          go_ret2
          exact ⟨.inl ⟨t, rfl, HT.out⟩, HB.out⟩
        · have HN : Hid (∀ t, escB t ≠ s.data.toList) := fun t e => hno t (esc_of HC.out e)
          clear hno hb2 hb1 hown1 hc1
          go_wp2
          go_ret2
          exact ⟨.inr ⟨rfl, HN.out⟩, HB.out⟩
  · have HC : Hid (∀ r, s.data.toList ≠ code 37 ++ r) := fun r e => by
      have := congrArg List.length e
      rw [List.length_append, size_data, code_length] at this
      omega
    by_cases h0 : s.size = 0
    · have H37 : Hid (∀ r, s.data.toList ≠ 37 :: r) := fun r e => by rw [← Lib.toList_data, empty_of s h0] at e; cases e
      go_enter Tryz.func63, Tryz.ntmps63
      go_wp2_with (go_at_call 109; refine (three_own 37 _).mono ?_; rintro e w1 ⟨v1, rfl, hown1, hb1⟩; have hc1 := (hown1.as HQ.out).text (P := Tryz.prog) 79 9 5 Tryz.underlying79 Tryz.underlying5 Tryz.underlying9)
      refine (refUnescape_any _ _ hs).mono ?_
      rintro e w2 ⟨h, hb2⟩
      have HB : Hid (Below w.heap.size w w2) := hb1.trans (hb2.mono hb1.size)
      rcases h with ⟨t, rfl, ht⟩ | ⟨rfl, hno⟩
      · have HT : Hid (escB t = s.data.toList) := escB_of H37.out ht
        clear ht hb2 hb1 hown1 hc1
        go_wp2
        go_ret2
        exact ⟨.inl ⟨t, rfl, HT.out⟩, HB.out⟩
      · have HN : Hid (∀ t, escB t ≠ s.data.toList) := fun t e => hno t (esc_of HC.out e)
        clear hno hb2 hb1 hown1 hc1
        go_wp2
        go_ret2
        exact ⟨.inr ⟨rfl, HN.out⟩, HB.out⟩
    · have hp : 0 < s.size := by omega
      by_cases h37 : s[0].toNat = 37
      · have HN : Hid (∀ t, escB t ≠ s.data.toList) := fun t e => by
          rw [head_cons s hp, UInt8.toNat_inj.1 (show s[0].toNat = (37 : UInt8).toNat from h37)] at e
          exact escB_ne37 _ _ e
        go_enter Tryz.func63, Tryz.ntmps63
        go_wp2_with (go_at_call 109; refine (three_own 37 _).mono ?_; rintro e w1 ⟨v1, rfl, hown1, hb1⟩; have hc1 := (hown1.as HQ.out).text (P := Tryz.prog) 79 9 5 Tryz.underlying79 Tryz.underlying5 Tryz.underlying9)
        all_goals go_ret2
        exact ⟨.inr ⟨rfl, HN.out⟩, hb1⟩
      · have H37 : Hid (∀ r, s.data.toList ≠ 37 :: r) := head_not hp h37
        have h37' : ((s[0].toNat : Int) == 37) = false := by rw [beq_eq_false_iff_ne]; omega
        clear h37
        go_enter Tryz.func63, Tryz.ntmps63
        go_wp2_with (go_at_call 109; refine (three_own 37 _).mono ?_; rintro e w1 ⟨v1, rfl, hown1, hb1⟩; have hc1 := (hown1.as HQ.out).text (P := Tryz.prog) 79 9 5 Tryz.underlying79 Tryz.underlying5 Tryz.underlying9)
        refine (refUnescape_any _ _ hs).mono ?_
        rintro e w2 ⟨h, hb2⟩
        have HB : Hid (Below w.heap.size w w2) := hb1.trans (hb2.mono hb1.size)
        rcases h with ⟨t, rfl, ht⟩ | ⟨rfl, hno⟩
        · have HT : Hid (escB t = s.data.toList) := escB_of H37.out ht
          clear ht hb2 hb1 hown1 hc1
          go_wp2
          go_ret2
          exact ⟨.inl ⟨t, rfl, HT.out⟩, HB.out⟩
        · have HN : Hid (∀ t, escB t ≠ s.data.toList) := fun t e => hno t (esc_of HC.out e)
          clear hno hb2 hb1 hown1 hc1
          go_wp2
          go_ret2
          exact ⟨.inr ⟨rfl, HN.out⟩, HB.out⟩
end Go.Proofs.YtplolaondmeccaaGreatDoor
