/-
  The walks of PutNumber and Number, the program's and the document's.
  The walks of the document's Number; of PutId and Id, the program's and the document's.
-/
import Derived.Test.YtgdkpmfdpfjdjaaGreatDoorPlainN
import Derived.Test.YtgdkpmfdpfjdjaaGreatDoorNumPlain
import Derived.Test.YtgdkpmfdpfjdjaaGreatDoorShelf
import Derived.WalkKit
import Derived.Lib.AtoiErrMem
import Derived.Lib.LaidTab
import Derived.Lib.ItoaMem
import Derived.Lib.AppendIntMem
import Derived.RegionTactic
import Derived.Deep.RegionWith
import Derived.Deep.DrawnRows
import Derived.Lib.AppendStr
namespace Go.Proofs.YtgdkpmfdpfjdjaaGreatDoor
open Go.RowKit
open Go.Lib (decDigits atoiAll)
set_option linter.unusedVariables false

/-- What the calls read of the library's variables. -/
structure NumV (w : World) : Prop where
  tab : Lib.TabIs Tryz.prog w "internal/strconv.uint64pow10" .u64 Lib.pow10Tab
  syn : ∃ tp p, w.var? Tryz.prog "strconv.ErrSyntax" = some #[.iface tp p]
  rng : ∃ tp p, w.var? Tryz.prog "strconv.ErrRange" = some #[.iface tp p]

theorem var_below {n : String} {W W' : World} {cs : Array Value} (h : Below W.heap.size W W') (hv : W.var? Tryz.prog n = some cs) : W'.var? Tryz.prog n = some cs := by
  unfold World.var? at hv ⊢
  cases hg : Tryz.prog.globalNamed n with
  | none => rw [hg] at hv; cases hv
  | some g =>
    rw [hg] at hv
    simp only [Option.bind_some] at hv ⊢
    have hlt : g < W.heap.size := by
      rcases Nat.lt_or_ge g W.heap.size with h1 | h1
      · exact h1
      · rw [Array.getElem?_eq_none h1] at hv; cases hv
    rw [h.block g hlt]
    exact hv

theorem NumV.below {w w' : World} (h : NumV w) (hb : Below w.heap.size w w') : NumV w' :=
  ⟨var_below hb h.tab, h.syn.elim fun tp ⟨p, e⟩ => ⟨tp, p, var_below hb e⟩, h.rng.elim fun tp ⟨p, e⟩ => ⟨tp, p, var_below hb e⟩⟩

theorem below_of_grow {w w1 : World} {k : Nat} {os : Array Obj} (h : w1 = Sort.grow (w.drewN k) os) : Below w.heap.size w w1 := by
  rw [h]; exact Lib.below_grow _ _ (Nat.le_refl _) _ _

theorem putNumber_any (n : Int) (w : World) (hN : NumV w) (h0 : -9223372036854775808 ≤ n) (h1 : n ≤ 9223372036854775807) :
    Calls Tryz.prog 86 #[.int .i64 n] w fun e w' => e = .returned (.string (str (putL n))) ∧ Below w.heap.size w w' := by
  by_cases hin : 0 ≤ n ∧ n ≤ 4611686018427387904
  · obtain ⟨i0, i1⟩ := hin
    have HE : Hid (Lib.itoa n = putL n) := by
      show _ = _
      rw [putL_in ⟨i0, i1⟩]
      unfold Lib.itoa
      rw [if_neg (by omega)]
    have i0' : ¬ n < 0 := by omega
    have i1' : ¬ 4611686018427387904 < n := by omega
    go_enter Tryz.func86, Tryz.ntmps86
    go_wp2_with (go_at_call 112; refine (Tryz.strconv_Itoa n h0 h1 _ hN.tab).mono ?_; rintro e w1 ⟨rfl, k, os, hw⟩; have hb1 := below_of_grow hw; clear hw)
    go_ret
    exact ⟨ret_str (by rw [← HE.out]; rfl), hb1⟩
  · have HE : Hid (putL n = []) := putL_out hin
    rw [HE.out]
    by_cases hneg : n < 0
    · go_enter Tryz.func86, Tryz.ntmps86
      go_wp2
      go_ret
      exact ⟨rfl, Below.refl _ _⟩
    · have hbig : 4611686018427387904 < n := by omega
      go_enter Tryz.func86, Tryz.ntmps86
      go_wp2
      go_ret
      exact ⟨rfl, Below.refl _ _⟩

/-- A numeral of one digit, and of more. -/
theorem putL_one {n : Int} (h0 : 0 ≤ n) (h : n < 10) {c : UInt8} (hc : 48 + n = (c.toNat : Int)) : putL n = [c] := by
  rw [putL_in ⟨h0, by omega⟩, dec_small (by omega)]
  congr 1
  apply UInt8.toNat_inj.1
  rw [digit_nat (by omega)]
  omega
theorem putL_more {n : Int} (h0 : 10 ≤ n) (h : n ≤ 4611686018427387904) : putL n = putL (n / 10) ++ putL (n % 10) := by
  rw [putL_in ⟨by omega, h⟩, putL_in ⟨by omega, by omega⟩, putL_in ⟨by omega, by omega⟩, dec_big (by omega), dec_small (u := (n % 10).toNat) (by omega)]
  congr 2
  · omega
  · congr 2
    omega

theorem str_cat (a b : List UInt8) : str a ++ str b = str (a ++ b) := by
  apply Go.WideShapes.bytes_inj
  rw [ByteArray.data_append, Array.toList_append]
  rfl

theorem refPutNumber_nat : ∀ (m : Nat) (n : Int) (w : World), n.toNat = m → -9223372036854775808 ≤ n → n ≤ 9223372036854775807 →
    Calls Tryz.prog 91 #[.int .i64 n] w fun e w' => e = .returned (.string (str (putL n))) ∧ Below w.heap.size w w' := by
  intro m
  induction m using Nat.strongRecOn with
  | _ m ih =>
    intro n w hm h0 h1
    have IH := (show Hid _ from ih)
    clear ih
    by_cases hneg : n < 0
    · have HE : Hid (putL n = []) := putL_out (by omega)
      rw [HE.out]
      clear hm
      go_enter Tryz.func91, Tryz.ntmps91
      go_wp2
      go_ret
      exact ⟨rfl, Below.refl _ _⟩
    · by_cases hbig : 4611686018427387904 < n
      · have HE : Hid (putL n = []) := putL_out (by omega)
        rw [HE.out]
        clear hm
        go_enter Tryz.func91, Tryz.ntmps91
        go_wp2
        go_ret
        exact ⟨rfl, Below.refl _ _⟩
      · by_cases h10 : n < 10
        · obtain ⟨c, hc⟩ : ∃ c : UInt8, 48 + n = (c.toNat : Int) := ⟨UInt8.ofNat (48 + n.toNat), by rw [UInt8.toNat_ofNat']; omega⟩
          have HE : Hid (putL n = [c]) := putL_one (by omega) h10 hc
          rw [HE.out]
          have hcv := (Owns.made w w.heap.size [c] (Nat.le_refl _) (show 1 ≤ maxLen by decide)).text (P := Tryz.prog) 118 9 5 Tryz.underlying118 Tryz.underlying5 Tryz.underlying9
          have hcw : (convert 118 9 (.slice (some ⟨w.heap.size, 0, none⟩) 1 1)).run Tryz.prog (w.alloc (.cells #[.int .u8 (c.toNat : Int)] 5)) = .ok (.string (str [c])) (w.alloc (.cells #[.int .u8 (c.toNat : Int)] 5)) := hcv
          have hcb : c.toNat < 256 := UInt8.toNat_lt c
          clear hcv hm
          go_enter Tryz.func91, Tryz.ntmps91
          go_wp2
          go_ret
          exact ⟨rfl, (Below.refl _ _).alloc (Nat.le_refl _) _⟩
        · have HE : Hid (putL n = putL (n / 10) ++ putL (n % 10)) := putL_more (by omega) (by omega)
          obtain ⟨q, hq⟩ : ∃ q, n / 10 = q := ⟨_, rfl⟩
          obtain ⟨r, hr⟩ : ∃ r, n % 10 = r := ⟨_, rfl⟩
          rw [HE.out, hq, hr]
          have A1 : Hid (∀ W, Calls Tryz.prog 91 #[.int .i64 q] W fun e w' => e = .returned (.string (str (putL q))) ∧ Below W.heap.size W w') := fun W => IH.out q.toNat (by omega) q W rfl (by omega) (by omega)
          have A2 : Hid (∀ W, Calls Tryz.prog 91 #[.int .i64 r] W fun e w' => e = .returned (.string (str (putL r))) ∧ Below W.heap.size W w') := fun W => IH.out r.toNat (by omega) r W rfl (by omega) (by omega)
          have z1 : (str (putL q)).size ≤ 19 := by rw [str_size]; exact putL_length _
          have z2 : (str (putL r)).size ≤ 19 := by rw [str_size]; exact putL_length _
          clear IH hm HE
          go_enter Tryz.func91, Tryz.ntmps91
          go_wp2_with fail
          refine (A1.out _).mono ?_
          rintro e w1 ⟨rfl, hb1⟩
          go_wp2_with fail
          refine (A2.out _).mono ?_
          rintro e w2 ⟨rfl, hb2⟩
          go_wp2
          go_ret
          exact ⟨ret_str (str_cat _ _), hb1.trans (hb2.mono hb1.size)⟩

theorem refPutNumber_any (n : Int) (w : World) (h0 : -9223372036854775808 ≤ n) (h1 : n ≤ 9223372036854775807) :
    Calls Tryz.prog 91 #[.int .i64 n] w fun e w' => e = .returned (.string (str (putL n))) ∧ Below w.heap.size w w' :=
  refPutNumber_nat n.toNat n w rfl h0 h1

theorem bytes_below {w w' : World} (h : w' = w ∨ ∃ t, w' = Lib.bytesWorld w 5 t) : Below w.heap.size w w' := by
  rcases h with rfl | ⟨t, rfl⟩
  · exact Below.refl _ _
  · exact Lib.bytesWorld_below _ _ _

theorem num_of_eq {s : ByteArray} {v : Int} (hs : 0 < s.size) (he : ((str (putL v)).toList == s.toList) = true) : Num s.data.toList v := by
  have e := eq_of_beq he
  rw [str_toList, Lib.toList_data] at e
  refine ⟨putL_bounds ?_, e⟩
  rw [e]
  intro h
  have := size_data s
  rw [h] at this
  simp at this
  omega
theorem no_num {s : ByteArray} {v : Int} (h : ∀ n, Num s.data.toList n → n = v) (he : ((str (putL v)).toList == s.toList) = false) : ∀ n, ¬ Num s.data.toList n := by
  intro n hn
  have := h n hn
  subst this
  rw [beq_eq_false_iff_ne] at he
  apply he
  rw [str_toList, Lib.toList_data]
  exact hn.2
theorem atoi_pos {s : ByteArray} {v : Int} (h : atoiAll s.data.toList = .ok v) : 0 < s.size := by
  rcases Nat.eq_zero_or_pos s.size with h0 | h0
  · have : s.data.toList = [] := List.length_eq_zero_iff.1 (by rw [size_data]; exact h0)
    rw [this] at h
    cases h
  · exact h0

set_option maxHeartbeats 1000000 in
theorem number_any (s : ByteArray) (w : World) (hN : NumV w) (hs : s.size ≤ 140737488355328) :
    Calls Tryz.prog 62 #[.string s] w fun e w' =>
      ((∃ n, e = .returned (.tuple #[.int .i64 n, .bool true]) ∧ Num s.data.toList n) ∨ (e = .returned (.tuple #[.int .i64 0, .bool false]) ∧ ∀ n, ¬ Num s.data.toList n)) ∧ Below w.heap.size w w' := by
  cases h : atoiAll s.data.toList with
  | ok v =>
    obtain ⟨b0, b1⟩ := Lib.atoiAll_bounds h
    have HU : Hid (∀ n, Num s.data.toList n → n = v) := fun n hn => by
      have := num_atoi hn
      rw [h] at this
      injection this with e
      exact e.symm
    have hp := atoi_pos h
    by_cases he : ((str (putL v)).toList == s.toList) = true
    · have HM : Hid (Num s.data.toList v) := num_of_eq hp he
      have HA := (show Hid _ from h)
      clear h
      go_enter Tryz.func62, Tryz.ntmps62
      go_wp2_with (first | (go_at_call 85; refine (Tryz.strconv_Atoi_ok s (by omega) v HA.out _).mono ?_; rintro e w1 ⟨rfl, hw⟩; have hb1 := bytes_below hw; clear hw) | (go_at_call 86; refine (putNumber_any v _ (hN.below hb1) b0 b1).mono ?_; rintro e w2 ⟨rfl, hb2⟩))
      all_goals go_ret2
      exact ⟨.inl ⟨v, rfl, HM.out⟩, hb1.trans (hb2.mono hb1.size)⟩
    · have he' : ((str (putL v)).toList == s.toList) = false := by simpa using he
      have HM : Hid (∀ n, ¬ Num s.data.toList n) := no_num HU.out he'
      have HA := (show Hid _ from h)
      clear h he
      go_enter Tryz.func62, Tryz.ntmps62
      go_wp2_with (first | (go_at_call 85; refine (Tryz.strconv_Atoi_ok s (by omega) v HA.out _).mono ?_; rintro e w1 ⟨rfl, hw⟩; have hb1 := bytes_below hw; clear hw) | (go_at_call 86; refine (putNumber_any v _ (hN.below hb1) b0 b1).mono ?_; rintro e w2 ⟨rfl, hb2⟩))
      all_goals go_ret2
      exact ⟨.inr ⟨rfl, HM.out⟩, hb1.trans (hb2.mono hb1.size)⟩
  | «syntax» =>
    have HM : Hid (∀ n, ¬ Num s.data.toList n) := fun n hn => by rw [num_atoi hn] at h; cases h
    have HA := (show Hid _ from h)
    clear h
    obtain ⟨tp, p, hv⟩ := hN.syn
    have HV := (show Hid _ from hv)
    clear hv
    go_enter Tryz.func62, Tryz.ntmps62
    go_wp2_with (go_at_call 85; refine (Tryz.strconv_Atoi_syntax_var s (by omega) HA.out tp p _ HV.out).mono ?_; rintro e w1 ⟨N, rfl, hN1, hN2, hb1⟩; clear hN2)
    all_goals go_ret2
    exact ⟨.inr ⟨rfl, HM.out⟩, hb1⟩
  | range =>
    have HM : Hid (∀ n, ¬ Num s.data.toList n) := fun n hn => by rw [num_atoi hn] at h; cases h
    have HA := (show Hid _ from h)
    clear h
    obtain ⟨tp, p, hv⟩ := hN.rng
    have HV := (show Hid _ from hv)
    clear hv
    go_enter Tryz.func62, Tryz.ntmps62
    go_wp2_with (go_at_call 85; refine (Tryz.strconv_Atoi_range_var s (by omega) HA.out tp p _ HV.out).mono ?_; rintro e w1 ⟨N, rfl, hN1, hN2, hb1⟩; clear hN2)
    all_goals go_ret2
    exact ⟨.inr ⟨rfl, HM.out⟩, hb1⟩
end Go.Proofs.YtgdkpmfdpfjdjaaGreatDoor

namespace Go.Proofs.YtgdkpmfdpfjdjaaGreatDoor
open Go.RowKit
open Go.Lib (decDigits)
set_option linter.unusedVariables false
attribute [local go_sem ↓] Go.wp_at_zero Go.wp_at_succ

theorem empty_of0 (s : ByteArray) (h : s.size = 0) : s.toList = [] := by
  rw [Lib.toList_data]
  exact List.length_eq_zero_iff.1 (by simpa using h)
theorem toList_ne0 {s : ByteArray} (h : 0 < s.size) : ¬ s.toList = [] ∧ s.toList.isEmpty = false := by
  have hl : s.toList ≠ [] := by
    rw [Lib.toList_data]
    intro e
    have : s.size = 0 := by rw [← size_data, e]; rfl
    omega
  exact ⟨hl, by simpa using hl⟩

theorem num_digit {l : List UInt8} {n : Int} (h : Num l n) : ∀ c ∈ l, 48 ≤ c.toNat ∧ c.toNat ≤ 57 := by
  obtain ⟨h1, h2⟩ := h
  rw [putL_in h1] at h2
  rw [← h2]
  exact dec_digit _
theorem num_val {l : List UInt8} {n : Int} (h : Num l n) : (val 0 l : Int) = n := by
  obtain ⟨h1, h2⟩ := h
  rw [putL_in h1] at h2
  rw [← h2, dec_val]
  omega
theorem num_length {l : List UInt8} {n : Int} (h : Num l n) : l.length ≤ 19 := by rw [← h.2]; exact putL_length n
theorem byte_mem (s : ByteArray) (k : Nat) (h : k < s.size) : s[k] ∈ s.data.toList := by
  have : s[k] = s.data.toList[k]'(by simpa using h) := rfl
  rw [this]
  exact List.getElem_mem _
theorem val_take (s : ByteArray) (k : Nat) : val 0 (s.data.toList.take k) ≤ val 0 s.data.toList := by
  have h := val_append 0 (s.data.toList.take k) (s.data.toList.drop k)
  rw [List.take_append_drop] at h
  rw [h]
  exact val_ge _ _

set_option maxHeartbeats 2000000 in
theorem refNumber_any (s : ByteArray) (w : World) (hs : s.size ≤ 140737488355328) :
    Calls Tryz.prog 70 #[.string s] w fun e w' =>
      ((∃ n, e = .returned (.tuple #[.int .i64 n, .bool true]) ∧ Num s.data.toList n) ∨ (e = .returned (.tuple #[.int .i64 0, .bool false]) ∧ ∀ n, ¬ Num s.data.toList n)) ∧ Below w.heap.size w w' := by
  go_enter Tryz.func70, Tryz.ntmps70
  go_wp2
  go_loop [4, 5] (fun m i => ∃ (k : Nat) (a : Int), k ≤ s.size ∧ i = .int .i64 k ∧ m = .int .i64 a ∧ 0 ≤ a ∧ a ≤ 4611686018427387909 ∧ Hid ((val 0 (s.data.toList.take k) : Int) = a)) (fun _ i => s.size - (intOf i).toNat)
  case atStart => exact ⟨0, 0, Nat.zero_le _, rfl, rfl, by omega, by omega, rfl⟩
  case round =>
    obtain ⟨k, a, hk, rfl, rfl, ha0, ha1, HV⟩ := hrel
    by_cases hlt : k < s.size
    · by_cases hbad : s[k].toNat < 48 ∨ 57 < s[k].toNat ∨ 18 < k ∨ 461168601842738790 < a
      · have HN : Hid (∀ n, ¬ Num s.data.toList n) := fun n hn => by
          have d := num_digit hn s[k] (byte_mem s k hlt)
          have e1 := num_val hn
          have e2 := num_length hn
          rw [size_data] at e2
          have e3 := val_take s (k + 1)
          rw [take_snoc s k hlt, val_snoc] at e3
          have e4 := HV.out
          have e5 := hn.1
          omega
        have HB : Hid (s[k].toNat < 48 ∨ 57 < s[k].toNat ∨ 18 < k ∨ 461168601842738790 < a) := hbad
        clear hbad
        go_wp2
        all_goals first
          | (go_ret2; exact ⟨.inr ⟨rfl, HN.out⟩, Below.refl _ _⟩)
          | (exfalso; have := HB.out; omega)
      · have b1 : ¬ (s[k].toNat : Int) < 48 := by omega
        have b2 : ¬ 57 < (s[k].toNat : Int) := by omega
        have b3 : ¬ 18 < (k : Int) := by omega
        have b4 : ¬ 461168601842738790 < a := by omega
        have HS : Hid ((val 0 (s.data.toList.take (k + 1)) : Int) = 10 * a + ((s[k].toNat : Int) - 48)) := by
          show _ = _
          have e4 := HV.out
          rw [take_snoc s k hlt, val_snoc]
          omega
        clear hbad HV
        go_wp2
        go_round
        case rel => exact ⟨k + 1, 10 * a + ((s[k].toNat : Int) - 48), by omega, by go_num, by go_num, by omega, by omega, HS⟩
        case measure => simp [intOf]; omega
    · have HV' : Hid ((val 0 s.data.toList : Int) = a) := by
        have := HV.out
        rw [show k = s.size by omega, take_all] at this
        exact this
      clear HV
      by_cases h0 : s.size = 0
      · have he := empty_of0 s h0
        have HN : Hid (∀ n, ¬ Num s.data.toList n) := fun n hn => by
          have e1 := hn.2
          rw [putL_in hn.1, ← Lib.toList_data, he] at e1
          exact dec_ne _ e1
        go_wp2
        all_goals go_ret2
        exact ⟨.inr ⟨rfl, HN.out⟩, Below.refl _ _⟩
      · obtain ⟨hne, hne'⟩ := toList_ne0 (s := s) (by omega)
        have HU : Hid (∀ n, Num s.data.toList n → n = a) := fun n hn => by
          have := num_val hn
          have := HV'.out
          omega
        by_cases he : ((str (putL a)).toList == s.toList) = true
        · have HM : Hid (Num s.data.toList a) := num_of_eq (by omega) he
          go_wp2_with (go_at_call 91; refine (refPutNumber_any a _ (by omega) (by omega)).mono ?_; rintro e w2 ⟨rfl, hb2⟩)
          all_goals go_ret2
          exact ⟨.inl ⟨a, rfl, HM.out⟩, hb2⟩
        · have he' : ((str (putL a)).toList == s.toList) = false := by simpa using he
          have HM : Hid (∀ n, ¬ Num s.data.toList n) := no_num HU.out he'
          clear he
          go_wp2_with (go_at_call 91; refine (refPutNumber_any a _ (by omega) (by omega)).mono ?_; rintro e w2 ⟨rfl, hb2⟩)
          all_goals go_ret2
          exact ⟨.inr ⟨rfl, HM.out⟩, hb2⟩
end Go.Proofs.YtgdkpmfdpfjdjaaGreatDoor
