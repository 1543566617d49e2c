/-
  The walks of PutNumber and Number, the program's and the document's.
-/
import Derived.Test.YtplolaondmeccaaGreatDoorCodeA
import Derived.Test.YtplolaondmeccaaGreatDoorNumPlain
import Derived.Test.YtplolaondmeccaaGreatDoorShelf
import Derived.WalkKit
import Derived.Lib.AtoiErrMem
import Derived.Lib.LaidTab
import Derived.Lib.ItoaMem
import Derived.Lib.AppendIntMem
namespace Go.Proofs.YtplolaondmeccaaGreatDoor
open Go.RowKit
open Go.Lib (decDigits atoiAll)
set_option linter.unusedVariables false

/-- What the calls read of the library's variables. -/
structure NumV (w : World) : Prop where
  tab : Lib.TabIs Tryz.prog w "internal/strconv.uint64pow10" .u64 Lib.pow10Tab
  syn : ∃ tp p, w.var? Tryz.prog "strconv.ErrSyntax" = some #[.iface tp p]
  rng : ∃ tp p, w.var? Tryz.prog "strconv.ErrRange" = some #[.iface tp p]

theorem var_below {n : String} {W W' : World} {cs : Array Value} (h : Below W.heap.size W W') (hv : W.var? Tryz.prog n = some cs) : W'.var? Tryz.prog n = some cs := by
  unfold World.var? at hv ⊢
  cases hg : Tryz.prog.globalNamed n with
  | none => rw [hg] at hv; cases hv
  | some g =>
    rw [hg] at hv
    simp only [Option.bind_some] at hv ⊢
    have hlt : g < W.heap.size := by
      rcases Nat.lt_or_ge g W.heap.size with h1 | h1
      · exact h1
      · rw [Array.getElem?_eq_none h1] at hv; cases hv
    rw [h.block g hlt]
    exact hv

theorem NumV.below {w w' : World} (h : NumV w) (hb : Below w.heap.size w w') : NumV w' :=
  ⟨var_below hb h.tab, h.syn.elim fun tp ⟨p, e⟩ => ⟨tp, p, var_below hb e⟩, h.rng.elim fun tp ⟨p, e⟩ => ⟨tp, p, var_below hb e⟩⟩

theorem below_of_grow {w w1 : World} {k : Nat} {os : Array Obj} (h : w1 = Sort.grow (w.drewN k) os) : Below w.heap.size w w1 := by
  rw [h]; exact Lib.below_grow _ _ (Nat.le_refl _) _ _

theorem putNumber_any (n : Int) (w : World) (hN : NumV w) (h0 : -9223372036854775808 ≤ n) (h1 : n ≤ 9223372036854775807) :
    Calls Tryz.prog 124 #[.int .i64 n] w fun e w' => e = .returned (.string (str (putL n))) ∧ Below w.heap.size w w' := by
  by_cases hin : 0 ≤ n ∧ n ≤ 4611686018427387904
  · obtain ⟨i0, i1⟩ := hin
    have HE : Hid (Lib.itoa n = putL n) := by
      show _ = _
      rw [putL_in ⟨i0, i1⟩]
      unfold Lib.itoa
      rw [if_neg (by omega)]
    have i0' : ¬ n < 0 := by omega
    have i1' : ¬ 4611686018427387904 < n := by omega
    go_enter Tryz.func124, Tryz.ntmps124
    go_wp2_with (go_at_call 155; refine (Tryz.strconv_Itoa n h0 h1 _ hN.tab).mono ?_; rintro e w1 ⟨rfl, k, os, hw⟩; have hb1 := below_of_grow hw; clear hw)
    go_ret
    exact ⟨ret_str (by rw [← HE.out]; rfl), hb1⟩
  · have HE : Hid (putL n = []) := putL_out hin
    rw [HE.out]
    by_cases hneg : n < 0
    · go_enter Tryz.func124, Tryz.ntmps124
      go_wp2
      go_ret
      exact ⟨rfl, Below.refl _ _⟩
    · have hbig : 4611686018427387904 < n := by omega
      go_enter Tryz.func124, Tryz.ntmps124
      go_wp2
      go_ret
      exact ⟨rfl, Below.refl _ _⟩

/-- A numeral of one digit, and of more. -/
theorem putL_one {n : Int} (h0 : 0 ≤ n) (h : n < 10) {c : UInt8} (hc : 48 + n = (c.toNat : Int)) : putL n = [c] := by
  rw [putL_in ⟨h0, by omega⟩, dec_small (by omega)]
  congr 1
  apply UInt8.toNat_inj.1
  rw [digit_nat (by omega)]
  omega
theorem putL_more {n : Int} (h0 : 10 ≤ n) (h : n ≤ 4611686018427387904) : putL n = putL (n / 10) ++ putL (n % 10) := by
  rw [putL_in ⟨by omega, h⟩, putL_in ⟨by omega, by omega⟩, putL_in ⟨by omega, by omega⟩, dec_big (by omega), dec_small (u := (n % 10).toNat) (by omega)]
  congr 2
  · omega
  · congr 2
    omega

theorem str_cat (a b : List UInt8) : str a ++ str b = str (a ++ b) := by
  apply Go.WideShapes.bytes_inj
  rw [ByteArray.data_append, Array.toList_append]
  rfl

theorem bytes_below {w w' : World} (h : w' = w ∨ ∃ t, w' = Lib.bytesWorld w 5 t) : Below w.heap.size w w' := by
  rcases h with rfl | ⟨t, rfl⟩
  · exact Below.refl _ _
  · exact Lib.bytesWorld_below _ _ _

theorem num_of_eq {s : ByteArray} {v : Int} (hs : 0 < s.size) (he : ((str (putL v)).toList == s.toList) = true) : Num s.data.toList v := by
  have e := eq_of_beq he
  rw [str_toList, Lib.toList_data] at e
  refine ⟨putL_bounds ?_, e⟩
  rw [e]
  intro h
  have := size_data s
  rw [h] at this
  simp at this
  omega
theorem no_num {s : ByteArray} {v : Int} (h : ∀ n, Num s.data.toList n → n = v) (he : ((str (putL v)).toList == s.toList) = false) : ∀ n, ¬ Num s.data.toList n := by
  intro n hn
  have := h n hn
  subst this
  rw [beq_eq_false_iff_ne] at he
  apply he
  rw [str_toList, Lib.toList_data]
  exact hn.2
theorem atoi_pos {s : ByteArray} {v : Int} (h : atoiAll s.data.toList = .ok v) : 0 < s.size := by
  rcases Nat.eq_zero_or_pos s.size with h0 | h0
  · have : s.data.toList = [] := List.length_eq_zero_iff.1 (by rw [size_data]; exact h0)
    rw [this] at h
    cases h
  · exact h0

set_option maxHeartbeats 1000000 in
theorem number_any (s : ByteArray) (w : World) (hN : NumV w) (hs : s.size ≤ 140737488355328) :
    Calls Tryz.prog 126 #[.string s] w fun e w' =>
      ((∃ n, e = .returned (.tuple #[.int .i64 n, .bool true]) ∧ Num s.data.toList n) ∨ (e = .returned (.tuple #[.int .i64 0, .bool false]) ∧ ∀ n, ¬ Num s.data.toList n)) ∧ Below w.heap.size w w' := by
  cases h : atoiAll s.data.toList with
  | ok v =>
    obtain ⟨b0, b1⟩ := Lib.atoiAll_bounds h
    have HU : Hid (∀ n, Num s.data.toList n → n = v) := fun n hn => by
      have := num_atoi hn
      rw [h] at this
      injection this with e
      exact e.symm
    have hp := atoi_pos h
    by_cases he : ((str (putL v)).toList == s.toList) = true
    · have HM : Hid (Num s.data.toList v) := num_of_eq hp he
      have HA := (show Hid _ from h)
      clear h
      go_enter Tryz.func126, Tryz.ntmps126
      go_wp2_with (first | (go_at_call 156; refine (Tryz.strconv_Atoi_ok s (by omega) v HA.out _).mono ?_; rintro e w1 ⟨rfl, hw⟩; have hb1 := bytes_below hw; clear hw) | (go_at_call 124; refine (putNumber_any v _ (hN.below hb1) b0 b1).mono ?_; rintro e w2 ⟨rfl, hb2⟩))
      all_goals go_ret2
      exact ⟨.inl ⟨v, rfl, HM.out⟩, hb1.trans (hb2.mono hb1.size)⟩
    · have he' : ((str (putL v)).toList == s.toList) = false := by simpa using he
      have HM : Hid (∀ n, ¬ Num s.data.toList n) := no_num HU.out he'
      have HA := (show Hid _ from h)
      clear h he
      go_enter Tryz.func126, Tryz.ntmps126
      go_wp2_with (first | (go_at_call 156; refine (Tryz.strconv_Atoi_ok s (by omega) v HA.out _).mono ?_; rintro e w1 ⟨rfl, hw⟩; have hb1 := bytes_below hw; clear hw) | (go_at_call 124; refine (putNumber_any v _ (hN.below hb1) b0 b1).mono ?_; rintro e w2 ⟨rfl, hb2⟩))
      all_goals go_ret2
      exact ⟨.inr ⟨rfl, HM.out⟩, hb1.trans (hb2.mono hb1.size)⟩
  | «syntax» =>
    have HM : Hid (∀ n, ¬ Num s.data.toList n) := fun n hn => by rw [num_atoi hn] at h; cases h
    have HA := (show Hid _ from h)
    clear h
    obtain ⟨tp, p, hv⟩ := hN.syn
    have HV := (show Hid _ from hv)
    clear hv
    go_enter Tryz.func126, Tryz.ntmps126
    go_wp2_with (go_at_call 156; refine (Tryz.strconv_Atoi_syntax_var s (by omega) HA.out tp p _ HV.out).mono ?_; rintro e w1 ⟨N, rfl, hN1, hN2, hb1⟩; clear hN2)
    all_goals go_ret2
    exact ⟨.inr ⟨rfl, HM.out⟩, hb1⟩
  | range =>
    have HM : Hid (∀ n, ¬ Num s.data.toList n) := fun n hn => by rw [num_atoi hn] at h; cases h
    have HA := (show Hid _ from h)
    clear h
    obtain ⟨tp, p, hv⟩ := hN.rng
    have HV := (show Hid _ from hv)
    clear hv
    go_enter Tryz.func126, Tryz.ntmps126
    go_wp2_with (go_at_call 156; refine (Tryz.strconv_Atoi_range_var s (by omega) HA.out tp p _ HV.out).mono ?_; rintro e w1 ⟨N, rfl, hN1, hN2, hb1⟩; clear hN2)
    all_goals go_ret2
    exact ⟨.inr ⟨rfl, HM.out⟩, hb1⟩
end Go.Proofs.YtplolaondmeccaaGreatDoor
