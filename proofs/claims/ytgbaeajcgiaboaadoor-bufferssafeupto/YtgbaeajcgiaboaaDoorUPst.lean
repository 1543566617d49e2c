/-
  Buffers: Paste, the document's and the program's.
-/
import Derived.Test.YtgbaeajcgiaboaaDoorURNu
import Derived.Test.YtgbaeajcgiaboaaDoorUPpu
import Derived.Deep.DeepCutAuto
namespace Go.Proofs.YtgbaeajcgiaboaaDoor
open Go.RowKit
set_option linter.unusedVariables false
set_option maxRecDepth 100000

def mkB : ByteArray := ⟨#[27, 91, 50, 48, 49, 126]⟩
theorem strBackP (s : ByteArray) : str s.data.toList = s := by
  apply Go.WideShapes.bytes_inj
  rw [str_data]
theorem cat_str {a b : ByteArray} {l m r : List UInt8} (ha : a = str l) (hb : b.data.toList = m) (hr : l ++ m = r) : a ++ b = str r := by
  have e : b = str m := by rw [← hb, strBackP]
  rw [ha, e, str_cat, hr]
theorem ext_one {t : ByteArray} {k : Nat} (hk : k < t.size) : (t.extract k (k + 1)).data.toList = [t[k]] := by
  have hl : t.data.toList.length = t.size := by rw [Array.length_toList]; rfl
  have h1 : k < t.data.toList.length := by omega
  rw [ByteArray.data_extract, Array.toList_extract]
  have e : t.data.toList[k] = t[k] := rfl
  rw [List.extract, show k + 1 - k = 1 by omega, List.drop_eq_getElem_cons h1, e]
  rfl
set_option maxHeartbeats 8000000 in
theorem rPaste_any (t x : ByteArray) (br : Bool) (w : World) (ht : t.size ≤ 1048576) (hx : x.size ≤ 1048576) :
    Calls Tryd.prog 16 #[.string t, .string x, .bool br] w fun e w' => e = .returned (.string (str (pasteL t.data.toList x.data.toList br))) ∧ Below w.heap.size w w' := by
  go_enter Tryd.func16, Tryd.ntmps16
  cases br with
  | true =>
    go_wp2_with fail
    go_loopw [9, 8] (fun i s wr => ∃ (k : Nat) (acc : List UInt8), k ≤ t.size ∧ i = .int .i64 k ∧ s = .string (str acc) ∧ Hid (remL t.data.toList = acc ++ remL (t.data.toList.drop k)) ∧ Hid (acc.length ≤ k) ∧ Hid (Below w.heap.size w wr)) (fun i _ _ => t.size - (intOf i).toNat)
    case atStart => exact ⟨0, [], Nat.zero_le _, rfl, rfl, hidK (by rw [List.drop_zero]; rfl), Nat.zero_le _, Below.refl _ _⟩
    case round =>
      obtain ⟨k, acc, hk, rfl, rfl, HJ, HA, HW⟩ := hrel
      have hsz : (str acc).size ≤ 1048576 := by rw [str_size]; have := HA.out; omega
      by_cases hlt : k < t.size
      · obtain ⟨m, hm⟩ : ∃ m, markL.isPrefixOf (t.data.toList.drop k) = m := ⟨_, rfl⟩
        have HM := hidK hm
        clear hm
        go_upto_region 7 with fail
        go_cut [35] (fun v X => v = .bool m ∧ wr = X)
        case first =>
          by_cases h6 : k + 6 ≤ t.size
          · have i6 : (k : Int) + 6 ≤ (t.size : Int) := by omega
            have n6 : ((k : Int) + 6).toNat = k + 6 := by omega
            have o6 : (k : Int) ≤ (k : Int) + 6 := by omega
            have HV : Hid (((t.extract k (k + 6)).toList == [27, 91, 50, 48, 49, 126]) = m) := by
              show _ = _
              rw [← HM.out, mark_at, decide_eq_true h6, Bool.true_and]
              rfl
            go_wp2_with fail
            go_meet
            case rel => exact ⟨congrArg Value.bool HV.out, rfl⟩
          · have i6 : ¬ (k : Int) + 6 ≤ (t.size : Int) := by omega
            have HV : Hid (false = m) := by
              show _ = _
              rw [← HM.out, mark_at, decide_eq_false h6, Bool.false_and]
            go_wp2_with fail
            go_meet
            case rel => exact ⟨congrArg Value.bool HV.out, rfl⟩
        case rest =>
          obtain ⟨rfl, rfl⟩ := hcut
          cases m with
          | true =>
            have h6 : k + 6 ≤ t.size := by
              have := HM.out
              rw [mark_at, Bool.and_eq_true] at this
              exact of_decide_eq_true this.1
            have HJ1 : Hid (remL t.data.toList = acc ++ remL (t.data.toList.drop (k + 6))) := by
              show _ = _
              rw [HJ.out, rem_hit HM.out]
            have HA1 : Hid (acc.length ≤ k + 6) := Nat.le_trans HA.out (Nat.le_add_right _ _)
            go_wp2_with fail
            go_roundw
            case rel => exact ⟨k + 6, acc, h6, by go_num, rfl, HJ1, HA1, HW⟩
            case measure => simp [intOf]; omega
          | false =>
            have hkl : k < t.data.toList.length := by rw [Array.length_toList]; exact hlt
            have HJ1 : Hid (remL t.data.toList = (acc ++ [t[k]]) ++ remL (t.data.toList.drop (k + 1))) := by
              show _ = _
              rw [HJ.out, rem_miss hkl HM.out, List.append_assoc]
              rfl
            have HA1 : Hid ((acc ++ [t[k]]).length ≤ k + 1) := by
              show _ ≤ _
              rw [List.length_append, List.length_singleton]
              have := HA.out
              omega
            have HE1 := hidK (ext_one hlt)
            have n1 : ((k : Int) + 1).toNat = k + 1 := by omega
            have o1 : (k : Int) ≤ (k : Int) + 1 := by omega
            have p1 : (k : Int) + 1 ≤ (t.size : Int) := by omega
            have hez : (t.extract k (k + 1)).size = 1 := by rw [ByteArray.size_extract]; omega
            go_wp2_with fail
            go_roundw
            case rel => exact ⟨k + 1, _, by omega, by go_num, congrArg Value.string (cat_str rfl HE1.out rfl), HJ1, HA1, HW⟩
            case measure => simp [intOf]; omega
      · have HJ1 : Hid (remL t.data.toList = acc) := by
          show _ = _
          rw [HJ.out, List.drop_of_length_le (by rw [Array.length_toList]; exact Nat.le_of_not_lt hlt)]
          unfold remL
          rw [repS_nil, List.append_nil]
        have HW0 := hidK HW.out
        go_wp2_with fail
        obtain ⟨U, hU⟩ : ∃ U, str acc = U := ⟨_, rfl⟩
        have HU : Hid (U.data.toList = remL t.data.toList) := by
          show _ = _
          rw [← hU, str_data, HJ1.out]
        rw [hU] at hsz
        rw [hU]
        have HSz : Hid (U.size ≤ 1048576 ∧ x.size ≤ 1048576) := ⟨hsz, hx⟩
        clear hU HJ1 HJ HA HW hk hsz hlt ht
        go_loopw [10, 8] (fun i s wr => ∃ (k : Nat) (acc : List UInt8), k ≤ U.size ∧ i = .int .i64 k ∧ s = .string (str acc) ∧ Hid (joinL x.data.toList U.data.toList = acc ++ joinL x.data.toList (U.data.toList.drop k)) ∧ Hid (acc.length ≤ k * 1048577) ∧ Hid (Below w.heap.size w wr)) (fun i _ _ => U.size - (intOf i).toNat)
        case atStart => exact ⟨0, [], Nat.zero_le _, rfl, rfl, hidK (by rw [List.drop_zero]; rfl), Nat.zero_le _, HW0⟩
        case round =>
          clear HW0
          obtain ⟨k, acc, hk, rfl, rfl, HJ, HA, HW⟩ := hrel
          have hsz : (str acc).size ≤ 1099512676352 := by rw [str_size]; have := HA.out; have := HSz.out; omega
          have hux : U.size ≤ 1048576 ∧ x.size ≤ 1048576 := HSz.out
          obtain ⟨hu1, hx1⟩ := hux
          by_cases hlt : k < U.size
          · have hkl : k < U.data.toList.length := by rw [Array.length_toList]; exact hlt
            have hxl : x.data.toList.length = x.size := by rw [Array.length_toList]; rfl
            have hku : U.data.toList[k] = U[k] := rfl
            by_cases h10 : U[k].toNat = 10
            · have e10 : U.data.toList[k] = 10 := UInt8.toNat_inj.1 h10
              have HJ1 : Hid (joinL x.data.toList U.data.toList = (acc ++ x.data.toList) ++ joinL x.data.toList (U.data.toList.drop (k + 1))) := by
                show _ = _
                rw [HJ.out, join_hit _ hkl e10, List.append_assoc]
              have HA1 : Hid ((acc ++ x.data.toList).length ≤ (k + 1) * 1048577) := by
                show _ ≤ _
                rw [List.length_append, hxl]
                have := HA.out
                omega
              have hb10 : ((U[k].toNat : Int) == 10) = true := by rw [h10]; rfl
              clear e10
              go_wp2_with fail
              go_roundw
              case rel => exact ⟨k + 1, _, by omega, by go_num, congrArg Value.string (cat_str rfl rfl rfl), HJ1, HA1, HW⟩
              case measure => simp [intOf]; omega
            · have e10 : U.data.toList[k] ≠ 10 := fun e => h10 (by rw [← hku, e]; rfl)
              have HJ1 : Hid (joinL x.data.toList U.data.toList = (acc ++ [U[k]]) ++ joinL x.data.toList (U.data.toList.drop (k + 1))) := by
                show _ = _
                rw [HJ.out, join_miss _ hkl e10, List.append_assoc]
                rfl
              have HA1 : Hid ((acc ++ [U[k]]).length ≤ (k + 1) * 1048577) := by
                show _ ≤ _
                rw [List.length_append, List.length_singleton]
                have := HA.out
                omega
              have HE1 := hidK (ext_one hlt)
              have n1 : ((k : Int) + 1).toNat = k + 1 := by omega
              have o1 : (k : Int) ≤ (k : Int) + 1 := by omega
              have p1 : (k : Int) + 1 ≤ (U.size : Int) := by omega
              have hez : (U.extract k (k + 1)).size = 1 := by rw [ByteArray.size_extract]; omega
              have hb10 : ((U[k].toNat : Int) == 10) = false := by simp; omega
              clear e10
              go_wp2_with fail
              go_roundw
              case rel => exact ⟨k + 1, _, by omega, by go_num, congrArg Value.string (cat_str rfl HE1.out rfl), HJ1, HA1, HW⟩
              case measure => simp [intOf]; omega
          · have HJ1 : Hid (joinL x.data.toList U.data.toList = acc) := by
              show _ = _
              rw [HJ.out, List.drop_of_length_le (by rw [Array.length_toList]; exact Nat.le_of_not_lt hlt)]
              unfold joinL
              rw [repS_nil, List.append_nil]
            go_wp2_with fail
            go_ret
            refine ⟨ret_str (cat_str (cat_str (l := begL) rfl (str_data acc) rfl) (m := markL) rfl ?_), HW.out⟩
            show _ = pasteL _ _ true
            unfold pasteL
            rw [if_pos rfl, ← HU.out, HJ1.out]
  | false =>
    have HW0 : Hid (Below w.heap.size w w) := Below.refl _ _
    have HSz : Hid (t.size ≤ 1048576 ∧ x.size ≤ 1048576) := ⟨ht, hx⟩
    clear ht
    go_wp2_with fail
    go_loopw [10, 8] (fun i s wr => ∃ (k : Nat) (acc : List UInt8), k ≤ t.size ∧ i = .int .i64 k ∧ s = .string (str acc) ∧ Hid (joinL x.data.toList t.data.toList = acc ++ joinL x.data.toList (t.data.toList.drop k)) ∧ Hid (acc.length ≤ k * 1048577) ∧ Hid (Below w.heap.size w wr)) (fun i _ _ => t.size - (intOf i).toNat)
    case atStart => exact ⟨0, [], Nat.zero_le _, rfl, rfl, hidK (by rw [List.drop_zero]; rfl), Nat.zero_le _, HW0⟩
    case round =>
      clear HW0
      obtain ⟨k, acc, hk, rfl, rfl, HJ, HA, HW⟩ := hrel
      have hsz : (str acc).size ≤ 1099512676352 := by rw [str_size]; have := HA.out; have := HSz.out; omega
      have hux : t.size ≤ 1048576 ∧ x.size ≤ 1048576 := HSz.out
      obtain ⟨hu1, hx1⟩ := hux
      by_cases hlt : k < t.size
      · have hkl : k < t.data.toList.length := by rw [Array.length_toList]; exact hlt
        have hxl : x.data.toList.length = x.size := by rw [Array.length_toList]; rfl
        have hku : t.data.toList[k] = t[k] := rfl
        by_cases h10 : t[k].toNat = 10
        · have e10 : t.data.toList[k] = 10 := UInt8.toNat_inj.1 h10
          have HJ1 : Hid (joinL x.data.toList t.data.toList = (acc ++ x.data.toList) ++ joinL x.data.toList (t.data.toList.drop (k + 1))) := by
            show _ = _
            rw [HJ.out, join_hit _ hkl e10, List.append_assoc]
          have HA1 : Hid ((acc ++ x.data.toList).length ≤ (k + 1) * 1048577) := by
            show _ ≤ _
            rw [List.length_append, hxl]
            have := HA.out
            omega
          have hb10 : ((t[k].toNat : Int) == 10) = true := by rw [h10]; rfl
          clear e10
          go_wp2_with fail
          go_roundw
          case rel => exact ⟨k + 1, _, by omega, by go_num, congrArg Value.string (cat_str rfl rfl rfl), HJ1, HA1, HW⟩
          case measure => simp [intOf]; omega
        · have e10 : t.data.toList[k] ≠ 10 := fun e => h10 (by rw [← hku, e]; rfl)
          have HJ1 : Hid (joinL x.data.toList t.data.toList = (acc ++ [t[k]]) ++ joinL x.data.toList (t.data.toList.drop (k + 1))) := by
            show _ = _
            rw [HJ.out, join_miss _ hkl e10, List.append_assoc]
            rfl
          have HA1 : Hid ((acc ++ [t[k]]).length ≤ (k + 1) * 1048577) := by
            show _ ≤ _
            rw [List.length_append, List.length_singleton]
            have := HA.out
            omega
          have HE1 := hidK (ext_one hlt)
          have n1 : ((k : Int) + 1).toNat = k + 1 := by omega
          have o1 : (k : Int) ≤ (k : Int) + 1 := by omega
          have p1 : (k : Int) + 1 ≤ (t.size : Int) := by omega
          have hez : (t.extract k (k + 1)).size = 1 := by rw [ByteArray.size_extract]; omega
          have hb10 : ((t[k].toNat : Int) == 10) = false := by simp; omega
          clear e10
          go_wp2_with fail
          go_roundw
          case rel => exact ⟨k + 1, _, by omega, by go_num, congrArg Value.string (cat_str rfl HE1.out rfl), HJ1, HA1, HW⟩
          case measure => simp [intOf]; omega
      · have HJ1 : Hid (joinL x.data.toList t.data.toList = acc) := by
          show _ = _
          rw [HJ.out, List.drop_of_length_le (by rw [Array.length_toList]; exact Nat.le_of_not_lt hlt)]
          unfold joinL
          rw [repS_nil, List.append_nil]
        go_wp2_with fail
        go_ret
        exact ⟨ret_str (by unfold pasteL; rw [if_neg (by decide), HJ1.out]), HW.out⟩
end Go.Proofs.YtgbaeajcgiaboaaDoor
