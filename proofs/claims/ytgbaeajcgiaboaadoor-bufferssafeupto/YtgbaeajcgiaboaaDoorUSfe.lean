/-
  Buffers: the law of a safe Paste.
-/
import Derived.Test.YtgbaeajcgiaboaaDoorUPaP
namespace Go.Proofs.YtgbaeajcgiaboaaDoor
open Go.RowKit
set_option linter.unusedVariables false
set_option maxRecDepth 100000

theorem nls_take {l : List UInt8} {k : Nat} (hk : k < l.length) : nls (l.take (k + 1)) = nls (l.take k) + (if l[k] = 10 then 1 else 0) := by
  rw [List.take_succ_eq_append_getElem hk, nls_snoc]
theorem ends_of (m : List UInt8) : (str (begL ++ m ++ markL)).size = m.length + 12 ∧ ((str (begL ++ m ++ markL)).extract 0 6).toList = [27, 91, 50, 48, 48, 126] ∧ ((str (begL ++ m ++ markL)).extract (m.length + 6) (m.length + 12)).toList = [27, 91, 50, 48, 49, 126] := by
  have e1 : (begL ++ m).length = m.length + 6 := by rw [List.length_append]; show 6 + m.length = _; omega
  refine ⟨?_, ?_, ?_⟩
  · rw [str_size, List.length_append, e1]
    rfl
  · rw [Lib.toList_data, ByteArray.data_extract, Array.toList_extract, str_data, List.append_assoc]
    rfl
  · rw [Lib.toList_data, ByteArray.data_extract, Array.toList_extract, str_data, List.extract, ← e1, List.drop_left]
    show markL.take _ = _
    rw [e1, show m.length + 12 - (m.length + 6) = 6 by omega]
    rfl
set_option maxHeartbeats 8000000 in
theorem buffersSafe_walk {w : World} (hT : Tens w) (hM : MaxC w) (t x : ByteArray) (ht : t.size ≤ 1048576) (hx : x.size ≤ 1048576) :
    Calls Tryd.prog 4 #[.string t, .string x] w fun r w' => r = .returned (.bool true) ∧ Below w.heap.size w w' := by
  have HSu : Hid (∀ Y, Below w.heap.size w Y → Calls Tryd.prog 10 #[] Y fun r w' => r = .returned (.bool true) ∧ Below Y.heap.size Y w') := fun Y hY => sure_any (hT.below hY)
  obtain ⟨U, hU⟩ : ∃ U, str (pasteL t.data.toList [] false) = U := ⟨_, rfl⟩
  obtain ⟨V, hV⟩ : ∃ V, str (pasteL t.data.toList x.data.toList false) = V := ⟨_, rfl⟩
  obtain ⟨Q, hQ⟩ : ∃ Q, str (pasteL t.data.toList [13] true) = Q := ⟨_, rfl⟩
  have HA : Hid (∀ Y, Below w.heap.size w Y → Calls Tryd.prog 15 #[.string t, .string ⟨#[10]⟩, .bool false] Y fun e w' => e = .returned (.string t) ∧ Below Y.heap.size Y w') := fun Y hY => by
    have h := paste_any t ⟨#[10]⟩ false Y (hM.below hY) ht (by decide)
    have e : str (pasteL t.data.toList (⟨#[10]⟩ : ByteArray).data.toList false) = t := by
      show str (repS [10] [10] 0 t.data.toList) = t
      rw [repS_same, strBackP]
    rw [e] at h
    exact h
  have HB : Hid (∀ Y, Below w.heap.size w Y → Calls Tryd.prog 15 #[.string t, .string ⟨#[]⟩, .bool false] Y fun e w' => e = .returned (.string U) ∧ Below Y.heap.size Y w') := fun Y hY => by
    rw [← hU]
    exact paste_any t ⟨#[]⟩ false Y (hM.below hY) ht (by decide)
  have HC : Hid (∀ Y, Below w.heap.size w Y → Calls Tryd.prog 15 #[.string t, .string x, .bool false] Y fun e w' => e = .returned (.string V) ∧ Below Y.heap.size Y w') := fun Y hY => by
    rw [← hV]
    exact paste_any t x false Y (hM.below hY) ht hx
  have HD : Hid (∀ Y, Below w.heap.size w Y → Calls Tryd.prog 15 #[.string t, .string ⟨#[13]⟩, .bool true] Y fun e w' => e = .returned (.string Q) ∧ Below Y.heap.size Y w') := fun Y hY => by
    rw [← hQ]
    exact paste_any t ⟨#[13]⟩ true Y (hM.below hY) ht (by decide)
  obtain ⟨N, hN⟩ : ∃ N, nls t.data.toList = N := ⟨_, rfl⟩
  have hNt : N ≤ t.size := by rw [← hN, ← dataL]; exact nls_le _
  have hUs : U.size + N = t.size := by
    have h := one_len [] t.data.toList
    rw [hN, dataL] at h
    rw [← hU, str_size]
    exact h
  have hVs : V.size = U.size + N * x.size := by
    have h := one_len x.data.toList t.data.toList
    rw [hN, dataL, dataL] at h
    have e : V.size = (repS [10] x.data.toList 0 t.data.toList).length := by rw [← hV, str_size]; rfl
    omega
  obtain ⟨P, hP⟩ : ∃ P, N * x.size = P := ⟨_, rfl⟩
  have hPb : P ≤ 1099511627776 := by
    have h3 := Nat.mul_le_mul (Nat.le_trans hNt ht) hx
    have h4 : 1048576 * 1048576 = 1099511627776 := by decide
    omega
  rw [hP] at hVs
  have hPi : (N : Int) * (x.size : Int) = (P : Int) := by rw [← hP]; push_cast; rfl
  obtain ⟨M, hM2⟩ : ∃ M, (joinL [13] (remL t.data.toList)).length = M := ⟨_, rfl⟩
  have hMb : M ≤ 1099512676352 := by
    rw [← hM2]
    exact join_len [13] (remL t.data.toList) (by decide) (by have := rem_len t.data.toList; rw [dataL] at this; omega)
  obtain ⟨q0, q1, q2⟩ := ends_of (joinL [13] (remL t.data.toList))
  rw [hM2] at q0 q2
  have hQe : str (begL ++ joinL [13] (remL t.data.toList) ++ markL) = Q := hQ
  rw [hQe] at q0 q1 q2
  have HN := hidK hN
  have Hq := hidK (And.intro q0 (And.intro q1 q2))
  have HS := hidK (And.intro hUs (And.intro hVs hPi))
  have HW0 : Hid (Below w.heap.size w w) := Below.refl _ _
  have htt : (t.toList == t.toList) = true := by simp
  clear hT hM hU hV hQ hN hP hM2 q0 q1 q2 hQe hUs hVs hPi
  go_enter Tryd.func4, Tryd.ntmps4
  go_wp2_with fail
  refine (HA.out _ HW0.out).mono ?_
  rintro e w1 ⟨rfl, hb1⟩
  have HB1 := hidK hb1
  clear hb1 HW0
  go_wp2_with fail
  refine (HB.out _ HB1.out).mono ?_
  rintro e w2 ⟨rfl, hb2⟩
  have HB2 := hidK (HB1.out.trans (hb2.mono HB1.out.size))
  clear hb2 HB1
  go_wp2_with fail
  go_loopw [8, 7] (fun i n wr => ∃ k : Nat, k ≤ t.size ∧ i = .int .i64 k ∧ n = .int .i64 (nls (t.data.toList.take k) : Int) ∧ Hid (Below w.heap.size w wr)) (fun i _ _ => t.size - (intOf i).toNat)
  case atStart => exact ⟨0, Nat.zero_le _, rfl, rfl, HB2⟩
  case round =>
    clear HB2
    obtain ⟨k, hk, rfl, rfl, HW⟩ := hrel
    by_cases hlt : k < t.size
    · have hkl : k < t.data.toList.length := by rw [dataL]; exact hlt
      have HT := hidK (nls_take hkl)
      have hku : t.data.toList[k] = t[k] := rfl
      have hns : nls (t.data.toList.take k) ≤ 1048576 := Nat.le_trans (nls_le _) (by rw [List.length_take]; omega)
      obtain ⟨n, hn⟩ : ∃ n, nls (t.data.toList.take k) = n := ⟨_, rfl⟩
      rw [hn] at hns HT ⊢
      by_cases h10 : t[k].toNat = 10
      · have e10 : t.data.toList[k] = 10 := UInt8.toNat_inj.1 h10
        have HT1 : Hid (n + 1 = nls (t.data.toList.take (k + 1))) := by
          show _ = _
          rw [HT.out, if_pos e10]
        have hb10 : ((t[k].toNat : Int) == 10) = true := by rw [h10]; rfl
        clear e10 hn
        go_wp2_with fail
        go_roundw
        case rel => exact ⟨k + 1, by omega, by go_num, by rw [← HT1.out]; go_num, HW⟩
        case measure => simp [intOf]; omega
      · have e10 : ¬ t.data.toList[k] = 10 := fun e => h10 (by rw [← hku, e]; rfl)
        have HT1 : Hid (n = nls (t.data.toList.take (k + 1))) := by
          show _ = _
          rw [HT.out, if_neg e10]
          rfl
        have hb10 : ((t[k].toNat : Int) == 10) = false := by simp; omega
        clear e10 hn
        go_wp2_with fail
        go_roundw
        case rel => exact ⟨k + 1, by omega, by go_num, by rw [← HT1.out], HW⟩
        case measure => simp [intOf]; omega
    · have hnk : nls (t.data.toList.take k) = N := by rw [List.take_of_length_le (by rw [dataL]; omega)]; exact HN.out
      rw [hnk]
      obtain ⟨hUs, hVs, hPi⟩ := HS.out
      have u1 : (t.size : Int) - (N : Int) = (U.size : Int) := by omega
      have u2 : (U.size : Int) + (P : Int) = (V.size : Int) := by omega
      have u3 : (U.size : Int) ≤ 1048576 := by omega
      have u4 : (P : Int) ≤ 1099511627776 := by omega
      have u6 : V.size ≤ 1099600000000 := by omega
      have u7 : U.size ≤ 1048576 := by omega
      have u5 : wrap64 ((N : Int) * (x.size : Int)) = (P : Int) := by rw [hPi]; exact IntWalk.wrap64_in _ ⟨by omega, by omega⟩
      clear hnk hUs hVs hPi
      go_wp2_with fail
      refine (HC.out _ HW.out).mono ?_
      rintro e w3 ⟨rfl, hb3⟩
      have HB3 := hidK (HW.out.trans (hb3.mono HW.out.size))
      clear hb3 HW
      go_wp2_with fail
      refine (HD.out _ HB3.out).mono ?_
      rintro e w4 ⟨rfl, hb4⟩
      have HB4 := hidK (HB3.out.trans (hb4.mono HB3.out.size))
      clear hb4 HB3 u1 u2 u3 u4 u5 u6 u7
      obtain ⟨q0, q1, q2⟩ := Hq.out
      have z1 : (12 : Int) ≤ (Q.size : Int) := by omega
      have z2 : (6 : Int) ≤ (Q.size : Int) := by omega
      have z3 : (0 : Int) ≤ (Q.size : Int) - 6 := by omega
      have z4 : (Q.size : Int) - 6 ≤ (Q.size : Int) := by omega
      have z5 : ((Q.size : Int) - 6).toNat = M + 6 := by omega
      have z6 : Q.size = M + 12 := q0
      have q2' : (Q.extract (M + 6) Q.size).toList = [27, 91, 50, 48, 49, 126] := by rw [q0]; exact q2
      have z7 : (Q.size : Int) ≤ 1099512676364 := by omega
      clear q0 z6
      go_wp2_with fail
      refine (HSu.out _ HB4.out).mono ?_
      rintro e w5 ⟨rfl, hb5⟩
      have HB5 := hidK (HB4.out.trans (hb5.mono HB4.out.size))
      clear hb5
      go_wp2_with fail
      go_ret
      exact ⟨rfl, HB5.out⟩
end Go.Proofs.YtgbaeajcgiaboaaDoor
