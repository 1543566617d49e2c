/-
  Keys: a control sequence.
  Keys: the key of a control sequence.
-/
import Derived.Test.YtnehkokppobncaaDoorKShift
import Derived.Test.YtnehkokppobncaaDoorShelf
import Derived.BigQuiet
import Derived.Deep.QuietTactic
namespace Go.Proofs.YtnehkokppobncaaDoor
open Go.RowKit
set_option linter.unusedVariables false
set_option maxRecDepth 100000

theorem str_dropF (l : List UInt8) (k : Nat) : (str l).extract k (str l).size = str (l.drop k) := by
  apply ByteArray.ext
  apply Array.ext'
  rw [ByteArray.data_extract, Array.toList_extract, List.extract_eq_take_drop]
  show ((l.drop k).take (l.length - k)) = l.drop k
  exact List.take_of_length_le (by rw [List.length_drop]; omega)
theorem str_takeF (l : List UInt8) (k : Nat) : (str l).extract 0 k = str (l.take k) := by
  apply ByteArray.ext
  apply Array.ext'
  rw [ByteArray.data_extract, Array.toList_extract, List.extract_eq_take_drop]
  simp [str]
theorem str_midF (l : List UInt8) (i j : Nat) : (str l).extract i j = str ((l.drop i).take (j - i)) := by
  apply ByteArray.ext
  apply Array.ext'
  rw [ByteArray.data_extract, Array.toList_extract, List.extract_eq_take_drop]
  rfl

theorem cut_index (l : List UInt8) : (0 ≤ Lib.indexByte l 59 → (Lib.indexByte l 59).toNat < l.length ∧ cutF l = (l.take (Lib.indexByte l 59).toNat, l.drop ((Lib.indexByte l 59).toNat + 1), true)) ∧ (¬ 0 ≤ Lib.indexByte l 59 → cutF l = (l, [], false)) := by
  induction l with
  | nil => exact ⟨fun h => absurd h (by decide), fun _ => rfl⟩
  | cons c l ih =>
    have hge := Lib.indexByte_ge l 59
    by_cases hc : c = 59
    · subst hc
      have e1 : Lib.indexByte (59 :: l) 59 = 0 := by simp [Lib.indexByte]
      rw [e1]
      exact ⟨fun _ => ⟨by simp, by simp [cutF]⟩, fun h => absurd (Int.le_refl 0) h⟩
    · have e1 : Lib.indexByte (c :: l) 59 = if Lib.indexByte l 59 < 0 then -1 else Lib.indexByte l 59 + 1 := by
        rw [Lib.indexByte]
        simp only [beq_iff_eq, hc, if_false]
        by_cases h : Lib.indexByte l 59 = -1
        · rw [if_pos h, if_pos (by omega)]
        · rw [if_neg h, if_neg (by omega)]
      have e2 : cutF (c :: l) = (c :: (cutF l).1, (cutF l).2.1, (cutF l).2.2) := by rw [cutF, if_neg hc]
      rw [e1, e2]
      split
      · rename_i h
        refine ⟨fun h2 => absurd h2 (by decide), fun _ => ?_⟩
        rw [ih.2 (by omega)]
      · rename_i h
        obtain ⟨h1, h2⟩ := ih.1 (by omega)
        have e3 : (Lib.indexByte l 59 + 1).toNat = (Lib.indexByte l 59).toNat + 1 := by omega
        refine ⟨fun _ => ?_, fun h2 => by omega⟩
        rw [e3, h2]
        exact ⟨by simp; omega, by simp⟩
theorem slice_to (A : ByteArray) (b : Nat) (h : b ≤ A.size) (W : World) : (Instr.slice 9 (.string A) none (some (.int .i64 (b : Int))) none).run Tryd.prog W = .ok (.string (A.extract 0 b)) W := by
  simp [Instr.slice, go_sem, h]
theorem slice_from (A : ByteArray) (a : Nat) (x : Int) (hx : x = (a : Int)) (h : a ≤ A.size) (W : World) : (Instr.slice 9 (.string A) (some (.int .i64 x)) none none).run Tryd.prog W = .ok (.string (A.extract a A.size)) W := by
  subst hx
  simp [Instr.slice, go_sem, h]
theorem results3 {P : Program} {fn : Func} {p q r : Tmp} (h : fn.results = #[.tmp p, .tmp q, .tmp r]) {a : Act} {w : World} {R : Ending → World → Prop} (hdf : a.defers = []) (hR : R (.returned (.tuple #[a.tmps.getD p undef, a.tmps.getD q undef, a.tmps.getD r undef])) w) : bodyPost P fn R .ret a w :=
  bodyPost_ret (results_tmp3 h _ _ _) hdf hR
set_option maxHeartbeats 2000000 in
theorem cutL_any (l : List UInt8) (hl : l.length ≤ 1000) (w : World) : Calls Tryd.prog 58 #[.string (str l), .string ⟨#[59]⟩] w fun r w' => r = .returned (.tuple #[.string (str (cutF l).1), .string (str (cutF l).2.1), .bool (cutF l).2.2]) ∧ Below w.heap.size w w' := by
  have hI := Tryd.stringslite_Index_one (str l) 59
  rw [str_data] at hI
  obtain ⟨c1, c2⟩ := cut_index l
  have hge := Lib.indexByte_ge l 59
  obtain ⟨i, hi⟩ : ∃ i, Lib.indexByte l 59 = i := ⟨_, rfl⟩
  rw [hi] at hI c1 c2 hge
  have HI : Hid (∀ W, Calls Tryd.prog 61 #[.string (str l), .string ⟨#[59]⟩] W fun e w' => e = .returned (.int .i64 i) ∧ w' = W) := hI
  have hs : (str l).size = l.length := rfl
  obtain ⟨z, hz⟩ : ∃ z, str l = z := ⟨_, rfl⟩
  by_cases h0 : 0 ≤ i
  · obtain ⟨h1, h2⟩ := c1 h0
    obtain ⟨n, rfl⟩ := Int.eq_ofNat_of_zero_le h0
    simp only [Int.toNat_natCast] at h1 h2
    rw [h2]
    have HA : Hid (str (l.take n) = z.extract 0 n ∧ str (l.drop (n + 1)) = z.extract (n + 1) z.size) := by rw [← hz]; exact ⟨(str_takeF l n).symm, (str_dropF l (n + 1)).symm⟩
    obtain ⟨A, hA⟩ : ∃ A, z.extract 0 n = A := ⟨_, rfl⟩
    obtain ⟨D, hD⟩ : ∃ D, z.extract (n + 1) z.size = D := ⟨_, rfl⟩
    simp only []
    rw [HA.out.1, HA.out.2, hA, hD, hz]
    rw [hz] at HI hs
    have k1 : (n : Int) ≤ (z.size : Int) := by omega
    have k2 : (n : Int) + 1 ≤ (z.size : Int) := by omega
    have k3 : n ≤ z.size := by omega
    have k4 : n + 1 ≤ z.size := by omega
    have hw : IntKind.i64.wrap ((n : Int) + 1) = (n : Int) + 1 := by
      have := IntKind.wrap_i64 ((n : Int) + 1)
      omega
    have hsl1 : ∀ W : World, (Instr.slice 9 (.string z) none (some (.int .i64 (n : Int))) none).run Tryd.prog W = .ok (.string A) W := fun W => by rw [← hA]; exact slice_to z n k3 W
    have hsl2 : ∀ W : World, (Instr.slice 9 (.string z) (some (.int .i64 ((n : Int) + 1))) none none).run Tryd.prog W = .ok (.string D) W := fun W => by rw [← hD]; exact slice_from z (n + 1) _ (by omega) k4 W
    clear hz hA hD HA hi h1 h2 c1 c2 hge hI hs hl h0
    go_enter Tryd.func58, Tryd.ntmps58
    go_wp2_with (go_at_call 61; refine (HI.out _).mono ?_; rintro e w1 ⟨rfl, rfl⟩)
    go_quiet (fail)
    go_wp2_with fail
    refine results3 rfl rfl ⟨rfl, below_drewN _ _⟩
  · have h2 := c2 h0
    rw [h2]
    simp only []
    rw [hz]
    rw [hz] at HI
    clear hz hi h2 c1 c2 hge hI hs hl
    go_enter Tryd.func58, Tryd.ntmps58
    go_wp2_with (go_at_call 61; refine (HI.out _).mono ?_; rintro e w1 ⟨rfl, rfl⟩)
    refine results3 rfl rfl ⟨rfl, Below.refl _ _⟩
set_option maxHeartbeats 1000000 in
theorem cut_any (l : List UInt8) (hl : l.length ≤ 1000) (w : World) : Calls Tryd.prog 48 #[.string (str l), .string ⟨#[59]⟩] w fun r w' => r = .returned (.tuple #[.string (str (cutF l).1), .string (str (cutF l).2.1), .bool (cutF l).2.2]) ∧ Below w.heap.size w w' := by
  have HC := hidK (cutL_any l hl)
  obtain ⟨x, hx⟩ : ∃ x, str (cutF l).1 = x := ⟨_, rfl⟩
  obtain ⟨y, hy⟩ : ∃ y, str (cutF l).2.1 = y := ⟨_, rfl⟩
  obtain ⟨z, hz⟩ : ∃ z, (cutF l).2.2 = z := ⟨_, rfl⟩
  obtain ⟨u, hu⟩ : ∃ u, str l = u := ⟨_, rfl⟩
  rw [hx, hy, hz, hu] at HC
  rw [hx, hy, hz, hu]
  clear hx hy hz hu hl
  go_enter Tryd.func48, Tryd.ntmps48
  go_wp2_with fail
  refine (HC.out _).mono ?_
  rintro e w1 ⟨rfl, hb⟩
  go_wp2_with fail
  exact results3 rfl rfl ⟨rfl, hb⟩
set_option maxHeartbeats 1000000 in
theorem modsOf_any (l : List UInt8) (hl : l.length ≤ 1000) (w : World) : Calls Tryd.prog 49 #[.string (str l)] w fun r w' => r = .returned (.int .i64 (modsF l)) ∧ w = w' := by
  match l, hl with
  | [], _ =>
    go_enter Tryd.func49, Tryd.ntmps49
    go_wp2_with fail
    go_ret
    exact ⟨rfl, rfl⟩
  | [c], _ =>
    obtain ⟨k, hk⟩ : ∃ k, modsF [c] = k := ⟨_, rfl⟩
    rw [hk]
    have hz : (str [c]).size = 1 := rfl
    have hg : (str [c])[0]'(by rw [hz]; decide) = c := rfl
    obtain ⟨Z, hZ⟩ : ∃ Z, str [c] = Z := ⟨_, rfl⟩
    have hlt := c.toNat_lt
    have hz1 : 0 < Z.size := by rw [← hZ]; exact Nat.one_pos
    have hz2 : Z.size = 1 := by rw [← hZ]; rfl
    have hz3 : (Z.size : Int) = 1 := by omega
    have hg2 : Z[0]'hz1 = c := by subst hZ; rfl
    rw [hZ]
    obtain ⟨n, hn⟩ : ∃ n, c.toNat = n := ⟨_, rfl⟩
    have HK : Hid ((if 49 < n ∧ n ≤ 56 then (n : Int) - 49 else 0) = k) := by show _ = _; rw [← hk, ← hn]; rfl
    have hgn : (Z[0]'hz1).toNat = n := by rw [hg2]; exact hn
    rw [hn] at hlt
    rcases (by omega : n ≤ 49 ∨ 56 < n ∨ (49 < n ∧ n ≤ 56)) with q | q | ⟨q, q'⟩
    · obtain rfl : 0 = k := by rw [← HK.out, if_neg (by omega)]
      have i1 : (n : Int) ≤ 49 := by omega
      clear hZ hk hz hg HK hn hlt hg2 q
      go_enter Tryd.func49, Tryd.ntmps49
      go_wp2_with fail
      go_ret
      exact ⟨rfl, rfl⟩
    · obtain rfl : 0 = k := by rw [← HK.out, if_neg (by omega)]
      have i1 : ¬ (n : Int) ≤ 49 := by omega
      have i2 : (56 : Int) < (n : Int) := by omega
      clear hZ hk hz hg HK hn hg2 q
      go_enter Tryd.func49, Tryd.ntmps49
      go_wp2_with fail
      go_ret
      exact ⟨rfl, rfl⟩
    · obtain rfl : (n : Int) - 49 = k := by rw [← HK.out, if_pos ⟨q, q'⟩]
      have i1 : ¬ (n : Int) ≤ 49 := by omega
      have i2 : ¬ (56 : Int) < (n : Int) := by omega
      clear hZ hk hz hg HK hn hg2
      go_enter Tryd.func49, Tryd.ntmps49
      go_wp2_with fail
      go_ret
      exact ⟨rfl, rfl⟩
  | a :: b :: r, hl =>
    have hk : modsF (a :: b :: r) = 0 := rfl
    rw [hk]
    have hz : (str (a :: b :: r)).size = r.length + 2 := rfl
    obtain ⟨Z, hZ⟩ : ∃ Z, str (a :: b :: r) = Z := ⟨_, rfl⟩
    rw [hZ] at hz ⊢
    have e1 : ((Z.size : Int) == 1) = false := by simp; omega
    have e2 : ¬ (Z.size : Int) = 1 := by omega
    clear hZ hk hl hz
    go_enter Tryd.func49, Tryd.ntmps49
    go_wp2_with fail
    go_ret
    exact ⟨rfl, rfl⟩
set_option maxHeartbeats 4000000 in
theorem isTold_any (s : Sp) (nu la : List UInt8) (md : Bool) (w : World) : Calls Tryd.prog 50 #[.agg #[.string (str s.name), .string (str s.head), .string (str s.letter), .string (str s.number)], .string (str nu), .string (str la), .bool md] w fun r w' => r = .returned (.bool (toldB s nu la md)) ∧ Below w.heap.size w w' := by
  obtain ⟨N, hN⟩ : ∃ N, str s.name = N := ⟨_, rfl⟩
  obtain ⟨H, hH⟩ : ∃ H, str s.head = H := ⟨_, rfl⟩
  obtain ⟨L, hL⟩ : ∃ L, str s.letter = L := ⟨_, rfl⟩
  obtain ⟨U, hU⟩ : ∃ U, str s.number = U := ⟨_, rfl⟩
  obtain ⟨X, hX⟩ : ∃ X, str nu = X := ⟨_, rfl⟩
  obtain ⟨Y, hY⟩ : ∃ Y, str la = Y := ⟨_, rfl⟩
  have HFin : Hid (Below w.heap.size w (w.alloc (.cells #[.string N, .string H, .string L, .string U] 68))) := (Below.refl _ _).alloc (Nat.le_refl _) _
  obtain ⟨z, hz⟩ : ∃ z, toldB s nu la md = z := ⟨_, rfl⟩
  rw [hz, hN, hH, hL, hU, hX, hY]
  have tL : L.toList = s.letter := by rw [← hL, str_toList]
  have tU : U.toList = s.number := by rw [← hU, str_toList]
  have tH : H.toList = s.head := by rw [← hH, str_toList]
  have tX : X.toList = nu := by rw [← hX, str_toList]
  have tY : Y.toList = la := by rw [← hY, str_toList]
  unfold toldB at hz
  by_cases h1 : la = [126]
  · rw [if_pos h1] at hz
    have y1 : (Y.toList == [126]) = true := by rw [tY, h1]; rfl
    by_cases h2 : nu = s.number
    · have y2 : (X.toList == U.toList) = true := by rw [tX, tU, h2]; simp
      by_cases h3 : nu = []
      · have y3 : X.toList = [] := by rw [tX, h3]
        have y4 : X.toList.isEmpty = true := by rw [y3]; rfl
        obtain rfl : false = z := by rw [← hz]; simp [h3]
        clear hz tL tU tH tX tY hN hH hL hU hX hY h1 h2 h3
        go_enter Tryd.func50, Tryd.ntmps50
        go_wp2_with fail
        all_goals go_ret
        all_goals exact ⟨rfl, HFin.out⟩
      · have y3 : ¬ X.toList = [] := by rw [tX]; exact h3
        have y4 : X.toList.isEmpty = false := by rw [tX]; simpa using h3
        by_cases h4 : s.letter = []
        · have y5 : L.toList = [] := by rw [tL, h4]
          have y6 : L.toList.isEmpty = true := by rw [y5]; rfl
          obtain rfl : true = z := by rw [← hz]; simp [h2, h4]; rw [← h2]; exact h3
          clear hz tL tU tH tX tY hN hH hL hU hX hY h1 h2 h3 h4
          go_enter Tryd.func50, Tryd.ntmps50
          go_wp2_with fail
          all_goals go_ret
          all_goals exact ⟨rfl, HFin.out⟩
        · have y5 : ¬ L.toList = [] := by rw [tL]; exact h4
          have y6 : L.toList.isEmpty = false := by rw [tL]; simpa using h4
          obtain rfl : (!md) = z := by
            rw [← hz]
            have h5 : s.number ≠ [] := by rw [← h2]; exact h3
            simp [h2, h4, h5]
          clear hz tL tU tH tX tY hN hH hL hU hX hY h1 h2 h3 h4
          cases md <;>
          · go_enter Tryd.func50, Tryd.ntmps50
            go_wp2_with fail
            all_goals go_ret
            all_goals exact ⟨rfl, HFin.out⟩
    · have y2 : (X.toList == U.toList) = false := by rw [tX, tU]; simpa using h2
      obtain rfl : false = z := by rw [← hz]; simp [h2]
      clear hz tL tU tH tX tY hN hH hL hU hX hY h1 h2
      go_enter Tryd.func50, Tryd.ntmps50
      go_wp2_with fail
      all_goals go_ret
      all_goals exact ⟨rfl, HFin.out⟩
  · rw [if_neg h1] at hz
    have y1 : (Y.toList == [126]) = false := by rw [tY]; simpa using h1
    by_cases h2 : la = s.letter
    · rw [if_neg (by simpa using h2)] at hz
      have y2 : (Y.toList == L.toList) = true := by rw [tY, tL, h2]; simp
      cases md with
      | true =>
        rw [if_pos rfl] at hz
        by_cases h3 : nu = [49]
        · have y3 : (X.toList == [49]) = true := by rw [tX, h3]; rfl
          obtain rfl : true = z := by rw [← hz]; simp [h3]
          clear hz tL tU tH tX tY hN hH hL hU hX hY h1 h2 h3
          go_enter Tryd.func50, Tryd.ntmps50
          go_wp2_with fail
          all_goals go_ret
          all_goals exact ⟨rfl, HFin.out⟩
        · have y3 : (X.toList == [49]) = false := by rw [tX]; simpa using h3
          obtain rfl : false = z := by rw [← hz]; simp [h3]
          clear hz tL tU tH tX tY hN hH hL hU hX hY h1 h2 h3
          go_enter Tryd.func50, Tryd.ntmps50
          go_wp2_with fail
          all_goals go_ret
          all_goals exact ⟨rfl, HFin.out⟩
      | false =>
        rw [if_neg (by decide)] at hz
        by_cases h3 : nu = []
        · have y3 : X.toList = [] := by rw [tX, h3]
          have y4 : X.toList.isEmpty = true := by rw [y3]; rfl
          by_cases h4 : s.head = [27, 91]
          · have y5 : (H.toList == [27, 91]) = true := by rw [tH, h4]; rfl
            obtain rfl : true = z := by rw [← hz]; simp [h3, h4]
            clear hz tL tU tH tX tY hN hH hL hU hX hY h1 h2 h3 h4
            go_enter Tryd.func50, Tryd.ntmps50
            go_wp2_with fail
            all_goals go_ret
            all_goals exact ⟨rfl, HFin.out⟩
          · have y5 : (H.toList == [27, 91]) = false := by rw [tH]; simpa using h4
            obtain rfl : false = z := by rw [← hz]; simp [h3, h4]
            clear hz tL tU tH tX tY hN hH hL hU hX hY h1 h2 h3 h4
            go_enter Tryd.func50, Tryd.ntmps50
            go_wp2_with fail
            all_goals go_ret
            all_goals exact ⟨rfl, HFin.out⟩
        · have y3 : ¬ X.toList = [] := by rw [tX]; exact h3
          have y4 : X.toList.isEmpty = false := by rw [tX]; simpa using h3
          obtain rfl : false = z := by rw [← hz]; simp [h3]
          clear hz tL tU tH tX tY hN hH hL hU hX hY h1 h2 h3
          go_enter Tryd.func50, Tryd.ntmps50
          go_wp2_with fail
          all_goals go_ret
          all_goals exact ⟨rfl, HFin.out⟩
    · rw [if_pos h2] at hz
      have y2 : (Y.toList == L.toList) = false := by rw [tY, tL]; simpa using h2
      obtain rfl : false = z := hz
      clear tL tU tH tX tY hN hH hL hU hX hY h1 h2
      go_enter Tryd.func50, Tryd.ntmps50
      go_wp2_with fail
      all_goals go_ret
      all_goals exact ⟨rfl, HFin.out⟩
end Go.Proofs.YtnehkokppobncaaDoor

namespace Go.Proofs.YtnehkokppobncaaDoor
open Go.RowKit
set_option linter.unusedVariables false
set_option maxRecDepth 100000

theorem cut_len (l : List UInt8) : (cutF l).1.length ≤ l.length ∧ (cutF l).2.1.length ≤ l.length := by
  induction l with
  | nil => exact ⟨Nat.le_refl _, Nat.le_refl _⟩
  | cons c r ih =>
    unfold cutF
    split
    · exact ⟨by simp, by simp⟩
    · simp only [List.length_cons]
      omega
/-- The key behind the modifiers. -/
def afterF (nu la : List UInt8) (md : Bool) (m : Int) : Int × Int :=
  match findT (fun s => toldB s nu la md) spT 0 with
  | some i => (16777217 + (i : Int), m)
  | none => (0, 0)
theorem mods_range (l : List UInt8) : 0 ≤ modsF l ∧ modsF l ≤ 7 := by
  unfold modsF
  split
  · split <;> omega
  · omega
theorem seq_z : inSeqF [] [90] = (16777239, 0) := rfl
theorem seq_bad {nu la : List UInt8} (h : ¬ (nu = [] ∧ la = [90])) (h1 : (cutF nu).2.2 = true) (h2 : modsF (cutF nu).2.1 = 0) : inSeqF nu la = (0, 0) := by
  unfold inSeqF
  rw [if_neg h]
  simp only [h1, if_true]
  rw [if_pos ⟨trivial, h2⟩]
theorem seq_mod {nu la : List UInt8} (h : ¬ (nu = [] ∧ la = [90])) (h1 : (cutF nu).2.2 = true) (h2 : modsF (cutF nu).2.1 ≠ 0) : inSeqF nu la = afterF (cutF nu).1 la true (modsF (cutF nu).2.1) := by
  unfold inSeqF afterF
  rw [if_neg h]
  simp only [h1, if_true]
  rw [if_neg (fun q => h2 q.2)]
  cases findT (fun s => toldB s (cutF nu).1 la true) spT 0 <;> rfl
theorem seq_plain {nu la : List UInt8} (h : ¬ (nu = [] ∧ la = [90])) (h1 : (cutF nu).2.2 = false) : inSeqF nu la = afterF (cutF nu).1 la false 0 := by
  unfold inSeqF afterF
  rw [if_neg h]
  simp only [h1, Bool.false_eq_true, if_false]
  rw [if_neg (by simp)]
  cases findT (fun s => toldB s (cutF nu).1 la false) spT 0 <;> rfl
set_option maxHeartbeats 4000000 in
theorem inSeq_mod (nu la : List UInt8) (hl : nu.length ≤ 1000) (hn : ¬ (nu = [] ∧ la = [90])) (h1 : (cutF nu).2.2 = true) (h2 : modsF (cutF nu).2.1 ≠ 0) {w : World} (hT : Tabs w) : Calls Tryd.prog 38 #[.string (str nu), .string (str la)] w fun r w' => r = .returned (.agg #[.int .i64 (afterF (cutF nu).1 la true (modsF (cutF nu).2.1)).1, .int .i64 (afterF (cutF nu).1 la true (modsF (cutF nu).2.1)).2]) ∧ Below w.heap.size w w' := by
  obtain ⟨W, Z, hW, hZ, HZ, HW, k0, k1, f0, f1⟩ := key_new w
  obtain ⟨N, hN⟩ : ∃ N, str nu = N := ⟨_, rfl⟩
  obtain ⟨L, hL⟩ : ∃ L, str la = L := ⟨_, rfl⟩
  have HTL := hidK hL
  have HZc : Hid (¬ (nu = [] ∧ la = [90])) := hn
  have hcnd : (N.toList = [] ∧ N.toList.isEmpty = true ∧ (L.toList == [90]) = false) ∨ (¬ N.toList = [] ∧ N.toList.isEmpty = false) := by
    rw [← hN, ← hL, str_toList, str_toList]
    by_cases h1 : nu = []
    · left
      exact ⟨h1, by rw [h1]; rfl, by simpa using fun h2 => hn ⟨h1, h2⟩⟩
    · right
      exact ⟨h1, by simpa using h1⟩
  have HCt := hidK (cut_any nu hl)
  have hml := cut_len nu
  obtain ⟨cs, hcs⟩ : ∃ cs, spCs = cs := ⟨_, rfl⟩
  have HC : Hid (∀ X, Below w.heap.size w X → X.rangeAt 1 0 cs) := fun X hX => by rw [← hcs]; exact (hT.below hX).sp
  have HHi : Hid ((Tryd.prog.info? 69).map (·.size) = some cs.length) := by rw [← hcs]; exact sp_info
  have HAt : Hid (∀ k : Nat, k < 22 → ∃ s, spT[k]? = some s ∧ ∀ W : World, (Instr.index 69 (.agg cs.toArray) (.int .i64 (k : Int))).run Tryd.prog W = .ok (.agg #[.string (str s.name), .string (str s.head), .string (str s.letter), .string (str s.number)]) W) := fun k hk => by rw [← hcs]; exact sp_at ⟨k, hk⟩
  obtain ⟨A, hA⟩ : ∃ A, str (cutF nu).1 = A := ⟨_, rfl⟩
  obtain ⟨D, hD⟩ : ∃ D, str (cutF nu).2.1 = D := ⟨_, rfl⟩
  have HCu : Hid (str (cutF nu).1 = A ∧ str (cutF nu).2.1 = D) := ⟨hA, hD⟩
  rw [hA, hD, h1, hN] at HCt
  obtain ⟨m, hm⟩ : ∃ m, modsF (cutF nu).2.1 = m := ⟨_, rfl⟩
  have HMo : Hid (∀ X, Calls Tryd.prog 49 #[.string D] X fun r w' => r = .returned (.int .i64 m) ∧ X = w') := fun X => by rw [← hD, ← hm]; exact modsOf_any _ (by omega) X
  have m0 : (m == 0) = false := by rw [hm] at h2; simpa using h2
  obtain ⟨x, y, hx, hy⟩ : ∃ x y, (afterF (cutF nu).1 la true (modsF (cutF nu).2.1)).1 = x ∧ (afterF (cutF nu).1 la true (modsF (cutF nu).2.1)).2 = y := ⟨_, _, rfl, rfl⟩
  have HXY : Hid (afterF (cutF nu).1 la true m = (x, y)) := by rw [← hx, ← hy, ← hm]; exact rfl
  rw [hx, hy, hL, hN]
  clear hx hy hT hcs hA hD hm h1 h2 hN hL hn hl hml HZc
  have HGo : Hid (∀ {R : World → Prop}, True) := trivial
  clear HGo
  rcases hcnd with ⟨n1, n2, n3⟩ | ⟨n1, n2⟩ <;>
  · go_enter Tryd.func38, Tryd.ntmps38
    go_wp2_with fail
    refine (HCt.out _).mono ?_
    rintro e w1 ⟨rfl, hb1⟩
    have HKw := hidK (HZ.out.more hb1)
    have HC1 := hidK (HC.out _ HKw.out.below)
    clear hb1 k0 k1 f0 f1
    go_wp2_with first | (go_at_call 49; refine (HMo.out _).mono ?_; rintro e w3 ⟨rfl, rfl⟩) | (refine wpList_load_mid rfl 69 (.global 1) rfl 1 0 rfl cs _ HC1.out Tryd.underlying69 rfl HHi.out ?_)
    go_loopw [31] (fun v wr => ∃ i : Nat, i ≤ 22 ∧ v = .int .i64 i ∧ Hid (∀ (j : Nat) s, j < i → spT[j]? = some s → toldB s (cutF nu).1 la true = false) ∧ Hid (Kb w wr Z 0 0)) (fun v _ => 22 - (intOf v).toNat)
    case atStart => exact ⟨0, Nat.zero_le _, rfl, fun j p hj => by omega, HKw⟩
    case round =>
      obtain ⟨i, hi, rfl, HNo, HB⟩ := hrel
      by_cases hlt : i < 22
      · obtain ⟨s, t1, t2⟩ := HAt.out i hlt
        have HT1 := hidK t1
        have hz : (i : Int) < 22 := by omega
        have HIs := hidK (isTold_any s (cutF nu).1 la true)
        obtain ⟨sn, hsn⟩ : ∃ z, str s.name = z := ⟨_, rfl⟩
        obtain ⟨sh, hsh⟩ : ∃ z, str s.head = z := ⟨_, rfl⟩
        obtain ⟨sl, hsl⟩ : ∃ z, str s.letter = z := ⟨_, rfl⟩
        obtain ⟨sm, hsm⟩ : ∃ z, str s.number = z := ⟨_, rfl⟩
        rw [hsn, hsh, hsl, hsm] at t2
        rw [hsn, hsh, hsl, hsm, HTL.out, HCu.out.1] at HIs
        obtain ⟨Y, hY⟩ : ∃ Y, wr.alloc (.cells #[.string sn, .string sh, .string sl, .string sm] 68) = Y := ⟨_, rfl⟩
        obtain ⟨Q, hQ⟩ : ∃ Q, wr.heap.size = Q := ⟨_, rfl⟩
        have hk := HB.out.more (W' := Y) (by rw [← hY]; exact (Below.refl _ _).alloc (Nat.le_refl _) _)
        have hqb : Y.heap[Q]? = some (.cells #[.string sn, .string sh, .string sl, .string sm] 68 (0, 0)) := by rw [← hY, ← hQ]; exact heap_alloc_new wr _
        have q0 : Y.cell? ⟨Q, 0, none⟩ = some (.string sn) := cell_at hqb 0
        have q1 : Y.cell? ⟨Q, 1, none⟩ = some (.string sh) := cell_at hqb 1
        have q2 : Y.cell? ⟨Q, 2, none⟩ = some (.string sl) := cell_at hqb 2
        have q3 : Y.cell? ⟨Q, 3, none⟩ = some (.string sm) := cell_at hqb 3
        have HK := hidK hk
        clear t1 hqb hk hsn hsh hsm hsl
        cases hto : toldB s (cutF nu).1 la true with
        | true =>
          rw [hto] at HIs
          have HF : Hid (16777217 + (i : Int) = x ∧ m = y) := by
            have h1 := HXY.out
            unfold afterF at h1
            rw [find_yes HT1.out hto HNo.out] at h1
            simp only [Nat.zero_add] at h1
            exact ⟨(Prod.mk.inj h1).1, (Prod.mk.inj h1).2⟩
          obtain ⟨e1, e2⟩ := HF.out
          subst e1 e2
          clear HF hto
          go_wp2_with fail
          refine (HIs.out _).mono ?_
          rintro e w2 ⟨rfl, hb2⟩
          have HK2 := hidK (HK.out.more hb2)
          have z0 := HK2.out.c0
          have z1 := HK2.out.c1
          have z2 := HK2.out.f 0
          have z3 := HK2.out.f 1
          clear hb2 q0 q1 q2 q3
          go_wp2_with fail
          refine key_end rfl HK2.out HW.out rfl rfl ?_
          intro X' hX' _
          exact ⟨rfl, by first | exact hX' | (rw [← hZ]; exact hX')⟩
        | false =>
          rw [hto] at HIs
          have HN2 : Hid (∀ (j : Nat) s, j < i + 1 → spT[j]? = some s → toldB s (cutF nu).1 la true = false) := fun j p hj hp => by
            by_cases hji : j < i
            · exact HNo.out j p hji hp
            · have : j = i := by omega
              subst this
              rw [HT1.out] at hp
              rw [← Option.some.inj hp]
              exact hto
          clear hto
          go_wp2_with fail
          refine (HIs.out _).mono ?_
          rintro e w2 ⟨rfl, hb2⟩
          have HK2 := hidK (HK.out.more hb2)
          clear hb2 q0 q1 q2 q3
          go_wp2_with fail
          first
            | (go_roundw
               case rel => exact ⟨i + 1, by omega, by first | rfl | go_num, HN2, HK2⟩
               case measure => simp [intOf]; omega)
            | exact ⟨⟨i + 1, by omega, by first | rfl | go_num, HN2, HK2⟩, by simp [intOf]; omega⟩
      · have hi22 : i = 22 := by omega
        subst hi22
        have HF : Hid (0 = x ∧ 0 = y) := by
          have h1 := HXY.out
          unfold afterF at h1
          rw [find_no fun j p hp => HNo.out j p (by have := (List.getElem?_eq_some_iff.1 hp).1; rw [spT_len] at this; exact this) hp] at h1
          exact ⟨(Prod.mk.inj h1).1, (Prod.mk.inj h1).2⟩
        obtain ⟨e1, e2⟩ := HF.out
        subst e1 e2
        have z0 := HB.out.c0
        have z1 := HB.out.c1
        have z2 := HB.out.f 0
        have z3 := HB.out.f 1
        clear HF
        go_wp2_with fail
        refine key_end rfl HB.out HW.out rfl rfl ?_
        intro X' hX' _
        exact ⟨rfl, by first | exact hX' | (rw [← hZ]; exact hX')⟩
set_option maxHeartbeats 4000000 in
theorem inSeq_plain (nu la : List UInt8) (hl : nu.length ≤ 1000) (hn : ¬ (nu = [] ∧ la = [90])) (h1 : (cutF nu).2.2 = false) {w : World} (hT : Tabs w) : Calls Tryd.prog 38 #[.string (str nu), .string (str la)] w fun r w' => r = .returned (.agg #[.int .i64 (afterF (cutF nu).1 la false 0).1, .int .i64 (afterF (cutF nu).1 la false 0).2]) ∧ Below w.heap.size w w' := by
  obtain ⟨W, Z, hW, hZ, HZ, HW, k0, k1, f0, f1⟩ := key_new w
  obtain ⟨N, hN⟩ : ∃ N, str nu = N := ⟨_, rfl⟩
  obtain ⟨L, hL⟩ : ∃ L, str la = L := ⟨_, rfl⟩
  have HTL := hidK hL
  have HZc : Hid (¬ (nu = [] ∧ la = [90])) := hn
  have hcnd : (N.toList = [] ∧ N.toList.isEmpty = true ∧ (L.toList == [90]) = false) ∨ (¬ N.toList = [] ∧ N.toList.isEmpty = false) := by
    rw [← hN, ← hL, str_toList, str_toList]
    by_cases h1 : nu = []
    · left
      exact ⟨h1, by rw [h1]; rfl, by simpa using fun h2 => hn ⟨h1, h2⟩⟩
    · right
      exact ⟨h1, by simpa using h1⟩
  have HCt := hidK (cut_any nu hl)
  have hml := cut_len nu
  obtain ⟨cs, hcs⟩ : ∃ cs, spCs = cs := ⟨_, rfl⟩
  have HC : Hid (∀ X, Below w.heap.size w X → X.rangeAt 1 0 cs) := fun X hX => by rw [← hcs]; exact (hT.below hX).sp
  have HHi : Hid ((Tryd.prog.info? 69).map (·.size) = some cs.length) := by rw [← hcs]; exact sp_info
  have HAt : Hid (∀ k : Nat, k < 22 → ∃ s, spT[k]? = some s ∧ ∀ W : World, (Instr.index 69 (.agg cs.toArray) (.int .i64 (k : Int))).run Tryd.prog W = .ok (.agg #[.string (str s.name), .string (str s.head), .string (str s.letter), .string (str s.number)]) W) := fun k hk => by rw [← hcs]; exact sp_at ⟨k, hk⟩
  obtain ⟨A, hA⟩ : ∃ A, str (cutF nu).1 = A := ⟨_, rfl⟩
  obtain ⟨D, hD⟩ : ∃ D, str (cutF nu).2.1 = D := ⟨_, rfl⟩
  have HCu : Hid (str (cutF nu).1 = A ∧ str (cutF nu).2.1 = D) := ⟨hA, hD⟩
  rw [hA, hD, h1, hN] at HCt
  obtain ⟨x, y, hx, hy⟩ : ∃ x y, (afterF (cutF nu).1 la false 0).1 = x ∧ (afterF (cutF nu).1 la false 0).2 = y := ⟨_, _, rfl, rfl⟩
  have HXY : Hid (afterF (cutF nu).1 la false 0 = (x, y)) := by rw [← hx, ← hy]; exact rfl
  rw [hx, hy, hL, hN]
  clear hx hy hT hcs hA hD h1 hN hL hn hl hml HZc
  rcases hcnd with ⟨n1, n2, n3⟩ | ⟨n1, n2⟩ <;>
  · go_enter Tryd.func38, Tryd.ntmps38
    go_wp2_with fail
    refine (HCt.out _).mono ?_
    rintro e w1 ⟨rfl, hb1⟩
    have HKw := hidK (HZ.out.more hb1)
    have HC1 := hidK (HC.out _ HKw.out.below)
    clear hb1 k0 k1 f0 f1
    go_wp2_with (refine wpList_load_mid rfl 69 (.global 1) rfl 1 0 rfl cs _ HC1.out Tryd.underlying69 rfl HHi.out ?_)
    go_loopw [31] (fun v wr => ∃ i : Nat, i ≤ 22 ∧ v = .int .i64 i ∧ Hid (∀ (j : Nat) s, j < i → spT[j]? = some s → toldB s (cutF nu).1 la false = false) ∧ Hid (Kb w wr Z 0 0)) (fun v _ => 22 - (intOf v).toNat)
    case atStart => exact ⟨0, Nat.zero_le _, rfl, fun j p hj => by omega, HKw⟩
    case round =>
      obtain ⟨i, hi, rfl, HNo, HB⟩ := hrel
      by_cases hlt : i < 22
      · obtain ⟨s, t1, t2⟩ := HAt.out i hlt
        have HT1 := hidK t1
        have hz : (i : Int) < 22 := by omega
        have HIs := hidK (isTold_any s (cutF nu).1 la false)
        obtain ⟨sn, hsn⟩ : ∃ z, str s.name = z := ⟨_, rfl⟩
        obtain ⟨sh, hsh⟩ : ∃ z, str s.head = z := ⟨_, rfl⟩
        obtain ⟨sl, hsl⟩ : ∃ z, str s.letter = z := ⟨_, rfl⟩
        obtain ⟨sm, hsm⟩ : ∃ z, str s.number = z := ⟨_, rfl⟩
        rw [hsn, hsh, hsl, hsm] at t2
        rw [hsn, hsh, hsl, hsm, HTL.out, HCu.out.1] at HIs
        obtain ⟨Y, hY⟩ : ∃ Y, wr.alloc (.cells #[.string sn, .string sh, .string sl, .string sm] 68) = Y := ⟨_, rfl⟩
        obtain ⟨Q, hQ⟩ : ∃ Q, wr.heap.size = Q := ⟨_, rfl⟩
        have hk := HB.out.more (W' := Y) (by rw [← hY]; exact (Below.refl _ _).alloc (Nat.le_refl _) _)
        have hqb : Y.heap[Q]? = some (.cells #[.string sn, .string sh, .string sl, .string sm] 68 (0, 0)) := by rw [← hY, ← hQ]; exact heap_alloc_new wr _
        have q0 : Y.cell? ⟨Q, 0, none⟩ = some (.string sn) := cell_at hqb 0
        have q1 : Y.cell? ⟨Q, 1, none⟩ = some (.string sh) := cell_at hqb 1
        have q2 : Y.cell? ⟨Q, 2, none⟩ = some (.string sl) := cell_at hqb 2
        have q3 : Y.cell? ⟨Q, 3, none⟩ = some (.string sm) := cell_at hqb 3
        have HK := hidK hk
        clear t1 hqb hk hsn hsh hsm hsl
        cases hto : toldB s (cutF nu).1 la false with
        | true =>
          rw [hto] at HIs
          have HF : Hid (16777217 + (i : Int) = x ∧ (0 : Int) = y) := by
            have h1 := HXY.out
            unfold afterF at h1
            rw [find_yes HT1.out hto HNo.out] at h1
            simp only [Nat.zero_add] at h1
            exact ⟨(Prod.mk.inj h1).1, (Prod.mk.inj h1).2⟩
          obtain ⟨e1, e2⟩ := HF.out
          subst e1 e2
          clear HF hto
          go_wp2_with fail
          refine (HIs.out _).mono ?_
          rintro e w2 ⟨rfl, hb2⟩
          have HK2 := hidK (HK.out.more hb2)
          have z0 := HK2.out.c0
          have z1 := HK2.out.c1
          have z2 := HK2.out.f 0
          have z3 := HK2.out.f 1
          clear hb2 q0 q1 q2 q3
          go_wp2_with fail
          refine key_end rfl HK2.out HW.out rfl rfl ?_
          intro X' hX' _
          exact ⟨rfl, by first | exact hX' | (rw [← hZ]; exact hX')⟩
        | false =>
          rw [hto] at HIs
          have HN2 : Hid (∀ (j : Nat) s, j < i + 1 → spT[j]? = some s → toldB s (cutF nu).1 la false = false) := fun j p hj hp => by
            by_cases hji : j < i
            · exact HNo.out j p hji hp
            · have : j = i := by omega
              subst this
              rw [HT1.out] at hp
              rw [← Option.some.inj hp]
              exact hto
          clear hto
          go_wp2_with fail
          refine (HIs.out _).mono ?_
          rintro e w2 ⟨rfl, hb2⟩
          have HK2 := hidK (HK.out.more hb2)
          clear hb2 q0 q1 q2 q3
          go_wp2_with fail
          first
            | (go_roundw
               case rel => exact ⟨i + 1, by omega, by first | rfl | go_num, HN2, HK2⟩
               case measure => simp [intOf]; omega)
            | exact ⟨⟨i + 1, by omega, by first | rfl | go_num, HN2, HK2⟩, by simp [intOf]; omega⟩
      · have hi22 : i = 22 := by omega
        subst hi22
        have HF : Hid (0 = x ∧ 0 = y) := by
          have h1 := HXY.out
          unfold afterF at h1
          rw [find_no fun j p hp => HNo.out j p (by have := (List.getElem?_eq_some_iff.1 hp).1; rw [spT_len] at this; exact this) hp] at h1
          exact ⟨(Prod.mk.inj h1).1, (Prod.mk.inj h1).2⟩
        obtain ⟨e1, e2⟩ := HF.out
        subst e1 e2
        have z0 := HB.out.c0
        have z1 := HB.out.c1
        have z2 := HB.out.f 0
        have z3 := HB.out.f 1
        clear HF
        go_wp2_with fail
        refine key_end rfl HB.out HW.out rfl rfl ?_
        intro X' hX' _
        exact ⟨rfl, by first | exact hX' | (rw [← hZ]; exact hX')⟩
set_option maxHeartbeats 4000000 in
theorem inSeq_bad (nu la : List UInt8) (hl : nu.length ≤ 1000) (hn : ¬ (nu = [] ∧ la = [90])) (h1 : (cutF nu).2.2 = true) (h2 : modsF (cutF nu).2.1 = 0) {w : World} (hT : Tabs w) : Calls Tryd.prog 38 #[.string (str nu), .string (str la)] w fun r w' => r = .returned (.agg #[.int .i64 ((0, 0) : Int × Int).1, .int .i64 ((0, 0) : Int × Int).2]) ∧ Below w.heap.size w w' := by
  obtain ⟨W, Z, hW, hZ, HZ, HW, k0, k1, f0, f1⟩ := key_new w
  obtain ⟨N, hN⟩ : ∃ N, str nu = N := ⟨_, rfl⟩
  obtain ⟨L, hL⟩ : ∃ L, str la = L := ⟨_, rfl⟩
  have HTL := hidK hL
  have HZc : Hid (¬ (nu = [] ∧ la = [90])) := hn
  have hcnd : (N.toList = [] ∧ N.toList.isEmpty = true ∧ (L.toList == [90]) = false) ∨ (¬ N.toList = [] ∧ N.toList.isEmpty = false) := by
    rw [← hN, ← hL, str_toList, str_toList]
    by_cases h1 : nu = []
    · left
      exact ⟨h1, by rw [h1]; rfl, by simpa using fun h2 => hn ⟨h1, h2⟩⟩
    · right
      exact ⟨h1, by simpa using h1⟩
  have HCt := hidK (cut_any nu hl)
  have hml := cut_len nu
  obtain ⟨A, hA⟩ : ∃ A, str (cutF nu).1 = A := ⟨_, rfl⟩
  obtain ⟨D, hD⟩ : ∃ D, str (cutF nu).2.1 = D := ⟨_, rfl⟩
  have HMo : Hid (∀ X, Calls Tryd.prog 49 #[.string D] X fun r w' => r = .returned (.int .i64 0) ∧ X = w') := fun X => by rw [← hD, ← h2]; exact modsOf_any _ (by omega) X
  rw [hA, hD, h1, hN] at HCt
  rw [hL, hN]
  clear hT hA hD h1 h2 hN hL hn hl hml HZc
  rcases hcnd with ⟨n1, n2, n3⟩ | ⟨n1, n2⟩ <;>
  · go_enter Tryd.func38, Tryd.ntmps38
    go_wp2_with fail
    refine (HCt.out _).mono ?_
    rintro e w1 ⟨rfl, hb1⟩
    have HKw := hidK (HZ.out.more hb1)
    have z0 := HKw.out.c0
    have z1 := HKw.out.c1
    have z2 := HKw.out.f 0
    have z3 := HKw.out.f 1
    clear hb1 k0 k1 f0 f1
    go_wp2_with (go_at_call 49; refine (HMo.out _).mono ?_; rintro e w3 ⟨rfl, rfl⟩)
    refine key_end rfl HKw.out HW.out rfl rfl ?_
    intro X' hX' _
    exact ⟨rfl, by first | exact hX' | (rw [← hZ]; exact hX')⟩
set_option maxHeartbeats 1000000 in
theorem inSeq_z (w : World) : Calls Tryd.prog 38 #[.string ⟨#[]⟩, .string ⟨#[90]⟩] w fun r w' => r = .returned (.agg #[.int .i64 16777239, .int .i64 0]) ∧ Below w.heap.size w w' := by
  obtain ⟨W, Z, hW, hZ, HZ, HW, k0, k1, f0, f1⟩ := key_new w
  go_enter Tryd.func38, Tryd.ntmps38
  go_wp2_with fail
  refine key_end rfl HZ.out HW.out rfl rfl ?_
  intro X' hX' _
  exact ⟨rfl, by first | exact hX' | (rw [← hZ]; exact hX')⟩
theorem inSeq_any (nu la : List UInt8) (hl : nu.length ≤ 1000) {w : World} (hT : Tabs w) : Calls Tryd.prog 38 #[.string (str nu), .string (str la)] w fun r w' => r = .returned (.agg #[.int .i64 (inSeqF nu la).1, .int .i64 (inSeqF nu la).2]) ∧ Below w.heap.size w w' := by
  by_cases hn : nu = [] ∧ la = [90]
  · obtain ⟨rfl, rfl⟩ := hn
    exact inSeq_z w
  · cases h1 : (cutF nu).2.2 with
    | true =>
      by_cases h2 : modsF (cutF nu).2.1 = 0
      · rw [seq_bad hn h1 h2]
        exact inSeq_bad nu la hl hn h1 h2 hT
      · rw [seq_mod hn h1 h2]
        exact inSeq_mod nu la hl hn h1 h2 hT
    | false =>
      rw [seq_plain hn h1]
      exact inSeq_plain nu la hl hn h1 hT
end Go.Proofs.YtnehkokppobncaaDoor
