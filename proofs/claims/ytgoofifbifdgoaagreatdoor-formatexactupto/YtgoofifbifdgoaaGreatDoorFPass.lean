/-
  Formats: what is gone past at once; a place's end; identifiers.
-/
import Derived.Test.YtgoofifbifdgoaaGreatDoorProg
import Derived.Test.YtgoofifbifdgoaaGreatDoorFPure
import Derived.WalkKit
namespace Go.Proofs.YtgoofifbifdgoaaGreatDoor
open Go.RowKit
set_option linter.unusedVariables false
set_option maxRecDepth 20000

theorem hidK {p : Prop} (h : p) : Hid p := h
theorem str_getF (l : List UInt8) (k : Nat) (c : UInt8) (h : l[k]? = some c) (hk : k < (str l).size) : (str l)[k] = c := by
  obtain ⟨h1, h2⟩ := List.getElem?_eq_some_iff.1 h
  exact h2
theorem str_dropF (l : List UInt8) (k : Nat) : (str l).extract k (str l).size = str (l.drop k) := by
  apply ByteArray.ext
  apply Array.ext'
  rw [ByteArray.data_extract, Array.toList_extract, List.extract_eq_take_drop]
  show ((l.drop k).take (l.length - k)) = l.drop k
  exact List.take_of_length_le (by rw [List.length_drop]; omega)
theorem str_takeF (l : List UInt8) (k : Nat) : (str l).extract 0 k = str (l.take k) := by
  apply ByteArray.ext
  apply Array.ext'
  rw [ByteArray.data_extract, Array.toList_extract, List.extract_eq_take_drop]
  simp [str]
theorem str_midF (l : List UInt8) (i j : Nat) : (str l).extract i j = str ((l.drop i).take (j - i)) := by
  apply ByteArray.ext
  apply Array.ext'
  rw [ByteArray.data_extract, Array.toList_extract, List.extract_eq_take_drop]
  rfl

theorem isSmall_any (c : UInt8) (w : World) : Calls Tryz.prog 50 #[.int .u8 c.toNat] w fun e w' => e = .returned (.bool (smallB c)) ∧ w = w' := by
  go_enter Tryz.func50, Tryz.ntmps50
  go_wp2
  all_goals go_ret
  all_goals refine ⟨ret_bool ?_, rfl⟩
  all_goals (unfold smallB; rw [Bool.eq_iff_iff]; simp; omega)
theorem isDigit_any (c : UInt8) (w : World) : Calls Tryz.prog 124 #[.int .u8 c.toNat] w fun e w' => e = .returned (.bool (digitB c)) ∧ w = w' := by
  go_enter Tryz.func124, Tryz.ntmps124
  go_wp2
  all_goals go_ret
  all_goals refine ⟨ret_bool ?_, rfl⟩
  all_goals (unfold digitB; rw [Bool.eq_iff_iff]; simp; omega)

set_option maxHeartbeats 1000000 in
theorem pass_any (l : List UInt8) (h : l ≠ []) (w : World) : Calls Tryz.prog 131 #[.string (str l)] w fun e w' => e = .returned (.tuple #[.int .i64 ((passF l).1 : Int), .int .i64 (passF l).2]) ∧ w = w' := by
  obtain ⟨z, hz⟩ : ∃ z, str l = z := ⟨_, rfl⟩
  rw [hz]
  match l, h with
  | [c], _ =>
    have hs : z.size = 1 := by rw [← hz]; rfl
    have g0 : ∀ h : 0 < z.size, z[0] = c := fun h => by subst hz; exact str_getF _ 0 c rfl h
    have g0' := g0 (by omega)
    clear hz g0
    by_cases h1 : c.toNat = 125
    · have e : passF [c] = (1, -1) := by simp [passF, h1]
      rw [e]
      go_enter Tryz.func131, Tryz.ntmps131
      go_wp2
      all_goals go_ret2
      all_goals exact ⟨rfl, rfl⟩
    · have e : passF [c] = (1, 0) := by simp [passF, h1]
      rw [e]
      go_enter Tryz.func131, Tryz.ntmps131
      go_wp2
      all_goals go_ret2
      all_goals exact ⟨rfl, rfl⟩
  | c :: d :: r, _ =>
    have hs : z.size = r.length + 2 := by rw [← hz]; rfl
    have g0 : ∀ h : 0 < z.size, z[0] = c := fun h => by subst hz; exact str_getF _ 0 c rfl h
    have g1 : ∀ h : 1 < z.size, z[1] = d := fun h => by subst hz; exact str_getF _ 1 d rfl h
    have hs1 : 1 < z.size := by omega
    have hs0 : 0 < z.size := by omega
    have g0' := g0 hs0
    have g1' := g1 hs1
    have hs2 : ¬ (z.size : Int) = 1 := by omega
    clear hz g0 g1
    by_cases h1 : c.toNat = 125
    · have e : passF (c :: d :: r) = (1, -1) := by simp [passF, h1]
      rw [e]
      clear e hs
      go_enter Tryz.func131, Tryz.ntmps131
      go_wp2
      all_goals go_ret2
      all_goals exact ⟨rfl, rfl⟩
    by_cases h2 : c.toNat = 35
    · by_cases h3 : d.toNat = 123
      · have e : passF (c :: d :: r) = (2, 1) := by simp [passF, h2, h3]
        rw [e]
        clear e hs
        go_enter Tryz.func131, Tryz.ntmps131
        go_wp2
        all_goals go_ret2
        all_goals exact ⟨rfl, rfl⟩
      · by_cases h4 : d.toNat = 35 ∨ d.toNat = 44 ∨ d.toNat = 125
        · have e : passF (c :: d :: r) = (2, 0) := by simp [passF, h2, h3, h4]
          rw [e]
          clear e hs
          go_enter Tryz.func131, Tryz.ntmps131
          rcases h4 with h4 | h4 | h4
          all_goals (
            go_wp2
            all_goals go_ret2
            all_goals exact ⟨rfl, rfl⟩)
        · have e : passF (c :: d :: r) = (1, 0) := by simp [passF, h2, h3, h4]
          rw [e]
          obtain ⟨k1, k2⟩ := not_or.1 h4
          obtain ⟨k2, k3⟩ := not_or.1 k2
          clear e hs h4
          go_enter Tryz.func131, Tryz.ntmps131
          go_wp2
          all_goals go_ret2
          all_goals exact ⟨rfl, rfl⟩
    · have e : passF (c :: d :: r) = (1, 0) := by simp [passF, h1, h2]
      rw [e]
      clear e hs
      go_enter Tryz.func131, Tryz.ntmps131
      go_wp2
      all_goals go_ret2
      all_goals exact ⟨rfl, rfl⟩

set_option maxHeartbeats 1000000 in
/-- A place's end. -/
theorem ins_any (l : List UInt8) (hl : l.length ≤ 2147483647) (w : World) : Calls Tryz.prog 113 #[.string (str l)] w fun e w' => e = .returned (.tuple #[.int .i64 (((insideF l).getD 0 : Nat) : Int), .bool (insideF l).isSome]) ∧ w = w' := by
  have HP : Hid (∀ l W, l ≠ [] → Calls Tryz.prog 131 #[.string (str l)] W fun e w' => e = .returned (.tuple #[.int .i64 ((passF l).1 : Int), .int .i64 (passF l).2]) ∧ W = w') := fun l W h => pass_any l h W
  have HD : Hid (∀ k, (str l).extract k (str l).size = str (l.drop k)) := str_dropF l
  obtain ⟨z, hz⟩ : ∃ z, str l = z := ⟨_, rfl⟩
  have hs : z.size = l.length := by rw [← hz]; rfl
  obtain ⟨R, hR⟩ : ∃ R, insideF l = R := ⟨_, rfl⟩
  have HR : Hid (insG l.length l 1 0 = R) := hR
  rw [hz, hR]
  rw [hz] at HD
  obtain ⟨n, hn⟩ : ∃ n, l.length = n := ⟨_, rfl⟩
  rw [hn] at hs hl HR
  have HN : Hid (l.length = n) := hn
  clear hz hR hn
  go_enter Tryz.func113, Tryz.ntmps113
  go_wp2_with fail
  go_loopw [4, 5] (fun s4 s5 wx => ∃ (k : Nat) (o : Int), k ≤ n ∧ s5 = .int .i64 (k : Int) ∧ s4 = .int .i64 o ∧ -(k : Int) ≤ o ∧ o ≤ (k : Int) + 1 ∧ (∃ f, Hid (n - k ≤ f ∧ insG f (l.drop k) o k = R)) ∧ wx = w) (fun _ v _ => n - (intOf v).toNat)
  case atStart => exact ⟨0, 1, Nat.zero_le _, rfl, rfl, by omega, by omega, ⟨n, Nat.le_refl _, HR.out⟩, rfl⟩
  case round =>
    obtain ⟨k, o, hk, rfl, rfl, ho1, ho2, ⟨f, hf⟩, hwx⟩ := hrel
    subst hwx
    by_cases hkn : k < n
    · have hne : l.drop k ≠ [] := fun e => by
        have := congrArg List.length e
        rw [List.length_drop, HN.out] at this
        simp at this
        omega
      obtain ⟨f1, hf1⟩ := hf.out
      obtain ⟨f', rfl⟩ : ∃ f', f = f' + 1 := ⟨f - 1, by omega⟩
      have hp := pass_le hne
      have hp1 := pass_pos (l.drop k)
      have hp2 := pass_small (l.drop k)
      rw [List.length_drop, HN.out] at hp
      have HPk := hidK (HP.out (l.drop k) wr hne)
      have HDk := hidK (HD.out k)
      rw [hs] at HDk
      have HF := hidK hf1
      unfold insG at HF
      rw [if_neg hne, List.drop_drop] at HF
      obtain ⟨⟨a, b⟩, hab⟩ : ∃ p, passF (l.drop k) = p := ⟨_, rfl⟩
      rw [hab] at HPk HF hp hp1 hp2
      simp only at hp hp1 hp2 HPk HF
      obtain ⟨hp2, hp3⟩ := hp2
      obtain ⟨y, hy⟩ : ∃ y, str (l.drop k) = y := ⟨_, rfl⟩
      rw [hy] at HPk HDk
      clear hf hab hy hne hf1
      by_cases h0 : o + b = 0
      · rw [if_pos h0] at HF
        obtain rfl := HF.out.symm
        clear HF
        go_wp2_with fail
        rw [HDk.out]
        refine HPk.out.mono ?_
        rintro x w1 ⟨rfl, rfl⟩
        go_wp2_with fail
        all_goals go_ret2
        all_goals exact ⟨rfl, rfl⟩
      · rw [if_neg h0] at HF
        go_wp2_with fail
        rw [HDk.out]
        refine HPk.out.mono ?_
        rintro x w1 ⟨rfl, rfl⟩
        go_wp2_with fail
        go_roundw
        case rel => exact ⟨k + a, o + b, by omega, by go_num, by go_num, by omega, by omega, ⟨f', by omega, HF.out⟩, by first | rfl | trivial⟩
        case measure => simp [intOf]; omega
    · obtain rfl : k = n := by omega
      have hR : R = none := by
        rw [← hf.out.2]
        cases f with
        | zero => rfl
        | succ f => unfold insG; rw [if_pos (List.drop_eq_nil_of_le (by rw [HN.out]; exact Nat.le_refl _))]
      subst hR
      go_wp2_with fail
      all_goals go_ret2
      all_goals exact ⟨rfl, rfl⟩

end Go.Proofs.YtgoofifbifdgoaaGreatDoor
