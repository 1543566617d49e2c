/-
  Keys: a control sequence.
-/
import Derived.Test.YtgdkpmfdpfjdjaaGreatDoorKShift
import Derived.Test.YtgdkpmfdpfjdjaaGreatDoorShelf
import Derived.BigQuiet
import Derived.Deep.QuietTactic
namespace Go.Proofs.YtgdkpmfdpfjdjaaGreatDoor
open Go.RowKit
set_option linter.unusedVariables false
set_option maxRecDepth 100000

theorem str_dropF (l : List UInt8) (k : Nat) : (str l).extract k (str l).size = str (l.drop k) := by
  apply ByteArray.ext
  apply Array.ext'
  rw [ByteArray.data_extract, Array.toList_extract, List.extract_eq_take_drop]
  show ((l.drop k).take (l.length - k)) = l.drop k
  exact List.take_of_length_le (by rw [List.length_drop]; omega)
theorem str_takeF (l : List UInt8) (k : Nat) : (str l).extract 0 k = str (l.take k) := by
  apply ByteArray.ext
  apply Array.ext'
  rw [ByteArray.data_extract, Array.toList_extract, List.extract_eq_take_drop]
  simp [str]
theorem str_midF (l : List UInt8) (i j : Nat) : (str l).extract i j = str ((l.drop i).take (j - i)) := by
  apply ByteArray.ext
  apply Array.ext'
  rw [ByteArray.data_extract, Array.toList_extract, List.extract_eq_take_drop]
  rfl

theorem cut_index (l : List UInt8) : (0 ≤ Lib.indexByte l 59 → (Lib.indexByte l 59).toNat < l.length ∧ cutF l = (l.take (Lib.indexByte l 59).toNat, l.drop ((Lib.indexByte l 59).toNat + 1), true)) ∧ (¬ 0 ≤ Lib.indexByte l 59 → cutF l = (l, [], false)) := by
  induction l with
  | nil => exact ⟨fun h => absurd h (by decide), fun _ => rfl⟩
  | cons c l ih =>
    have hge := Lib.indexByte_ge l 59
    by_cases hc : c = 59
    · subst hc
      have e1 : Lib.indexByte (59 :: l) 59 = 0 := by simp [Lib.indexByte]
      rw [e1]
      exact ⟨fun _ => ⟨by simp, by simp [cutF]⟩, fun h => absurd (Int.le_refl 0) h⟩
    · have e1 : Lib.indexByte (c :: l) 59 = if Lib.indexByte l 59 < 0 then -1 else Lib.indexByte l 59 + 1 := by
        rw [Lib.indexByte]
        simp only [beq_iff_eq, hc, if_false]
        by_cases h : Lib.indexByte l 59 = -1
        · rw [if_pos h, if_pos (by omega)]
        · rw [if_neg h, if_neg (by omega)]
      have e2 : cutF (c :: l) = (c :: (cutF l).1, (cutF l).2.1, (cutF l).2.2) := by rw [cutF, if_neg hc]
      rw [e1, e2]
      split
      · rename_i h
        refine ⟨fun h2 => absurd h2 (by decide), fun _ => ?_⟩
        rw [ih.2 (by omega)]
      · rename_i h
        obtain ⟨h1, h2⟩ := ih.1 (by omega)
        have e3 : (Lib.indexByte l 59 + 1).toNat = (Lib.indexByte l 59).toNat + 1 := by omega
        refine ⟨fun _ => ?_, fun h2 => by omega⟩
        rw [e3, h2]
        exact ⟨by simp; omega, by simp⟩
theorem slice_to (A : ByteArray) (b : Nat) (h : b ≤ A.size) (W : World) : (Instr.slice 9 (.string A) none (some (.int .i64 (b : Int))) none).run Tryz.prog W = .ok (.string (A.extract 0 b)) W := by
  simp [Instr.slice, go_sem, h]
theorem slice_from (A : ByteArray) (a : Nat) (x : Int) (hx : x = (a : Int)) (h : a ≤ A.size) (W : World) : (Instr.slice 9 (.string A) (some (.int .i64 x)) none none).run Tryz.prog W = .ok (.string (A.extract a A.size)) W := by
  subst hx
  simp [Instr.slice, go_sem, h]
theorem results3 {P : Program} {fn : Func} {p q r : Tmp} (h : fn.results = #[.tmp p, .tmp q, .tmp r]) {a : Act} {w : World} {R : Ending → World → Prop} (hdf : a.defers = []) (hR : R (.returned (.tuple #[a.tmps.getD p undef, a.tmps.getD q undef, a.tmps.getD r undef])) w) : bodyPost P fn R .ret a w :=
  bodyPost_ret (results_tmp3 h _ _ _) hdf hR
end Go.Proofs.YtgdkpmfdpfjdjaaGreatDoor
