/-
  The walk of OctalSafe.
-/
import Derived.Test.YtkdfpoficieknaaDoorEscA
import Derived.WalkKit
namespace Go.Proofs.YtkdfpoficieknaaDoor
open Go.RowKit
set_option linter.unusedVariables false

set_option maxHeartbeats 4000000 in
theorem octalSafe_walk (a0 : ByteArray) (w0 : a0.size ≤ maxLen) (w : World) (hD : Digs w) (hsh : a0.size ≤ 1048576) :
    Calls Tryd.prog 5 #[.string a0] w fun e w' => e = .returned (.bool true) ∧ Below w.heap.size w w' := by
  obtain ⟨c1, c2, c3⟩ := bd a0 (by omega)
  obtain ⟨f1, f2, f3⟩ := bd (⟨#[37]⟩ ++ a0) (by have : (ByteArray.mk #[37]).size = 1 := rfl; simp; omega)
  have hb0 := Below.refl w.heap.size w
  have hm := musts_le a0.data.toList
  rw [size_data] at hm
  have l1 : (str (esc a0.data.toList)).size = a0.size + 3 * musts a0.data.toList := by rw [str_size, esc_count, size_data]
  have l2 : (str (escB (37 :: a0.data.toList))).size = a0.size + 3 * musts a0.data.toList + 4 := by
    show (code 37 ++ esc a0.data.toList).length = _
    rw [List.length_append, esc_count, size_data, code_length]; omega
  clear w0
  go_enter Tryd.func5, Tryd.ntmps5
  go_wp2
  go_loop [3, 4] (fun n i => ∃ k : Nat, k ≤ a0.size ∧ i = .int .i64 k ∧ n = .int .i64 ((a0.size : Int) + 3 * (musts (a0.data.toList.take k) : Nat))) (fun _ i => a0.size - (intOf i).toNat)
  case atStart => exact ⟨0, Nat.zero_le _, rfl, by simp [musts]⟩
  case round =>
    obtain ⟨k, hk, rfl, rfl⟩ := hrel
    have hmk := musts_le (a0.data.toList.take k)
    rw [List.length_take, size_data] at hmk
    by_cases hlt : k < a0.size
    · have HM : Hid (musts (a0.data.toList.take (k + 1)) = musts (a0.data.toList.take k) + if mustB a0[k] then 1 else 0) := by
        show _ = _
        rw [take_snoc a0 k hlt, musts_snoc]
      cases hmu : mustB a0[k]
      · have HM' : Hid (musts (a0.data.toList.take (k + 1)) = musts (a0.data.toList.take k)) := by
          show _ = _
          rw [HM.out, hmu]; rfl
        have hq := of_not_must hmu
        have hq1 : ¬ (a0[k].toNat : Int) < 32 := by omega
        have hq2 : ((a0[k].toNat : Int) == 92) = false := by rw [beq_eq_false_iff_ne]; omega
        clear HM hmu hq
        go_wp2
        go_round
        case rel => exact ⟨k + 1, by omega, by go_num, by rw [HM'.out]⟩
        case measure => simp [intOf]; omega
      · have HM' : Hid (musts (a0.data.toList.take (k + 1)) = musts (a0.data.toList.take k) + 1) := by
          show _ = _
          rw [HM.out, hmu]; rfl
        have HQ : Hid (a0[k].toNat < 32 ∨ a0[k].toNat = 92) := of_must hmu
        clear HM hmu
        go_wp2
        all_goals first
          | (go_round
             case rel => exact ⟨k + 1, by omega, by go_num, by rw [HM'.out]; go_num⟩
             case measure => simp [intOf]; omega)
          | (exfalso; have := HQ.out; simp only [beq_eq_false_iff_ne] at *; omega)
    · have hke : k = a0.size := by omega
      have HE : Hid (musts (a0.data.toList.take k) = musts a0.data.toList) := by show _ = _; rw [hke, take_all]
      rw [HE.out]
      clear hke hmk HE
      go_wp2_with (first | (go_at_call 8; refine (escape_in hD (by assumption) _ (by assumption) (by assumption)).mono ?_; rintro e w' ⟨rfl, hb⟩) | (go_at_call 9; refine (escapeBody_in hD (by assumption) _ (by assumption) (by assumption)).mono ?_; rintro e w' ⟨rfl, hb⟩))
      go_loop [7] (fun i => ∃ j : Nat, j ≤ (str (esc a0.data.toList)).size ∧ i = .int .i64 j) (fun i => (str (esc a0.data.toList)).size - (intOf i).toNat)
      case atStart => exact ⟨0, Nat.zero_le _, rfl⟩
      case round =>
        obtain ⟨j, hj, rfl⟩ := hrel
        by_cases hlj : j < (str (esc a0.data.toList)).size
        · have hge : ¬ ((str (esc a0.data.toList))[j].toNat : Int) < 32 := by
            have := esc_high a0.data.toList (str (esc a0.data.toList))[j] (List.getElem_mem _)
            omega
          go_wp2
          go_round
          case rel => exact ⟨j + 1, by omega, by go_num⟩
          case measure => simp [intOf]; omega
        · go_wp2
          go_ret
          exact ⟨rfl, by assumption⟩
end Go.Proofs.YtkdfpoficieknaaDoor
