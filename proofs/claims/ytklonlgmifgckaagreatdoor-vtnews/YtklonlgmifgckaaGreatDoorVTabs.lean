/-
  The document's tab stops.
-/
import Derived.Test.YtklonlgmifgckaaGreatDoorVRef
import Derived.OwnWalk
namespace Go.Proofs.YtklonlgmifgckaaGreatDoor
open Go.RowKit
set_option linter.unusedVariables false
set_option maxRecDepth 100000

theorem infoBoolV : (Tryz.prog.info? 4).map (fun i => (i.zero, i.size, i.bytes)) = some (some (.bool false), 1, 1) := by kernel_rfl
set_option maxHeartbeats 2000000 in
theorem tabs_any (n : Nat) (hn : n ≤ 1000) (w : World) : Calls Tryz.prog 36 #[.int .i64 (n : Int)] w fun r w' => ∃ ad cap, r = .returned (.slice ad n cap) ∧ Below w.heap.size w w' := by
  go_enter Tryz.func36, Tryz.ntmps36
  go_wp2_with fail
  go_loopw [3, 4] (fun v i wr => ∃ k : Nat, k ≤ n ∧ i = .int .i64 (k : Int) ∧ ∃ xs, Hid (Mine w wr 4 1 v k xs) ∧ (k = 0 → v = .slice none 0 0)) (fun _ i _ => n - (intOf i).toNat)
  case atStart => exact ⟨0, Nat.zero_le _, rfl, [], Mine.nil (Below.refl _ _), fun _ => rfl⟩
  case round =>
    obtain ⟨k, hk, rfl, xs, HM, hk0⟩ := hrel
    by_cases hlt : k < n
    · obtain ⟨bb, hbb⟩ : ∃ bb : Bool, (decide (0 < (k : Int)) && ((k : Int) % 8 == 0)) = bb := ⟨_, rfl⟩
      by_cases h0 : 0 < (k : Int)
      · clear hbb hk0
        go_wp2_with (at_builtin; refine wpList_append_row (wr.alloc (.cells #[.bool _] 4)) rfl _ _ 52 52 rfl underBools infoBoolV rfl (v := u3) (by simp [Act.eval]) (u := .slice (some ⟨wr.heap.size, 0, none⟩) 1 1) (by simp [Act.eval]) (HM.out.more ((Below.refl _ _).alloc (Nat.le_refl _) _)).row (Src.block underBools _ _ [.bool _] 4 1 (heap_alloc_new wr _) rfl rfl) ?x1 ?x2 ?x3)
        case x1 => omega
        case x2 => unfold maxLen; omega
        intro v2 w2 hr2 hg2
        go_wp2_with fail
        go_roundw
        case rel => exact ⟨k + 1, by omega, by go_num, _, HM.out.grown ((Below.refl _ _).alloc (Nat.le_refl _) _) hr2.out hg2.out, fun h => by omega⟩
        case measure => simp [intOf]; omega
      · clear hbb
        obtain rfl : k = 0 := by omega
        have hv0 := hk0 rfl
        subst hv0
        clear hk0
        go_wp2_with fail
        go_roundw
        case rel =>
          have hge := grownCap_ge wr 1 0 4
          have hcm := grownCap_le_maxLen wr 1 0 4 (by unfold maxLen; omega)
          have hnew := heap_alloc_new (wr.alloc (.cells #[.bool false] 4)) (.cells (#[.bool false] ++ Builtin.zeroCells #[.bool false] ((Question.appendCap 1 0 4).cut (wr.tape wr.drawn (Question.appendCap 1 0 4)) - 1)) 4)
          rw [World.size_alloc] at hnew
          refine ⟨1, by omega, by go_num, [.bool false], ⟨⟨rfl, .inr ⟨_, 0, _, _, rfl, hnew, hge, hcm, ?_, fun j u hu => ?_⟩⟩, ?_, fun g hg => ?_⟩, fun h => by omega⟩
          · simp [size_zeroCells]
            omega
          · have hj : j = 0 := by have := (List.getElem?_eq_some_iff.1 hu).1; simp at this; omega
            subst hj
            rw [Array.getElem?_append_left (by simp)]
            simpa using hu
          · exact ((HM.out.below.alloc HM.out.below.size _).alloc (by have := HM.out.below.size; simp; omega) _).drew
          · cases hg
            have := HM.out.below.size
            simp
            omega
        case measure => simp [intOf]; omega
    · obtain rfl : k = n := by omega
      clear hk0
      obtain ⟨ad, cap, hv, _, _, _, _⟩ := HM.out.row.shape
      subst hv
      go_wp2_with fail
      go_ret
      exact ⟨ad, cap, rfl, HM.out.below⟩
end Go.Proofs.YtklonlgmifgckaaGreatDoor
