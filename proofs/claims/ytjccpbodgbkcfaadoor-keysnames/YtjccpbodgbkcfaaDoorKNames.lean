/-
  Keys: the law of names and bytes.
-/
import Derived.Test.YtjccpbodgbkcfaaDoorKRefB
import Derived.Test.YtjccpbodgbkcfaaDoorKSure
import Derived.Deep.RegionHeld3
namespace Go.Proofs.YtjccpbodgbkcfaaDoor
open Go.RowKit
set_option linter.unusedVariables false
set_option maxRecDepth 100000

set_option maxHeartbeats 4000000 in
theorem keysNames_walk (c m : Int) (app : Bool) (w : World) (hT : Tabs w) : Calls Tryd.prog 6 #[.agg #[.int .i64 c, .int .i64 m], .bool app] w fun r w' => r = .returned (.bool true) ∧ Below w.heap.size w w' := by
  obtain ⟨W, hW⟩ : ∃ W, w.alloc (.cells #[.int .i64 c, .int .i64 m] 30) = W := ⟨_, rfl⟩
  obtain ⟨K, hK⟩ : ∃ K, w.heap.size = K := ⟨_, rfl⟩
  have hk : Kb w W K c m := by rw [← hW, ← hK]; exact Kb.new w _ _
  have HK := hidK hK
  obtain ⟨z, hz⟩ : ∃ z, validB c m = z := ⟨_, rfl⟩
  obtain ⟨N, hN⟩ : ∃ N, str (nameF c m) = N := ⟨_, rfl⟩
  obtain ⟨Y, hY⟩ : ∃ Y, str (bytesF c m app) = Y := ⟨_, rfl⟩
  have hTW := hT.below hk.below
  have A1 : Hid (∀ X, Below W.heap.size W X → Calls Tryd.prog 13 #[.agg #[.int .i64 c, .int .i64 m]] X fun r w' => r = .returned (.bool z) ∧ Below X.heap.size X w') := fun X hX => by rw [← hz]; exact valid_any c m X
  have A2 : Hid (∀ X, Below W.heap.size W X → Calls Tryd.prog 19 #[.agg #[.int .i64 c, .int .i64 m]] X fun r w' => r = .returned (.bool z) ∧ Below X.heap.size X w') := fun X hX => by rw [← hz]; exact rvalid_any c m X
  have A3 : Hid (∀ X, Below W.heap.size W X → Calls Tryd.prog 17 #[.agg #[.int .i64 c, .int .i64 m]] X fun r w' => r = .returned (.string N) ∧ Below X.heap.size X w') := fun X hX => by rw [← hN]; exact name_any c m (hTW.below hX)
  have A4 : Hid (∀ X, Below W.heap.size W X → Calls Tryd.prog 20 #[.agg #[.int .i64 c, .int .i64 m]] X fun r w' => r = .returned (.string N) ∧ Below X.heap.size X w') := fun X hX => by rw [← hN]; exact rname_any c m X
  have A5 : Hid (∀ X, Below W.heap.size W X → Calls Tryd.prog 15 #[.agg #[.int .i64 c, .int .i64 m], .bool app] X fun r w' => r = .returned (.string Y) ∧ Below X.heap.size X w') := fun X hX => by rw [← hY]; exact bytes_any c m app (hTW.below hX)
  have A6 : Hid (∀ X, Below W.heap.size W X → Calls Tryd.prog 21 #[.agg #[.int .i64 c, .int .i64 m], .bool app] X fun r w' => r = .returned (.string Y) ∧ Below X.heap.size X w') := fun X hX => by rw [← hY]; exact rbytes_any c m app X
  have A7 : Hid (∀ X, Below W.heap.size W X → Calls Tryd.prog 14 #[] X fun r w' => r = .returned (.bool true) ∧ Below X.heap.size X w') := fun X hX => sure_any (hTW.below hX)
  have HCell : Hid (∀ X, Below W.heap.size W X → X.cell? ⟨K, 0, none⟩ = some (.int .i64 c) ∧ X.cell? ⟨K, 1, none⟩ = some (.int .i64 m)) := fun X hX => ⟨(hk.more hX).c0, (hk.more hX).c1⟩
  have n1 : (N.toList == N.toList) = true := by simp
  have n2 : (Y.toList == Y.toList) = true := by simp
  have HBW := hidK hk.below
  have HBx := hidK (Below.refl W.heap.size W)
  obtain ⟨k0, k1⟩ := HCell.out _ HBx.out
  clear hT hTW hz hN hY hk
  cases z
  · go_enter Tryd.func6, Tryd.ntmps6
    go_wp2_with fail
    go_region_held3 (fun X => X.cell? ⟨K, 0, none⟩ = some (.int .i64 c) ∧ X.cell? ⟨K, 1, none⟩ = some (.int .i64 m)) (go_keep) ((first
      | (go_at_call 13; refine (A1.out _ (by first | exact HBx.out | exact HBx.out.drew)).mono ?_; rintro e w1 ⟨rfl, hb⟩; have HBn : Hid (Below W.heap.size W w1) := (by first | exact HBx.out.trans (hb.mono HBx.out.size) | exact HBx.out.drew.trans (hb.mono HBx.out.size)); clear hb; clear HBx; have HBx := hidK HBn.out; clear HBn; clear k0 k1; obtain ⟨k0, k1⟩ := HCell.out _ HBx.out)
      | (go_at_call 19; refine (A2.out _ (by first | exact HBx.out | exact HBx.out.drew)).mono ?_; rintro e w2 ⟨rfl, hb⟩; have HBn : Hid (Below W.heap.size W w2) := (by first | exact HBx.out.trans (hb.mono HBx.out.size) | exact HBx.out.drew.trans (hb.mono HBx.out.size)); clear hb; clear HBx; have HBx := hidK HBn.out; clear HBn; clear k0 k1; obtain ⟨k0, k1⟩ := HCell.out _ HBx.out)
      | (go_at_call 17; refine (A3.out _ (by first | exact HBx.out | exact HBx.out.drew)).mono ?_; rintro e w3 ⟨rfl, hb⟩; have HBn : Hid (Below W.heap.size W w3) := (by first | exact HBx.out.trans (hb.mono HBx.out.size) | exact HBx.out.drew.trans (hb.mono HBx.out.size)); clear hb; clear HBx; have HBx := hidK HBn.out; clear HBn; clear k0 k1; obtain ⟨k0, k1⟩ := HCell.out _ HBx.out)
      | (go_at_call 20; refine (A4.out _ (by first | exact HBx.out | exact HBx.out.drew)).mono ?_; rintro e w4 ⟨rfl, hb⟩; have HBn : Hid (Below W.heap.size W w4) := (by first | exact HBx.out.trans (hb.mono HBx.out.size) | exact HBx.out.drew.trans (hb.mono HBx.out.size)); clear hb; clear HBx; have HBx := hidK HBn.out; clear HBn; clear k0 k1; obtain ⟨k0, k1⟩ := HCell.out _ HBx.out)
      | (go_at_call 15; refine (A5.out _ (by first | exact HBx.out | exact HBx.out.drew)).mono ?_; rintro e w5 ⟨rfl, hb⟩; have HBn : Hid (Below W.heap.size W w5) := (by first | exact HBx.out.trans (hb.mono HBx.out.size) | exact HBx.out.drew.trans (hb.mono HBx.out.size)); clear hb; clear HBx; have HBx := hidK HBn.out; clear HBn; clear k0 k1; obtain ⟨k0, k1⟩ := HCell.out _ HBx.out)
      | (go_at_call 21; refine (A6.out _ (by first | exact HBx.out | exact HBx.out.drew)).mono ?_; rintro e w6 ⟨rfl, hb⟩; have HBn : Hid (Below W.heap.size W w6) := (by first | exact HBx.out.trans (hb.mono HBx.out.size) | exact HBx.out.drew.trans (hb.mono HBx.out.size)); clear hb; clear HBx; have HBx := hidK HBn.out; clear HBn; clear k0 k1; obtain ⟨k0, k1⟩ := HCell.out _ HBx.out)
      | (go_at_call 14; refine (A7.out _ (by first | exact HBx.out | exact HBx.out.drew)).mono ?_; rintro e w7 ⟨rfl, hb⟩; have HBn : Hid (Below W.heap.size W w7) := (by first | exact HBx.out.trans (hb.mono HBx.out.size) | exact HBx.out.drew.trans (hb.mono HBx.out.size)); clear hb; clear HBx; have HBx := hidK HBn.out; clear HBn; clear k0 k1; obtain ⟨k0, k1⟩ := HCell.out _ HBx.out)))
    all_goals (
      go_wp2_with fail
      go_ret
      refine ⟨rfl, ?_⟩
      first | rw [← HK.out] | skip
      exact below_step HBW.out (by first | exact HBx.out | exact HBx.out.drew))
  · go_enter Tryd.func6, Tryd.ntmps6
    go_wp2_with fail
    go_region_held3 (fun X => X.cell? ⟨K, 0, none⟩ = some (.int .i64 c) ∧ X.cell? ⟨K, 1, none⟩ = some (.int .i64 m)) (go_keep) ((first
      | (go_at_call 13; refine (A1.out _ (by first | exact HBx.out | exact HBx.out.drew)).mono ?_; rintro e w1 ⟨rfl, hb⟩; have HBn : Hid (Below W.heap.size W w1) := (by first | exact HBx.out.trans (hb.mono HBx.out.size) | exact HBx.out.drew.trans (hb.mono HBx.out.size)); clear hb; clear HBx; have HBx := hidK HBn.out; clear HBn; clear k0 k1; obtain ⟨k0, k1⟩ := HCell.out _ HBx.out)
      | (go_at_call 19; refine (A2.out _ (by first | exact HBx.out | exact HBx.out.drew)).mono ?_; rintro e w2 ⟨rfl, hb⟩; have HBn : Hid (Below W.heap.size W w2) := (by first | exact HBx.out.trans (hb.mono HBx.out.size) | exact HBx.out.drew.trans (hb.mono HBx.out.size)); clear hb; clear HBx; have HBx := hidK HBn.out; clear HBn; clear k0 k1; obtain ⟨k0, k1⟩ := HCell.out _ HBx.out)
      | (go_at_call 17; refine (A3.out _ (by first | exact HBx.out | exact HBx.out.drew)).mono ?_; rintro e w3 ⟨rfl, hb⟩; have HBn : Hid (Below W.heap.size W w3) := (by first | exact HBx.out.trans (hb.mono HBx.out.size) | exact HBx.out.drew.trans (hb.mono HBx.out.size)); clear hb; clear HBx; have HBx := hidK HBn.out; clear HBn; clear k0 k1; obtain ⟨k0, k1⟩ := HCell.out _ HBx.out)
      | (go_at_call 20; refine (A4.out _ (by first | exact HBx.out | exact HBx.out.drew)).mono ?_; rintro e w4 ⟨rfl, hb⟩; have HBn : Hid (Below W.heap.size W w4) := (by first | exact HBx.out.trans (hb.mono HBx.out.size) | exact HBx.out.drew.trans (hb.mono HBx.out.size)); clear hb; clear HBx; have HBx := hidK HBn.out; clear HBn; clear k0 k1; obtain ⟨k0, k1⟩ := HCell.out _ HBx.out)
      | (go_at_call 15; refine (A5.out _ (by first | exact HBx.out | exact HBx.out.drew)).mono ?_; rintro e w5 ⟨rfl, hb⟩; have HBn : Hid (Below W.heap.size W w5) := (by first | exact HBx.out.trans (hb.mono HBx.out.size) | exact HBx.out.drew.trans (hb.mono HBx.out.size)); clear hb; clear HBx; have HBx := hidK HBn.out; clear HBn; clear k0 k1; obtain ⟨k0, k1⟩ := HCell.out _ HBx.out)
      | (go_at_call 21; refine (A6.out _ (by first | exact HBx.out | exact HBx.out.drew)).mono ?_; rintro e w6 ⟨rfl, hb⟩; have HBn : Hid (Below W.heap.size W w6) := (by first | exact HBx.out.trans (hb.mono HBx.out.size) | exact HBx.out.drew.trans (hb.mono HBx.out.size)); clear hb; clear HBx; have HBx := hidK HBn.out; clear HBn; clear k0 k1; obtain ⟨k0, k1⟩ := HCell.out _ HBx.out)
      | (go_at_call 14; refine (A7.out _ (by first | exact HBx.out | exact HBx.out.drew)).mono ?_; rintro e w7 ⟨rfl, hb⟩; have HBn : Hid (Below W.heap.size W w7) := (by first | exact HBx.out.trans (hb.mono HBx.out.size) | exact HBx.out.drew.trans (hb.mono HBx.out.size)); clear hb; clear HBx; have HBx := hidK HBn.out; clear HBn; clear k0 k1; obtain ⟨k0, k1⟩ := HCell.out _ HBx.out)))
    all_goals (
      go_wp2_with fail
      go_ret
      refine ⟨rfl, ?_⟩
      first | rw [← HK.out] | skip
      exact below_step HBW.out (by first | exact HBx.out | exact HBx.out.drew))
end Go.Proofs.YtjccpbodgbkcfaaDoor
