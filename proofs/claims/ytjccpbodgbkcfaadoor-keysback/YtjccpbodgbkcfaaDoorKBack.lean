/-
  Keys: the law of names that lead back.
-/
import Derived.Test.YtjccpbodgbkcfaaDoorKRdP
import Derived.Test.YtjccpbodgbkcfaaDoorKSure
import Derived.Deep.RegionHeld3
namespace Go.Proofs.YtjccpbodgbkcfaaDoor
open Go.RowKit
set_option linter.unusedVariables false
set_option maxRecDepth 100000

theorem name_len (c m : Int) : (nameF c m).length ≤ 100 := by
  unfold nameF
  split
  · have h1 := bare_len c
    have h2 : (modF m).length ≤ 6 := by rw [← preM_all]; exact preM_len m 3
    rw [List.length_append]; omega
  · simp
set_option maxHeartbeats 8000000 in
theorem keysBack_walk (c m : Int) (t : List UInt8) (ht : t.length ≤ 140737488355328) (w : World) (hT : Tabs w) : Calls Tryd.prog 5 #[.agg #[.int .i64 c, .int .i64 m], .string (str t)] w fun r w' => r = .returned (.bool true) ∧ Below w.heap.size w w' := by
  obtain ⟨W, hW⟩ : ∃ W, w.alloc (.cells #[.int .i64 c, .int .i64 m] 30) = W := ⟨_, rfl⟩
  obtain ⟨K, hK⟩ : ∃ K, w.heap.size = K := ⟨_, rfl⟩
  have hk : Kb w W K c m := by rw [← hW, ← hK]; exact Kb.new w _ _
  have HK := hidK hK
  have hTW := hT.below hk.below
  obtain ⟨z, hz⟩ : ∃ z, validB c m = z := ⟨_, rfl⟩
  obtain ⟨N, hN⟩ : ∃ N, str (nameF c m) = N := ⟨_, rfl⟩
  obtain ⟨T, hTT⟩ : ∃ T, str t = T := ⟨_, rfl⟩
  have A1 : Hid (∀ X, Below W.heap.size W X → Calls Tryd.prog 13 #[.agg #[.int .i64 c, .int .i64 m]] X fun r w' => r = .returned (.bool z) ∧ Below X.heap.size X w') := fun X hX => by rw [← hz]; exact valid_any c m X
  have A2 : Hid (∀ X, Below W.heap.size W X → Calls Tryd.prog 17 #[.agg #[.int .i64 c, .int .i64 m]] X fun r w' => r = .returned (.string N) ∧ Below X.heap.size X w') := fun X hX => by rw [← hN]; exact name_any c m (hTW.below hX)
  have A3 : Hid (∀ X, Below W.heap.size W X → Calls Tryd.prog 18 #[.string T] X fun r w' => r = .returned (rdV t) ∧ Below X.heap.size X w') := fun X hX => by rw [← hTT]; exact read_any t ht (hTW.below hX)
  have A4 : Hid (∀ X, Below W.heap.size W X → Calls Tryd.prog 18 #[.string N] X fun r w' => r = .returned (rdV (nameF c m)) ∧ Below X.heap.size X w') := fun X hX => by rw [← hN]; exact read_any _ (by have := name_len c m; omega) (hTW.below hX)
  have A5 : Hid (∀ X, Below W.heap.size W X → Calls Tryd.prog 14 #[] X fun r w' => r = .returned (.bool true) ∧ Below X.heap.size X w') := fun X hX => sure_any (hTW.below hX)
  have A6 : Hid (∀ (k : Int × Int) X, Below W.heap.size W X → Calls Tryd.prog 13 #[.agg #[.int .i64 k.1, .int .i64 k.2]] X fun r w' => r = .returned (.bool (validB k.1 k.2)) ∧ Below X.heap.size X w') := fun k X hX => valid_any k.1 k.2 X
  have A7 : Hid (∀ (k : Int × Int) X, Below W.heap.size W X → Calls Tryd.prog 17 #[.agg #[.int .i64 k.1, .int .i64 k.2]] X fun r w' => r = .returned (.string (str (nameF k.1 k.2))) ∧ Below X.heap.size X w') := fun k X hX => name_any k.1 k.2 (hTW.below hX)
  have HCell : Hid (∀ X, Below W.heap.size W X → X.cell? ⟨K, 0, none⟩ = some (.int .i64 c) ∧ X.cell? ⟨K, 1, none⟩ = some (.int .i64 m)) := fun X hX => ⟨(hk.more hX).c0, (hk.more hX).c1⟩
  have HBW := hidK hk.below
  have HBx := hidK (Below.refl W.heap.size W)
  obtain ⟨k0, k1⟩ := HCell.out _ HBx.out
  rw [hTT]
  have HTT := hidK hTT
  cases z with
  | false =>
    have hN0 : N = ⟨#[]⟩ := by rw [← hN]; unfold nameF; rw [hz, if_neg (by decide)]; rfl
    subst hN0
    clear A4 hT hTW hk hz hN hTT ht
    go_enter Tryd.func5, Tryd.ntmps5
    go_wp2_with fail
    go_region_held3 (fun X => X.cell? ⟨K, 0, none⟩ = some (.int .i64 c) ∧ X.cell? ⟨K, 1, none⟩ = some (.int .i64 m)) (go_keep) ((first
      | (go_at_call 13; refine (A1.out _ (by first | exact HBx.out | exact HBx.out.drew)).mono ?_; rintro e w1 ⟨rfl, hb⟩; have HBn : Hid (Below W.heap.size W w1) := (by first | exact HBx.out.trans (hb.mono HBx.out.size) | exact HBx.out.drew.trans (hb.mono HBx.out.size)); clear hb; clear HBx; have HBx := hidK HBn.out; clear HBn; clear k0 k1; obtain ⟨k0, k1⟩ := HCell.out _ HBx.out)
      | (go_at_call 17; refine (A2.out _ (by first | exact HBx.out | exact HBx.out.drew)).mono ?_; rintro e w2 ⟨rfl, hb⟩; have HBn : Hid (Below W.heap.size W w2) := (by first | exact HBx.out.trans (hb.mono HBx.out.size) | exact HBx.out.drew.trans (hb.mono HBx.out.size)); clear hb; clear HBx; have HBx := hidK HBn.out; clear HBn; clear k0 k1; obtain ⟨k0, k1⟩ := HCell.out _ HBx.out)))
    all_goals (
      go_wp2_with fail
      refine (A1.out _ (by first | exact HBx.out | exact HBx.out.drew)).mono ?_
      rintro e w3 ⟨rfl, hb⟩
      have HBn : Hid (Below W.heap.size W w3) := (by first | exact HBx.out.trans (hb.mono HBx.out.size) | exact HBx.out.drew.trans (hb.mono HBx.out.size))
      clear hb HBx
      have HBx := hidK HBn.out
      clear HBn k0 k1
      obtain ⟨k0, k1⟩ := HCell.out _ HBx.out
      cases hr : readF t with
      | some kk =>
        obtain ⟨x, y⟩ := kk
        obtain ⟨hv2, hn2⟩ := name_read hr
        have hrd : rdV t = .tuple #[.agg #[.int .i64 x, .int .i64 y], .int .i64 0] := by unfold rdV; rw [hr]
        rw [hrd] at A3
        have A7x : Hid (∀ X, Below W.heap.size W X → Calls Tryd.prog 17 #[.agg #[.int .i64 x, .int .i64 y]] X fun r w' => r = .returned (.string T) ∧ Below X.heap.size X w') := fun X hX => by
          have h := A7.out (x, y) X hX
          simp only [] at h hn2
          rw [hn2, HTT.out] at h
          exact h
        have A6x : Hid (∀ X, Below W.heap.size W X → Calls Tryd.prog 13 #[.agg #[.int .i64 x, .int .i64 y]] X fun r w' => r = .returned (.bool true) ∧ Below X.heap.size X w') := fun X hX => by
          have h := A6.out (x, y) X hX
          simp only [] at h hv2
          rw [hv2] at h
          exact h
        have tt : (T.toList == T.toList) = true := by simp
        clear hr hv2 hn2 hrd A6 A7
        go_wp2_with fail
        refine (A3.out _ (by first | exact HBx.out | exact HBx.out.drew)).mono ?_
        rintro e w5 ⟨rfl, hb⟩
        have HBn : Hid (Below W.heap.size W w5) := (by first | exact HBx.out.trans (hb.mono HBx.out.size) | exact HBx.out.drew.trans (hb.mono HBx.out.size))
        clear hb HBx
        have HBx := hidK HBn.out
        clear HBn k0 k1
        obtain ⟨k0, k1⟩ := HCell.out _ HBx.out
        obtain ⟨Vs, hVs⟩ : ∃ V, w5.alloc (.cells #[.int .i64 x, .int .i64 y] 30) = V := ⟨_, rfl⟩
        obtain ⟨Qs, hQs⟩ : ∃ Q, w5.heap.size = Q := ⟨_, rfl⟩
        have hqs : Vs.heap[Qs]? = some (.cells #[.int .i64 x, .int .i64 y] 30 (0, 0)) := by rw [← hVs, ← hQs]; exact heap_alloc_new w5 _
        have HBn : Hid (Below W.heap.size W Vs) := by rw [← hVs]; exact below_step HBx.out ((Below.refl _ _).alloc (Nat.le_refl _) _)
        clear HBx
        have HBx := hidK HBn.out
        clear HBn k0 k1
        obtain ⟨k0, k1⟩ := HCell.out _ HBx.out
        have HQs := hidK hqs
        have qs0 : Vs.cell? ⟨Qs, 0, none⟩ = some (.int .i64 x) := cell_at hqs 0
        have qs1 : Vs.cell? ⟨Qs, 1, none⟩ = some (.int .i64 y) := cell_at hqs 1
        clear hqs
        go_wp2_with fail
        refine (A7x.out _ HBx.out).mono ?_
        rintro e w6 ⟨rfl, hb⟩
        have HBn : Hid (Below W.heap.size W w6) := HBx.out.trans (hb.mono HBx.out.size)
        have q6 := (hb.block Qs (lt_block HQs.out)).trans HQs.out
        have q60 : w6.cell? ⟨Qs, 0, none⟩ = some (.int .i64 x) := cell_at q6 0
        have q61 : w6.cell? ⟨Qs, 1, none⟩ = some (.int .i64 y) := cell_at q6 1
        clear hb HBx q6 qs0 qs1
        have HBx := hidK HBn.out
        clear HBn k0 k1
        obtain ⟨k0, k1⟩ := HCell.out _ HBx.out
        go_wp2_with fail
        refine (A6x.out _ HBx.out).mono ?_
        rintro e w7 ⟨rfl, hb⟩
        have HBn : Hid (Below W.heap.size W w7) := HBx.out.trans (hb.mono HBx.out.size)
        clear hb HBx q60 q61
        have HBx := hidK HBn.out
        clear HBn k0 k1
        obtain ⟨k0, k1⟩ := HCell.out _ HBx.out
        go_wp2_with fail
        refine (A5.out _ (by first | exact HBx.out | exact HBx.out.drew)).mono ?_
        rintro e w9 ⟨rfl, hb⟩
        have HBn : Hid (Below W.heap.size W w9) := (by first | exact HBx.out.trans (hb.mono HBx.out.size) | exact HBx.out.drew.trans (hb.mono HBx.out.size))
        clear hb HBx
        have HBx := hidK HBn.out
        clear HBn k0 k1
        obtain ⟨k0, k1⟩ := HCell.out _ HBx.out
        go_wp2_with fail
        go_ret
        refine ⟨rfl, ?_⟩
        first | rw [← HK.out] | skip
        exact below_step HBW.out (by first | exact HBx.out | exact HBx.out.drew)

      | none =>
        have hrd : rdV t = .tuple #[.agg #[.int .i64 0, .int .i64 0], .int .i64 210] := by unfold rdV; rw [hr]
        rw [hrd] at A3
        clear hr hrd A6 A7
        go_wp2_with fail
        refine (A3.out _ (by first | exact HBx.out | exact HBx.out.drew)).mono ?_
        rintro e w5 ⟨rfl, hb⟩
        have HBn : Hid (Below W.heap.size W w5) := (by first | exact HBx.out.trans (hb.mono HBx.out.size) | exact HBx.out.drew.trans (hb.mono HBx.out.size))
        clear hb HBx
        have HBx := hidK HBn.out
        clear HBn k0 k1
        obtain ⟨k0, k1⟩ := HCell.out _ HBx.out
        have HBa : Hid (∀ o, Below W.heap.size W (w5.alloc o)) := fun o => below_step HBx.out ((Below.refl _ _).alloc (Nat.le_refl _) o)
        go_wp2_with fail
        refine (A5.out _ (HBa.out _)).mono ?_
        rintro e w9 ⟨rfl, hb⟩
        have HBn : Hid (Below W.heap.size W w9) := (HBa.out _).trans (hb.mono (HBa.out _).size)
        clear hb
        go_wp2_with fail
        go_ret
        refine ⟨rfl, ?_⟩
        first | rw [← HK.out] | skip
        exact below_step HBW.out HBn.out
    )
  | true =>
    have hne : ¬ N.toList = [] ∧ N.toList.isEmpty = false := by
      rw [← hN, str_toList]
      have := name_some hz
      exact ⟨this, by simpa using this⟩
    obtain ⟨ne1, ne2⟩ := hne
    have hrd4 : rdV (nameF c m) = .tuple #[.agg #[.int .i64 c, .int .i64 m], .int .i64 0] := by unfold rdV; rw [read_name hz]
    rw [hrd4] at A4
    clear hT hTW hk hz hN hTT ht hrd4
    go_enter Tryd.func5, Tryd.ntmps5
    go_wp2_with fail
    go_region_held3 (fun X => X.cell? ⟨K, 0, none⟩ = some (.int .i64 c) ∧ X.cell? ⟨K, 1, none⟩ = some (.int .i64 m)) (go_keep) ((first
      | (go_at_call 13; refine (A1.out _ (by first | exact HBx.out | exact HBx.out.drew)).mono ?_; rintro e w1 ⟨rfl, hb⟩; have HBn : Hid (Below W.heap.size W w1) := (by first | exact HBx.out.trans (hb.mono HBx.out.size) | exact HBx.out.drew.trans (hb.mono HBx.out.size)); clear hb; clear HBx; have HBx := hidK HBn.out; clear HBn; clear k0 k1; obtain ⟨k0, k1⟩ := HCell.out _ HBx.out)
      | (go_at_call 17; refine (A2.out _ (by first | exact HBx.out | exact HBx.out.drew)).mono ?_; rintro e w2 ⟨rfl, hb⟩; have HBn : Hid (Below W.heap.size W w2) := (by first | exact HBx.out.trans (hb.mono HBx.out.size) | exact HBx.out.drew.trans (hb.mono HBx.out.size)); clear hb; clear HBx; have HBx := hidK HBn.out; clear HBn; clear k0 k1; obtain ⟨k0, k1⟩ := HCell.out _ HBx.out)))
    all_goals (
      go_wp2_with fail
      refine (A1.out _ (by first | exact HBx.out | exact HBx.out.drew)).mono ?_
      rintro e w3 ⟨rfl, hb⟩
      have HBn : Hid (Below W.heap.size W w3) := (by first | exact HBx.out.trans (hb.mono HBx.out.size) | exact HBx.out.drew.trans (hb.mono HBx.out.size))
      clear hb HBx
      have HBx := hidK HBn.out
      clear HBn k0 k1
      obtain ⟨k0, k1⟩ := HCell.out _ HBx.out
      go_wp2_with fail
      refine (A2.out _ (by first | exact HBx.out | exact HBx.out.drew)).mono ?_
      rintro e w31 ⟨rfl, hb⟩
      have HBn : Hid (Below W.heap.size W w31) := (by first | exact HBx.out.trans (hb.mono HBx.out.size) | exact HBx.out.drew.trans (hb.mono HBx.out.size))
      clear hb HBx
      have HBx := hidK HBn.out
      clear HBn k0 k1
      obtain ⟨k0, k1⟩ := HCell.out _ HBx.out
      go_wp2_with fail
      refine (A4.out _ (by first | exact HBx.out | exact HBx.out.drew)).mono ?_
      rintro e w32 ⟨rfl, hb⟩
      have HBn : Hid (Below W.heap.size W w32) := (by first | exact HBx.out.trans (hb.mono HBx.out.size) | exact HBx.out.drew.trans (hb.mono HBx.out.size))
      clear hb HBx
      have HBx := hidK HBn.out
      clear HBn k0 k1
      obtain ⟨k0, k1⟩ := HCell.out _ HBx.out
      obtain ⟨Va, hVa⟩ : ∃ V, w32.alloc (.cells #[.int .i64 c, .int .i64 m] 30) = V := ⟨_, rfl⟩
      obtain ⟨Qa, hQa⟩ : ∃ Q, w32.heap.size = Q := ⟨_, rfl⟩
      have hqa : Va.heap[Qa]? = some (.cells #[.int .i64 c, .int .i64 m] 30 (0, 0)) := by rw [← hVa, ← hQa]; exact heap_alloc_new w32 _
      have HBn : Hid (Below W.heap.size W Va) := by rw [← hVa]; exact below_step HBx.out ((Below.refl _ _).alloc (Nat.le_refl _) _)
      clear HBx
      have HBx := hidK HBn.out
      clear HBn k0 k1
      obtain ⟨k0, k1⟩ := HCell.out _ HBx.out
      have HQa := hidK hqa
      have qa0 : Va.cell? ⟨Qa, 0, none⟩ = some (.int .i64 c) := cell_at hqa 0
      have qa1 : Va.cell? ⟨Qa, 1, none⟩ = some (.int .i64 m) := cell_at hqa 1
      clear hqa
      cases hr : readF t with
      | some kk =>
        obtain ⟨x, y⟩ := kk
        obtain ⟨hv2, hn2⟩ := name_read hr
        have hrd : rdV t = .tuple #[.agg #[.int .i64 x, .int .i64 y], .int .i64 0] := by unfold rdV; rw [hr]
        rw [hrd] at A3
        have A7x : Hid (∀ X, Below W.heap.size W X → Calls Tryd.prog 17 #[.agg #[.int .i64 x, .int .i64 y]] X fun r w' => r = .returned (.string T) ∧ Below X.heap.size X w') := fun X hX => by
          have h := A7.out (x, y) X hX
          simp only [] at h hn2
          rw [hn2, HTT.out] at h
          exact h
        have A6x : Hid (∀ X, Below W.heap.size W X → Calls Tryd.prog 13 #[.agg #[.int .i64 x, .int .i64 y]] X fun r w' => r = .returned (.bool true) ∧ Below X.heap.size X w') := fun X hX => by
          have h := A6.out (x, y) X hX
          simp only [] at h hv2
          rw [hv2] at h
          exact h
        have tt : (T.toList == T.toList) = true := by simp
        clear hr hv2 hn2 hrd A6 A7
        go_wp2_with fail
        refine (A3.out _ (by first | exact HBx.out | exact HBx.out.drew)).mono ?_
        rintro e w5 ⟨rfl, hb⟩
        have HBn : Hid (Below W.heap.size W w5) := (by first | exact HBx.out.trans (hb.mono HBx.out.size) | exact HBx.out.drew.trans (hb.mono HBx.out.size))
        clear hb HBx
        have HBx := hidK HBn.out
        clear HBn k0 k1
        obtain ⟨k0, k1⟩ := HCell.out _ HBx.out
        obtain ⟨Vs, hVs⟩ : ∃ V, w5.alloc (.cells #[.int .i64 x, .int .i64 y] 30) = V := ⟨_, rfl⟩
        obtain ⟨Qs, hQs⟩ : ∃ Q, w5.heap.size = Q := ⟨_, rfl⟩
        have hqs : Vs.heap[Qs]? = some (.cells #[.int .i64 x, .int .i64 y] 30 (0, 0)) := by rw [← hVs, ← hQs]; exact heap_alloc_new w5 _
        have HBn : Hid (Below W.heap.size W Vs) := by rw [← hVs]; exact below_step HBx.out ((Below.refl _ _).alloc (Nat.le_refl _) _)
        clear HBx
        have HBx := hidK HBn.out
        clear HBn k0 k1
        obtain ⟨k0, k1⟩ := HCell.out _ HBx.out
        have HQs := hidK hqs
        have qs0 : Vs.cell? ⟨Qs, 0, none⟩ = some (.int .i64 x) := cell_at hqs 0
        have qs1 : Vs.cell? ⟨Qs, 1, none⟩ = some (.int .i64 y) := cell_at hqs 1
        clear hqs
        go_wp2_with fail
        refine (A7x.out _ HBx.out).mono ?_
        rintro e w6 ⟨rfl, hb⟩
        have HBn : Hid (Below W.heap.size W w6) := HBx.out.trans (hb.mono HBx.out.size)
        have q6 := (hb.block Qs (lt_block HQs.out)).trans HQs.out
        have q60 : w6.cell? ⟨Qs, 0, none⟩ = some (.int .i64 x) := cell_at q6 0
        have q61 : w6.cell? ⟨Qs, 1, none⟩ = some (.int .i64 y) := cell_at q6 1
        clear hb HBx q6 qs0 qs1
        have HBx := hidK HBn.out
        clear HBn k0 k1
        obtain ⟨k0, k1⟩ := HCell.out _ HBx.out
        go_wp2_with fail
        refine (A6x.out _ HBx.out).mono ?_
        rintro e w7 ⟨rfl, hb⟩
        have HBn : Hid (Below W.heap.size W w7) := HBx.out.trans (hb.mono HBx.out.size)
        clear hb HBx q60 q61
        have HBx := hidK HBn.out
        clear HBn k0 k1
        obtain ⟨k0, k1⟩ := HCell.out _ HBx.out
        go_wp2_with fail
        refine (A5.out _ (by first | exact HBx.out | exact HBx.out.drew)).mono ?_
        rintro e w9 ⟨rfl, hb⟩
        have HBn : Hid (Below W.heap.size W w9) := (by first | exact HBx.out.trans (hb.mono HBx.out.size) | exact HBx.out.drew.trans (hb.mono HBx.out.size))
        clear hb HBx
        have HBx := hidK HBn.out
        clear HBn k0 k1
        obtain ⟨k0, k1⟩ := HCell.out _ HBx.out
        go_wp2_with fail
        go_ret
        refine ⟨rfl, ?_⟩
        first | rw [← HK.out] | skip
        exact below_step HBW.out (by first | exact HBx.out | exact HBx.out.drew)

      | none =>
        have hrd : rdV t = .tuple #[.agg #[.int .i64 0, .int .i64 0], .int .i64 210] := by unfold rdV; rw [hr]
        rw [hrd] at A3
        clear hr hrd A6 A7
        go_wp2_with fail
        refine (A3.out _ (by first | exact HBx.out | exact HBx.out.drew)).mono ?_
        rintro e w5 ⟨rfl, hb⟩
        have HBn : Hid (Below W.heap.size W w5) := (by first | exact HBx.out.trans (hb.mono HBx.out.size) | exact HBx.out.drew.trans (hb.mono HBx.out.size))
        clear hb HBx
        have HBx := hidK HBn.out
        clear HBn k0 k1
        obtain ⟨k0, k1⟩ := HCell.out _ HBx.out
        have HBa : Hid (∀ o, Below W.heap.size W (w5.alloc o)) := fun o => below_step HBx.out ((Below.refl _ _).alloc (Nat.le_refl _) o)
        go_wp2_with fail
        refine (A5.out _ (HBa.out _)).mono ?_
        rintro e w9 ⟨rfl, hb⟩
        have HBn : Hid (Below W.heap.size W w9) := (HBa.out _).trans (hb.mono (HBa.out _).size)
        clear hb
        go_wp2_with fail
        go_ret
        refine ⟨rfl, ?_⟩
        first | rw [← HK.out] | skip
        exact below_step HBW.out HBn.out
    )
end Go.Proofs.YtjccpbodgbkcfaaDoor
