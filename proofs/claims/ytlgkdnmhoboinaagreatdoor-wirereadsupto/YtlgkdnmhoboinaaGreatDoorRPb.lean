/-
  The document's part: a value behind a colon; data.
  The document's part: data.
-/
import Derived.Test.YtlgkdnmhoboinaaGreatDoorRPa
namespace Go.Proofs.YtlgkdnmhoboinaaGreatDoor
open Go.RowKit
set_option linter.unusedVariables false
set_option maxRecDepth 20000

set_option maxHeartbeats 2000000 in
theorem part_qv (ev : Ev) (hf : ev.Fits) (w : World) : Calls Tryz.prog 49 #[.agg ev.vals, .int .u8 118] w (PartPost (Ch.T .qv ev) w) := by
  have hs := hf.text
  unfold slim at hs
  have hes : (str (esc ev.text.data.toList)).size ≤ 8388608 := by have := (esc_length ev.text.data.toList).2; rw [size_data] at this; rw [str_size]; omega
  have HCn : Hid (∀ W, Calls Tryz.prog 47 #[.string ev.text] W fun e w' => e = .returned (.string (str (esc ev.text.data.toList))) ∧ Below W.heap.size W w') := fun W => refEscape_any _ W (by omega) (by rw [str_size] at hes; omega)
  have HV : Hid (EvAt (w.alloc (.cells ev.vals 28)) w.heap.size ev) := EvAt.new w ev
  have HEE : Hid (str (58 :: 32 :: esc ev.text.data.toList) = (⟨#[58, 32]⟩ : ByteArray) ++ str (esc ev.text.data.toList)) := (str_cat [58, 32] _).symm
  obtain ⟨E, hE⟩ : ∃ E, str (esc ev.text.data.toList) = E := ⟨_, rfl⟩
  rw [hE] at HCn hes HEE
  clear hE
  have hz2 : (⟨#[58, 32]⟩ : ByteArray).size = 2 := rfl
  by_cases h : 0 ≤ ev.text.size ∧ ev.text.size ≤ 1024
  · have HT : Ch.T .qv ev = some (58 :: 32 :: esc ev.text.data.toList) := by
      show Option.map _ (if 0 ≤ ev.text.size ∧ ev.text.size ≤ 1024 then _ else _) = _
      rw [if_pos h]
      rfl
    rw [HT]
    clear HT hf
    unfold Ev.vals at HV ⊢
    go_enter Tryz.func49, Tryz.ntmps49
    go_wp2_with fail
    go_region_with ((go_at_call 47; refine (HCn.out _).mono ?_; rintro e w1 ⟨rfl, hb1⟩; have hq : w1.cell? ⟨w.heap.size, 10, none⟩ = some (.string ev.text) := (HV.out.drew.below hb1 HV.out.lt).cell 10; have HB : Hid (Below w.heap.size w w1) := (below1 _ _).drew.trans (hb1.mono (by simp)); clear hb1))
    all_goals go_wp2
    all_goals go_ret2
    all_goals exact part_yes _ _ HEE.out (by simp; omega) HB.out
  · have HT : Ch.T .qv ev = none := by
      show Option.map _ (if 0 ≤ ev.text.size ∧ ev.text.size ≤ 1024 then _ else _) = _
      rw [if_neg h]
      rfl
    rw [HT]
    clear HT hf
    unfold Ev.vals at HV ⊢
    go_enter Tryz.func49, Tryz.ntmps49
    go_wp2_with fail
    go_region_with ((go_at_call 47; refine (HCn.out _).mono ?_; rintro e w1 ⟨rfl, hb1⟩; have hq : w1.cell? ⟨w.heap.size, 10, none⟩ = some (.string ev.text) := (HV.out.drew.below hb1 HV.out.lt).cell 10; have HB : Hid (Below w.heap.size w w1) := (below1 _ _).drew.trans (hb1.mono (by simp)); clear hb1))
    all_goals go_wp2
    all_goals go_ret2
    all_goals exact part_no _ _ (by simp; omega) HB.out

end Go.Proofs.YtlgkdnmhoboinaaGreatDoor

namespace Go.Proofs.YtlgkdnmhoboinaaGreatDoor
open Go.RowKit
set_option linter.unusedVariables false
set_option maxRecDepth 20000

set_option maxHeartbeats 2000000 in
theorem part_qd (ev : Ev) (hf : ev.Fits) (w : World) : Calls Tryz.prog 49 #[.agg ev.vals, .int .u8 100] w (PartPost (Ch.T .qd ev) w) := by
  have hs := hf.text
  unfold slim at hs
  have hes : (str (esc ev.text.data.toList)).size ≤ 8388608 := by have := (esc_length ev.text.data.toList).2; rw [size_data] at this; rw [str_size]; omega
  have HCn : Hid (∀ W, Calls Tryz.prog 47 #[.string ev.text] W fun e w' => e = .returned (.string (str (esc ev.text.data.toList))) ∧ Below W.heap.size W w') := fun W => refEscape_any _ W (by omega) (by rw [str_size] at hes; omega)
  have HV : Hid (EvAt (w.alloc (.cells ev.vals 28)) w.heap.size ev) := EvAt.new w ev
  obtain ⟨E, hE⟩ : ∃ E, str (esc ev.text.data.toList) = E := ⟨_, rfl⟩
  have HEE : Hid (str (esc ev.text.data.toList) = E) := hE
  rw [hE] at HCn hes
  clear hE
  by_cases h1 : 1 ≤ (ev.text.size : Int)
  · by_cases h2 : (ev.text.size : Int) ≤ 256
    · have HT : Ch.T .qd ev = some (esc ev.text.data.toList) := if_pos ⟨by omega, by omega⟩
      rw [HT]
      clear HT hf
      unfold Ev.vals at HV ⊢
      go_enter Tryz.func49, Tryz.ntmps49
      go_wp2_with fail
      go_region_held3 (fun W' => W'.cell? ⟨w.heap.size, 10, none⟩ = some (.string ev.text)) (go_keep) ((go_at_call 47; refine (HCn.out _).mono ?_; rintro e w1 ⟨rfl, hb1⟩; have hq : w1.cell? ⟨w.heap.size, 10, none⟩ = some (.string ev.text) := (HV.out.drew.below hb1 HV.out.lt).cell 10; have HB : Hid (Below w.heap.size w w1) := (below1 _ _).drew.trans (hb1.mono (by simp)); clear hb1))
      all_goals go_wp2
      all_goals go_ret2
      all_goals exact part_yes _ _ HEE.out (by simp) HB.out
    · have HT : Ch.T .qd ev = none := if_neg (fun h => h2 (by omega))
      rw [HT]
      clear HT hf
      unfold Ev.vals at HV ⊢
      go_enter Tryz.func49, Tryz.ntmps49
      go_wp2_with fail
      go_region_held3 (fun W' => W'.cell? ⟨w.heap.size, 10, none⟩ = some (.string ev.text)) (go_keep) ((go_at_call 47; refine (HCn.out _).mono ?_; rintro e w1 ⟨rfl, hb1⟩; have hq : w1.cell? ⟨w.heap.size, 10, none⟩ = some (.string ev.text) := (HV.out.drew.below hb1 HV.out.lt).cell 10; have HB : Hid (Below w.heap.size w w1) := (below1 _ _).drew.trans (hb1.mono (by simp)); clear hb1))
      all_goals go_wp2
      all_goals go_ret2
      all_goals exact part_no _ _ (by simp; omega) HB.out
  · have HT : Ch.T .qd ev = none := if_neg (fun h => h1 (by omega))
    have hte : ev.text = ⟨#[]⟩ := empty_text (by omega)
    rw [HT]
    obtain ⟨kd, a1, a2, a3, a4, a5, a6, a7, a8, a9, tx, a11, a12, zm⟩ := ev
    have hte' : tx = ⟨#[]⟩ := hte
    subst hte'
    clear hte h1 hs hes HEE
    clear HT hf
    unfold Ev.vals at HV ⊢
    go_enter Tryz.func49, Tryz.ntmps49
    go_wp2_with fail
    refine wp_region_noPanic ?_
    refine wp_region_held_drew (S := (fun W' => W'.cell? ⟨w.heap.size, 10, none⟩ = some (.string ⟨#[]⟩))) (by kernel_rfl) ?_ (fun hHeld => ?_)
    · go_keep
    refine wpAnyH_take (i := 0) (v := ?v0) (by simp only [List.getElem?_toArray, List.getElem?_cons_zero]; rfl) (by kernel_rfl) (by kernel_rfl) (by kernel_rfl) (fun _ _ _ h => h) (Or.inl ⟨by rfl, ?hy0⟩) (by assumption) ?rest0
    case hy0 =>
      intro w hSw
      try dsimp only at hSw
      go_simp
      try with_reducible rfl
    try simp only [Act.put, List.setIfInBounds_toArray, List.set_cons_zero, List.set_cons_succ]
    refine wpAnyH_take (i := 1) (v := ?v1) (by simp only [List.getElem?_toArray, List.getElem?_cons_succ, List.getElem?_cons_zero]; rfl) (by kernel_rfl) (by kernel_rfl) (by kernel_rfl) (fun _ _ _ h => h) (Or.inl ⟨by rfl, ?hy1⟩) (by assumption) ?rest1
    case hy1 =>
      intro w hSw
      try dsimp only at hSw
      go_simp
      try with_reducible rfl
    try simp only [Act.put, List.setIfInBounds_toArray, List.set_cons_zero, List.set_cons_succ]
    refine wpAnyH_take (i := 3) (v := ?v3) (by simp only [List.getElem?_toArray, List.getElem?_cons_succ, List.getElem?_cons_zero]; rfl) (by kernel_rfl) (by kernel_rfl) (by kernel_rfl) (fun _ _ _ h => h) (Or.inl ⟨by rfl, ?hy3⟩) (by assumption) ?rest3
    case hy3 =>
      intro w hSw
      try dsimp only at hSw
      go_simp
      try with_reducible rfl
    try simp only [Act.put, List.setIfInBounds_toArray, List.set_cons_zero, List.set_cons_succ]
    refine wpAnyH_take (i := 4) (v := ?v4) (by simp only [List.getElem?_toArray, List.getElem?_cons_succ, List.getElem?_cons_zero]; rfl) (by kernel_rfl) (by kernel_rfl) (by kernel_rfl) (fun _ _ _ h => h) (Or.inl ⟨by rfl, ?hy4⟩) (by assumption) ?rest4
    case hy4 =>
      intro w hSw
      try dsimp only at hSw
      go_simp
      try with_reducible rfl
    try simp only [Act.put, List.setIfInBounds_toArray, List.set_cons_zero, List.set_cons_succ]
    refine wpAnyH_take (i := 5) (v := ?v5) (by simp only [List.getElem?_toArray, List.getElem?_cons_succ, List.getElem?_cons_zero]; rfl) (by kernel_rfl) (by kernel_rfl) (by kernel_rfl) (fun _ _ _ h => h) (Or.inl ⟨by rfl, ?hy5⟩) (by assumption) ?rest5
    case hy5 =>
      intro w hSw
      try dsimp only at hSw
      go_simp
      try with_reducible rfl
    try simp only [Act.put, List.setIfInBounds_toArray, List.set_cons_zero, List.set_cons_succ]
    refine wpAnyH_take (i := 6) (v := ?v6) (by simp only [List.getElem?_toArray, List.getElem?_cons_succ, List.getElem?_cons_zero]; rfl) (by kernel_rfl) (by kernel_rfl) (by kernel_rfl) (fun _ _ _ h => h) (Or.inl ⟨by rfl, ?hy6⟩) (by assumption) ?rest6
    case hy6 =>
      intro w hSw
      try dsimp only at hSw
      go_simp
      try with_reducible rfl
    try simp only [Act.put, List.setIfInBounds_toArray, List.set_cons_zero, List.set_cons_succ]
    refine wpAnyH_ready (rs := [2]) (by kernel_rfl) (by simp) ?_
    refine AllReadyH.cons (by simp only [List.getElem?_toArray, List.getElem?_cons_succ, List.getElem?_cons_zero]; rfl) (fun K hK => ?_) AllReadyH.nil
    go_simp
    (go_at_call 47; refine (HCn.out _).mono ?_; rintro e w1 ⟨rfl, hb1⟩; have hq : w1.cell? ⟨w.heap.size, 10, none⟩ = some (.string ⟨#[]⟩) := (HV.out.drew.below hb1 HV.out.lt).cell 10; have HB : Hid (Below w.heap.size w w1) := (below1 _ _).drew.trans (hb1.mono (by simp)); clear hb1)
    go_wp2_with fail
    refine hK.out _ _ ?_ (fun hHeld2 => ?_)
    · go_keep
    clear hK K hHeld
    try simp only [Act.put, List.setIfInBounds_toArray, List.set_cons_zero, List.set_cons_succ]
    refine wpAnyH_take (i := 7) (v := ?v7) (by simp only [List.getElem?_toArray, List.getElem?_cons_succ, List.getElem?_cons_zero]; rfl) (by kernel_rfl) (by kernel_rfl) (by kernel_rfl) (fun _ _ _ h => h) (Or.inl ⟨by rfl, ?hy7⟩) (by assumption) ?rest7
    case hy7 =>
      intro w hSw
      try dsimp only at hSw
      go_simp
      try with_reducible rfl
    try simp only [Act.put, List.setIfInBounds_toArray, List.set_cons_zero, List.set_cons_succ]
    refine wpAnyH_take (i := 8) (v := undef) (by simp only [List.getElem?_toArray, List.getElem?_cons_succ, List.getElem?_cons_zero]; rfl) (by kernel_rfl) (by kernel_rfl) (by kernel_rfl) (fun _ _ _ h => h) (Or.inr ⟨by rfl, rfl⟩) (by assumption) ?_
    try simp only [Act.put, List.setIfInBounds_toArray, List.set_cons_zero, List.set_cons_succ]
    refine wpAnyH_take (i := 9) (v := undef) (by simp only [List.getElem?_toArray, List.getElem?_cons_succ, List.getElem?_cons_zero]; rfl) (by kernel_rfl) (by kernel_rfl) (by kernel_rfl) (fun _ _ _ h => h) (Or.inr ⟨by rfl, rfl⟩) (by assumption) ?_
    try simp only [Act.put, List.setIfInBounds_toArray, List.set_cons_zero, List.set_cons_succ]
    refine wpAnyH_take (i := 10) (v := undef) (by simp only [List.getElem?_toArray, List.getElem?_cons_succ, List.getElem?_cons_zero]; rfl) (by kernel_rfl) (by kernel_rfl) (by kernel_rfl) (fun _ _ _ h => h) (Or.inr ⟨by rfl, rfl⟩) (by assumption) ?_
    try simp only [Act.put, List.setIfInBounds_toArray, List.set_cons_zero, List.set_cons_succ]
    refine wpAnyH_take (i := 11) (v := undef) (by simp only [List.getElem?_toArray, List.getElem?_cons_succ, List.getElem?_cons_zero]; rfl) (by kernel_rfl) (by kernel_rfl) (by kernel_rfl) (fun _ _ _ h => h) (Or.inr ⟨by rfl, rfl⟩) (by assumption) ?_
    try simp only [Act.put, List.setIfInBounds_toArray, List.set_cons_zero, List.set_cons_succ]
    refine wpAnyH_take (i := 12) (v := ?v12) (by simp only [List.getElem?_toArray, List.getElem?_cons_succ, List.getElem?_cons_zero]; rfl) (by kernel_rfl) (by kernel_rfl) (by kernel_rfl) (fun _ _ _ h => h) (Or.inl ⟨by rfl, ?hy12⟩) (by assumption) ?rest12
    case hy12 =>
      intro w hSw
      try dsimp only at hSw
      go_simp
      try with_reducible rfl
    try simp only [Act.put, List.setIfInBounds_toArray, List.set_cons_zero, List.set_cons_succ]
    refine wpAnyH_take (i := 13) (v := ?v13) (by simp only [List.getElem?_toArray, List.getElem?_cons_succ, List.getElem?_cons_zero]; rfl) (by kernel_rfl) (by kernel_rfl) (by kernel_rfl) (fun _ _ _ h => h) (Or.inl ⟨by rfl, ?hy13⟩) (by assumption) ?rest13
    case hy13 =>
      intro w hSw
      try dsimp only at hSw
      go_simp
      try with_reducible rfl
    try simp only [Act.put, List.setIfInBounds_toArray, List.set_cons_zero, List.set_cons_succ]
    refine wpAnyH_take (i := 14) (v := ?v14) (by simp only [List.getElem?_toArray, List.getElem?_cons_succ, List.getElem?_cons_zero]; rfl) (by kernel_rfl) (by kernel_rfl) (by kernel_rfl) (fun _ _ _ h => h) (Or.inl ⟨by rfl, ?hy14⟩) (by assumption) ?rest14
    case hy14 =>
      intro w hSw
      try dsimp only at hSw
      go_simp
      try with_reducible rfl
    try simp only [Act.put, List.setIfInBounds_toArray, List.set_cons_zero, List.set_cons_succ]
    refine wpAnyH_done (by kernel_rfl) ?_ _
    refine NoPanic.normal ?_
    all_goals go_wp2
    all_goals go_ret2
    all_goals exact part_no _ _ rfl HB.out

end Go.Proofs.YtlgkdnmhoboinaaGreatDoor
