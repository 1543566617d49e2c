/-
  The document's part: names, plans, the zoom, texts.
-/
import Derived.Test.YtlgkdnmhoboinaaGreatDoorRPart
import Derived.Deep.RegionHeld3
namespace Go.Proofs.YtlgkdnmhoboinaaGreatDoor
open Go.RowKit
set_option linter.unusedVariables false
set_option maxRecDepth 20000

theorem part_yes {t : List UInt8} {w w' : World} (b : Bool) (E : ByteArray) (hE : str t = E) (hb : b = true) (h : Below w.heap.size w w') : PartPost (some t) w (.returned (.tuple #[.string E, .bool b])) w' := ⟨by subst hE hb; rfl, h⟩
theorem part_no {w w' : World} (b : Bool) (E : ByteArray) (hb : b = false) (h : Below w.heap.size w w') : PartPost none w (.returned (.tuple #[.string E, .bool b])) w' := ⟨⟨E, by subst hb; rfl⟩, h⟩
theorem bdN {B : Nat} {a w : World} (h : Below B a w) (n : Nat) : Below B a (w.drewN n) := ⟨h.os, h.tape, h.output, h.size, h.block⟩

theorem part_qN (ev : Ev) (hf : ev.Fits) (w : World) : Calls Tryz.prog 49 #[.agg ev.vals, .int .u8 78] w (PartPost (Ch.T .qN ev) w) := by
  have HCn : Hid (∀ W, Calls Tryz.prog 79 #[.string ev.name] W fun e w' => e = .returned (.bool (nameB ev.name)) ∧ w' = W) := fun W => (refIsName_any _ W (Nat.le_trans hf.name (by decide))).mono fun e w' h => ⟨h.1, h.2.symm⟩
  have HT : Ch.T .qN ev = if nameB ev.name then some ev.name.data.toList else none := rfl
  rw [HT]
  cases h : nameB ev.name
  all_goals
    rw [h] at HCn
    clear HT h hf
    unfold Ev.vals
    go_enter Tryz.func49, Tryz.ntmps49
    go_wp2_with fail
    go_quiet ((go_at_call 79; exact Calls.quiet_of_same (HCn.out _)))
    go_wp2
    all_goals go_ret2
    all_goals first | exact ⟨rfl, bdN (below1 _ _) _⟩ | exact ⟨⟨_, rfl⟩, bdN (below1 _ _) _⟩

theorem part_qW (ev : Ev) (hf : ev.Fits) (w : World) : Calls Tryz.prog 49 #[.agg ev.vals, .int .u8 87] w (PartPost (Ch.T .qW ev) w) := by
  have HCn : Hid (∀ W, Calls Tryz.prog 80 #[.string ev.name] W fun e w' => e = .returned (.bool ((nameB ev.name && !has ev.name 32))) ∧ w' = W) := fun W => (refIsWord_any _ W (Nat.le_trans hf.name (by decide))).mono fun e w' h => ⟨h.1, h.2.symm⟩
  have HT : Ch.T .qW ev = if (nameB ev.name && !has ev.name 32) then some ev.name.data.toList else none := rfl
  rw [HT]
  cases h : (nameB ev.name && !has ev.name 32)
  all_goals
    rw [h] at HCn
    clear HT h hf
    unfold Ev.vals
    go_enter Tryz.func49, Tryz.ntmps49
    go_wp2_with fail
    go_quiet ((go_at_call 80; exact Calls.quiet_of_same (HCn.out _)))
    go_wp2
    all_goals go_ret2
    all_goals first | exact ⟨rfl, bdN (below1 _ _) _⟩ | exact ⟨⟨_, rfl⟩, bdN (below1 _ _) _⟩

theorem part_qP (ev : Ev) (hf : ev.Fits) (w : World) : Calls Tryz.prog 49 #[.agg ev.vals, .int .u8 80] w (PartPost (Ch.T .qP ev) w) := by
  have HCn : Hid (∀ W, Calls Tryz.prog 81 #[.string ev.layout] W fun e w' => e = .returned (.bool (planOk ev.layout.data.toList)) ∧ w' = W) := fun W => (planText_any _ (Nat.le_trans hf.layout (by decide)) W).mono fun e w' h => ⟨h.1, h.2.symm⟩
  have HT : Ch.T .qP ev = if planOk ev.layout.data.toList then some ev.layout.data.toList else none := rfl
  rw [HT]
  cases h : planOk ev.layout.data.toList
  all_goals
    rw [h] at HCn
    clear HT h hf
    unfold Ev.vals
    go_enter Tryz.func49, Tryz.ntmps49
    go_wp2_with fail
    go_quiet ((go_at_call 81; exact Calls.quiet_of_same (HCn.out _)))
    go_wp2
    all_goals go_ret2
    all_goals first | exact ⟨rfl, bdN (below1 _ _) _⟩ | exact ⟨⟨_, rfl⟩, bdN (below1 _ _) _⟩

theorem part_qV (ev : Ev) (hf : ev.Fits) (w : World) : Calls Tryz.prog 49 #[.agg ev.vals, .int .u8 86] w (PartPost (Ch.T .qV ev) w) := by
  have HCn : Hid (∀ W, Calls Tryz.prog 81 #[.string ev.visible] W fun e w' => e = .returned (.bool (planOk ev.visible.data.toList)) ∧ w' = W) := fun W => (planText_any _ (Nat.le_trans hf.visible (by decide)) W).mono fun e w' h => ⟨h.1, h.2.symm⟩
  have HT : Ch.T .qV ev = if planOk ev.visible.data.toList then some ev.visible.data.toList else none := rfl
  rw [HT]
  cases h : planOk ev.visible.data.toList
  all_goals
    rw [h] at HCn
    clear HT h hf
    unfold Ev.vals
    go_enter Tryz.func49, Tryz.ntmps49
    go_wp2_with fail
    go_quiet ((go_at_call 81; exact Calls.quiet_of_same (HCn.out _)))
    go_wp2
    all_goals go_ret2
    all_goals first | exact ⟨rfl, bdN (below1 _ _) _⟩ | exact ⟨⟨_, rfl⟩, bdN (below1 _ _) _⟩

theorem part_qz (ev : Ev) (hf : ev.Fits) (w : World) : Calls Tryz.prog 49 #[.agg ev.vals, .int .u8 122] w (PartPost (Ch.T .qz ev) w) := by
  have HT : Ch.T .qz ev = some (if ev.zoom then [90] else [45]) := rfl
  rw [HT]
  obtain ⟨k, a1, a2, a3, a4, a5, a6, a7, a8, a9, a10, a11, a12, z⟩ := ev
  cases z
  all_goals
    clear HT hf
    unfold Ev.vals
    go_enter Tryz.func49, Tryz.ntmps49
    go_wp2
    all_goals go_ret2
    all_goals exact ⟨rfl, below1 _ _⟩

set_option maxHeartbeats 2000000 in
theorem part_qm (ev : Ev) (hf : ev.Fits) (w : World) : Calls Tryz.prog 49 #[.agg ev.vals, .int .u8 109] w (PartPost (Ch.T .qm ev) w) := by
  have hs := hf.text
  unfold slim at hs
  have hes : (str (esc ev.text.data.toList)).size ≤ 8388608 := by have := (esc_length ev.text.data.toList).2; rw [size_data] at this; rw [str_size]; omega
  have HCn : Hid (∀ W, Calls Tryz.prog 47 #[.string ev.text] W fun e w' => e = .returned (.string (str (esc ev.text.data.toList))) ∧ Below W.heap.size W w') := fun W => refEscape_any _ W (by omega) (by rw [str_size] at hes; omega)
  have HV : Hid (EvAt (w.alloc (.cells ev.vals 28)) w.heap.size ev) := EvAt.new w ev
  obtain ⟨E, hE⟩ : ∃ E, str (esc ev.text.data.toList) = E := ⟨_, rfl⟩
  have HEE : Hid (str (esc ev.text.data.toList) = E) := hE
  rw [hE] at HCn hes
  clear hE
  by_cases h : 0 ≤ ev.text.size ∧ ev.text.size ≤ 1024
  · have HT : Ch.T .qm ev = some (esc ev.text.data.toList) := if_pos h
    rw [HT]
    clear HT hf
    unfold Ev.vals at HV ⊢
    go_enter Tryz.func49, Tryz.ntmps49
    go_wp2_with fail
    go_region_held3 (fun W' => W'.cell? ⟨w.heap.size, 10, none⟩ = some (.string ev.text)) (go_keep) ((go_at_call 47; refine (HCn.out _).mono ?_; rintro e w1 ⟨rfl, hb1⟩; have hq : w1.cell? ⟨w.heap.size, 10, none⟩ = some (.string ev.text) := (HV.out.drew.below hb1 HV.out.lt).cell 10; have HB : Hid (Below w.heap.size w w1) := (below1 _ _).drew.trans (hb1.mono (by simp)); clear hb1))
    all_goals go_wp2
    all_goals go_ret2
    all_goals exact part_yes _ _ HEE.out (by simp; omega) HB.out
  · have HT : Ch.T .qm ev = none := if_neg h
    rw [HT]
    clear HT hf
    unfold Ev.vals at HV ⊢
    go_enter Tryz.func49, Tryz.ntmps49
    go_wp2_with fail
    go_region_held3 (fun W' => W'.cell? ⟨w.heap.size, 10, none⟩ = some (.string ev.text)) (go_keep) ((go_at_call 47; refine (HCn.out _).mono ?_; rintro e w1 ⟨rfl, hb1⟩; have hq : w1.cell? ⟨w.heap.size, 10, none⟩ = some (.string ev.text) := (HV.out.drew.below hb1 HV.out.lt).cell 10; have HB : Hid (Below w.heap.size w w1) := (below1 _ _).drew.trans (hb1.mono (by simp)); clear hb1))
    all_goals go_wp2
    all_goals go_ret2
    all_goals exact part_no _ _ (by simp; omega) HB.out

set_option maxHeartbeats 2000000 in
theorem part_qx (ev : Ev) (hf : ev.Fits) (w : World) : Calls Tryz.prog 49 #[.agg ev.vals, .int .u8 120] w (PartPost (Ch.T .qx ev) w) := by
  have hs := hf.text
  unfold slim at hs
  have hes : (str (esc ev.text.data.toList)).size ≤ 8388608 := by have := (esc_length ev.text.data.toList).2; rw [size_data] at this; rw [str_size]; omega
  have HCn : Hid (∀ W, Calls Tryz.prog 47 #[.string ev.text] W fun e w' => e = .returned (.string (str (esc ev.text.data.toList))) ∧ Below W.heap.size W w') := fun W => refEscape_any _ W (by omega) (by rw [str_size] at hes; omega)
  have HV : Hid (EvAt (w.alloc (.cells ev.vals 28)) w.heap.size ev) := EvAt.new w ev
  obtain ⟨E, hE⟩ : ∃ E, str (esc ev.text.data.toList) = E := ⟨_, rfl⟩
  have HEE : Hid (str (esc ev.text.data.toList) = E) := hE
  rw [hE] at HCn hes
  clear hE
  by_cases h : 0 ≤ ev.text.size ∧ ev.text.size ≤ 1024
  · have HT : Ch.T .qx ev = some (esc ev.text.data.toList) := if_pos h
    rw [HT]
    clear HT hf
    unfold Ev.vals at HV ⊢
    go_enter Tryz.func49, Tryz.ntmps49
    go_wp2_with fail
    go_region_held3 (fun W' => W'.cell? ⟨w.heap.size, 10, none⟩ = some (.string ev.text)) (go_keep) ((go_at_call 47; refine (HCn.out _).mono ?_; rintro e w1 ⟨rfl, hb1⟩; have hq : w1.cell? ⟨w.heap.size, 10, none⟩ = some (.string ev.text) := (HV.out.drew.below hb1 HV.out.lt).cell 10; have HB : Hid (Below w.heap.size w w1) := (below1 _ _).drew.trans (hb1.mono (by simp)); clear hb1))
    all_goals go_wp2
    all_goals go_ret2
    all_goals exact part_yes _ _ HEE.out (by simp; omega) HB.out
  · have HT : Ch.T .qx ev = none := if_neg h
    rw [HT]
    clear HT hf
    unfold Ev.vals at HV ⊢
    go_enter Tryz.func49, Tryz.ntmps49
    go_wp2_with fail
    go_region_held3 (fun W' => W'.cell? ⟨w.heap.size, 10, none⟩ = some (.string ev.text)) (go_keep) ((go_at_call 47; refine (HCn.out _).mono ?_; rintro e w1 ⟨rfl, hb1⟩; have hq : w1.cell? ⟨w.heap.size, 10, none⟩ = some (.string ev.text) := (HV.out.drew.below hb1 HV.out.lt).cell 10; have HB : Hid (Below w.heap.size w w1) := (below1 _ _).drew.trans (hb1.mono (by simp)); clear hb1))
    all_goals go_wp2
    all_goals go_ret2
    all_goals exact part_no _ _ (by simp; omega) HB.out

end Go.Proofs.YtlgkdnmhoboinaaGreatDoor
