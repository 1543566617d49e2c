/-
  The document's part: a value behind a colon; data.
-/
import Derived.Test.YtlgkdnmhoboinaaGreatDoorRPartB
namespace Go.Proofs.YtlgkdnmhoboinaaGreatDoor
open Go.RowKit
set_option linter.unusedVariables false
set_option maxRecDepth 20000

set_option maxHeartbeats 2000000 in
theorem part_qv (ev : Ev) (hf : ev.Fits) (w : World) : Calls Tryz.prog 49 #[.agg ev.vals, .int .u8 118] w (PartPost (Ch.T .qv ev) w) := by
  have hs := hf.text
  unfold slim at hs
  have hes : (str (esc ev.text.data.toList)).size ≤ 8388608 := by have := (esc_length ev.text.data.toList).2; rw [size_data] at this; rw [str_size]; omega
  have HCn : Hid (∀ W, Calls Tryz.prog 47 #[.string ev.text] W fun e w' => e = .returned (.string (str (esc ev.text.data.toList))) ∧ Below W.heap.size W w') := fun W => refEscape_any _ W (by omega) (by rw [str_size] at hes; omega)
  have HV : Hid (EvAt (w.alloc (.cells ev.vals 28)) w.heap.size ev) := EvAt.new w ev
  have HEE : Hid (str (58 :: 32 :: esc ev.text.data.toList) = (⟨#[58, 32]⟩ : ByteArray) ++ str (esc ev.text.data.toList)) := (str_cat [58, 32] _).symm
  obtain ⟨E, hE⟩ : ∃ E, str (esc ev.text.data.toList) = E := ⟨_, rfl⟩
  rw [hE] at HCn hes HEE
  clear hE
  have hz2 : (⟨#[58, 32]⟩ : ByteArray).size = 2 := rfl
  by_cases h : 0 ≤ ev.text.size ∧ ev.text.size ≤ 1024
  · have HT : Ch.T .qv ev = some (58 :: 32 :: esc ev.text.data.toList) := by
      show Option.map _ (if 0 ≤ ev.text.size ∧ ev.text.size ≤ 1024 then _ else _) = _
      rw [if_pos h]
      rfl
    rw [HT]
    clear HT hf
    unfold Ev.vals at HV ⊢
    go_enter Tryz.func49, Tryz.ntmps49
    go_wp2_with fail
    go_region_with ((go_at_call 47; refine (HCn.out _).mono ?_; rintro e w1 ⟨rfl, hb1⟩; have hq : w1.cell? ⟨w.heap.size, 10, none⟩ = some (.string ev.text) := (HV.out.drew.below hb1 HV.out.lt).cell 10; have HB : Hid (Below w.heap.size w w1) := (below1 _ _).drew.trans (hb1.mono (by simp)); clear hb1))
    all_goals go_wp2
    all_goals go_ret2
    all_goals exact part_yes _ _ HEE.out (by simp; omega) HB.out
  · have HT : Ch.T .qv ev = none := by
      show Option.map _ (if 0 ≤ ev.text.size ∧ ev.text.size ≤ 1024 then _ else _) = _
      rw [if_neg h]
      rfl
    rw [HT]
    clear HT hf
    unfold Ev.vals at HV ⊢
    go_enter Tryz.func49, Tryz.ntmps49
    go_wp2_with fail
    go_region_with ((go_at_call 47; refine (HCn.out _).mono ?_; rintro e w1 ⟨rfl, hb1⟩; have hq : w1.cell? ⟨w.heap.size, 10, none⟩ = some (.string ev.text) := (HV.out.drew.below hb1 HV.out.lt).cell 10; have HB : Hid (Below w.heap.size w w1) := (below1 _ _).drew.trans (hb1.mono (by simp)); clear hb1))
    all_goals go_wp2
    all_goals go_ret2
    all_goals exact part_no _ _ (by simp; omega) HB.out

end Go.Proofs.YtlgkdnmhoboinaaGreatDoor
