/-
  The document's Encode: an answer's line; every event.
-/
import Derived.Test.YtlgkdnmhoboinaaGreatDoorREncB
namespace Go.Proofs.YtlgkdnmhoboinaaGreatDoor
open Go.RowKit
set_option linter.unusedVariables false
set_option maxRecDepth 20000

set_option maxHeartbeats 1000000 in
theorem refEnc_four (ev : Ev) (hf : ev.Fits) (h4 : ev.kind = 4) (w : World) : Calls Tryz.prog 14 #[.agg ev.vals] w (EncPost (encS ev) w) := by
  obtain ⟨e1, e2⟩ := enc_body ev h4
  have hs := hf.text
  unfold slim at hs
  have hlen : (escB ev.text.data.toList).length ≤ 140737488355328 := by have := escB_length ev.text.data.toList; rw [size_data] at this; omega
  have HCn : Hid (∀ W, Calls Tryz.prog 29 #[.string ev.text] W fun e w' => e = .returned (.string (str (escB ev.text.data.toList))) ∧ Below W.heap.size W w') := fun W => refEscapeBody_any _ W (by omega) hlen
  have hv : ev.vals = #[.int .i64 4, .int .i64 ev.session, .int .i64 ev.window, .int .i64 ev.pane, .int .i64 ev.index, .int .i64 ev.offset, .int .i64 ev.tick, .int .i64 ev.number, .int .i64 ev.flag, .string ev.name, .string ev.text, .string ev.layout, .string ev.visible, .bool ev.zoom] := by rw [← h4]; rfl
  have HV : Hid (EvAt (w.alloc (.cells ev.vals 28)) w.heap.size ev) := EvAt.new w ev
  have hq := eqEv ev { Ev.zero 4 with text := ev.text }
  have hv2 : ({ Ev.zero 4 with text := ev.text } : Ev).vals = #[.int .i64 4, .int .i64 0, .int .i64 0, .int .i64 0, .int .i64 0, .int .i64 0, .int .i64 0, .int .i64 0, .int .i64 0, .string ⟨#[]⟩, .string ev.text, .string ⟨#[]⟩, .string ⟨#[]⟩, .bool false] := rfl
  rw [hv, hv2] at hq
  rw [hv] at HV
  by_cases hb : ({ Ev.zero 4 with text := ev.text } : Ev) = ev
  · rw [e1 hb, hv]
    have hq2 : evEq ev { Ev.zero 4 with text := ev.text } = true := (evEq_iff _ _).2 hb.symm
    rw [hq2] at hq
    clear hb hq2 e1 e2 hv hv2 hf h4
    go_enter Tryz.func14, Tryz.ntmps14
    go_wp2_with (go_at_call 29; refine (HCn.out _).mono ?_; rintro e w1 ⟨rfl, hb1⟩)
    all_goals go_ret2
    all_goals exact ⟨rfl, below_step (below1 _ _) hb1⟩
  · rw [e2 hb, hv]
    have hq2 : evEq ev { Ev.zero 4 with text := ev.text } = false := Bool.eq_false_iff.2 fun h => hb ((evEq_iff _ _).1 h).symm
    rw [hq2] at hq
    clear hb hq2 e1 e2 hv hv2 hf h4
    go_enter Tryz.func14, Tryz.ntmps14
    go_wp2
    all_goals go_ret2
    all_goals exact ⟨rfl, below1 _ _⟩

theorem refEncode_any (ev : Ev) (hf : ev.Fits) (w : World) : Calls Tryz.prog 14 #[.agg ev.vals] w (EncPost (encS ev) w) := by
  by_cases h4 : ev.kind = 4
  · exact refEnc_four ev hf h4 w
  · exact refEnc_other ev hf h4 w

end Go.Proofs.YtlgkdnmhoboinaaGreatDoor
