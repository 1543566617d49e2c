/-
  The law's own works.
-/
import Derived.Test.YtooahffclghcjaaGreatDoorVFeed
import Derived.Test.YtooahffclghcjaaGreatDoorMD
namespace Go.Proofs.YtooahffclghcjaaGreatDoor
open Go.RowKit
set_option linter.unusedVariables false
set_option maxRecDepth 100000

theorem ok_blk : OkG blk0 := .inl ⟨rfl, rfl⟩
theorem fresh_live {w w' : World} {b G T : Nat} {rs : List (Nat × List Gl)} (h : Fresh w w' 3 2 0 b G T rs) : ∃ g0 g1, LK w b G T g0 g1 0 w' := by
  obtain ⟨h1, h2, h3, h4, h5, h6, h7, h8⟩ := h
  match rs, h2 with
  | [(g0, r0), (g1, r1)], _ =>
    have e0 : r0 = [blk0, blk0, blk0] := h4 (g0, r0) (by simp)
    have e1 : r1 = [blk0, blk0, blk0] := h4 (g1, r1) (by simp)
    subst e0 e1
    refine ⟨g0, g1, .slice none 0 0, fun _ => rfl, ⟨⟨h1, h3, rfl⟩, Row.nil _ _ _, h5, h6, fun r hr => ?_, fun g hg => by cases hg⟩⟩
    have := h8 r hr
    omega
theorem pic_final {w0 W : World} {b G T g0 g1 : Nat} (h : LK w0 b G T g0 g1 10 W) : Calls Tryz.prog 16 #[.pointer (some ⟨b, 0, none⟩)] W fun r w' => ∃ ad cap, r = .returned (.agg #[.int .i64 3, .int .i64 2, .slice ad 6 cap, .int .i64 1, .int .i64 1, .bool false, .string ⟨#[]⟩]) ∧ Below w0.heap.size w0 w' ∧ ∃ g o, ad = some ⟨g, o, none⟩ ∧ g < w'.heap.size ∧ ∀ W' : World, W'.heap[g]? = w'.heap[g]? → ∀ (j : Nat) (u : Value), (tgsV [⟨97, 1, 0, 0, 0⟩, ⟨98, 1, 0, 0, 0⟩, blk0, ⟨99, 1, 2, 0, 0⟩, blk0, blk0])[j]? = some u → W'.cell? ⟨g, o + j, none⟩ = some u := by
  obtain ⟨v, _, h⟩ := h
  refine (picture_any h.scn (nw := 3) rfl rfl (by decide) (by simp) (fun r hr => ?_) (fun r hr x hx => ?_) rfl).mono ?_
  · rcases (by simpa using hr : r = (g0, rowK 10) ∨ r = (g1, rowL 10)) with rfl | rfl <;> rfl
  · rcases (by simpa using hr : r = (g0, rowK 10) ∨ r = (g1, rowL 10)) with rfl | rfl
    · rcases (by simpa [rowK] using hx : x = ⟨97, 1, 0, 0, 0⟩ ∨ x = ⟨98, 1, 0, 0, 0⟩ ∨ x = blk0) with rfl | rfl | rfl
      · exact .inr ⟨by decide, by decide⟩
      · exact .inr ⟨by decide, by decide⟩
      · exact ok_blk
    · rcases (by simpa [rowL] using hx : x = ⟨99, 1, 2, 0, 0⟩ ∨ x = blk0) with rfl | rfl
      · exact .inr ⟨by decide, by decide⟩
      · exact ok_blk
  · rintro r w' ⟨vp, rfl, hb, hr, hy⟩
    obtain ⟨ad, cap, hv, _, _, hnil, hsome⟩ := hr.shape
    cases ad with
    | none =>
      have h6 : (6 : Nat) = 0 := (hnil rfl).1
      exact absurd h6 (by decide)
    | some a =>
      obtain ⟨g, o, rfl, _, hlt, hc⟩ := hsome a rfl
      refine ⟨_, cap, by rw [hv]; rfl, h.below.trans (hb.mono h.below.size), g, o, rfl, hlt, fun W' hW' => (hc W' hW').1⟩
set_option maxHeartbeats 4000000 in
theorem works_true (w : World) : Calls Tryz.prog 10 #[] w fun x w' => x = .returned (.bool true) ∧ Below w.heap.size w w' := by
  have HN : Hid (Calls Tryz.prog 8 #[.int .i64 3, .int .i64 2, .int .i64 0] w fun x w' => ∃ b G T g0 g1, x = .returned (.tuple #[.pointer (some ⟨b, 0, none⟩), .int .i64 0]) ∧ LK w b G T g0 g1 0 w') := (vtNew_any 3 2 0 w).mono (by
    rintro x w' (⟨h, _⟩ | ⟨_, h, _⟩ | ⟨_, _, _, b, G, T, rs, nw, nh, e1, e2, rfl, hf⟩)
    · exact absurd h (by decide)
    · exact absurd h (by decide)
    · obtain rfl : nw = 3 := by omega
      obtain rfl : nh = 2 := by omega
      obtain ⟨g0, g1, hL⟩ := fresh_live hf
      exact ⟨b, G, T, g0, g1, rfl, hL⟩)
  go_enter Tryz.func10, Tryz.ntmps10
  go_wp2_with fail
  refine HN.out.mono ?_
  rintro x w1 ⟨b, G, T, g0, g1, rfl, hL⟩
  have HL := hidK hL
  clear hL HN
  go_wp2_with fail
  refine (feed_first HL.out).mono ?_
  rintro x w2 ⟨rfl, hL⟩
  have HL2 := hidK hL
  clear hL HL
  go_wp2_with fail
  refine (feed_second HL2.out).mono ?_
  rintro x w3 ⟨rfl, hL⟩
  have HL3 := hidK hL
  clear hL HL2
  go_wp2_with fail
  refine (pic_final HL3.out).mono ?_
  rintro x w4 ⟨ad, cap, rfl, hb, g, o, rfl, hlt, hc⟩
  have HB4 := hidK hb
  obtain ⟨X, hX⟩ : ∃ X, w4.alloc (.cells #[.int .i64 3, .int .i64 2, .slice (some ⟨g, o, none⟩) 6 cap, .int .i64 1, .int .i64 1, .bool false, .string ⟨#[]⟩] 73) = X := ⟨_, rfl⟩
  have HX := hidK hX
  have hk : ∀ (j : Nat) (u : Value), (tgsV [⟨97, 1, 0, 0, 0⟩, ⟨98, 1, 0, 0, 0⟩, blk0, ⟨99, 1, 2, 0, 0⟩, blk0, blk0])[j]? = some u → (w4.alloc (.cells #[.int .i64 3, .int .i64 2, .slice (some ⟨g, o, none⟩) 6 cap, .int .i64 1, .int .i64 1, .bool false, .string ⟨#[]⟩] 73)).cell? ⟨g, o + j, none⟩ = some u := hc _ (Below.heap_alloc _ _ _ hlt)
  have k5 := hk 5 (.string ⟨#[98]⟩) rfl
  have k6 := hk 6 (.int .i64 1) rfl
  have k7 := hk 7 (.int .i64 0) rfl
  have k8 := hk 8 (.int .i64 0) rfl
  have k9 := hk 9 (.int .i64 0) rfl
  have k15 := hk 15 (.string ⟨#[99]⟩) rfl
  have k16 := hk 16 (.int .i64 1) rfl
  have k17 := hk 17 (.int .i64 2) rfl
  have k18 := hk 18 (.int .i64 0) rfl
  have k19 := hk 19 (.int .i64 0) rfl
  have k25 := hk 25 (.string ⟨#[32]⟩) rfl
  have k26 := hk 26 (.int .i64 1) rfl
  have k27 := hk 27 (.int .i64 0) rfl
  have k28 := hk 28 (.int .i64 0) rfl
  have k29 := hk 29 (.int .i64 0) rfl
  clear hk hc hb hX HX HL3
  go_wp2_with fail
  go_ret
  exact ⟨rfl, HB4.out.alloc HB4.out.size _⟩
end Go.Proofs.YtooahffclghcjaaGreatDoor
