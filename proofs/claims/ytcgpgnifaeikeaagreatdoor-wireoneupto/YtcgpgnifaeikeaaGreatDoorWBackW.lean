/-
  The walk of WireBack.
-/
import Derived.Test.YtcgpgnifaeikeaaGreatDoorWTotalW
import Derived.WalkKit
import Derived.RegionTactic
import Derived.Deep.RegionWith
import Derived.Deep.DrawnRows
import Derived.Laws.StructEq
import Derived.Deep.RegionHeld3
namespace Go.Proofs.YtcgpgnifaeikeaaGreatDoor
open Go.RowKit
set_option linter.unusedVariables false

set_option maxRecDepth 20000 in
set_option maxHeartbeats 4000000 in
theorem back_no (ev : Ev) (hfit : ev.Fits) (w : World) (hE : Env w) (h : encS ev = none) :
    Calls Tryz.prog 4 #[.agg #[.int .i64 ev.kind, .int .i64 ev.session, .int .i64 ev.window, .int .i64 ev.pane, .int .i64 ev.index, .int .i64 ev.offset, .int .i64 ev.tick, .int .i64 ev.number, .int .i64 ev.flag, .string ev.name, .string ev.text, .string ev.layout, .string ev.visible, .bool ev.zoom]] w fun e w' => e = .returned (.bool true) ∧ Below w.heap.size w w' := by
  have HEn : Hid (∀ W, Env W → Calls Tryz.prog 11 #[.agg #[.int .i64 ev.kind, .int .i64 ev.session, .int .i64 ev.window, .int .i64 ev.pane, .int .i64 ev.index, .int .i64 ev.offset, .int .i64 ev.tick, .int .i64 ev.number, .int .i64 ev.flag, .string ev.name, .string ev.text, .string ev.layout, .string ev.visible, .bool ev.zoom]] W fun e w' => e = .returned (.tuple #[.string ⟨#[]⟩, .int .i64 30]) ∧ Below W.heap.size W w') := fun W hW => by
    have := encode_any ev hfit W hW
    rw [h] at this
    exact this
  have HE : Hid (∀ W, Below w.heap.size w W → Env W) := fun W h => hE.below h
  have HB0 : Hid (Below w.heap.size w (w.alloc (.cells #[.int .i64 ev.kind, .int .i64 ev.session, .int .i64 ev.window, .int .i64 ev.pane, .int .i64 ev.index, .int .i64 ev.offset, .int .i64 ev.tick, .int .i64 ev.number, .int .i64 ev.flag, .string ev.name, .string ev.text, .string ev.layout, .string ev.visible, .bool ev.zoom] 28))) := below1 _ _
  clear hE h hfit
  go_enter Tryz.func4, Tryz.ntmps4
  go_wp2_with fail
  refine (HEn.out _ (HE.out _ HB0.out)).mono ?_
  rintro e w1 ⟨rfl, hb1⟩
  have HB1 : Hid (Below w.heap.size w w1) := below_step HB0.out hb1
  have HB1d : Hid (Below w.heap.size w w1.drew) := HB1.out.drew
  clear hb1 HEn HB0
  go_wp2
  go_region
  all_goals go_wp2_with (go_at_call 13; refine (sure_any _ (HE.out _ HB1d.out)).mono ?_; rintro e w3 ⟨rfl, hb3⟩; have HB3 : Hid (Below w.heap.size w w3) := below_step HB1d.out hb3; clear hb3)
  all_goals go_ret
  all_goals exact ⟨rfl, HB3.out⟩

set_option maxRecDepth 20000 in
set_option maxHeartbeats 4000000 in
theorem back_yes (ev : Ev) (hfit : ev.Fits) (w : World) (hE : Env w) (l : List UInt8) (h : encS ev = some l) (hl : l.length ≤ lim) :
    Calls Tryz.prog 4 #[.agg #[.int .i64 ev.kind, .int .i64 ev.session, .int .i64 ev.window, .int .i64 ev.pane, .int .i64 ev.index, .int .i64 ev.offset, .int .i64 ev.tick, .int .i64 ev.number, .int .i64 ev.flag, .string ev.name, .string ev.text, .string ev.layout, .string ev.visible, .bool ev.zoom]] w fun e w' => e = .returned (.bool true) ∧ Below w.heap.size w w' := by
  have HEn : Hid (∀ W, Env W → Calls Tryz.prog 11 #[.agg #[.int .i64 ev.kind, .int .i64 ev.session, .int .i64 ev.window, .int .i64 ev.pane, .int .i64 ev.index, .int .i64 ev.offset, .int .i64 ev.tick, .int .i64 ev.number, .int .i64 ev.flag, .string ev.name, .string ev.text, .string ev.layout, .string ev.visible, .bool ev.zoom]] W fun e w' => e = .returned (.tuple #[.string (str l), .int .i64 0]) ∧ Below W.heap.size W w') := fun W hW => by
    have := encode_any ev hfit W hW
    rw [h] at this
    exact this
  have HDe : Hid (∀ W, Env W → Calls Tryz.prog 12 #[.string (str l)] W fun e w' => e = .returned (.agg #[.int .i64 ev.kind, .int .i64 ev.session, .int .i64 ev.window, .int .i64 ev.pane, .int .i64 ev.index, .int .i64 ev.offset, .int .i64 ev.tick, .int .i64 ev.number, .int .i64 ev.flag, .string ev.name, .string ev.text, .string ev.layout, .string ev.visible, .bool ev.zoom]) ∧ Below W.heap.size W w') := fun W hW => by
    have := decode_any (str l) (by rw [str_size]; exact hl) W hW
    rw [str_data, dec_enc h] at this
    exact this
  have hEq : ∀ W : World, (Op.equalIn 10000 28 (.agg #[.int .i64 ev.kind, .int .i64 ev.session, .int .i64 ev.window, .int .i64 ev.pane, .int .i64 ev.index, .int .i64 ev.offset, .int .i64 ev.tick, .int .i64 ev.number, .int .i64 ev.flag, .string ev.name, .string ev.text, .string ev.layout, .string ev.visible, .bool ev.zoom]) (.agg #[.int .i64 ev.kind, .int .i64 ev.session, .int .i64 ev.window, .int .i64 ev.pane, .int .i64 ev.index, .int .i64 ev.offset, .int .i64 ev.tick, .int .i64 ev.number, .int .i64 ev.flag, .string ev.name, .string ev.text, .string ev.layout, .string ev.visible, .bool ev.zoom])).run Tryz.prog W = .ok true W := fun W => by
    have := eqEv ev ev W
    rw [(evEq_iff ev ev).2 rfl] at this
    exact this
  have HE : Hid (∀ W, Below w.heap.size w W → Env W) := fun W h => hE.below h
  have HB0 : Hid (Below w.heap.size w (w.alloc (.cells #[.int .i64 ev.kind, .int .i64 ev.session, .int .i64 ev.window, .int .i64 ev.pane, .int .i64 ev.index, .int .i64 ev.offset, .int .i64 ev.tick, .int .i64 ev.number, .int .i64 ev.flag, .string ev.name, .string ev.text, .string ev.layout, .string ev.visible, .bool ev.zoom] 28))) := below1 _ _
  have HV : Hid (EvAt (w.alloc (.cells #[.int .i64 ev.kind, .int .i64 ev.session, .int .i64 ev.window, .int .i64 ev.pane, .int .i64 ev.index, .int .i64 ev.offset, .int .i64 ev.tick, .int .i64 ev.number, .int .i64 ev.flag, .string ev.name, .string ev.text, .string ev.layout, .string ev.visible, .bool ev.zoom] 28)) w.heap.size ev) := EvAt.new w ev
  obtain ⟨sl, hsl⟩ : ∃ x, str l = x := ⟨_, rfl⟩
  rw [hsl] at HEn HDe
  clear hE h hfit hsl hl
  go_enter Tryz.func4, Tryz.ntmps4
  go_wp2_with fail
  refine (HEn.out _ (HE.out _ HB0.out)).mono ?_
  rintro e w1 ⟨rfl, hb1⟩
  have HB1 : Hid (Below w.heap.size w w1) := below_step HB0.out hb1
  have HB1d : Hid (Below w.heap.size w w1.drew) := HB1.out.drew
  have HV1 : Hid (EvAt w1 w.heap.size ev) := HV.out.below hb1 HV.out.lt
  obtain ⟨q0, q1, q2, q3, q4, q5, q6, q7, q8, q9, q10, q11, q12, q13⟩ := HV1.out.cells
  have hlt : w.heap.size < w1.heap.size := HV1.out.lt
  clear hb1 HEn HB0 HV
  go_wp2
  refine wp_region_noPanic ?_
  refine wp_region_held_drew (S := (fun W' => W'.cell? ⟨w.heap.size, 0, none⟩ = some (.int .i64 ev.kind) ∧ W'.cell? ⟨w.heap.size, 1, none⟩ = some (.int .i64 ev.session) ∧ W'.cell? ⟨w.heap.size, 2, none⟩ = some (.int .i64 ev.window) ∧ W'.cell? ⟨w.heap.size, 3, none⟩ = some (.int .i64 ev.pane) ∧ W'.cell? ⟨w.heap.size, 4, none⟩ = some (.int .i64 ev.index) ∧ W'.cell? ⟨w.heap.size, 5, none⟩ = some (.int .i64 ev.offset) ∧ W'.cell? ⟨w.heap.size, 6, none⟩ = some (.int .i64 ev.tick) ∧ W'.cell? ⟨w.heap.size, 7, none⟩ = some (.int .i64 ev.number) ∧ W'.cell? ⟨w.heap.size, 8, none⟩ = some (.int .i64 ev.flag) ∧ W'.cell? ⟨w.heap.size, 9, none⟩ = some (.string ev.name) ∧ W'.cell? ⟨w.heap.size, 10, none⟩ = some (.string ev.text) ∧ W'.cell? ⟨w.heap.size, 11, none⟩ = some (.string ev.layout) ∧ W'.cell? ⟨w.heap.size, 12, none⟩ = some (.string ev.visible) ∧ W'.cell? ⟨w.heap.size, 13, none⟩ = some (.bool ev.zoom))) (by kernel_rfl) ?_ (fun hHeld => ?_)
  · go_keep
  refine wpAnyH_take (i := 0) (v := ?v0) (by simp only [List.getElem?_toArray, List.getElem?_cons_zero]; rfl) (by kernel_rfl) (by kernel_rfl) (by kernel_rfl) (fun _ _ _ h => h) (Or.inl ⟨by rfl, ?hy0⟩) (by assumption) ?rest0
  case hy0 =>
    intro w hSw
    try dsimp only at hSw
    go_simp
    try with_reducible rfl
  try simp only [Act.put, List.setIfInBounds_toArray, List.set_cons_zero, List.set_cons_succ]
  refine wpAnyH_take (i := 1) (v := ?v1) (by simp only [List.getElem?_toArray, List.getElem?_cons_succ, List.getElem?_cons_zero]; rfl) (by kernel_rfl) (by kernel_rfl) (by kernel_rfl) (fun _ _ _ h => h) (Or.inl ⟨by rfl, ?hy1⟩) (by assumption) ?rest1
  case hy1 =>
    intro w hSw
    try dsimp only at hSw
    go_simp
    try with_reducible rfl
  try simp only [Act.put, List.setIfInBounds_toArray, List.set_cons_zero, List.set_cons_succ]
  refine wpAnyH_take (i := 2) (v := ?v2) (by simp only [List.getElem?_toArray, List.getElem?_cons_succ, List.getElem?_cons_zero]; rfl) (by kernel_rfl) (by kernel_rfl) (by kernel_rfl) (fun _ _ _ h => h) (Or.inl ⟨by rfl, ?hy2⟩) (by assumption) ?rest2
  case hy2 =>
    intro w hSw
    try dsimp only at hSw
    go_simp
    try with_reducible rfl
  try simp only [Act.put, List.setIfInBounds_toArray, List.set_cons_zero, List.set_cons_succ]
  refine wpAnyH_take (i := 3) (v := ?v3) (by simp only [List.getElem?_toArray, List.getElem?_cons_succ, List.getElem?_cons_zero]; rfl) (by kernel_rfl) (by kernel_rfl) (by kernel_rfl) (fun _ _ _ h => h) (Or.inl ⟨by rfl, ?hy3⟩) (by assumption) ?rest3
  case hy3 =>
    intro w hSw
    try dsimp only at hSw
    go_simp
    try with_reducible rfl
  try simp only [Act.put, List.setIfInBounds_toArray, List.set_cons_zero, List.set_cons_succ]
  refine wpAnyH_take (i := 5) (v := ?v5) (by simp only [List.getElem?_toArray, List.getElem?_cons_succ, List.getElem?_cons_zero]; rfl) (by kernel_rfl) (by kernel_rfl) (by kernel_rfl) (fun _ _ _ h => h) (Or.inl ⟨by rfl, ?hy5⟩) (by assumption) ?rest5
  case hy5 =>
    intro w hSw
    try dsimp only at hSw
    go_simp
    try with_reducible rfl
  try simp only [Act.put, List.setIfInBounds_toArray, List.set_cons_zero, List.set_cons_succ]
  refine wpAnyH_ready (rs := [4]) (by kernel_rfl) (by simp) ?_
  refine AllReadyH.cons (by simp only [List.getElem?_toArray, List.getElem?_cons_succ, List.getElem?_cons_zero]; rfl) (fun K hK => ?_) AllReadyH.nil
  go_simp
  go_at_call 12
  refine (HDe.out _ (HE.out _ HB1d.out)).mono ?_
  rintro e w2 ⟨rfl, hb2⟩
  obtain ⟨p0, p1, p2, p3, p4, p5, p6, p7, p8, p9, p10, p11, p12, p13⟩ := (HV1.out.below ((Below.refl _ _).drew.trans hb2) HV1.out.lt).cells
  have HB2 : Hid (Below w.heap.size w w2) := below_step HB1.out ((Below.refl _ _).drew.trans hb2)
  clear hb2
  go_wp2_with fail
  refine hK.out _ _ ?_ (fun hHeld2 => ?_)
  · go_keep
  clear hK K hHeld
  try simp only [Act.put, List.setIfInBounds_toArray, List.set_cons_zero, List.set_cons_succ]
  refine wpAnyH_take (i := 6) (v := ?v6) (by simp only [List.getElem?_toArray, List.getElem?_cons_succ, List.getElem?_cons_zero]; rfl) (by kernel_rfl) (by kernel_rfl) (by kernel_rfl) (fun _ _ _ h => h) (Or.inl ⟨by rfl, ?hy6⟩) (by assumption) ?rest6
  case hy6 =>
    intro w hSw
    try dsimp only at hSw
    go_simp
    try with_reducible rfl
  try simp only [Act.put, List.setIfInBounds_toArray, List.set_cons_zero, List.set_cons_succ]
  refine wpAnyH_take (i := 7) (v := ?v7) (by simp only [List.getElem?_toArray, List.getElem?_cons_succ, List.getElem?_cons_zero]; rfl) (by kernel_rfl) (by kernel_rfl) (by kernel_rfl) (fun _ _ _ h => h) (Or.inl ⟨by rfl, ?hy7⟩) (by assumption) ?rest7
  case hy7 =>
    intro w hSw
    try dsimp only at hSw
    go_simp
    try with_reducible rfl
  try simp only [Act.put, List.setIfInBounds_toArray, List.set_cons_zero, List.set_cons_succ]
  refine wpAnyH_take (i := 8) (v := ?v8) (by simp only [List.getElem?_toArray, List.getElem?_cons_succ, List.getElem?_cons_zero]; rfl) (by kernel_rfl) (by kernel_rfl) (by kernel_rfl) (fun _ _ _ h => h) (Or.inl ⟨by rfl, ?hy8⟩) (by assumption) ?rest8
  case hy8 =>
    intro w hSw
    try dsimp only at hSw
    go_simp
    try with_reducible rfl
  try simp only [Act.put, List.setIfInBounds_toArray, List.set_cons_zero, List.set_cons_succ]
  refine wpAnyH_take (i := 9) (v := ?v9) (by simp only [List.getElem?_toArray, List.getElem?_cons_succ, List.getElem?_cons_zero]; rfl) (by kernel_rfl) (by kernel_rfl) (by kernel_rfl) (fun _ _ _ h => h) (Or.inl ⟨by rfl, ?hy9⟩) (by assumption) ?rest9
  case hy9 =>
    intro w hSw
    try dsimp only at hSw
    go_simp
    try with_reducible rfl
  try simp only [Act.put, List.setIfInBounds_toArray, List.set_cons_zero, List.set_cons_succ]
  refine wpAnyH_take (i := 10) (v := ?v10) (by simp only [List.getElem?_toArray, List.getElem?_cons_succ, List.getElem?_cons_zero]; rfl) (by kernel_rfl) (by kernel_rfl) (by kernel_rfl) (fun _ _ _ h => h) (Or.inl ⟨by rfl, ?hy10⟩) (by assumption) ?rest10
  case hy10 =>
    intro w hSw
    try dsimp only at hSw
    go_simp
    try with_reducible rfl
  try simp only [Act.put, List.setIfInBounds_toArray, List.set_cons_zero, List.set_cons_succ]
  refine wpAnyH_take (i := 11) (v := ?v11) (by simp only [List.getElem?_toArray, List.getElem?_cons_succ, List.getElem?_cons_zero]; rfl) (by kernel_rfl) (by kernel_rfl) (by kernel_rfl) (fun _ _ _ h => h) (Or.inl ⟨by rfl, ?hy11⟩) (by assumption) ?rest11
  case hy11 =>
    intro w hSw
    try dsimp only at hSw
    go_simp
    try with_reducible rfl
  try simp only [Act.put, List.setIfInBounds_toArray, List.set_cons_zero, List.set_cons_succ]
  refine wpAnyH_take (i := 12) (v := undef) (by simp only [List.getElem?_toArray, List.getElem?_cons_succ, List.getElem?_cons_zero]; rfl) (by kernel_rfl) (by kernel_rfl) (by kernel_rfl) (fun _ _ _ h => h) (Or.inr ⟨by rfl, rfl⟩) (by assumption) ?_
  try simp only [Act.put, List.setIfInBounds_toArray, List.set_cons_zero, List.set_cons_succ]
  refine wpAnyH_take (i := 13) (v := undef) (by simp only [List.getElem?_toArray, List.getElem?_cons_succ, List.getElem?_cons_zero]; rfl) (by kernel_rfl) (by kernel_rfl) (by kernel_rfl) (fun _ _ _ h => h) (Or.inr ⟨by rfl, rfl⟩) (by assumption) ?_
  try simp only [Act.put, List.setIfInBounds_toArray, List.set_cons_zero, List.set_cons_succ]
  refine wpAnyH_take (i := 14) (v := ?v14) (by simp only [List.getElem?_toArray, List.getElem?_cons_succ, List.getElem?_cons_zero]; rfl) (by kernel_rfl) (by kernel_rfl) (by kernel_rfl) (fun _ _ _ h => h) (Or.inl ⟨by rfl, ?hy14⟩) (by assumption) ?rest14
  case hy14 =>
    intro w hSw
    try dsimp only at hSw
    go_simp
    try with_reducible rfl
  try simp only [Act.put, List.setIfInBounds_toArray, List.set_cons_zero, List.set_cons_succ]
  refine wpAnyH_take (i := 15) (v := ?v15) (by simp only [List.getElem?_toArray, List.getElem?_cons_succ, List.getElem?_cons_zero]; rfl) (by kernel_rfl) (by kernel_rfl) (by kernel_rfl) (fun _ _ _ h => h) (Or.inl ⟨by rfl, ?hy15⟩) (by assumption) ?rest15
  case hy15 =>
    intro w hSw
    try dsimp only at hSw
    go_simp
    try with_reducible rfl
  try simp only [Act.put, List.setIfInBounds_toArray, List.set_cons_zero, List.set_cons_succ]
  refine wpAnyH_done (by kernel_rfl) ?_ _
  refine NoPanic.normal ?_
  all_goals go_wp2_with (go_at_call 13; refine (sure_any _ (HE.out _ HB2.out)).mono ?_; rintro e w3 ⟨rfl, hb3⟩; have HB3 : Hid (Below w.heap.size w w3) := below_step HB2.out hb3; clear hb3)
  all_goals go_ret
  all_goals exact ⟨rfl, HB3.out⟩

theorem enc_len {e : Ev} {l : List UInt8} (hf : e.Fits) (h : encS e = some l) : l.length ≤ lim := by
  rcases encS_cases e with h0 | ⟨k, h1, h2, _, _, h4⟩
  · rw [h0] at h; cases h
  · rw [h4] at h
    cases h
    exact write_length k h1 h2 e hf

theorem wireBack_walk (ev : Ev) (hfit : ev.Fits) (w : World) (hE : Env w) :
    Calls Tryz.prog 4 #[.agg ev.vals] w fun e w' => e = .returned (.bool true) ∧ Below w.heap.size w w' := by
  cases h : encS ev with
  | none => exact back_no ev hfit w hE h
  | some l => exact back_yes ev hfit w hE l h (enc_len hfit h)

end Go.Proofs.YtcgpgnifaeikeaaGreatDoor
