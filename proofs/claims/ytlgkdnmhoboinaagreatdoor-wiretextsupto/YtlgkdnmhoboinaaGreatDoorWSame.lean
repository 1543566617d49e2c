/-
  Two lists of events compared.
-/
import Derived.Test.YtlgkdnmhoboinaaGreatDoorWPieceP
import Derived.WalkKit
import Derived.LoopTactic
import Derived.Deep.RegionHeld3
import Derived.Laws.StructEq
namespace Go.Proofs.YtlgkdnmhoboinaaGreatDoor
open Go.RowKit
set_option linter.unusedVariables false

set_option maxRecDepth 20000 in
set_option maxHeartbeats 2000000 in
theorem same_yes (l : List Ev) (B B' g cap g' cap' : Nat) (hn : 1 ≤ l.length) (hm : l.length ≤ 16777216) (w : World) (h1 : EvOwns w B (.slice (some ⟨g, 0, none⟩) l.length cap) l) (h2 : EvOwns w B' (.slice (some ⟨g', 0, none⟩) l.length cap') l) :
    Calls Tryz.prog 13 #[.slice (some ⟨g, 0, none⟩) l.length cap, .slice (some ⟨g', 0, none⟩) l.length cap'] w fun e w' => e = .returned (.bool true) ∧ Below w.heap.size w w' := by
  have H1 : Hid (EvOwns w B (.slice (some ⟨g, 0, none⟩) l.length cap) l) := h1
  have H2 : Hid (EvOwns w B' (.slice (some ⟨g', 0, none⟩) l.length cap') l) := h2
  obtain ⟨n, hln⟩ : ∃ n, l.length = n := ⟨_, rfl⟩
  have HL : Hid (l.length = n) := hln
  rw [hln] at hn hm H1 H2 ⊢
  clear h1 h2 hln
  go_enter Tryz.func13, Tryz.ntmps13
  go_wp2
  go_loopw [5] (fun v wr => ∃ i : Nat, i ≤ n ∧ v = .int .i64 i ∧ Below w.heap.size w wr) (fun v _ => n - (intOf v).toNat)
  case atStart => exact ⟨0, Nat.zero_le _, rfl, Below.refl _ _⟩
  case round =>
    obtain ⟨i, hi, rfl, hb⟩ := hrel
    have HB : Hid (Below w.heap.size w wr) := hb
    clear hb
    by_cases hlt : i < n
    · obtain ⟨ev, hev⟩ : ∃ e, l[i]? = some e := ⟨_, List.getElem?_eq_getElem (by rw [HL.out]; exact hlt)⟩
      have hc1 : wr.cell? ⟨g, i * 14, none⟩ = some (.int .i64 ev.kind) ∧ wr.cell? ⟨g, i * 14 + 1, none⟩ = some (.int .i64 ev.session) ∧ wr.cell? ⟨g, i * 14 + 2, none⟩ = some (.int .i64 ev.window) ∧ wr.cell? ⟨g, i * 14 + 3, none⟩ = some (.int .i64 ev.pane) ∧ wr.cell? ⟨g, i * 14 + 4, none⟩ = some (.int .i64 ev.index) ∧ wr.cell? ⟨g, i * 14 + 5, none⟩ = some (.int .i64 ev.offset) ∧ wr.cell? ⟨g, i * 14 + 6, none⟩ = some (.int .i64 ev.tick) ∧ wr.cell? ⟨g, i * 14 + 7, none⟩ = some (.int .i64 ev.number) ∧ wr.cell? ⟨g, i * 14 + 8, none⟩ = some (.int .i64 ev.flag) ∧ wr.cell? ⟨g, i * 14 + 9, none⟩ = some (.string ev.name) ∧ wr.cell? ⟨g, i * 14 + 10, none⟩ = some (.string ev.text) ∧ wr.cell? ⟨g, i * 14 + 11, none⟩ = some (.string ev.layout) ∧ wr.cell? ⟨g, i * 14 + 12, none⟩ = some (.string ev.visible) ∧ wr.cell? ⟨g, i * 14 + 13, none⟩ = some (.bool ev.zoom) := (H1.out.below HB.out).cells14 hev
      have hc2 : wr.cell? ⟨g', i * 14, none⟩ = some (.int .i64 ev.kind) ∧ wr.cell? ⟨g', i * 14 + 1, none⟩ = some (.int .i64 ev.session) ∧ wr.cell? ⟨g', i * 14 + 2, none⟩ = some (.int .i64 ev.window) ∧ wr.cell? ⟨g', i * 14 + 3, none⟩ = some (.int .i64 ev.pane) ∧ wr.cell? ⟨g', i * 14 + 4, none⟩ = some (.int .i64 ev.index) ∧ wr.cell? ⟨g', i * 14 + 5, none⟩ = some (.int .i64 ev.offset) ∧ wr.cell? ⟨g', i * 14 + 6, none⟩ = some (.int .i64 ev.tick) ∧ wr.cell? ⟨g', i * 14 + 7, none⟩ = some (.int .i64 ev.number) ∧ wr.cell? ⟨g', i * 14 + 8, none⟩ = some (.int .i64 ev.flag) ∧ wr.cell? ⟨g', i * 14 + 9, none⟩ = some (.string ev.name) ∧ wr.cell? ⟨g', i * 14 + 10, none⟩ = some (.string ev.text) ∧ wr.cell? ⟨g', i * 14 + 11, none⟩ = some (.string ev.layout) ∧ wr.cell? ⟨g', i * 14 + 12, none⟩ = some (.string ev.visible) ∧ wr.cell? ⟨g', i * 14 + 13, none⟩ = some (.bool ev.zoom) := (H2.out.below HB.out).cells14 hev
      obtain ⟨q0, q1, q2, q3, q4, q5, q6, q7, q8, q9, q10, q11, q12, q13⟩ := hc1
      obtain ⟨p0, p1, p2, p3, p4, p5, p6, p7, p8, p9, p10, p11, p12, p13⟩ := hc2
      have hEq : ∀ W : World, (Op.equalIn 10000 28 (.agg #[.int .i64 ev.kind, .int .i64 ev.session, .int .i64 ev.window, .int .i64 ev.pane, .int .i64 ev.index, .int .i64 ev.offset, .int .i64 ev.tick, .int .i64 ev.number, .int .i64 ev.flag, .string ev.name, .string ev.text, .string ev.layout, .string ev.visible, .bool ev.zoom]) (.agg #[.int .i64 ev.kind, .int .i64 ev.session, .int .i64 ev.window, .int .i64 ev.pane, .int .i64 ev.index, .int .i64 ev.offset, .int .i64 ev.tick, .int .i64 ev.number, .int .i64 ev.flag, .string ev.name, .string ev.text, .string ev.layout, .string ev.visible, .bool ev.zoom])).run Tryz.prog W = .ok true W := fun W => by
        have := eqEv ev ev W
        rw [(evEq_iff ev ev).2 rfl] at this
        exact this
      clear hev
      go_wp2
      go_region_held3 (fun W' => W'.cell? ⟨g, i * 14, none⟩ = some (.int .i64 ev.kind) ∧ W'.cell? ⟨g, i * 14 + 1, none⟩ = some (.int .i64 ev.session) ∧ W'.cell? ⟨g, i * 14 + 2, none⟩ = some (.int .i64 ev.window) ∧ W'.cell? ⟨g, i * 14 + 3, none⟩ = some (.int .i64 ev.pane) ∧ W'.cell? ⟨g, i * 14 + 4, none⟩ = some (.int .i64 ev.index) ∧ W'.cell? ⟨g, i * 14 + 5, none⟩ = some (.int .i64 ev.offset) ∧ W'.cell? ⟨g, i * 14 + 6, none⟩ = some (.int .i64 ev.tick) ∧ W'.cell? ⟨g, i * 14 + 7, none⟩ = some (.int .i64 ev.number) ∧ W'.cell? ⟨g, i * 14 + 8, none⟩ = some (.int .i64 ev.flag) ∧ W'.cell? ⟨g, i * 14 + 9, none⟩ = some (.string ev.name) ∧ W'.cell? ⟨g, i * 14 + 10, none⟩ = some (.string ev.text) ∧ W'.cell? ⟨g, i * 14 + 11, none⟩ = some (.string ev.layout) ∧ W'.cell? ⟨g, i * 14 + 12, none⟩ = some (.string ev.visible) ∧ W'.cell? ⟨g, i * 14 + 13, none⟩ = some (.bool ev.zoom) ∧ W'.cell? ⟨g', i * 14, none⟩ = some (.int .i64 ev.kind) ∧ W'.cell? ⟨g', i * 14 + 1, none⟩ = some (.int .i64 ev.session) ∧ W'.cell? ⟨g', i * 14 + 2, none⟩ = some (.int .i64 ev.window) ∧ W'.cell? ⟨g', i * 14 + 3, none⟩ = some (.int .i64 ev.pane) ∧ W'.cell? ⟨g', i * 14 + 4, none⟩ = some (.int .i64 ev.index) ∧ W'.cell? ⟨g', i * 14 + 5, none⟩ = some (.int .i64 ev.offset) ∧ W'.cell? ⟨g', i * 14 + 6, none⟩ = some (.int .i64 ev.tick) ∧ W'.cell? ⟨g', i * 14 + 7, none⟩ = some (.int .i64 ev.number) ∧ W'.cell? ⟨g', i * 14 + 8, none⟩ = some (.int .i64 ev.flag) ∧ W'.cell? ⟨g', i * 14 + 9, none⟩ = some (.string ev.name) ∧ W'.cell? ⟨g', i * 14 + 10, none⟩ = some (.string ev.text) ∧ W'.cell? ⟨g', i * 14 + 11, none⟩ = some (.string ev.layout) ∧ W'.cell? ⟨g', i * 14 + 12, none⟩ = some (.string ev.visible) ∧ W'.cell? ⟨g', i * 14 + 13, none⟩ = some (.bool ev.zoom)) (go_keep) (fail)
      go_wp2
      go_roundw
      case rel => exact ⟨i + 1, by omega, by go_num, HB.out.drew⟩
      case measure => simp [intOf]; omega
    · go_wp2
      go_ret
      exact ⟨rfl, HB.out⟩

theorem same_nil (w : World) : Calls Tryz.prog 13 #[.slice none 0 0, .slice none 0 0] w fun e w' => e = .returned (.bool true) ∧ Below w.heap.size w w' := by
  go_enter Tryz.func13, Tryz.ntmps13
  go_wp2
  go_loopw [5] (fun v wr => v = .int .i64 0 ∧ w = wr) (fun _ _ => 0)
  case atStart => exact ⟨rfl, rfl⟩
  case round =>
    obtain ⟨rfl, rfl⟩ := hrel
    go_wp2
    go_ret
    exact ⟨rfl, Below.refl _ _⟩

end Go.Proofs.YtlgkdnmhoboinaaGreatDoor
