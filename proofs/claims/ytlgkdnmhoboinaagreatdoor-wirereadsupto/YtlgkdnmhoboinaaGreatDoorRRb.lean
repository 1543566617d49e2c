/-
  The document's reads: names, plans, the zoom, texts.
-/
import Derived.Test.YtlgkdnmhoboinaaGreatDoorRRa
import Derived.Test.YtlgkdnmhoboinaaGreatDoorWRowD
import Derived.WalkKit
namespace Go.Proofs.YtlgkdnmhoboinaaGreatDoor
open Go.RowKit
set_option linter.unusedVariables false
set_option maxRecDepth 20000

set_option maxHeartbeats 1000000 in
theorem reads_qN (ev : Ev) (s : ByteArray) (hs : s.size ≤ 1048576) (w : World) : Calls Tryz.prog 35 #[.agg ev.vals, .int .u8 78, .string s] w fun e w' => e = .returned (.agg (Ch.rd .qN s.data.toList ev).vals) ∧ Below w.heap.size w w' := by
  have HS : Hid (RdSt w ((w.alloc (.cells ev.vals 28)).alloc (.cells (Ev.zero 0).vals 28)) ev) := RdSt.start w ev
  have hrd : Ch.rd .qN s.data.toList ev = { ev with name := s } := rfl
  rw [hrd]
  clear hrd
  have hgoal : ({ ev with name := s } : Ev).vals = #[.int .i64 ev.kind, .int .i64 ev.session, .int .i64 ev.window, .int .i64 ev.pane, .int .i64 ev.index, .int .i64 ev.offset, .int .i64 ev.tick, .int .i64 ev.number, .int .i64 ev.flag, .string s, .string ev.text, .string ev.layout, .string ev.visible, .bool ev.zoom] := rfl
  rw [hgoal]
  have x0 : ev.vals[0]? = some (.int .i64 ev.kind) := rfl; have x1 : ev.vals[1]? = some (.int .i64 ev.session) := rfl; have x2 : ev.vals[2]? = some (.int .i64 ev.window) := rfl; have x3 : ev.vals[3]? = some (.int .i64 ev.pane) := rfl; have x4 : ev.vals[4]? = some (.int .i64 ev.index) := rfl; have x5 : ev.vals[5]? = some (.int .i64 ev.offset) := rfl; have x6 : ev.vals[6]? = some (.int .i64 ev.tick) := rfl; have x7 : ev.vals[7]? = some (.int .i64 ev.number) := rfl; have x8 : ev.vals[8]? = some (.int .i64 ev.flag) := rfl; have x9 : ev.vals[9]? = some (.string ev.name) := rfl; have x10 : ev.vals[10]? = some (.string ev.text) := rfl; have x11 : ev.vals[11]? = some (.string ev.layout) := rfl; have x12 : ev.vals[12]? = some (.string ev.visible) := rfl; have x13 : ev.vals[13]? = some (.bool ev.zoom) := rfl
  have z0 : ∀ h : 0 < ev.vals.size, ev.vals[0] = .int .i64 ev.kind := fun _ => rfl; have z1 : ∀ h : 1 < ev.vals.size, ev.vals[1] = .int .i64 ev.session := fun _ => rfl; have z2 : ∀ h : 2 < ev.vals.size, ev.vals[2] = .int .i64 ev.window := fun _ => rfl; have z3 : ∀ h : 3 < ev.vals.size, ev.vals[3] = .int .i64 ev.pane := fun _ => rfl; have z4 : ∀ h : 4 < ev.vals.size, ev.vals[4] = .int .i64 ev.index := fun _ => rfl; have z5 : ∀ h : 5 < ev.vals.size, ev.vals[5] = .int .i64 ev.offset := fun _ => rfl; have z6 : ∀ h : 6 < ev.vals.size, ev.vals[6] = .int .i64 ev.tick := fun _ => rfl; have z7 : ∀ h : 7 < ev.vals.size, ev.vals[7] = .int .i64 ev.number := fun _ => rfl; have z8 : ∀ h : 8 < ev.vals.size, ev.vals[8] = .int .i64 ev.flag := fun _ => rfl; have z9 : ∀ h : 9 < ev.vals.size, ev.vals[9] = .string ev.name := fun _ => rfl; have z10 : ∀ h : 10 < ev.vals.size, ev.vals[10] = .string ev.text := fun _ => rfl; have z11 : ∀ h : 11 < ev.vals.size, ev.vals[11] = .string ev.layout := fun _ => rfl; have z12 : ∀ h : 12 < ev.vals.size, ev.vals[12] = .string ev.visible := fun _ => rfl; have z13 : ∀ h : 13 < ev.vals.size, ev.vals[13] = .bool ev.zoom := fun _ => rfl
  have xs : ev.vals.size = 14 := rfl
  clear hgoal
  unfold Ev.zero at HS
  go_enter Tryz.func35, Tryz.ntmps35
  go_wp2
  refine bodyPost_ret (v := .agg #[.int .i64 ev.kind, .int .i64 ev.session, .int .i64 ev.window, .int .i64 ev.pane, .int .i64 ev.index, .int .i64 ev.offset, .int .i64 ev.tick, .int .i64 ev.number, .int .i64 ev.flag, .string s, .string ev.text, .string ev.layout, .string ev.visible, .bool ev.zoom]) (by simp [results, Tryz.results35, go_sem]) rfl ?_
  exact ⟨rfl, ((Below.refl _ _).alloc (Nat.le_refl _) _).alloc (by simp) _⟩

set_option maxHeartbeats 1000000 in
theorem reads_qW (ev : Ev) (s : ByteArray) (hs : s.size ≤ 1048576) (w : World) : Calls Tryz.prog 35 #[.agg ev.vals, .int .u8 87, .string s] w fun e w' => e = .returned (.agg (Ch.rd .qW s.data.toList ev).vals) ∧ Below w.heap.size w w' := by
  have HS : Hid (RdSt w ((w.alloc (.cells ev.vals 28)).alloc (.cells (Ev.zero 0).vals 28)) ev) := RdSt.start w ev
  have hrd : Ch.rd .qW s.data.toList ev = { ev with name := s } := rfl
  rw [hrd]
  clear hrd
  have hgoal : ({ ev with name := s } : Ev).vals = #[.int .i64 ev.kind, .int .i64 ev.session, .int .i64 ev.window, .int .i64 ev.pane, .int .i64 ev.index, .int .i64 ev.offset, .int .i64 ev.tick, .int .i64 ev.number, .int .i64 ev.flag, .string s, .string ev.text, .string ev.layout, .string ev.visible, .bool ev.zoom] := rfl
  rw [hgoal]
  have x0 : ev.vals[0]? = some (.int .i64 ev.kind) := rfl; have x1 : ev.vals[1]? = some (.int .i64 ev.session) := rfl; have x2 : ev.vals[2]? = some (.int .i64 ev.window) := rfl; have x3 : ev.vals[3]? = some (.int .i64 ev.pane) := rfl; have x4 : ev.vals[4]? = some (.int .i64 ev.index) := rfl; have x5 : ev.vals[5]? = some (.int .i64 ev.offset) := rfl; have x6 : ev.vals[6]? = some (.int .i64 ev.tick) := rfl; have x7 : ev.vals[7]? = some (.int .i64 ev.number) := rfl; have x8 : ev.vals[8]? = some (.int .i64 ev.flag) := rfl; have x9 : ev.vals[9]? = some (.string ev.name) := rfl; have x10 : ev.vals[10]? = some (.string ev.text) := rfl; have x11 : ev.vals[11]? = some (.string ev.layout) := rfl; have x12 : ev.vals[12]? = some (.string ev.visible) := rfl; have x13 : ev.vals[13]? = some (.bool ev.zoom) := rfl
  have z0 : ∀ h : 0 < ev.vals.size, ev.vals[0] = .int .i64 ev.kind := fun _ => rfl; have z1 : ∀ h : 1 < ev.vals.size, ev.vals[1] = .int .i64 ev.session := fun _ => rfl; have z2 : ∀ h : 2 < ev.vals.size, ev.vals[2] = .int .i64 ev.window := fun _ => rfl; have z3 : ∀ h : 3 < ev.vals.size, ev.vals[3] = .int .i64 ev.pane := fun _ => rfl; have z4 : ∀ h : 4 < ev.vals.size, ev.vals[4] = .int .i64 ev.index := fun _ => rfl; have z5 : ∀ h : 5 < ev.vals.size, ev.vals[5] = .int .i64 ev.offset := fun _ => rfl; have z6 : ∀ h : 6 < ev.vals.size, ev.vals[6] = .int .i64 ev.tick := fun _ => rfl; have z7 : ∀ h : 7 < ev.vals.size, ev.vals[7] = .int .i64 ev.number := fun _ => rfl; have z8 : ∀ h : 8 < ev.vals.size, ev.vals[8] = .int .i64 ev.flag := fun _ => rfl; have z9 : ∀ h : 9 < ev.vals.size, ev.vals[9] = .string ev.name := fun _ => rfl; have z10 : ∀ h : 10 < ev.vals.size, ev.vals[10] = .string ev.text := fun _ => rfl; have z11 : ∀ h : 11 < ev.vals.size, ev.vals[11] = .string ev.layout := fun _ => rfl; have z12 : ∀ h : 12 < ev.vals.size, ev.vals[12] = .string ev.visible := fun _ => rfl; have z13 : ∀ h : 13 < ev.vals.size, ev.vals[13] = .bool ev.zoom := fun _ => rfl
  have xs : ev.vals.size = 14 := rfl
  clear hgoal
  unfold Ev.zero at HS
  go_enter Tryz.func35, Tryz.ntmps35
  go_wp2
  refine bodyPost_ret (v := .agg #[.int .i64 ev.kind, .int .i64 ev.session, .int .i64 ev.window, .int .i64 ev.pane, .int .i64 ev.index, .int .i64 ev.offset, .int .i64 ev.tick, .int .i64 ev.number, .int .i64 ev.flag, .string s, .string ev.text, .string ev.layout, .string ev.visible, .bool ev.zoom]) (by simp [results, Tryz.results35, go_sem]) rfl ?_
  exact ⟨rfl, ((Below.refl _ _).alloc (Nat.le_refl _) _).alloc (by simp) _⟩

set_option maxHeartbeats 1000000 in
theorem reads_qP (ev : Ev) (s : ByteArray) (hs : s.size ≤ 1048576) (w : World) : Calls Tryz.prog 35 #[.agg ev.vals, .int .u8 80, .string s] w fun e w' => e = .returned (.agg (Ch.rd .qP s.data.toList ev).vals) ∧ Below w.heap.size w w' := by
  have HS : Hid (RdSt w ((w.alloc (.cells ev.vals 28)).alloc (.cells (Ev.zero 0).vals 28)) ev) := RdSt.start w ev
  have hrd : Ch.rd .qP s.data.toList ev = { ev with layout := s } := rfl
  rw [hrd]
  clear hrd
  have hgoal : ({ ev with layout := s } : Ev).vals = #[.int .i64 ev.kind, .int .i64 ev.session, .int .i64 ev.window, .int .i64 ev.pane, .int .i64 ev.index, .int .i64 ev.offset, .int .i64 ev.tick, .int .i64 ev.number, .int .i64 ev.flag, .string ev.name, .string ev.text, .string s, .string ev.visible, .bool ev.zoom] := rfl
  rw [hgoal]
  have x0 : ev.vals[0]? = some (.int .i64 ev.kind) := rfl; have x1 : ev.vals[1]? = some (.int .i64 ev.session) := rfl; have x2 : ev.vals[2]? = some (.int .i64 ev.window) := rfl; have x3 : ev.vals[3]? = some (.int .i64 ev.pane) := rfl; have x4 : ev.vals[4]? = some (.int .i64 ev.index) := rfl; have x5 : ev.vals[5]? = some (.int .i64 ev.offset) := rfl; have x6 : ev.vals[6]? = some (.int .i64 ev.tick) := rfl; have x7 : ev.vals[7]? = some (.int .i64 ev.number) := rfl; have x8 : ev.vals[8]? = some (.int .i64 ev.flag) := rfl; have x9 : ev.vals[9]? = some (.string ev.name) := rfl; have x10 : ev.vals[10]? = some (.string ev.text) := rfl; have x11 : ev.vals[11]? = some (.string ev.layout) := rfl; have x12 : ev.vals[12]? = some (.string ev.visible) := rfl; have x13 : ev.vals[13]? = some (.bool ev.zoom) := rfl
  have z0 : ∀ h : 0 < ev.vals.size, ev.vals[0] = .int .i64 ev.kind := fun _ => rfl; have z1 : ∀ h : 1 < ev.vals.size, ev.vals[1] = .int .i64 ev.session := fun _ => rfl; have z2 : ∀ h : 2 < ev.vals.size, ev.vals[2] = .int .i64 ev.window := fun _ => rfl; have z3 : ∀ h : 3 < ev.vals.size, ev.vals[3] = .int .i64 ev.pane := fun _ => rfl; have z4 : ∀ h : 4 < ev.vals.size, ev.vals[4] = .int .i64 ev.index := fun _ => rfl; have z5 : ∀ h : 5 < ev.vals.size, ev.vals[5] = .int .i64 ev.offset := fun _ => rfl; have z6 : ∀ h : 6 < ev.vals.size, ev.vals[6] = .int .i64 ev.tick := fun _ => rfl; have z7 : ∀ h : 7 < ev.vals.size, ev.vals[7] = .int .i64 ev.number := fun _ => rfl; have z8 : ∀ h : 8 < ev.vals.size, ev.vals[8] = .int .i64 ev.flag := fun _ => rfl; have z9 : ∀ h : 9 < ev.vals.size, ev.vals[9] = .string ev.name := fun _ => rfl; have z10 : ∀ h : 10 < ev.vals.size, ev.vals[10] = .string ev.text := fun _ => rfl; have z11 : ∀ h : 11 < ev.vals.size, ev.vals[11] = .string ev.layout := fun _ => rfl; have z12 : ∀ h : 12 < ev.vals.size, ev.vals[12] = .string ev.visible := fun _ => rfl; have z13 : ∀ h : 13 < ev.vals.size, ev.vals[13] = .bool ev.zoom := fun _ => rfl
  have xs : ev.vals.size = 14 := rfl
  clear hgoal
  unfold Ev.zero at HS
  go_enter Tryz.func35, Tryz.ntmps35
  go_wp2
  refine bodyPost_ret (v := .agg #[.int .i64 ev.kind, .int .i64 ev.session, .int .i64 ev.window, .int .i64 ev.pane, .int .i64 ev.index, .int .i64 ev.offset, .int .i64 ev.tick, .int .i64 ev.number, .int .i64 ev.flag, .string ev.name, .string ev.text, .string s, .string ev.visible, .bool ev.zoom]) (by simp [results, Tryz.results35, go_sem]) rfl ?_
  exact ⟨rfl, ((Below.refl _ _).alloc (Nat.le_refl _) _).alloc (by simp) _⟩

set_option maxHeartbeats 1000000 in
theorem reads_qV (ev : Ev) (s : ByteArray) (hs : s.size ≤ 1048576) (w : World) : Calls Tryz.prog 35 #[.agg ev.vals, .int .u8 86, .string s] w fun e w' => e = .returned (.agg (Ch.rd .qV s.data.toList ev).vals) ∧ Below w.heap.size w w' := by
  have HS : Hid (RdSt w ((w.alloc (.cells ev.vals 28)).alloc (.cells (Ev.zero 0).vals 28)) ev) := RdSt.start w ev
  have hrd : Ch.rd .qV s.data.toList ev = { ev with visible := s } := rfl
  rw [hrd]
  clear hrd
  have hgoal : ({ ev with visible := s } : Ev).vals = #[.int .i64 ev.kind, .int .i64 ev.session, .int .i64 ev.window, .int .i64 ev.pane, .int .i64 ev.index, .int .i64 ev.offset, .int .i64 ev.tick, .int .i64 ev.number, .int .i64 ev.flag, .string ev.name, .string ev.text, .string ev.layout, .string s, .bool ev.zoom] := rfl
  rw [hgoal]
  have x0 : ev.vals[0]? = some (.int .i64 ev.kind) := rfl; have x1 : ev.vals[1]? = some (.int .i64 ev.session) := rfl; have x2 : ev.vals[2]? = some (.int .i64 ev.window) := rfl; have x3 : ev.vals[3]? = some (.int .i64 ev.pane) := rfl; have x4 : ev.vals[4]? = some (.int .i64 ev.index) := rfl; have x5 : ev.vals[5]? = some (.int .i64 ev.offset) := rfl; have x6 : ev.vals[6]? = some (.int .i64 ev.tick) := rfl; have x7 : ev.vals[7]? = some (.int .i64 ev.number) := rfl; have x8 : ev.vals[8]? = some (.int .i64 ev.flag) := rfl; have x9 : ev.vals[9]? = some (.string ev.name) := rfl; have x10 : ev.vals[10]? = some (.string ev.text) := rfl; have x11 : ev.vals[11]? = some (.string ev.layout) := rfl; have x12 : ev.vals[12]? = some (.string ev.visible) := rfl; have x13 : ev.vals[13]? = some (.bool ev.zoom) := rfl
  have z0 : ∀ h : 0 < ev.vals.size, ev.vals[0] = .int .i64 ev.kind := fun _ => rfl; have z1 : ∀ h : 1 < ev.vals.size, ev.vals[1] = .int .i64 ev.session := fun _ => rfl; have z2 : ∀ h : 2 < ev.vals.size, ev.vals[2] = .int .i64 ev.window := fun _ => rfl; have z3 : ∀ h : 3 < ev.vals.size, ev.vals[3] = .int .i64 ev.pane := fun _ => rfl; have z4 : ∀ h : 4 < ev.vals.size, ev.vals[4] = .int .i64 ev.index := fun _ => rfl; have z5 : ∀ h : 5 < ev.vals.size, ev.vals[5] = .int .i64 ev.offset := fun _ => rfl; have z6 : ∀ h : 6 < ev.vals.size, ev.vals[6] = .int .i64 ev.tick := fun _ => rfl; have z7 : ∀ h : 7 < ev.vals.size, ev.vals[7] = .int .i64 ev.number := fun _ => rfl; have z8 : ∀ h : 8 < ev.vals.size, ev.vals[8] = .int .i64 ev.flag := fun _ => rfl; have z9 : ∀ h : 9 < ev.vals.size, ev.vals[9] = .string ev.name := fun _ => rfl; have z10 : ∀ h : 10 < ev.vals.size, ev.vals[10] = .string ev.text := fun _ => rfl; have z11 : ∀ h : 11 < ev.vals.size, ev.vals[11] = .string ev.layout := fun _ => rfl; have z12 : ∀ h : 12 < ev.vals.size, ev.vals[12] = .string ev.visible := fun _ => rfl; have z13 : ∀ h : 13 < ev.vals.size, ev.vals[13] = .bool ev.zoom := fun _ => rfl
  have xs : ev.vals.size = 14 := rfl
  clear hgoal
  unfold Ev.zero at HS
  go_enter Tryz.func35, Tryz.ntmps35
  go_wp2
  refine bodyPost_ret (v := .agg #[.int .i64 ev.kind, .int .i64 ev.session, .int .i64 ev.window, .int .i64 ev.pane, .int .i64 ev.index, .int .i64 ev.offset, .int .i64 ev.tick, .int .i64 ev.number, .int .i64 ev.flag, .string ev.name, .string ev.text, .string ev.layout, .string s, .bool ev.zoom]) (by simp [results, Tryz.results35, go_sem]) rfl ?_
  exact ⟨rfl, ((Below.refl _ _).alloc (Nat.le_refl _) _).alloc (by simp) _⟩

set_option maxHeartbeats 1000000 in
theorem reads_qz (ev : Ev) (s : ByteArray) (hs : s.size ≤ 1048576) (w : World) : Calls Tryz.prog 35 #[.agg ev.vals, .int .u8 122, .string s] w fun e w' => e = .returned (.agg (Ch.rd .qz s.data.toList ev).vals) ∧ Below w.heap.size w w' := by
  have HS : Hid (RdSt w ((w.alloc (.cells ev.vals 28)).alloc (.cells (Ev.zero 0).vals 28)) ev) := RdSt.start w ev
  obtain ⟨v, hv⟩ : ∃ v, decide (s.data.toList = [90]) = v := ⟨_, rfl⟩
  have hrd : Ch.rd .qz s.data.toList ev = { ev with zoom := v } := by rw [← hv]; rfl
  rw [hrd]
  have hz : (s.toList == [90]) = v := by
    rw [← hv, Lib.toList_data, Bool.eq_iff_iff]
    simp
  clear hrd hv
  have hgoal : ({ ev with zoom := v } : Ev).vals = #[.int .i64 ev.kind, .int .i64 ev.session, .int .i64 ev.window, .int .i64 ev.pane, .int .i64 ev.index, .int .i64 ev.offset, .int .i64 ev.tick, .int .i64 ev.number, .int .i64 ev.flag, .string ev.name, .string ev.text, .string ev.layout, .string ev.visible, .bool v] := rfl
  rw [hgoal]
  have x0 : ev.vals[0]? = some (.int .i64 ev.kind) := rfl; have x1 : ev.vals[1]? = some (.int .i64 ev.session) := rfl; have x2 : ev.vals[2]? = some (.int .i64 ev.window) := rfl; have x3 : ev.vals[3]? = some (.int .i64 ev.pane) := rfl; have x4 : ev.vals[4]? = some (.int .i64 ev.index) := rfl; have x5 : ev.vals[5]? = some (.int .i64 ev.offset) := rfl; have x6 : ev.vals[6]? = some (.int .i64 ev.tick) := rfl; have x7 : ev.vals[7]? = some (.int .i64 ev.number) := rfl; have x8 : ev.vals[8]? = some (.int .i64 ev.flag) := rfl; have x9 : ev.vals[9]? = some (.string ev.name) := rfl; have x10 : ev.vals[10]? = some (.string ev.text) := rfl; have x11 : ev.vals[11]? = some (.string ev.layout) := rfl; have x12 : ev.vals[12]? = some (.string ev.visible) := rfl; have x13 : ev.vals[13]? = some (.bool ev.zoom) := rfl
  have z0 : ∀ h : 0 < ev.vals.size, ev.vals[0] = .int .i64 ev.kind := fun _ => rfl; have z1 : ∀ h : 1 < ev.vals.size, ev.vals[1] = .int .i64 ev.session := fun _ => rfl; have z2 : ∀ h : 2 < ev.vals.size, ev.vals[2] = .int .i64 ev.window := fun _ => rfl; have z3 : ∀ h : 3 < ev.vals.size, ev.vals[3] = .int .i64 ev.pane := fun _ => rfl; have z4 : ∀ h : 4 < ev.vals.size, ev.vals[4] = .int .i64 ev.index := fun _ => rfl; have z5 : ∀ h : 5 < ev.vals.size, ev.vals[5] = .int .i64 ev.offset := fun _ => rfl; have z6 : ∀ h : 6 < ev.vals.size, ev.vals[6] = .int .i64 ev.tick := fun _ => rfl; have z7 : ∀ h : 7 < ev.vals.size, ev.vals[7] = .int .i64 ev.number := fun _ => rfl; have z8 : ∀ h : 8 < ev.vals.size, ev.vals[8] = .int .i64 ev.flag := fun _ => rfl; have z9 : ∀ h : 9 < ev.vals.size, ev.vals[9] = .string ev.name := fun _ => rfl; have z10 : ∀ h : 10 < ev.vals.size, ev.vals[10] = .string ev.text := fun _ => rfl; have z11 : ∀ h : 11 < ev.vals.size, ev.vals[11] = .string ev.layout := fun _ => rfl; have z12 : ∀ h : 12 < ev.vals.size, ev.vals[12] = .string ev.visible := fun _ => rfl; have z13 : ∀ h : 13 < ev.vals.size, ev.vals[13] = .bool ev.zoom := fun _ => rfl
  have xs : ev.vals.size = 14 := rfl
  clear hgoal
  unfold Ev.zero at HS
  go_enter Tryz.func35, Tryz.ntmps35
  go_wp2
  refine bodyPost_ret (v := .agg #[.int .i64 ev.kind, .int .i64 ev.session, .int .i64 ev.window, .int .i64 ev.pane, .int .i64 ev.index, .int .i64 ev.offset, .int .i64 ev.tick, .int .i64 ev.number, .int .i64 ev.flag, .string ev.name, .string ev.text, .string ev.layout, .string ev.visible, .bool v]) (by simp [results, Tryz.results35, go_sem]) rfl ?_
  exact ⟨rfl, ((Below.refl _ _).alloc (Nat.le_refl _) _).alloc (by simp) _⟩

set_option maxHeartbeats 1000000 in
theorem reads_qd (ev : Ev) (s : ByteArray) (hs : s.size ≤ 1048576) (w : World) : Calls Tryz.prog 35 #[.agg ev.vals, .int .u8 100, .string s] w fun e w' => e = .returned (.agg (Ch.rd .qd s.data.toList ev).vals) ∧ Below w.heap.size w w' := by
  have HS : Hid (RdSt w ((w.alloc (.cells ev.vals 28)).alloc (.cells (Ev.zero 0).vals 28)) ev) := RdSt.start w ev
  have HC : Hid (∀ W, Calls Tryz.prog 51 #[.string s] W fun e w' => (∃ b, e = .returned (.tuple #[.string (str ((unesc s.data.toList).getD [])), .int .i64 b])) ∧ Below W.heap.size W w') := unesc_get s hs
  obtain ⟨v, hv⟩ : ∃ v, str ((unesc s.data.toList).getD []) = v := ⟨_, rfl⟩
  have hrd : Ch.rd .qd s.data.toList ev = { ev with text := v } := by rw [← hv]; rfl
  rw [hrd]
  rw [hv] at HC
  clear hrd hv
  unfold Ev.vals Ev.zero at HS
  unfold Ev.vals
  go_enter Tryz.func35, Tryz.ntmps35
  go_wp2_with (go_at_call 51; refine (HC.out _).mono ?_; rintro e w1 ⟨⟨b, rfl⟩, hb1⟩; have HS1 : Hid (RdSt w w1 ev) := HS.out.below hb1; obtain ⟨q0, q1, q2, q3, q4, q5, q6, q7, q8, q9, q10, q11, q12, q13⟩ := HS1.out.e.cells; obtain ⟨f0, f1, f2, f3, f4, f5, f6, f7, f8, f9, f10, f11, f12, f13⟩ := HS1.out.e.frees; obtain ⟨r0, r1, r2, r3, r4, r5, r6, r7, r8, r9, r10, r11, r12, r13⟩ := HS1.out.r.zcells; obtain ⟨g0, g1, g2, g3, g4, g5, g6, g7, g8, g9, g10, g11, g12, g13⟩ := HS1.out.r.frees; clear hb1)
  refine bodyPost_ret (v := .agg #[.int .i64 ev.kind, .int .i64 ev.session, .int .i64 ev.window, .int .i64 ev.pane, .int .i64 ev.index, .int .i64 ev.offset, .int .i64 ev.tick, .int .i64 ev.number, .int .i64 ev.flag, .string ev.name, .string v, .string ev.layout, .string ev.visible, .bool ev.zoom]) (by simp [results, Tryz.results35, go_sem, r0, r1, r2, r3, r4, r5, r6, r7, r8, r9, r10, r11, r12, r13]) rfl ?_
  exact ⟨rfl, below14 (HS1.out.set 10 (.string v) (ev' := { ev with text := v }) rfl).b (by omega) _ _ _ _ _ _ _ _ _ _ _ _ _ _⟩

set_option maxHeartbeats 1000000 in
theorem reads_qm (ev : Ev) (s : ByteArray) (hs : s.size ≤ 1048576) (w : World) : Calls Tryz.prog 35 #[.agg ev.vals, .int .u8 109, .string s] w fun e w' => e = .returned (.agg (Ch.rd .qm s.data.toList ev).vals) ∧ Below w.heap.size w w' := by
  have HS : Hid (RdSt w ((w.alloc (.cells ev.vals 28)).alloc (.cells (Ev.zero 0).vals 28)) ev) := RdSt.start w ev
  have HC : Hid (∀ W, Calls Tryz.prog 51 #[.string s] W fun e w' => (∃ b, e = .returned (.tuple #[.string (str ((unesc s.data.toList).getD [])), .int .i64 b])) ∧ Below W.heap.size W w') := unesc_get s hs
  obtain ⟨v, hv⟩ : ∃ v, str ((unesc s.data.toList).getD []) = v := ⟨_, rfl⟩
  have hrd : Ch.rd .qm s.data.toList ev = { ev with text := v } := by rw [← hv]; rfl
  rw [hrd]
  rw [hv] at HC
  clear hrd hv
  unfold Ev.vals Ev.zero at HS
  unfold Ev.vals
  go_enter Tryz.func35, Tryz.ntmps35
  go_wp2_with (go_at_call 51; refine (HC.out _).mono ?_; rintro e w1 ⟨⟨b, rfl⟩, hb1⟩; have HS1 : Hid (RdSt w w1 ev) := HS.out.below hb1; obtain ⟨q0, q1, q2, q3, q4, q5, q6, q7, q8, q9, q10, q11, q12, q13⟩ := HS1.out.e.cells; obtain ⟨f0, f1, f2, f3, f4, f5, f6, f7, f8, f9, f10, f11, f12, f13⟩ := HS1.out.e.frees; obtain ⟨r0, r1, r2, r3, r4, r5, r6, r7, r8, r9, r10, r11, r12, r13⟩ := HS1.out.r.zcells; obtain ⟨g0, g1, g2, g3, g4, g5, g6, g7, g8, g9, g10, g11, g12, g13⟩ := HS1.out.r.frees; clear hb1)
  refine bodyPost_ret (v := .agg #[.int .i64 ev.kind, .int .i64 ev.session, .int .i64 ev.window, .int .i64 ev.pane, .int .i64 ev.index, .int .i64 ev.offset, .int .i64 ev.tick, .int .i64 ev.number, .int .i64 ev.flag, .string ev.name, .string v, .string ev.layout, .string ev.visible, .bool ev.zoom]) (by simp [results, Tryz.results35, go_sem, r0, r1, r2, r3, r4, r5, r6, r7, r8, r9, r10, r11, r12, r13]) rfl ?_
  exact ⟨rfl, below14 (HS1.out.set 10 (.string v) (ev' := { ev with text := v }) rfl).b (by omega) _ _ _ _ _ _ _ _ _ _ _ _ _ _⟩

set_option maxHeartbeats 1000000 in
theorem reads_qx (ev : Ev) (s : ByteArray) (hs : s.size ≤ 1048576) (w : World) : Calls Tryz.prog 35 #[.agg ev.vals, .int .u8 120, .string s] w fun e w' => e = .returned (.agg (Ch.rd .qx s.data.toList ev).vals) ∧ Below w.heap.size w w' := by
  have HS : Hid (RdSt w ((w.alloc (.cells ev.vals 28)).alloc (.cells (Ev.zero 0).vals 28)) ev) := RdSt.start w ev
  have HC : Hid (∀ W, Calls Tryz.prog 51 #[.string s] W fun e w' => (∃ b, e = .returned (.tuple #[.string (str ((unesc s.data.toList).getD [])), .int .i64 b])) ∧ Below W.heap.size W w') := unesc_get s hs
  obtain ⟨v, hv⟩ : ∃ v, str ((unesc s.data.toList).getD []) = v := ⟨_, rfl⟩
  have hrd : Ch.rd .qx s.data.toList ev = { ev with text := v } := by rw [← hv]; rfl
  rw [hrd]
  rw [hv] at HC
  clear hrd hv
  unfold Ev.vals Ev.zero at HS
  unfold Ev.vals
  go_enter Tryz.func35, Tryz.ntmps35
  go_wp2_with (go_at_call 51; refine (HC.out _).mono ?_; rintro e w1 ⟨⟨b, rfl⟩, hb1⟩; have HS1 : Hid (RdSt w w1 ev) := HS.out.below hb1; obtain ⟨q0, q1, q2, q3, q4, q5, q6, q7, q8, q9, q10, q11, q12, q13⟩ := HS1.out.e.cells; obtain ⟨f0, f1, f2, f3, f4, f5, f6, f7, f8, f9, f10, f11, f12, f13⟩ := HS1.out.e.frees; obtain ⟨r0, r1, r2, r3, r4, r5, r6, r7, r8, r9, r10, r11, r12, r13⟩ := HS1.out.r.zcells; obtain ⟨g0, g1, g2, g3, g4, g5, g6, g7, g8, g9, g10, g11, g12, g13⟩ := HS1.out.r.frees; clear hb1)
  refine bodyPost_ret (v := .agg #[.int .i64 ev.kind, .int .i64 ev.session, .int .i64 ev.window, .int .i64 ev.pane, .int .i64 ev.index, .int .i64 ev.offset, .int .i64 ev.tick, .int .i64 ev.number, .int .i64 ev.flag, .string ev.name, .string v, .string ev.layout, .string ev.visible, .bool ev.zoom]) (by simp [results, Tryz.results35, go_sem, r0, r1, r2, r3, r4, r5, r6, r7, r8, r9, r10, r11, r12, r13]) rfl ?_
  exact ⟨rfl, below14 (HS1.out.set 10 (.string v) (ev' := { ev with text := v }) rfl).b (by omega) _ _ _ _ _ _ _ _ _ _ _ _ _ _⟩

end Go.Proofs.YtlgkdnmhoboinaaGreatDoor
