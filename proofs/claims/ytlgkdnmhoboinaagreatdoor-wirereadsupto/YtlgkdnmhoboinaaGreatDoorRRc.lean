/-
  The document's reads: a value behind a colon; every letter.
-/
import Derived.Test.YtlgkdnmhoboinaaGreatDoorRRb
import Derived.RegionTactic
import Derived.Deep.RegionWith
import Derived.Deep.DrawnRows
namespace Go.Proofs.YtlgkdnmhoboinaaGreatDoor
open Go.RowKit
set_option linter.unusedVariables false
set_option maxRecDepth 20000

theorem colon_iff (s : ByteArray) : [58, 32] <+: s.data.toList ↔ 2 ≤ s.size ∧ ((s.extract 0 2).toList == [58, 32]) = true := by
  rw [Lib.toList_data, Lib.extract_from_zero, beq_iff_eq]
  constructor
  · rintro ⟨r, hr⟩
    refine ⟨by rw [← size_data, ← hr]; simp, by rw [← hr]; rfl⟩
  · rintro ⟨_, h⟩
    exact ⟨s.data.toList.drop 2, by rw [← h, List.take_append_drop]⟩

set_option maxHeartbeats 1000000 in
theorem reads_qv (ev : Ev) (s : ByteArray) (hs : s.size ≤ 1048576) (w : World) : Calls Tryz.prog 35 #[.agg ev.vals, .int .u8 118, .string s] w fun e w' => e = .returned (.agg (Ch.rd .qv s.data.toList ev).vals) ∧ Below w.heap.size w w' := by
  have HS : Hid (RdSt w ((w.alloc (.cells ev.vals 28)).alloc (.cells (Ev.zero 0).vals 28)) ev) := RdSt.start w ev
  by_cases hc : [58, 32] <+: s.data.toList
  · obtain ⟨h2, h3⟩ := (colon_iff s).1 hc
    have hrd : Ch.rd .qv s.data.toList ev = { ev with text := str ((unesc (s.data.toList.drop 2)).getD []) } := if_pos hc
    have HC : Hid (∀ W, Calls Tryz.prog 51 #[.string (s.extract 2 s.size)] W fun e w' => (∃ b, e = .returned (.tuple #[.string (str ((unesc (s.data.toList.drop 2)).getD [])), .int .i64 b])) ∧ Below W.heap.size W w') := fun W => by
      have := unesc_get (s.extract 2 s.size) (by rw [← size_data, Lib.extract_to_end, List.length_drop, size_data]; omega) W
      rw [Lib.extract_to_end] at this
      exact this
    obtain ⟨v, hv⟩ : ∃ v, str ((unesc (s.data.toList.drop 2)).getD []) = v := ⟨_, rfl⟩
    rw [hrd]
    rw [hv] at HC ⊢
    have hb2 : (2 : Int) ≤ (s.size : Int) := by omega
    clear hrd hv hc
    unfold Ev.vals Ev.zero at HS
    unfold Ev.vals
    go_enter Tryz.func35, Tryz.ntmps35
    go_wp2_with fail
    refine (HC.out _).mono ?_
    rintro e w1 ⟨⟨b, rfl⟩, hb1⟩
    have HS1 : Hid (RdSt w w1 ev) := HS.out.below hb1
    obtain ⟨q0, q1, q2, q3, q4, q5, q6, q7, q8, q9, q10, q11, q12, q13⟩ := HS1.out.e.cells; obtain ⟨f0, f1, f2, f3, f4, f5, f6, f7, f8, f9, f10, f11, f12, f13⟩ := HS1.out.e.frees; obtain ⟨r0, r1, r2, r3, r4, r5, r6, r7, r8, r9, r10, r11, r12, r13⟩ := HS1.out.r.zcells; obtain ⟨g0, g1, g2, g3, g4, g5, g6, g7, g8, g9, g10, g11, g12, g13⟩ := HS1.out.r.frees
    clear hb1
    go_wp2
    refine bodyPost_ret (v := .agg #[.int .i64 ev.kind, .int .i64 ev.session, .int .i64 ev.window, .int .i64 ev.pane, .int .i64 ev.index, .int .i64 ev.offset, .int .i64 ev.tick, .int .i64 ev.number, .int .i64 ev.flag, .string ev.name, .string v, .string ev.layout, .string ev.visible, .bool ev.zoom]) (by simp [results, Tryz.results35, go_sem, r0, r1, r2, r3, r4, r5, r6, r7, r8, r9, r10, r11, r12, r13]) rfl ?_
    exact ⟨rfl, below14 (HS1.out.set 10 (.string v) (ev' := { ev with text := v }) rfl).b (by omega) _ _ _ _ _ _ _ _ _ _ _ _ _ _⟩
  · have hrd : Ch.rd .qv s.data.toList ev = ev := if_neg hc
    have hno : ¬ (2 ≤ s.size ∧ ((s.extract 0 2).toList == [58, 32]) = true) := fun h => hc ((colon_iff s).2 h)
    rw [hrd]
    have hgoal : ev.vals = #[.int .i64 ev.kind, .int .i64 ev.session, .int .i64 ev.window, .int .i64 ev.pane, .int .i64 ev.index, .int .i64 ev.offset, .int .i64 ev.tick, .int .i64 ev.number, .int .i64 ev.flag, .string ev.name, .string ev.text, .string ev.layout, .string ev.visible, .bool ev.zoom] := rfl
    clear hrd hc
    by_cases h2 : (2 : Int) ≤ (s.size : Int)
    · have h3 : ((s.extract 0 2).toList == [58, 32]) = false := Bool.eq_false_iff.2 fun h => hno ⟨by omega, h⟩
      clear hno
      have x0 : ev.vals[0]? = some (.int .i64 ev.kind) := rfl; have x1 : ev.vals[1]? = some (.int .i64 ev.session) := rfl; have x2 : ev.vals[2]? = some (.int .i64 ev.window) := rfl; have x3 : ev.vals[3]? = some (.int .i64 ev.pane) := rfl; have x4 : ev.vals[4]? = some (.int .i64 ev.index) := rfl; have x5 : ev.vals[5]? = some (.int .i64 ev.offset) := rfl; have x6 : ev.vals[6]? = some (.int .i64 ev.tick) := rfl; have x7 : ev.vals[7]? = some (.int .i64 ev.number) := rfl; have x8 : ev.vals[8]? = some (.int .i64 ev.flag) := rfl; have x9 : ev.vals[9]? = some (.string ev.name) := rfl; have x10 : ev.vals[10]? = some (.string ev.text) := rfl; have x11 : ev.vals[11]? = some (.string ev.layout) := rfl; have x12 : ev.vals[12]? = some (.string ev.visible) := rfl; have x13 : ev.vals[13]? = some (.bool ev.zoom) := rfl
      have z0 : ∀ h : 0 < ev.vals.size, ev.vals[0] = .int .i64 ev.kind := fun _ => rfl; have z1 : ∀ h : 1 < ev.vals.size, ev.vals[1] = .int .i64 ev.session := fun _ => rfl; have z2 : ∀ h : 2 < ev.vals.size, ev.vals[2] = .int .i64 ev.window := fun _ => rfl; have z3 : ∀ h : 3 < ev.vals.size, ev.vals[3] = .int .i64 ev.pane := fun _ => rfl; have z4 : ∀ h : 4 < ev.vals.size, ev.vals[4] = .int .i64 ev.index := fun _ => rfl; have z5 : ∀ h : 5 < ev.vals.size, ev.vals[5] = .int .i64 ev.offset := fun _ => rfl; have z6 : ∀ h : 6 < ev.vals.size, ev.vals[6] = .int .i64 ev.tick := fun _ => rfl; have z7 : ∀ h : 7 < ev.vals.size, ev.vals[7] = .int .i64 ev.number := fun _ => rfl; have z8 : ∀ h : 8 < ev.vals.size, ev.vals[8] = .int .i64 ev.flag := fun _ => rfl; have z9 : ∀ h : 9 < ev.vals.size, ev.vals[9] = .string ev.name := fun _ => rfl; have z10 : ∀ h : 10 < ev.vals.size, ev.vals[10] = .string ev.text := fun _ => rfl; have z11 : ∀ h : 11 < ev.vals.size, ev.vals[11] = .string ev.layout := fun _ => rfl; have z12 : ∀ h : 12 < ev.vals.size, ev.vals[12] = .string ev.visible := fun _ => rfl; have z13 : ∀ h : 13 < ev.vals.size, ev.vals[13] = .bool ev.zoom := fun _ => rfl
      have xs : ev.vals.size = 14 := rfl
      have HG : Hid (ev.vals = #[.int .i64 ev.kind, .int .i64 ev.session, .int .i64 ev.window, .int .i64 ev.pane, .int .i64 ev.index, .int .i64 ev.offset, .int .i64 ev.tick, .int .i64 ev.number, .int .i64 ev.flag, .string ev.name, .string ev.text, .string ev.layout, .string ev.visible, .bool ev.zoom]) := hgoal
      clear hgoal
      unfold Ev.zero at HS
      go_enter Tryz.func35, Tryz.ntmps35
      go_wp2
      refine bodyPost_ret (v := .agg #[.int .i64 ev.kind, .int .i64 ev.session, .int .i64 ev.window, .int .i64 ev.pane, .int .i64 ev.index, .int .i64 ev.offset, .int .i64 ev.tick, .int .i64 ev.number, .int .i64 ev.flag, .string ev.name, .string ev.text, .string ev.layout, .string ev.visible, .bool ev.zoom]) (by simp [results, Tryz.results35, go_sem]) rfl ?_
      rw [HG.out]
      exact ⟨rfl, ((Below.refl _ _).alloc (Nat.le_refl _) _).alloc (by simp) _⟩
    · clear hno
      have x0 : ev.vals[0]? = some (.int .i64 ev.kind) := rfl; have x1 : ev.vals[1]? = some (.int .i64 ev.session) := rfl; have x2 : ev.vals[2]? = some (.int .i64 ev.window) := rfl; have x3 : ev.vals[3]? = some (.int .i64 ev.pane) := rfl; have x4 : ev.vals[4]? = some (.int .i64 ev.index) := rfl; have x5 : ev.vals[5]? = some (.int .i64 ev.offset) := rfl; have x6 : ev.vals[6]? = some (.int .i64 ev.tick) := rfl; have x7 : ev.vals[7]? = some (.int .i64 ev.number) := rfl; have x8 : ev.vals[8]? = some (.int .i64 ev.flag) := rfl; have x9 : ev.vals[9]? = some (.string ev.name) := rfl; have x10 : ev.vals[10]? = some (.string ev.text) := rfl; have x11 : ev.vals[11]? = some (.string ev.layout) := rfl; have x12 : ev.vals[12]? = some (.string ev.visible) := rfl; have x13 : ev.vals[13]? = some (.bool ev.zoom) := rfl
      have z0 : ∀ h : 0 < ev.vals.size, ev.vals[0] = .int .i64 ev.kind := fun _ => rfl; have z1 : ∀ h : 1 < ev.vals.size, ev.vals[1] = .int .i64 ev.session := fun _ => rfl; have z2 : ∀ h : 2 < ev.vals.size, ev.vals[2] = .int .i64 ev.window := fun _ => rfl; have z3 : ∀ h : 3 < ev.vals.size, ev.vals[3] = .int .i64 ev.pane := fun _ => rfl; have z4 : ∀ h : 4 < ev.vals.size, ev.vals[4] = .int .i64 ev.index := fun _ => rfl; have z5 : ∀ h : 5 < ev.vals.size, ev.vals[5] = .int .i64 ev.offset := fun _ => rfl; have z6 : ∀ h : 6 < ev.vals.size, ev.vals[6] = .int .i64 ev.tick := fun _ => rfl; have z7 : ∀ h : 7 < ev.vals.size, ev.vals[7] = .int .i64 ev.number := fun _ => rfl; have z8 : ∀ h : 8 < ev.vals.size, ev.vals[8] = .int .i64 ev.flag := fun _ => rfl; have z9 : ∀ h : 9 < ev.vals.size, ev.vals[9] = .string ev.name := fun _ => rfl; have z10 : ∀ h : 10 < ev.vals.size, ev.vals[10] = .string ev.text := fun _ => rfl; have z11 : ∀ h : 11 < ev.vals.size, ev.vals[11] = .string ev.layout := fun _ => rfl; have z12 : ∀ h : 12 < ev.vals.size, ev.vals[12] = .string ev.visible := fun _ => rfl; have z13 : ∀ h : 13 < ev.vals.size, ev.vals[13] = .bool ev.zoom := fun _ => rfl
      have xs : ev.vals.size = 14 := rfl
      have HG : Hid (ev.vals = #[.int .i64 ev.kind, .int .i64 ev.session, .int .i64 ev.window, .int .i64 ev.pane, .int .i64 ev.index, .int .i64 ev.offset, .int .i64 ev.tick, .int .i64 ev.number, .int .i64 ev.flag, .string ev.name, .string ev.text, .string ev.layout, .string ev.visible, .bool ev.zoom]) := hgoal
      clear hgoal
      unfold Ev.zero at HS
      go_enter Tryz.func35, Tryz.ntmps35
      go_wp2
      refine bodyPost_ret (v := .agg #[.int .i64 ev.kind, .int .i64 ev.session, .int .i64 ev.window, .int .i64 ev.pane, .int .i64 ev.index, .int .i64 ev.offset, .int .i64 ev.tick, .int .i64 ev.number, .int .i64 ev.flag, .string ev.name, .string ev.text, .string ev.layout, .string ev.visible, .bool ev.zoom]) (by simp [results, Tryz.results35, go_sem]) rfl ?_
      rw [HG.out]
      exact ⟨rfl, ((Below.refl _ _).alloc (Nat.le_refl _) _).alloc (by simp) _⟩

theorem reads_any (c : Ch) (hc : c ≠ .qc) (ev : Ev) (s : ByteArray) (hs : s.size ≤ 1048576) (w : World) : Calls Tryz.prog 35 #[.agg ev.vals, .int .u8 (c.byte.toNat : Int), .string s] w fun e w' => e = .returned (.agg (c.rd s.data.toList ev).vals) ∧ Below w.heap.size w w' := by
  cases c with
  | qt => exact reads_qt ev s hs w
  | qn => exact reads_qn ev s hs w
  | qf => exact reads_qf ev s hs w
  | qo => exact reads_qo ev s hs w
  | qi => exact reads_qi ev s hs w
  | qs => exact reads_qs ev s hs w
  | qw => exact reads_qw ev s hs w
  | qp => exact reads_qp ev s hs w
  | qN => exact reads_qN ev s hs w
  | qW => exact reads_qW ev s hs w
  | qP => exact reads_qP ev s hs w
  | qV => exact reads_qV ev s hs w
  | qz => exact reads_qz ev s hs w
  | qd => exact reads_qd ev s hs w
  | qv => exact reads_qv ev s hs w
  | qm => exact reads_qm ev s hs w
  | qx => exact reads_qx ev s hs w
  | qc => exact absurd rfl hc

end Go.Proofs.YtlgkdnmhoboinaaGreatDoor
