/-
  The document's reads: the event with one thing more.
-/
import Derived.Test.YtlgkdnmhoboinaaGreatDoorRCu
import Derived.Test.YtlgkdnmhoboinaaGreatDoorWRowD
import Derived.WalkKit
namespace Go.Proofs.YtlgkdnmhoboinaaGreatDoor
open Go.RowKit
set_option linter.unusedVariables false
set_option maxRecDepth 20000

/-- What reads has: the event, and its answer's block. -/
structure RdSt (w wr : World) (ev : Ev) : Prop where
  e : EvAt wr w.heap.size ev
  r : EvAt wr (w.heap.size + 1) (Ev.zero 0)
  b : Below w.heap.size w wr
theorem RdSt.below {w wr wr' : World} {ev : Ev} (h : RdSt w wr ev) (hb : Below wr.heap.size wr wr') : RdSt w wr' ev := ⟨h.e.below hb h.e.lt, h.r.below hb h.r.lt, below_step h.b hb⟩
theorem RdSt.drew {w wr : World} {ev : Ev} (h : RdSt w wr ev) : RdSt w wr.drew ev := ⟨h.e, h.r, h.b.drew⟩
theorem RdSt.set {w wr : World} {ev ev' : Ev} (h : RdSt w wr ev) (o : Nat) (v : Value) (hv : ev.vals.setIfInBounds o v = ev'.vals) : RdSt w (wr.setCell ⟨w.heap.size, o, none⟩ v) ev' :=
  ⟨h.e.set o v hv, h.r.grown (grownBy_setCell _ _ _ _) (by simp only [ne_eq, Option.some.injEq]; omega), h.b.setCell (show w.heap.size ≤ w.heap.size by omega) _⟩
theorem RdSt.start (w : World) (ev : Ev) : RdSt w ((w.alloc (.cells ev.vals 28)).alloc (.cells (Ev.zero 0).vals 28)) ev := by
  have s1 : (w.alloc (.cells ev.vals 28)).heap.size = w.heap.size + 1 := by simp
  refine ⟨(EvAt.new w ev).alloc _, ?_, ?_⟩
  · rw [← s1]; exact EvAt.new _ (Ev.zero 0)
  · exact ((Below.refl _ _).alloc (Nat.le_refl _) _).alloc (by rw [s1]; omega) _

set_option maxHeartbeats 1000000 in
theorem reads_qt (ev : Ev) (s : ByteArray) (hs : s.size ≤ 1048576) (w : World) : Calls Tryz.prog 35 #[.agg ev.vals, .int .u8 116, .string s] w fun e w' => e = .returned (.agg (Ch.rd .qt s.data.toList ev).vals) ∧ Below w.heap.size w w' := by
  have HS : Hid (RdSt w ((w.alloc (.cells ev.vals 28)).alloc (.cells (Ev.zero 0).vals 28)) ev) := RdSt.start w ev
  have HC : Hid (∀ W, Calls Tryz.prog 52 #[.string s] W fun e w' => (∃ b, e = .returned (.tuple #[.int .i64 ((numOf s.data.toList).getD 0), .bool b])) ∧ Below W.heap.size W w') := number_get s (by omega)
  obtain ⟨v, hv⟩ : ∃ v, (numOf s.data.toList).getD 0 = v := ⟨_, rfl⟩
  have hrd : Ch.rd .qt s.data.toList ev = { ev with tick := v } := by rw [← hv]; rfl
  rw [hrd]
  rw [hv] at HC
  clear hrd hv
  unfold Ev.vals Ev.zero at HS
  unfold Ev.vals
  go_enter Tryz.func35, Tryz.ntmps35
  go_wp2_with (go_at_call 52; refine (HC.out _).mono ?_; rintro e w1 ⟨⟨b, rfl⟩, hb1⟩; have HS1 : Hid (RdSt w w1 ev) := HS.out.below hb1; obtain ⟨q0, q1, q2, q3, q4, q5, q6, q7, q8, q9, q10, q11, q12, q13⟩ := HS1.out.e.cells; obtain ⟨f0, f1, f2, f3, f4, f5, f6, f7, f8, f9, f10, f11, f12, f13⟩ := HS1.out.e.frees; obtain ⟨r0, r1, r2, r3, r4, r5, r6, r7, r8, r9, r10, r11, r12, r13⟩ := HS1.out.r.zcells; obtain ⟨g0, g1, g2, g3, g4, g5, g6, g7, g8, g9, g10, g11, g12, g13⟩ := HS1.out.r.frees; clear hb1)
  refine bodyPost_ret (v := .agg #[.int .i64 ev.kind, .int .i64 ev.session, .int .i64 ev.window, .int .i64 ev.pane, .int .i64 ev.index, .int .i64 ev.offset, .int .i64 v, .int .i64 ev.number, .int .i64 ev.flag, .string ev.name, .string ev.text, .string ev.layout, .string ev.visible, .bool ev.zoom]) (by simp [results, Tryz.results35, go_sem, r0, r1, r2, r3, r4, r5, r6, r7, r8, r9, r10, r11, r12, r13]) rfl ?_
  exact ⟨rfl, below14 (HS1.out.set 6 (.int .i64 v) (ev' := { ev with tick := v }) rfl).b (by omega) _ _ _ _ _ _ _ _ _ _ _ _ _ _⟩

set_option maxHeartbeats 1000000 in
theorem reads_qn (ev : Ev) (s : ByteArray) (hs : s.size ≤ 1048576) (w : World) : Calls Tryz.prog 35 #[.agg ev.vals, .int .u8 110, .string s] w fun e w' => e = .returned (.agg (Ch.rd .qn s.data.toList ev).vals) ∧ Below w.heap.size w w' := by
  have HS : Hid (RdSt w ((w.alloc (.cells ev.vals 28)).alloc (.cells (Ev.zero 0).vals 28)) ev) := RdSt.start w ev
  have HC : Hid (∀ W, Calls Tryz.prog 52 #[.string s] W fun e w' => (∃ b, e = .returned (.tuple #[.int .i64 ((numOf s.data.toList).getD 0), .bool b])) ∧ Below W.heap.size W w') := number_get s (by omega)
  obtain ⟨v, hv⟩ : ∃ v, (numOf s.data.toList).getD 0 = v := ⟨_, rfl⟩
  have hrd : Ch.rd .qn s.data.toList ev = { ev with number := v } := by rw [← hv]; rfl
  rw [hrd]
  rw [hv] at HC
  clear hrd hv
  unfold Ev.vals Ev.zero at HS
  unfold Ev.vals
  go_enter Tryz.func35, Tryz.ntmps35
  go_wp2_with (go_at_call 52; refine (HC.out _).mono ?_; rintro e w1 ⟨⟨b, rfl⟩, hb1⟩; have HS1 : Hid (RdSt w w1 ev) := HS.out.below hb1; obtain ⟨q0, q1, q2, q3, q4, q5, q6, q7, q8, q9, q10, q11, q12, q13⟩ := HS1.out.e.cells; obtain ⟨f0, f1, f2, f3, f4, f5, f6, f7, f8, f9, f10, f11, f12, f13⟩ := HS1.out.e.frees; obtain ⟨r0, r1, r2, r3, r4, r5, r6, r7, r8, r9, r10, r11, r12, r13⟩ := HS1.out.r.zcells; obtain ⟨g0, g1, g2, g3, g4, g5, g6, g7, g8, g9, g10, g11, g12, g13⟩ := HS1.out.r.frees; clear hb1)
  refine bodyPost_ret (v := .agg #[.int .i64 ev.kind, .int .i64 ev.session, .int .i64 ev.window, .int .i64 ev.pane, .int .i64 ev.index, .int .i64 ev.offset, .int .i64 ev.tick, .int .i64 v, .int .i64 ev.flag, .string ev.name, .string ev.text, .string ev.layout, .string ev.visible, .bool ev.zoom]) (by simp [results, Tryz.results35, go_sem, r0, r1, r2, r3, r4, r5, r6, r7, r8, r9, r10, r11, r12, r13]) rfl ?_
  exact ⟨rfl, below14 (HS1.out.set 7 (.int .i64 v) (ev' := { ev with number := v }) rfl).b (by omega) _ _ _ _ _ _ _ _ _ _ _ _ _ _⟩

set_option maxHeartbeats 1000000 in
theorem reads_qf (ev : Ev) (s : ByteArray) (hs : s.size ≤ 1048576) (w : World) : Calls Tryz.prog 35 #[.agg ev.vals, .int .u8 102, .string s] w fun e w' => e = .returned (.agg (Ch.rd .qf s.data.toList ev).vals) ∧ Below w.heap.size w w' := by
  have HS : Hid (RdSt w ((w.alloc (.cells ev.vals 28)).alloc (.cells (Ev.zero 0).vals 28)) ev) := RdSt.start w ev
  have HC : Hid (∀ W, Calls Tryz.prog 52 #[.string s] W fun e w' => (∃ b, e = .returned (.tuple #[.int .i64 ((numOf s.data.toList).getD 0), .bool b])) ∧ Below W.heap.size W w') := number_get s (by omega)
  obtain ⟨v, hv⟩ : ∃ v, (numOf s.data.toList).getD 0 = v := ⟨_, rfl⟩
  have hrd : Ch.rd .qf s.data.toList ev = { ev with flag := v } := by rw [← hv]; rfl
  rw [hrd]
  rw [hv] at HC
  clear hrd hv
  unfold Ev.vals Ev.zero at HS
  unfold Ev.vals
  go_enter Tryz.func35, Tryz.ntmps35
  go_wp2_with (go_at_call 52; refine (HC.out _).mono ?_; rintro e w1 ⟨⟨b, rfl⟩, hb1⟩; have HS1 : Hid (RdSt w w1 ev) := HS.out.below hb1; obtain ⟨q0, q1, q2, q3, q4, q5, q6, q7, q8, q9, q10, q11, q12, q13⟩ := HS1.out.e.cells; obtain ⟨f0, f1, f2, f3, f4, f5, f6, f7, f8, f9, f10, f11, f12, f13⟩ := HS1.out.e.frees; obtain ⟨r0, r1, r2, r3, r4, r5, r6, r7, r8, r9, r10, r11, r12, r13⟩ := HS1.out.r.zcells; obtain ⟨g0, g1, g2, g3, g4, g5, g6, g7, g8, g9, g10, g11, g12, g13⟩ := HS1.out.r.frees; clear hb1)
  refine bodyPost_ret (v := .agg #[.int .i64 ev.kind, .int .i64 ev.session, .int .i64 ev.window, .int .i64 ev.pane, .int .i64 ev.index, .int .i64 ev.offset, .int .i64 ev.tick, .int .i64 ev.number, .int .i64 v, .string ev.name, .string ev.text, .string ev.layout, .string ev.visible, .bool ev.zoom]) (by simp [results, Tryz.results35, go_sem, r0, r1, r2, r3, r4, r5, r6, r7, r8, r9, r10, r11, r12, r13]) rfl ?_
  exact ⟨rfl, below14 (HS1.out.set 8 (.int .i64 v) (ev' := { ev with flag := v }) rfl).b (by omega) _ _ _ _ _ _ _ _ _ _ _ _ _ _⟩

set_option maxHeartbeats 1000000 in
theorem reads_qo (ev : Ev) (s : ByteArray) (hs : s.size ≤ 1048576) (w : World) : Calls Tryz.prog 35 #[.agg ev.vals, .int .u8 111, .string s] w fun e w' => e = .returned (.agg (Ch.rd .qo s.data.toList ev).vals) ∧ Below w.heap.size w w' := by
  have HS : Hid (RdSt w ((w.alloc (.cells ev.vals 28)).alloc (.cells (Ev.zero 0).vals 28)) ev) := RdSt.start w ev
  have HC : Hid (∀ W, Calls Tryz.prog 52 #[.string s] W fun e w' => (∃ b, e = .returned (.tuple #[.int .i64 ((numOf s.data.toList).getD 0), .bool b])) ∧ Below W.heap.size W w') := number_get s (by omega)
  obtain ⟨v, hv⟩ : ∃ v, (numOf s.data.toList).getD 0 = v := ⟨_, rfl⟩
  have hrd : Ch.rd .qo s.data.toList ev = { ev with offset := v } := by rw [← hv]; rfl
  rw [hrd]
  rw [hv] at HC
  clear hrd hv
  unfold Ev.vals Ev.zero at HS
  unfold Ev.vals
  go_enter Tryz.func35, Tryz.ntmps35
  go_wp2_with (go_at_call 52; refine (HC.out _).mono ?_; rintro e w1 ⟨⟨b, rfl⟩, hb1⟩; have HS1 : Hid (RdSt w w1 ev) := HS.out.below hb1; obtain ⟨q0, q1, q2, q3, q4, q5, q6, q7, q8, q9, q10, q11, q12, q13⟩ := HS1.out.e.cells; obtain ⟨f0, f1, f2, f3, f4, f5, f6, f7, f8, f9, f10, f11, f12, f13⟩ := HS1.out.e.frees; obtain ⟨r0, r1, r2, r3, r4, r5, r6, r7, r8, r9, r10, r11, r12, r13⟩ := HS1.out.r.zcells; obtain ⟨g0, g1, g2, g3, g4, g5, g6, g7, g8, g9, g10, g11, g12, g13⟩ := HS1.out.r.frees; clear hb1)
  refine bodyPost_ret (v := .agg #[.int .i64 ev.kind, .int .i64 ev.session, .int .i64 ev.window, .int .i64 ev.pane, .int .i64 ev.index, .int .i64 v, .int .i64 ev.tick, .int .i64 ev.number, .int .i64 ev.flag, .string ev.name, .string ev.text, .string ev.layout, .string ev.visible, .bool ev.zoom]) (by simp [results, Tryz.results35, go_sem, r0, r1, r2, r3, r4, r5, r6, r7, r8, r9, r10, r11, r12, r13]) rfl ?_
  exact ⟨rfl, below14 (HS1.out.set 5 (.int .i64 v) (ev' := { ev with offset := v }) rfl).b (by omega) _ _ _ _ _ _ _ _ _ _ _ _ _ _⟩

set_option maxHeartbeats 1000000 in
theorem reads_qi (ev : Ev) (s : ByteArray) (hs : s.size ≤ 1048576) (w : World) : Calls Tryz.prog 35 #[.agg ev.vals, .int .u8 105, .string s] w fun e w' => e = .returned (.agg (Ch.rd .qi s.data.toList ev).vals) ∧ Below w.heap.size w w' := by
  have HS : Hid (RdSt w ((w.alloc (.cells ev.vals 28)).alloc (.cells (Ev.zero 0).vals 28)) ev) := RdSt.start w ev
  have HC : Hid (∀ W, Calls Tryz.prog 52 #[.string s] W fun e w' => (∃ b, e = .returned (.tuple #[.int .i64 ((numOf s.data.toList).getD 0), .bool b])) ∧ Below W.heap.size W w') := number_get s (by omega)
  obtain ⟨v, hv⟩ : ∃ v, (numOf s.data.toList).getD 0 = v := ⟨_, rfl⟩
  have hrd : Ch.rd .qi s.data.toList ev = { ev with index := v } := by rw [← hv]; rfl
  rw [hrd]
  rw [hv] at HC
  clear hrd hv
  unfold Ev.vals Ev.zero at HS
  unfold Ev.vals
  go_enter Tryz.func35, Tryz.ntmps35
  go_wp2_with (go_at_call 52; refine (HC.out _).mono ?_; rintro e w1 ⟨⟨b, rfl⟩, hb1⟩; have HS1 : Hid (RdSt w w1 ev) := HS.out.below hb1; obtain ⟨q0, q1, q2, q3, q4, q5, q6, q7, q8, q9, q10, q11, q12, q13⟩ := HS1.out.e.cells; obtain ⟨f0, f1, f2, f3, f4, f5, f6, f7, f8, f9, f10, f11, f12, f13⟩ := HS1.out.e.frees; obtain ⟨r0, r1, r2, r3, r4, r5, r6, r7, r8, r9, r10, r11, r12, r13⟩ := HS1.out.r.zcells; obtain ⟨g0, g1, g2, g3, g4, g5, g6, g7, g8, g9, g10, g11, g12, g13⟩ := HS1.out.r.frees; clear hb1)
  refine bodyPost_ret (v := .agg #[.int .i64 ev.kind, .int .i64 ev.session, .int .i64 ev.window, .int .i64 ev.pane, .int .i64 v, .int .i64 ev.offset, .int .i64 ev.tick, .int .i64 ev.number, .int .i64 ev.flag, .string ev.name, .string ev.text, .string ev.layout, .string ev.visible, .bool ev.zoom]) (by simp [results, Tryz.results35, go_sem, r0, r1, r2, r3, r4, r5, r6, r7, r8, r9, r10, r11, r12, r13]) rfl ?_
  exact ⟨rfl, below14 (HS1.out.set 4 (.int .i64 v) (ev' := { ev with index := v }) rfl).b (by omega) _ _ _ _ _ _ _ _ _ _ _ _ _ _⟩

set_option maxHeartbeats 1000000 in
theorem reads_qs (ev : Ev) (s : ByteArray) (hs : s.size ≤ 1048576) (w : World) : Calls Tryz.prog 35 #[.agg ev.vals, .int .u8 115, .string s] w fun e w' => e = .returned (.agg (Ch.rd .qs s.data.toList ev).vals) ∧ Below w.heap.size w w' := by
  have HS : Hid (RdSt w ((w.alloc (.cells ev.vals 28)).alloc (.cells (Ev.zero 0).vals 28)) ev) := RdSt.start w ev
  have HC : Hid (∀ W, Calls Tryz.prog 53 #[.int .u8 36, .string s] W fun e w' => (∃ b, e = .returned (.tuple #[.int .i64 ((idOf 36 s.data.toList).getD 0), .bool b])) ∧ Below W.heap.size W w') := id_get 36 s (by omega)
  obtain ⟨v, hv⟩ : ∃ v, (idOf 36 s.data.toList).getD 0 = v := ⟨_, rfl⟩
  have hrd : Ch.rd .qs s.data.toList ev = { ev with session := v } := by rw [← hv]; rfl
  rw [hrd]
  rw [hv] at HC
  clear hrd hv
  unfold Ev.vals Ev.zero at HS
  unfold Ev.vals
  go_enter Tryz.func35, Tryz.ntmps35
  go_wp2_with (go_at_call 53; refine (HC.out _).mono ?_; rintro e w1 ⟨⟨b, rfl⟩, hb1⟩; have HS1 : Hid (RdSt w w1 ev) := HS.out.below hb1; obtain ⟨q0, q1, q2, q3, q4, q5, q6, q7, q8, q9, q10, q11, q12, q13⟩ := HS1.out.e.cells; obtain ⟨f0, f1, f2, f3, f4, f5, f6, f7, f8, f9, f10, f11, f12, f13⟩ := HS1.out.e.frees; obtain ⟨r0, r1, r2, r3, r4, r5, r6, r7, r8, r9, r10, r11, r12, r13⟩ := HS1.out.r.zcells; obtain ⟨g0, g1, g2, g3, g4, g5, g6, g7, g8, g9, g10, g11, g12, g13⟩ := HS1.out.r.frees; clear hb1)
  refine bodyPost_ret (v := .agg #[.int .i64 ev.kind, .int .i64 v, .int .i64 ev.window, .int .i64 ev.pane, .int .i64 ev.index, .int .i64 ev.offset, .int .i64 ev.tick, .int .i64 ev.number, .int .i64 ev.flag, .string ev.name, .string ev.text, .string ev.layout, .string ev.visible, .bool ev.zoom]) (by simp [results, Tryz.results35, go_sem, r0, r1, r2, r3, r4, r5, r6, r7, r8, r9, r10, r11, r12, r13]) rfl ?_
  exact ⟨rfl, below14 (HS1.out.set 1 (.int .i64 v) (ev' := { ev with session := v }) rfl).b (by omega) _ _ _ _ _ _ _ _ _ _ _ _ _ _⟩

set_option maxHeartbeats 1000000 in
theorem reads_qw (ev : Ev) (s : ByteArray) (hs : s.size ≤ 1048576) (w : World) : Calls Tryz.prog 35 #[.agg ev.vals, .int .u8 119, .string s] w fun e w' => e = .returned (.agg (Ch.rd .qw s.data.toList ev).vals) ∧ Below w.heap.size w w' := by
  have HS : Hid (RdSt w ((w.alloc (.cells ev.vals 28)).alloc (.cells (Ev.zero 0).vals 28)) ev) := RdSt.start w ev
  have HC : Hid (∀ W, Calls Tryz.prog 53 #[.int .u8 64, .string s] W fun e w' => (∃ b, e = .returned (.tuple #[.int .i64 ((idOf 64 s.data.toList).getD 0), .bool b])) ∧ Below W.heap.size W w') := id_get 64 s (by omega)
  obtain ⟨v, hv⟩ : ∃ v, (idOf 64 s.data.toList).getD 0 = v := ⟨_, rfl⟩
  have hrd : Ch.rd .qw s.data.toList ev = { ev with window := v } := by rw [← hv]; rfl
  rw [hrd]
  rw [hv] at HC
  clear hrd hv
  unfold Ev.vals Ev.zero at HS
  unfold Ev.vals
  go_enter Tryz.func35, Tryz.ntmps35
  go_wp2_with (go_at_call 53; refine (HC.out _).mono ?_; rintro e w1 ⟨⟨b, rfl⟩, hb1⟩; have HS1 : Hid (RdSt w w1 ev) := HS.out.below hb1; obtain ⟨q0, q1, q2, q3, q4, q5, q6, q7, q8, q9, q10, q11, q12, q13⟩ := HS1.out.e.cells; obtain ⟨f0, f1, f2, f3, f4, f5, f6, f7, f8, f9, f10, f11, f12, f13⟩ := HS1.out.e.frees; obtain ⟨r0, r1, r2, r3, r4, r5, r6, r7, r8, r9, r10, r11, r12, r13⟩ := HS1.out.r.zcells; obtain ⟨g0, g1, g2, g3, g4, g5, g6, g7, g8, g9, g10, g11, g12, g13⟩ := HS1.out.r.frees; clear hb1)
  refine bodyPost_ret (v := .agg #[.int .i64 ev.kind, .int .i64 ev.session, .int .i64 v, .int .i64 ev.pane, .int .i64 ev.index, .int .i64 ev.offset, .int .i64 ev.tick, .int .i64 ev.number, .int .i64 ev.flag, .string ev.name, .string ev.text, .string ev.layout, .string ev.visible, .bool ev.zoom]) (by simp [results, Tryz.results35, go_sem, r0, r1, r2, r3, r4, r5, r6, r7, r8, r9, r10, r11, r12, r13]) rfl ?_
  exact ⟨rfl, below14 (HS1.out.set 2 (.int .i64 v) (ev' := { ev with window := v }) rfl).b (by omega) _ _ _ _ _ _ _ _ _ _ _ _ _ _⟩

set_option maxHeartbeats 1000000 in
theorem reads_qp (ev : Ev) (s : ByteArray) (hs : s.size ≤ 1048576) (w : World) : Calls Tryz.prog 35 #[.agg ev.vals, .int .u8 112, .string s] w fun e w' => e = .returned (.agg (Ch.rd .qp s.data.toList ev).vals) ∧ Below w.heap.size w w' := by
  have HS : Hid (RdSt w ((w.alloc (.cells ev.vals 28)).alloc (.cells (Ev.zero 0).vals 28)) ev) := RdSt.start w ev
  have HC : Hid (∀ W, Calls Tryz.prog 53 #[.int .u8 37, .string s] W fun e w' => (∃ b, e = .returned (.tuple #[.int .i64 ((idOf 37 s.data.toList).getD 0), .bool b])) ∧ Below W.heap.size W w') := id_get 37 s (by omega)
  obtain ⟨v, hv⟩ : ∃ v, (idOf 37 s.data.toList).getD 0 = v := ⟨_, rfl⟩
  have hrd : Ch.rd .qp s.data.toList ev = { ev with pane := v } := by rw [← hv]; rfl
  rw [hrd]
  rw [hv] at HC
  clear hrd hv
  unfold Ev.vals Ev.zero at HS
  unfold Ev.vals
  go_enter Tryz.func35, Tryz.ntmps35
  go_wp2_with (go_at_call 53; refine (HC.out _).mono ?_; rintro e w1 ⟨⟨b, rfl⟩, hb1⟩; have HS1 : Hid (RdSt w w1 ev) := HS.out.below hb1; obtain ⟨q0, q1, q2, q3, q4, q5, q6, q7, q8, q9, q10, q11, q12, q13⟩ := HS1.out.e.cells; obtain ⟨f0, f1, f2, f3, f4, f5, f6, f7, f8, f9, f10, f11, f12, f13⟩ := HS1.out.e.frees; obtain ⟨r0, r1, r2, r3, r4, r5, r6, r7, r8, r9, r10, r11, r12, r13⟩ := HS1.out.r.zcells; obtain ⟨g0, g1, g2, g3, g4, g5, g6, g7, g8, g9, g10, g11, g12, g13⟩ := HS1.out.r.frees; clear hb1)
  refine bodyPost_ret (v := .agg #[.int .i64 ev.kind, .int .i64 ev.session, .int .i64 ev.window, .int .i64 v, .int .i64 ev.index, .int .i64 ev.offset, .int .i64 ev.tick, .int .i64 ev.number, .int .i64 ev.flag, .string ev.name, .string ev.text, .string ev.layout, .string ev.visible, .bool ev.zoom]) (by simp [results, Tryz.results35, go_sem, r0, r1, r2, r3, r4, r5, r6, r7, r8, r9, r10, r11, r12, r13]) rfl ?_
  exact ⟨rfl, below14 (HS1.out.set 3 (.int .i64 v) (ev' := { ev with pane := v }) rfl).b (by omega) _ _ _ _ _ _ _ _ _ _ _ _ _ _⟩

end Go.Proofs.YtlgkdnmhoboinaaGreatDoor
