/-
  The document's reads: the event with one thing more.
  The document's reads: names, plans, the zoom, texts.
  The document's reads: a value behind a colon; every letter.
-/
import Derived.Test.YtplolaondmeccaaGreatDoorRDcK
import Derived.Test.YtplolaondmeccaaGreatDoorWRowD
import Derived.WalkKit
import Derived.RegionTactic
import Derived.Deep.RegionWith
import Derived.Deep.DrawnRows
namespace Go.Proofs.YtplolaondmeccaaGreatDoor
open Go.RowKit
set_option linter.unusedVariables false
set_option maxRecDepth 20000

/-- What reads has: the event, and its answer's block. -/
structure RdSt (w wr : World) (ev : Ev) : Prop where
  e : EvAt wr w.heap.size ev
  r : EvAt wr (w.heap.size + 1) (Ev.zero 0)
  b : Below w.heap.size w wr
theorem RdSt.below {w wr wr' : World} {ev : Ev} (h : RdSt w wr ev) (hb : Below wr.heap.size wr wr') : RdSt w wr' ev := ⟨h.e.below hb h.e.lt, h.r.below hb h.r.lt, below_step h.b hb⟩
theorem RdSt.drew {w wr : World} {ev : Ev} (h : RdSt w wr ev) : RdSt w wr.drew ev := ⟨h.e, h.r, h.b.drew⟩
theorem RdSt.set {w wr : World} {ev ev' : Ev} (h : RdSt w wr ev) (o : Nat) (v : Value) (hv : ev.vals.setIfInBounds o v = ev'.vals) : RdSt w (wr.setCell ⟨w.heap.size, o, none⟩ v) ev' :=
  ⟨h.e.set o v hv, h.r.grown (grownBy_setCell _ _ _ _) (by simp only [ne_eq, Option.some.injEq]; omega), h.b.setCell (show w.heap.size ≤ w.heap.size by omega) _⟩
theorem RdSt.start (w : World) (ev : Ev) : RdSt w ((w.alloc (.cells ev.vals 27)).alloc (.cells (Ev.zero 0).vals 27)) ev := by
  have s1 : (w.alloc (.cells ev.vals 27)).heap.size = w.heap.size + 1 := by simp
  refine ⟨(EvAt.new w ev).alloc _, ?_, ?_⟩
  · rw [← s1]; exact EvAt.new _ (Ev.zero 0)
  · exact ((Below.refl _ _).alloc (Nat.le_refl _) _).alloc (by rw [s1]; omega) _

set_option maxHeartbeats 1000000 in
theorem reads_qt (ev : Ev) (s : ByteArray) (hs : s.size ≤ 1048576) (w : World) : Calls Tryz.prog 65 #[.agg ev.vals, .int .u8 116, .string s] w fun e w' => e = .returned (.agg (Ch.rd .qt s.data.toList ev).vals) ∧ Below w.heap.size w w' := by
  have HS : Hid (RdSt w ((w.alloc (.cells ev.vals 27)).alloc (.cells (Ev.zero 0).vals 27)) ev) := RdSt.start w ev
  have HC : Hid (∀ W, Calls Tryz.prog 110 #[.string s] W fun e w' => (∃ b, e = .returned (.tuple #[.int .i64 ((numOf s.data.toList).getD 0), .bool b])) ∧ Below W.heap.size W w') := number_get s (by omega)
  obtain ⟨v, hv⟩ : ∃ v, (numOf s.data.toList).getD 0 = v := ⟨_, rfl⟩
  have hrd : Ch.rd .qt s.data.toList ev = { ev with tick := v } := by rw [← hv]; rfl
  rw [hrd]
  rw [hv] at HC
  clear hrd hv
  unfold Ev.vals Ev.zero at HS
  unfold Ev.vals
  go_enter Tryz.func65, Tryz.ntmps65
  go_wp2_with (go_at_call 110; refine (HC.out _).mono ?_; rintro e w1 ⟨⟨b, rfl⟩, hb1⟩; have HS1 : Hid (RdSt w w1 ev) := HS.out.below hb1; obtain ⟨q0, q1, q2, q3, q4, q5, q6, q7, q8, q9, q10, q11, q12, q13⟩ := HS1.out.e.cells; obtain ⟨f0, f1, f2, f3, f4, f5, f6, f7, f8, f9, f10, f11, f12, f13⟩ := HS1.out.e.frees; obtain ⟨r0, r1, r2, r3, r4, r5, r6, r7, r8, r9, r10, r11, r12, r13⟩ := HS1.out.r.zcells; obtain ⟨g0, g1, g2, g3, g4, g5, g6, g7, g8, g9, g10, g11, g12, g13⟩ := HS1.out.r.frees; clear hb1)
  refine bodyPost_ret (v := .agg #[.int .i64 ev.kind, .int .i64 ev.session, .int .i64 ev.window, .int .i64 ev.pane, .int .i64 ev.index, .int .i64 ev.offset, .int .i64 v, .int .i64 ev.number, .int .i64 ev.flag, .string ev.name, .string ev.text, .string ev.layout, .string ev.visible, .bool ev.zoom]) (by simp [results, Tryz.results65, go_sem, r0, r1, r2, r3, r4, r5, r6, r7, r8, r9, r10, r11, r12, r13]) rfl ?_
  exact ⟨rfl, below14 (HS1.out.set 6 (.int .i64 v) (ev' := { ev with tick := v }) rfl).b (by omega) _ _ _ _ _ _ _ _ _ _ _ _ _ _⟩

set_option maxHeartbeats 1000000 in
theorem reads_qn (ev : Ev) (s : ByteArray) (hs : s.size ≤ 1048576) (w : World) : Calls Tryz.prog 65 #[.agg ev.vals, .int .u8 110, .string s] w fun e w' => e = .returned (.agg (Ch.rd .qn s.data.toList ev).vals) ∧ Below w.heap.size w w' := by
  have HS : Hid (RdSt w ((w.alloc (.cells ev.vals 27)).alloc (.cells (Ev.zero 0).vals 27)) ev) := RdSt.start w ev
  have HC : Hid (∀ W, Calls Tryz.prog 110 #[.string s] W fun e w' => (∃ b, e = .returned (.tuple #[.int .i64 ((numOf s.data.toList).getD 0), .bool b])) ∧ Below W.heap.size W w') := number_get s (by omega)
  obtain ⟨v, hv⟩ : ∃ v, (numOf s.data.toList).getD 0 = v := ⟨_, rfl⟩
  have hrd : Ch.rd .qn s.data.toList ev = { ev with number := v } := by rw [← hv]; rfl
  rw [hrd]
  rw [hv] at HC
  clear hrd hv
  unfold Ev.vals Ev.zero at HS
  unfold Ev.vals
  go_enter Tryz.func65, Tryz.ntmps65
  go_wp2_with (go_at_call 110; refine (HC.out _).mono ?_; rintro e w1 ⟨⟨b, rfl⟩, hb1⟩; have HS1 : Hid (RdSt w w1 ev) := HS.out.below hb1; obtain ⟨q0, q1, q2, q3, q4, q5, q6, q7, q8, q9, q10, q11, q12, q13⟩ := HS1.out.e.cells; obtain ⟨f0, f1, f2, f3, f4, f5, f6, f7, f8, f9, f10, f11, f12, f13⟩ := HS1.out.e.frees; obtain ⟨r0, r1, r2, r3, r4, r5, r6, r7, r8, r9, r10, r11, r12, r13⟩ := HS1.out.r.zcells; obtain ⟨g0, g1, g2, g3, g4, g5, g6, g7, g8, g9, g10, g11, g12, g13⟩ := HS1.out.r.frees; clear hb1)
  refine bodyPost_ret (v := .agg #[.int .i64 ev.kind, .int .i64 ev.session, .int .i64 ev.window, .int .i64 ev.pane, .int .i64 ev.index, .int .i64 ev.offset, .int .i64 ev.tick, .int .i64 v, .int .i64 ev.flag, .string ev.name, .string ev.text, .string ev.layout, .string ev.visible, .bool ev.zoom]) (by simp [results, Tryz.results65, go_sem, r0, r1, r2, r3, r4, r5, r6, r7, r8, r9, r10, r11, r12, r13]) rfl ?_
  exact ⟨rfl, below14 (HS1.out.set 7 (.int .i64 v) (ev' := { ev with number := v }) rfl).b (by omega) _ _ _ _ _ _ _ _ _ _ _ _ _ _⟩

set_option maxHeartbeats 1000000 in
theorem reads_qf (ev : Ev) (s : ByteArray) (hs : s.size ≤ 1048576) (w : World) : Calls Tryz.prog 65 #[.agg ev.vals, .int .u8 102, .string s] w fun e w' => e = .returned (.agg (Ch.rd .qf s.data.toList ev).vals) ∧ Below w.heap.size w w' := by
  have HS : Hid (RdSt w ((w.alloc (.cells ev.vals 27)).alloc (.cells (Ev.zero 0).vals 27)) ev) := RdSt.start w ev
  have HC : Hid (∀ W, Calls Tryz.prog 110 #[.string s] W fun e w' => (∃ b, e = .returned (.tuple #[.int .i64 ((numOf s.data.toList).getD 0), .bool b])) ∧ Below W.heap.size W w') := number_get s (by omega)
  obtain ⟨v, hv⟩ : ∃ v, (numOf s.data.toList).getD 0 = v := ⟨_, rfl⟩
  have hrd : Ch.rd .qf s.data.toList ev = { ev with flag := v } := by rw [← hv]; rfl
  rw [hrd]
  rw [hv] at HC
  clear hrd hv
  unfold Ev.vals Ev.zero at HS
  unfold Ev.vals
  go_enter Tryz.func65, Tryz.ntmps65
  go_wp2_with (go_at_call 110; refine (HC.out _).mono ?_; rintro e w1 ⟨⟨b, rfl⟩, hb1⟩; have HS1 : Hid (RdSt w w1 ev) := HS.out.below hb1; obtain ⟨q0, q1, q2, q3, q4, q5, q6, q7, q8, q9, q10, q11, q12, q13⟩ := HS1.out.e.cells; obtain ⟨f0, f1, f2, f3, f4, f5, f6, f7, f8, f9, f10, f11, f12, f13⟩ := HS1.out.e.frees; obtain ⟨r0, r1, r2, r3, r4, r5, r6, r7, r8, r9, r10, r11, r12, r13⟩ := HS1.out.r.zcells; obtain ⟨g0, g1, g2, g3, g4, g5, g6, g7, g8, g9, g10, g11, g12, g13⟩ := HS1.out.r.frees; clear hb1)
  refine bodyPost_ret (v := .agg #[.int .i64 ev.kind, .int .i64 ev.session, .int .i64 ev.window, .int .i64 ev.pane, .int .i64 ev.index, .int .i64 ev.offset, .int .i64 ev.tick, .int .i64 ev.number, .int .i64 v, .string ev.name, .string ev.text, .string ev.layout, .string ev.visible, .bool ev.zoom]) (by simp [results, Tryz.results65, go_sem, r0, r1, r2, r3, r4, r5, r6, r7, r8, r9, r10, r11, r12, r13]) rfl ?_
  exact ⟨rfl, below14 (HS1.out.set 8 (.int .i64 v) (ev' := { ev with flag := v }) rfl).b (by omega) _ _ _ _ _ _ _ _ _ _ _ _ _ _⟩

set_option maxHeartbeats 1000000 in
theorem reads_qo (ev : Ev) (s : ByteArray) (hs : s.size ≤ 1048576) (w : World) : Calls Tryz.prog 65 #[.agg ev.vals, .int .u8 111, .string s] w fun e w' => e = .returned (.agg (Ch.rd .qo s.data.toList ev).vals) ∧ Below w.heap.size w w' := by
  have HS : Hid (RdSt w ((w.alloc (.cells ev.vals 27)).alloc (.cells (Ev.zero 0).vals 27)) ev) := RdSt.start w ev
  have HC : Hid (∀ W, Calls Tryz.prog 110 #[.string s] W fun e w' => (∃ b, e = .returned (.tuple #[.int .i64 ((numOf s.data.toList).getD 0), .bool b])) ∧ Below W.heap.size W w') := number_get s (by omega)
  obtain ⟨v, hv⟩ : ∃ v, (numOf s.data.toList).getD 0 = v := ⟨_, rfl⟩
  have hrd : Ch.rd .qo s.data.toList ev = { ev with offset := v } := by rw [← hv]; rfl
  rw [hrd]
  rw [hv] at HC
  clear hrd hv
  unfold Ev.vals Ev.zero at HS
  unfold Ev.vals
  go_enter Tryz.func65, Tryz.ntmps65
  go_wp2_with (go_at_call 110; refine (HC.out _).mono ?_; rintro e w1 ⟨⟨b, rfl⟩, hb1⟩; have HS1 : Hid (RdSt w w1 ev) := HS.out.below hb1; obtain ⟨q0, q1, q2, q3, q4, q5, q6, q7, q8, q9, q10, q11, q12, q13⟩ := HS1.out.e.cells; obtain ⟨f0, f1, f2, f3, f4, f5, f6, f7, f8, f9, f10, f11, f12, f13⟩ := HS1.out.e.frees; obtain ⟨r0, r1, r2, r3, r4, r5, r6, r7, r8, r9, r10, r11, r12, r13⟩ := HS1.out.r.zcells; obtain ⟨g0, g1, g2, g3, g4, g5, g6, g7, g8, g9, g10, g11, g12, g13⟩ := HS1.out.r.frees; clear hb1)
  refine bodyPost_ret (v := .agg #[.int .i64 ev.kind, .int .i64 ev.session, .int .i64 ev.window, .int .i64 ev.pane, .int .i64 ev.index, .int .i64 v, .int .i64 ev.tick, .int .i64 ev.number, .int .i64 ev.flag, .string ev.name, .string ev.text, .string ev.layout, .string ev.visible, .bool ev.zoom]) (by simp [results, Tryz.results65, go_sem, r0, r1, r2, r3, r4, r5, r6, r7, r8, r9, r10, r11, r12, r13]) rfl ?_
  exact ⟨rfl, below14 (HS1.out.set 5 (.int .i64 v) (ev' := { ev with offset := v }) rfl).b (by omega) _ _ _ _ _ _ _ _ _ _ _ _ _ _⟩

set_option maxHeartbeats 1000000 in
theorem reads_qi (ev : Ev) (s : ByteArray) (hs : s.size ≤ 1048576) (w : World) : Calls Tryz.prog 65 #[.agg ev.vals, .int .u8 105, .string s] w fun e w' => e = .returned (.agg (Ch.rd .qi s.data.toList ev).vals) ∧ Below w.heap.size w w' := by
  have HS : Hid (RdSt w ((w.alloc (.cells ev.vals 27)).alloc (.cells (Ev.zero 0).vals 27)) ev) := RdSt.start w ev
  have HC : Hid (∀ W, Calls Tryz.prog 110 #[.string s] W fun e w' => (∃ b, e = .returned (.tuple #[.int .i64 ((numOf s.data.toList).getD 0), .bool b])) ∧ Below W.heap.size W w') := number_get s (by omega)
  obtain ⟨v, hv⟩ : ∃ v, (numOf s.data.toList).getD 0 = v := ⟨_, rfl⟩
  have hrd : Ch.rd .qi s.data.toList ev = { ev with index := v } := by rw [← hv]; rfl
  rw [hrd]
  rw [hv] at HC
  clear hrd hv
  unfold Ev.vals Ev.zero at HS
  unfold Ev.vals
  go_enter Tryz.func65, Tryz.ntmps65
  go_wp2_with (go_at_call 110; refine (HC.out _).mono ?_; rintro e w1 ⟨⟨b, rfl⟩, hb1⟩; have HS1 : Hid (RdSt w w1 ev) := HS.out.below hb1; obtain ⟨q0, q1, q2, q3, q4, q5, q6, q7, q8, q9, q10, q11, q12, q13⟩ := HS1.out.e.cells; obtain ⟨f0, f1, f2, f3, f4, f5, f6, f7, f8, f9, f10, f11, f12, f13⟩ := HS1.out.e.frees; obtain ⟨r0, r1, r2, r3, r4, r5, r6, r7, r8, r9, r10, r11, r12, r13⟩ := HS1.out.r.zcells; obtain ⟨g0, g1, g2, g3, g4, g5, g6, g7, g8, g9, g10, g11, g12, g13⟩ := HS1.out.r.frees; clear hb1)
  refine bodyPost_ret (v := .agg #[.int .i64 ev.kind, .int .i64 ev.session, .int .i64 ev.window, .int .i64 ev.pane, .int .i64 v, .int .i64 ev.offset, .int .i64 ev.tick, .int .i64 ev.number, .int .i64 ev.flag, .string ev.name, .string ev.text, .string ev.layout, .string ev.visible, .bool ev.zoom]) (by simp [results, Tryz.results65, go_sem, r0, r1, r2, r3, r4, r5, r6, r7, r8, r9, r10, r11, r12, r13]) rfl ?_
  exact ⟨rfl, below14 (HS1.out.set 4 (.int .i64 v) (ev' := { ev with index := v }) rfl).b (by omega) _ _ _ _ _ _ _ _ _ _ _ _ _ _⟩

set_option maxHeartbeats 1000000 in
theorem reads_qs (ev : Ev) (s : ByteArray) (hs : s.size ≤ 1048576) (w : World) : Calls Tryz.prog 65 #[.agg ev.vals, .int .u8 115, .string s] w fun e w' => e = .returned (.agg (Ch.rd .qs s.data.toList ev).vals) ∧ Below w.heap.size w w' := by
  have HS : Hid (RdSt w ((w.alloc (.cells ev.vals 27)).alloc (.cells (Ev.zero 0).vals 27)) ev) := RdSt.start w ev
  have HC : Hid (∀ W, Calls Tryz.prog 111 #[.int .u8 36, .string s] W fun e w' => (∃ b, e = .returned (.tuple #[.int .i64 ((idOf 36 s.data.toList).getD 0), .bool b])) ∧ Below W.heap.size W w') := id_get 36 s (by omega)
  obtain ⟨v, hv⟩ : ∃ v, (idOf 36 s.data.toList).getD 0 = v := ⟨_, rfl⟩
  have hrd : Ch.rd .qs s.data.toList ev = { ev with session := v } := by rw [← hv]; rfl
  rw [hrd]
  rw [hv] at HC
  clear hrd hv
  unfold Ev.vals Ev.zero at HS
  unfold Ev.vals
  go_enter Tryz.func65, Tryz.ntmps65
  go_wp2_with (go_at_call 111; refine (HC.out _).mono ?_; rintro e w1 ⟨⟨b, rfl⟩, hb1⟩; have HS1 : Hid (RdSt w w1 ev) := HS.out.below hb1; obtain ⟨q0, q1, q2, q3, q4, q5, q6, q7, q8, q9, q10, q11, q12, q13⟩ := HS1.out.e.cells; obtain ⟨f0, f1, f2, f3, f4, f5, f6, f7, f8, f9, f10, f11, f12, f13⟩ := HS1.out.e.frees; obtain ⟨r0, r1, r2, r3, r4, r5, r6, r7, r8, r9, r10, r11, r12, r13⟩ := HS1.out.r.zcells; obtain ⟨g0, g1, g2, g3, g4, g5, g6, g7, g8, g9, g10, g11, g12, g13⟩ := HS1.out.r.frees; clear hb1)
  refine bodyPost_ret (v := .agg #[.int .i64 ev.kind, .int .i64 v, .int .i64 ev.window, .int .i64 ev.pane, .int .i64 ev.index, .int .i64 ev.offset, .int .i64 ev.tick, .int .i64 ev.number, .int .i64 ev.flag, .string ev.name, .string ev.text, .string ev.layout, .string ev.visible, .bool ev.zoom]) (by simp [results, Tryz.results65, go_sem, r0, r1, r2, r3, r4, r5, r6, r7, r8, r9, r10, r11, r12, r13]) rfl ?_
  exact ⟨rfl, below14 (HS1.out.set 1 (.int .i64 v) (ev' := { ev with session := v }) rfl).b (by omega) _ _ _ _ _ _ _ _ _ _ _ _ _ _⟩

set_option maxHeartbeats 1000000 in
theorem reads_qw (ev : Ev) (s : ByteArray) (hs : s.size ≤ 1048576) (w : World) : Calls Tryz.prog 65 #[.agg ev.vals, .int .u8 119, .string s] w fun e w' => e = .returned (.agg (Ch.rd .qw s.data.toList ev).vals) ∧ Below w.heap.size w w' := by
  have HS : Hid (RdSt w ((w.alloc (.cells ev.vals 27)).alloc (.cells (Ev.zero 0).vals 27)) ev) := RdSt.start w ev
  have HC : Hid (∀ W, Calls Tryz.prog 111 #[.int .u8 64, .string s] W fun e w' => (∃ b, e = .returned (.tuple #[.int .i64 ((idOf 64 s.data.toList).getD 0), .bool b])) ∧ Below W.heap.size W w') := id_get 64 s (by omega)
  obtain ⟨v, hv⟩ : ∃ v, (idOf 64 s.data.toList).getD 0 = v := ⟨_, rfl⟩
  have hrd : Ch.rd .qw s.data.toList ev = { ev with window := v } := by rw [← hv]; rfl
  rw [hrd]
  rw [hv] at HC
  clear hrd hv
  unfold Ev.vals Ev.zero at HS
  unfold Ev.vals
  go_enter Tryz.func65, Tryz.ntmps65
  go_wp2_with (go_at_call 111; refine (HC.out _).mono ?_; rintro e w1 ⟨⟨b, rfl⟩, hb1⟩; have HS1 : Hid (RdSt w w1 ev) := HS.out.below hb1; obtain ⟨q0, q1, q2, q3, q4, q5, q6, q7, q8, q9, q10, q11, q12, q13⟩ := HS1.out.e.cells; obtain ⟨f0, f1, f2, f3, f4, f5, f6, f7, f8, f9, f10, f11, f12, f13⟩ := HS1.out.e.frees; obtain ⟨r0, r1, r2, r3, r4, r5, r6, r7, r8, r9, r10, r11, r12, r13⟩ := HS1.out.r.zcells; obtain ⟨g0, g1, g2, g3, g4, g5, g6, g7, g8, g9, g10, g11, g12, g13⟩ := HS1.out.r.frees; clear hb1)
  refine bodyPost_ret (v := .agg #[.int .i64 ev.kind, .int .i64 ev.session, .int .i64 v, .int .i64 ev.pane, .int .i64 ev.index, .int .i64 ev.offset, .int .i64 ev.tick, .int .i64 ev.number, .int .i64 ev.flag, .string ev.name, .string ev.text, .string ev.layout, .string ev.visible, .bool ev.zoom]) (by simp [results, Tryz.results65, go_sem, r0, r1, r2, r3, r4, r5, r6, r7, r8, r9, r10, r11, r12, r13]) rfl ?_
  exact ⟨rfl, below14 (HS1.out.set 2 (.int .i64 v) (ev' := { ev with window := v }) rfl).b (by omega) _ _ _ _ _ _ _ _ _ _ _ _ _ _⟩

set_option maxHeartbeats 1000000 in
theorem reads_qp (ev : Ev) (s : ByteArray) (hs : s.size ≤ 1048576) (w : World) : Calls Tryz.prog 65 #[.agg ev.vals, .int .u8 112, .string s] w fun e w' => e = .returned (.agg (Ch.rd .qp s.data.toList ev).vals) ∧ Below w.heap.size w w' := by
  have HS : Hid (RdSt w ((w.alloc (.cells ev.vals 27)).alloc (.cells (Ev.zero 0).vals 27)) ev) := RdSt.start w ev
  have HC : Hid (∀ W, Calls Tryz.prog 111 #[.int .u8 37, .string s] W fun e w' => (∃ b, e = .returned (.tuple #[.int .i64 ((idOf 37 s.data.toList).getD 0), .bool b])) ∧ Below W.heap.size W w') := id_get 37 s (by omega)
  obtain ⟨v, hv⟩ : ∃ v, (idOf 37 s.data.toList).getD 0 = v := ⟨_, rfl⟩
  have hrd : Ch.rd .qp s.data.toList ev = { ev with pane := v } := by rw [← hv]; rfl
  rw [hrd]
  rw [hv] at HC
  clear hrd hv
  unfold Ev.vals Ev.zero at HS
  unfold Ev.vals
  go_enter Tryz.func65, Tryz.ntmps65
  go_wp2_with (go_at_call 111; refine (HC.out _).mono ?_; rintro e w1 ⟨⟨b, rfl⟩, hb1⟩; have HS1 : Hid (RdSt w w1 ev) := HS.out.below hb1; obtain ⟨q0, q1, q2, q3, q4, q5, q6, q7, q8, q9, q10, q11, q12, q13⟩ := HS1.out.e.cells; obtain ⟨f0, f1, f2, f3, f4, f5, f6, f7, f8, f9, f10, f11, f12, f13⟩ := HS1.out.e.frees; obtain ⟨r0, r1, r2, r3, r4, r5, r6, r7, r8, r9, r10, r11, r12, r13⟩ := HS1.out.r.zcells; obtain ⟨g0, g1, g2, g3, g4, g5, g6, g7, g8, g9, g10, g11, g12, g13⟩ := HS1.out.r.frees; clear hb1)
  refine bodyPost_ret (v := .agg #[.int .i64 ev.kind, .int .i64 ev.session, .int .i64 ev.window, .int .i64 v, .int .i64 ev.index, .int .i64 ev.offset, .int .i64 ev.tick, .int .i64 ev.number, .int .i64 ev.flag, .string ev.name, .string ev.text, .string ev.layout, .string ev.visible, .bool ev.zoom]) (by simp [results, Tryz.results65, go_sem, r0, r1, r2, r3, r4, r5, r6, r7, r8, r9, r10, r11, r12, r13]) rfl ?_
  exact ⟨rfl, below14 (HS1.out.set 3 (.int .i64 v) (ev' := { ev with pane := v }) rfl).b (by omega) _ _ _ _ _ _ _ _ _ _ _ _ _ _⟩

end Go.Proofs.YtplolaondmeccaaGreatDoor

namespace Go.Proofs.YtplolaondmeccaaGreatDoor
open Go.RowKit
set_option linter.unusedVariables false
set_option maxRecDepth 20000

set_option maxHeartbeats 1000000 in
theorem reads_qN (ev : Ev) (s : ByteArray) (hs : s.size ≤ 1048576) (w : World) : Calls Tryz.prog 65 #[.agg ev.vals, .int .u8 78, .string s] w fun e w' => e = .returned (.agg (Ch.rd .qN s.data.toList ev).vals) ∧ Below w.heap.size w w' := by
  have HS : Hid (RdSt w ((w.alloc (.cells ev.vals 27)).alloc (.cells (Ev.zero 0).vals 27)) ev) := RdSt.start w ev
  have hrd : Ch.rd .qN s.data.toList ev = { ev with name := s } := rfl
  rw [hrd]
  clear hrd
  have hgoal : ({ ev with name := s } : Ev).vals = #[.int .i64 ev.kind, .int .i64 ev.session, .int .i64 ev.window, .int .i64 ev.pane, .int .i64 ev.index, .int .i64 ev.offset, .int .i64 ev.tick, .int .i64 ev.number, .int .i64 ev.flag, .string s, .string ev.text, .string ev.layout, .string ev.visible, .bool ev.zoom] := rfl
  rw [hgoal]
  have x0 : ev.vals[0]? = some (.int .i64 ev.kind) := rfl; have x1 : ev.vals[1]? = some (.int .i64 ev.session) := rfl; have x2 : ev.vals[2]? = some (.int .i64 ev.window) := rfl; have x3 : ev.vals[3]? = some (.int .i64 ev.pane) := rfl; have x4 : ev.vals[4]? = some (.int .i64 ev.index) := rfl; have x5 : ev.vals[5]? = some (.int .i64 ev.offset) := rfl; have x6 : ev.vals[6]? = some (.int .i64 ev.tick) := rfl; have x7 : ev.vals[7]? = some (.int .i64 ev.number) := rfl; have x8 : ev.vals[8]? = some (.int .i64 ev.flag) := rfl; have x9 : ev.vals[9]? = some (.string ev.name) := rfl; have x10 : ev.vals[10]? = some (.string ev.text) := rfl; have x11 : ev.vals[11]? = some (.string ev.layout) := rfl; have x12 : ev.vals[12]? = some (.string ev.visible) := rfl; have x13 : ev.vals[13]? = some (.bool ev.zoom) := rfl
  have z0 : ∀ h : 0 < ev.vals.size, ev.vals[0] = .int .i64 ev.kind := fun _ => rfl; have z1 : ∀ h : 1 < ev.vals.size, ev.vals[1] = .int .i64 ev.session := fun _ => rfl; have z2 : ∀ h : 2 < ev.vals.size, ev.vals[2] = .int .i64 ev.window := fun _ => rfl; have z3 : ∀ h : 3 < ev.vals.size, ev.vals[3] = .int .i64 ev.pane := fun _ => rfl; have z4 : ∀ h : 4 < ev.vals.size, ev.vals[4] = .int .i64 ev.index := fun _ => rfl; have z5 : ∀ h : 5 < ev.vals.size, ev.vals[5] = .int .i64 ev.offset := fun _ => rfl; have z6 : ∀ h : 6 < ev.vals.size, ev.vals[6] = .int .i64 ev.tick := fun _ => rfl; have z7 : ∀ h : 7 < ev.vals.size, ev.vals[7] = .int .i64 ev.number := fun _ => rfl; have z8 : ∀ h : 8 < ev.vals.size, ev.vals[8] = .int .i64 ev.flag := fun _ => rfl; have z9 : ∀ h : 9 < ev.vals.size, ev.vals[9] = .string ev.name := fun _ => rfl; have z10 : ∀ h : 10 < ev.vals.size, ev.vals[10] = .string ev.text := fun _ => rfl; have z11 : ∀ h : 11 < ev.vals.size, ev.vals[11] = .string ev.layout := fun _ => rfl; have z12 : ∀ h : 12 < ev.vals.size, ev.vals[12] = .string ev.visible := fun _ => rfl; have z13 : ∀ h : 13 < ev.vals.size, ev.vals[13] = .bool ev.zoom := fun _ => rfl
  have xs : ev.vals.size = 14 := rfl
  clear hgoal
  unfold Ev.zero at HS
  go_enter Tryz.func65, Tryz.ntmps65
  go_wp2
  refine bodyPost_ret (v := .agg #[.int .i64 ev.kind, .int .i64 ev.session, .int .i64 ev.window, .int .i64 ev.pane, .int .i64 ev.index, .int .i64 ev.offset, .int .i64 ev.tick, .int .i64 ev.number, .int .i64 ev.flag, .string s, .string ev.text, .string ev.layout, .string ev.visible, .bool ev.zoom]) (by simp [results, Tryz.results65, go_sem]) rfl ?_
  exact ⟨rfl, ((Below.refl _ _).alloc (Nat.le_refl _) _).alloc (by simp) _⟩

set_option maxHeartbeats 1000000 in
theorem reads_qW (ev : Ev) (s : ByteArray) (hs : s.size ≤ 1048576) (w : World) : Calls Tryz.prog 65 #[.agg ev.vals, .int .u8 87, .string s] w fun e w' => e = .returned (.agg (Ch.rd .qW s.data.toList ev).vals) ∧ Below w.heap.size w w' := by
  have HS : Hid (RdSt w ((w.alloc (.cells ev.vals 27)).alloc (.cells (Ev.zero 0).vals 27)) ev) := RdSt.start w ev
  have hrd : Ch.rd .qW s.data.toList ev = { ev with name := s } := rfl
  rw [hrd]
  clear hrd
  have hgoal : ({ ev with name := s } : Ev).vals = #[.int .i64 ev.kind, .int .i64 ev.session, .int .i64 ev.window, .int .i64 ev.pane, .int .i64 ev.index, .int .i64 ev.offset, .int .i64 ev.tick, .int .i64 ev.number, .int .i64 ev.flag, .string s, .string ev.text, .string ev.layout, .string ev.visible, .bool ev.zoom] := rfl
  rw [hgoal]
  have x0 : ev.vals[0]? = some (.int .i64 ev.kind) := rfl; have x1 : ev.vals[1]? = some (.int .i64 ev.session) := rfl; have x2 : ev.vals[2]? = some (.int .i64 ev.window) := rfl; have x3 : ev.vals[3]? = some (.int .i64 ev.pane) := rfl; have x4 : ev.vals[4]? = some (.int .i64 ev.index) := rfl; have x5 : ev.vals[5]? = some (.int .i64 ev.offset) := rfl; have x6 : ev.vals[6]? = some (.int .i64 ev.tick) := rfl; have x7 : ev.vals[7]? = some (.int .i64 ev.number) := rfl; have x8 : ev.vals[8]? = some (.int .i64 ev.flag) := rfl; have x9 : ev.vals[9]? = some (.string ev.name) := rfl; have x10 : ev.vals[10]? = some (.string ev.text) := rfl; have x11 : ev.vals[11]? = some (.string ev.layout) := rfl; have x12 : ev.vals[12]? = some (.string ev.visible) := rfl; have x13 : ev.vals[13]? = some (.bool ev.zoom) := rfl
  have z0 : ∀ h : 0 < ev.vals.size, ev.vals[0] = .int .i64 ev.kind := fun _ => rfl; have z1 : ∀ h : 1 < ev.vals.size, ev.vals[1] = .int .i64 ev.session := fun _ => rfl; have z2 : ∀ h : 2 < ev.vals.size, ev.vals[2] = .int .i64 ev.window := fun _ => rfl; have z3 : ∀ h : 3 < ev.vals.size, ev.vals[3] = .int .i64 ev.pane := fun _ => rfl; have z4 : ∀ h : 4 < ev.vals.size, ev.vals[4] = .int .i64 ev.index := fun _ => rfl; have z5 : ∀ h : 5 < ev.vals.size, ev.vals[5] = .int .i64 ev.offset := fun _ => rfl; have z6 : ∀ h : 6 < ev.vals.size, ev.vals[6] = .int .i64 ev.tick := fun _ => rfl; have z7 : ∀ h : 7 < ev.vals.size, ev.vals[7] = .int .i64 ev.number := fun _ => rfl; have z8 : ∀ h : 8 < ev.vals.size, ev.vals[8] = .int .i64 ev.flag := fun _ => rfl; have z9 : ∀ h : 9 < ev.vals.size, ev.vals[9] = .string ev.name := fun _ => rfl; have z10 : ∀ h : 10 < ev.vals.size, ev.vals[10] = .string ev.text := fun _ => rfl; have z11 : ∀ h : 11 < ev.vals.size, ev.vals[11] = .string ev.layout := fun _ => rfl; have z12 : ∀ h : 12 < ev.vals.size, ev.vals[12] = .string ev.visible := fun _ => rfl; have z13 : ∀ h : 13 < ev.vals.size, ev.vals[13] = .bool ev.zoom := fun _ => rfl
  have xs : ev.vals.size = 14 := rfl
  clear hgoal
  unfold Ev.zero at HS
  go_enter Tryz.func65, Tryz.ntmps65
  go_wp2
  refine bodyPost_ret (v := .agg #[.int .i64 ev.kind, .int .i64 ev.session, .int .i64 ev.window, .int .i64 ev.pane, .int .i64 ev.index, .int .i64 ev.offset, .int .i64 ev.tick, .int .i64 ev.number, .int .i64 ev.flag, .string s, .string ev.text, .string ev.layout, .string ev.visible, .bool ev.zoom]) (by simp [results, Tryz.results65, go_sem]) rfl ?_
  exact ⟨rfl, ((Below.refl _ _).alloc (Nat.le_refl _) _).alloc (by simp) _⟩

set_option maxHeartbeats 1000000 in
theorem reads_qP (ev : Ev) (s : ByteArray) (hs : s.size ≤ 1048576) (w : World) : Calls Tryz.prog 65 #[.agg ev.vals, .int .u8 80, .string s] w fun e w' => e = .returned (.agg (Ch.rd .qP s.data.toList ev).vals) ∧ Below w.heap.size w w' := by
  have HS : Hid (RdSt w ((w.alloc (.cells ev.vals 27)).alloc (.cells (Ev.zero 0).vals 27)) ev) := RdSt.start w ev
  have hrd : Ch.rd .qP s.data.toList ev = { ev with layout := s } := rfl
  rw [hrd]
  clear hrd
  have hgoal : ({ ev with layout := s } : Ev).vals = #[.int .i64 ev.kind, .int .i64 ev.session, .int .i64 ev.window, .int .i64 ev.pane, .int .i64 ev.index, .int .i64 ev.offset, .int .i64 ev.tick, .int .i64 ev.number, .int .i64 ev.flag, .string ev.name, .string ev.text, .string s, .string ev.visible, .bool ev.zoom] := rfl
  rw [hgoal]
  have x0 : ev.vals[0]? = some (.int .i64 ev.kind) := rfl; have x1 : ev.vals[1]? = some (.int .i64 ev.session) := rfl; have x2 : ev.vals[2]? = some (.int .i64 ev.window) := rfl; have x3 : ev.vals[3]? = some (.int .i64 ev.pane) := rfl; have x4 : ev.vals[4]? = some (.int .i64 ev.index) := rfl; have x5 : ev.vals[5]? = some (.int .i64 ev.offset) := rfl; have x6 : ev.vals[6]? = some (.int .i64 ev.tick) := rfl; have x7 : ev.vals[7]? = some (.int .i64 ev.number) := rfl; have x8 : ev.vals[8]? = some (.int .i64 ev.flag) := rfl; have x9 : ev.vals[9]? = some (.string ev.name) := rfl; have x10 : ev.vals[10]? = some (.string ev.text) := rfl; have x11 : ev.vals[11]? = some (.string ev.layout) := rfl; have x12 : ev.vals[12]? = some (.string ev.visible) := rfl; have x13 : ev.vals[13]? = some (.bool ev.zoom) := rfl
  have z0 : ∀ h : 0 < ev.vals.size, ev.vals[0] = .int .i64 ev.kind := fun _ => rfl; have z1 : ∀ h : 1 < ev.vals.size, ev.vals[1] = .int .i64 ev.session := fun _ => rfl; have z2 : ∀ h : 2 < ev.vals.size, ev.vals[2] = .int .i64 ev.window := fun _ => rfl; have z3 : ∀ h : 3 < ev.vals.size, ev.vals[3] = .int .i64 ev.pane := fun _ => rfl; have z4 : ∀ h : 4 < ev.vals.size, ev.vals[4] = .int .i64 ev.index := fun _ => rfl; have z5 : ∀ h : 5 < ev.vals.size, ev.vals[5] = .int .i64 ev.offset := fun _ => rfl; have z6 : ∀ h : 6 < ev.vals.size, ev.vals[6] = .int .i64 ev.tick := fun _ => rfl; have z7 : ∀ h : 7 < ev.vals.size, ev.vals[7] = .int .i64 ev.number := fun _ => rfl; have z8 : ∀ h : 8 < ev.vals.size, ev.vals[8] = .int .i64 ev.flag := fun _ => rfl; have z9 : ∀ h : 9 < ev.vals.size, ev.vals[9] = .string ev.name := fun _ => rfl; have z10 : ∀ h : 10 < ev.vals.size, ev.vals[10] = .string ev.text := fun _ => rfl; have z11 : ∀ h : 11 < ev.vals.size, ev.vals[11] = .string ev.layout := fun _ => rfl; have z12 : ∀ h : 12 < ev.vals.size, ev.vals[12] = .string ev.visible := fun _ => rfl; have z13 : ∀ h : 13 < ev.vals.size, ev.vals[13] = .bool ev.zoom := fun _ => rfl
  have xs : ev.vals.size = 14 := rfl
  clear hgoal
  unfold Ev.zero at HS
  go_enter Tryz.func65, Tryz.ntmps65
  go_wp2
  refine bodyPost_ret (v := .agg #[.int .i64 ev.kind, .int .i64 ev.session, .int .i64 ev.window, .int .i64 ev.pane, .int .i64 ev.index, .int .i64 ev.offset, .int .i64 ev.tick, .int .i64 ev.number, .int .i64 ev.flag, .string ev.name, .string ev.text, .string s, .string ev.visible, .bool ev.zoom]) (by simp [results, Tryz.results65, go_sem]) rfl ?_
  exact ⟨rfl, ((Below.refl _ _).alloc (Nat.le_refl _) _).alloc (by simp) _⟩

set_option maxHeartbeats 1000000 in
theorem reads_qV (ev : Ev) (s : ByteArray) (hs : s.size ≤ 1048576) (w : World) : Calls Tryz.prog 65 #[.agg ev.vals, .int .u8 86, .string s] w fun e w' => e = .returned (.agg (Ch.rd .qV s.data.toList ev).vals) ∧ Below w.heap.size w w' := by
  have HS : Hid (RdSt w ((w.alloc (.cells ev.vals 27)).alloc (.cells (Ev.zero 0).vals 27)) ev) := RdSt.start w ev
  have hrd : Ch.rd .qV s.data.toList ev = { ev with visible := s } := rfl
  rw [hrd]
  clear hrd
  have hgoal : ({ ev with visible := s } : Ev).vals = #[.int .i64 ev.kind, .int .i64 ev.session, .int .i64 ev.window, .int .i64 ev.pane, .int .i64 ev.index, .int .i64 ev.offset, .int .i64 ev.tick, .int .i64 ev.number, .int .i64 ev.flag, .string ev.name, .string ev.text, .string ev.layout, .string s, .bool ev.zoom] := rfl
  rw [hgoal]
  have x0 : ev.vals[0]? = some (.int .i64 ev.kind) := rfl; have x1 : ev.vals[1]? = some (.int .i64 ev.session) := rfl; have x2 : ev.vals[2]? = some (.int .i64 ev.window) := rfl; have x3 : ev.vals[3]? = some (.int .i64 ev.pane) := rfl; have x4 : ev.vals[4]? = some (.int .i64 ev.index) := rfl; have x5 : ev.vals[5]? = some (.int .i64 ev.offset) := rfl; have x6 : ev.vals[6]? = some (.int .i64 ev.tick) := rfl; have x7 : ev.vals[7]? = some (.int .i64 ev.number) := rfl; have x8 : ev.vals[8]? = some (.int .i64 ev.flag) := rfl; have x9 : ev.vals[9]? = some (.string ev.name) := rfl; have x10 : ev.vals[10]? = some (.string ev.text) := rfl; have x11 : ev.vals[11]? = some (.string ev.layout) := rfl; have x12 : ev.vals[12]? = some (.string ev.visible) := rfl; have x13 : ev.vals[13]? = some (.bool ev.zoom) := rfl
  have z0 : ∀ h : 0 < ev.vals.size, ev.vals[0] = .int .i64 ev.kind := fun _ => rfl; have z1 : ∀ h : 1 < ev.vals.size, ev.vals[1] = .int .i64 ev.session := fun _ => rfl; have z2 : ∀ h : 2 < ev.vals.size, ev.vals[2] = .int .i64 ev.window := fun _ => rfl; have z3 : ∀ h : 3 < ev.vals.size, ev.vals[3] = .int .i64 ev.pane := fun _ => rfl; have z4 : ∀ h : 4 < ev.vals.size, ev.vals[4] = .int .i64 ev.index := fun _ => rfl; have z5 : ∀ h : 5 < ev.vals.size, ev.vals[5] = .int .i64 ev.offset := fun _ => rfl; have z6 : ∀ h : 6 < ev.vals.size, ev.vals[6] = .int .i64 ev.tick := fun _ => rfl; have z7 : ∀ h : 7 < ev.vals.size, ev.vals[7] = .int .i64 ev.number := fun _ => rfl; have z8 : ∀ h : 8 < ev.vals.size, ev.vals[8] = .int .i64 ev.flag := fun _ => rfl; have z9 : ∀ h : 9 < ev.vals.size, ev.vals[9] = .string ev.name := fun _ => rfl; have z10 : ∀ h : 10 < ev.vals.size, ev.vals[10] = .string ev.text := fun _ => rfl; have z11 : ∀ h : 11 < ev.vals.size, ev.vals[11] = .string ev.layout := fun _ => rfl; have z12 : ∀ h : 12 < ev.vals.size, ev.vals[12] = .string ev.visible := fun _ => rfl; have z13 : ∀ h : 13 < ev.vals.size, ev.vals[13] = .bool ev.zoom := fun _ => rfl
  have xs : ev.vals.size = 14 := rfl
  clear hgoal
  unfold Ev.zero at HS
  go_enter Tryz.func65, Tryz.ntmps65
  go_wp2
  refine bodyPost_ret (v := .agg #[.int .i64 ev.kind, .int .i64 ev.session, .int .i64 ev.window, .int .i64 ev.pane, .int .i64 ev.index, .int .i64 ev.offset, .int .i64 ev.tick, .int .i64 ev.number, .int .i64 ev.flag, .string ev.name, .string ev.text, .string ev.layout, .string s, .bool ev.zoom]) (by simp [results, Tryz.results65, go_sem]) rfl ?_
  exact ⟨rfl, ((Below.refl _ _).alloc (Nat.le_refl _) _).alloc (by simp) _⟩

set_option maxHeartbeats 1000000 in
theorem reads_qz (ev : Ev) (s : ByteArray) (hs : s.size ≤ 1048576) (w : World) : Calls Tryz.prog 65 #[.agg ev.vals, .int .u8 122, .string s] w fun e w' => e = .returned (.agg (Ch.rd .qz s.data.toList ev).vals) ∧ Below w.heap.size w w' := by
  have HS : Hid (RdSt w ((w.alloc (.cells ev.vals 27)).alloc (.cells (Ev.zero 0).vals 27)) ev) := RdSt.start w ev
  obtain ⟨v, hv⟩ : ∃ v, decide (s.data.toList = [90]) = v := ⟨_, rfl⟩
  have hrd : Ch.rd .qz s.data.toList ev = { ev with zoom := v } := by rw [← hv]; rfl
  rw [hrd]
  have hz : (s.toList == [90]) = v := by
    rw [← hv, Lib.toList_data, Bool.eq_iff_iff]
    simp
  clear hrd hv
  have hgoal : ({ ev with zoom := v } : Ev).vals = #[.int .i64 ev.kind, .int .i64 ev.session, .int .i64 ev.window, .int .i64 ev.pane, .int .i64 ev.index, .int .i64 ev.offset, .int .i64 ev.tick, .int .i64 ev.number, .int .i64 ev.flag, .string ev.name, .string ev.text, .string ev.layout, .string ev.visible, .bool v] := rfl
  rw [hgoal]
  have x0 : ev.vals[0]? = some (.int .i64 ev.kind) := rfl; have x1 : ev.vals[1]? = some (.int .i64 ev.session) := rfl; have x2 : ev.vals[2]? = some (.int .i64 ev.window) := rfl; have x3 : ev.vals[3]? = some (.int .i64 ev.pane) := rfl; have x4 : ev.vals[4]? = some (.int .i64 ev.index) := rfl; have x5 : ev.vals[5]? = some (.int .i64 ev.offset) := rfl; have x6 : ev.vals[6]? = some (.int .i64 ev.tick) := rfl; have x7 : ev.vals[7]? = some (.int .i64 ev.number) := rfl; have x8 : ev.vals[8]? = some (.int .i64 ev.flag) := rfl; have x9 : ev.vals[9]? = some (.string ev.name) := rfl; have x10 : ev.vals[10]? = some (.string ev.text) := rfl; have x11 : ev.vals[11]? = some (.string ev.layout) := rfl; have x12 : ev.vals[12]? = some (.string ev.visible) := rfl; have x13 : ev.vals[13]? = some (.bool ev.zoom) := rfl
  have z0 : ∀ h : 0 < ev.vals.size, ev.vals[0] = .int .i64 ev.kind := fun _ => rfl; have z1 : ∀ h : 1 < ev.vals.size, ev.vals[1] = .int .i64 ev.session := fun _ => rfl; have z2 : ∀ h : 2 < ev.vals.size, ev.vals[2] = .int .i64 ev.window := fun _ => rfl; have z3 : ∀ h : 3 < ev.vals.size, ev.vals[3] = .int .i64 ev.pane := fun _ => rfl; have z4 : ∀ h : 4 < ev.vals.size, ev.vals[4] = .int .i64 ev.index := fun _ => rfl; have z5 : ∀ h : 5 < ev.vals.size, ev.vals[5] = .int .i64 ev.offset := fun _ => rfl; have z6 : ∀ h : 6 < ev.vals.size, ev.vals[6] = .int .i64 ev.tick := fun _ => rfl; have z7 : ∀ h : 7 < ev.vals.size, ev.vals[7] = .int .i64 ev.number := fun _ => rfl; have z8 : ∀ h : 8 < ev.vals.size, ev.vals[8] = .int .i64 ev.flag := fun _ => rfl; have z9 : ∀ h : 9 < ev.vals.size, ev.vals[9] = .string ev.name := fun _ => rfl; have z10 : ∀ h : 10 < ev.vals.size, ev.vals[10] = .string ev.text := fun _ => rfl; have z11 : ∀ h : 11 < ev.vals.size, ev.vals[11] = .string ev.layout := fun _ => rfl; have z12 : ∀ h : 12 < ev.vals.size, ev.vals[12] = .string ev.visible := fun _ => rfl; have z13 : ∀ h : 13 < ev.vals.size, ev.vals[13] = .bool ev.zoom := fun _ => rfl
  have xs : ev.vals.size = 14 := rfl
  clear hgoal
  unfold Ev.zero at HS
  go_enter Tryz.func65, Tryz.ntmps65
  go_wp2
  refine bodyPost_ret (v := .agg #[.int .i64 ev.kind, .int .i64 ev.session, .int .i64 ev.window, .int .i64 ev.pane, .int .i64 ev.index, .int .i64 ev.offset, .int .i64 ev.tick, .int .i64 ev.number, .int .i64 ev.flag, .string ev.name, .string ev.text, .string ev.layout, .string ev.visible, .bool v]) (by simp [results, Tryz.results65, go_sem]) rfl ?_
  exact ⟨rfl, ((Below.refl _ _).alloc (Nat.le_refl _) _).alloc (by simp) _⟩

set_option maxHeartbeats 1000000 in
theorem reads_qd (ev : Ev) (s : ByteArray) (hs : s.size ≤ 1048576) (w : World) : Calls Tryz.prog 65 #[.agg ev.vals, .int .u8 100, .string s] w fun e w' => e = .returned (.agg (Ch.rd .qd s.data.toList ev).vals) ∧ Below w.heap.size w w' := by
  have HS : Hid (RdSt w ((w.alloc (.cells ev.vals 27)).alloc (.cells (Ev.zero 0).vals 27)) ev) := RdSt.start w ev
  have HC : Hid (∀ W, Calls Tryz.prog 67 #[.string s] W fun e w' => (∃ b, e = .returned (.tuple #[.string (str ((unesc s.data.toList).getD [])), .int .i64 b])) ∧ Below W.heap.size W w') := unesc_get s hs
  obtain ⟨v, hv⟩ : ∃ v, str ((unesc s.data.toList).getD []) = v := ⟨_, rfl⟩
  have hrd : Ch.rd .qd s.data.toList ev = { ev with text := v } := by rw [← hv]; rfl
  rw [hrd]
  rw [hv] at HC
  clear hrd hv
  unfold Ev.vals Ev.zero at HS
  unfold Ev.vals
  go_enter Tryz.func65, Tryz.ntmps65
  go_wp2_with (go_at_call 67; refine (HC.out _).mono ?_; rintro e w1 ⟨⟨b, rfl⟩, hb1⟩; have HS1 : Hid (RdSt w w1 ev) := HS.out.below hb1; obtain ⟨q0, q1, q2, q3, q4, q5, q6, q7, q8, q9, q10, q11, q12, q13⟩ := HS1.out.e.cells; obtain ⟨f0, f1, f2, f3, f4, f5, f6, f7, f8, f9, f10, f11, f12, f13⟩ := HS1.out.e.frees; obtain ⟨r0, r1, r2, r3, r4, r5, r6, r7, r8, r9, r10, r11, r12, r13⟩ := HS1.out.r.zcells; obtain ⟨g0, g1, g2, g3, g4, g5, g6, g7, g8, g9, g10, g11, g12, g13⟩ := HS1.out.r.frees; clear hb1)
  refine bodyPost_ret (v := .agg #[.int .i64 ev.kind, .int .i64 ev.session, .int .i64 ev.window, .int .i64 ev.pane, .int .i64 ev.index, .int .i64 ev.offset, .int .i64 ev.tick, .int .i64 ev.number, .int .i64 ev.flag, .string ev.name, .string v, .string ev.layout, .string ev.visible, .bool ev.zoom]) (by simp [results, Tryz.results65, go_sem, r0, r1, r2, r3, r4, r5, r6, r7, r8, r9, r10, r11, r12, r13]) rfl ?_
  exact ⟨rfl, below14 (HS1.out.set 10 (.string v) (ev' := { ev with text := v }) rfl).b (by omega) _ _ _ _ _ _ _ _ _ _ _ _ _ _⟩

set_option maxHeartbeats 1000000 in
theorem reads_qm (ev : Ev) (s : ByteArray) (hs : s.size ≤ 1048576) (w : World) : Calls Tryz.prog 65 #[.agg ev.vals, .int .u8 109, .string s] w fun e w' => e = .returned (.agg (Ch.rd .qm s.data.toList ev).vals) ∧ Below w.heap.size w w' := by
  have HS : Hid (RdSt w ((w.alloc (.cells ev.vals 27)).alloc (.cells (Ev.zero 0).vals 27)) ev) := RdSt.start w ev
  have HC : Hid (∀ W, Calls Tryz.prog 67 #[.string s] W fun e w' => (∃ b, e = .returned (.tuple #[.string (str ((unesc s.data.toList).getD [])), .int .i64 b])) ∧ Below W.heap.size W w') := unesc_get s hs
  obtain ⟨v, hv⟩ : ∃ v, str ((unesc s.data.toList).getD []) = v := ⟨_, rfl⟩
  have hrd : Ch.rd .qm s.data.toList ev = { ev with text := v } := by rw [← hv]; rfl
  rw [hrd]
  rw [hv] at HC
  clear hrd hv
  unfold Ev.vals Ev.zero at HS
  unfold Ev.vals
  go_enter Tryz.func65, Tryz.ntmps65
  go_wp2_with (go_at_call 67; refine (HC.out _).mono ?_; rintro e w1 ⟨⟨b, rfl⟩, hb1⟩; have HS1 : Hid (RdSt w w1 ev) := HS.out.below hb1; obtain ⟨q0, q1, q2, q3, q4, q5, q6, q7, q8, q9, q10, q11, q12, q13⟩ := HS1.out.e.cells; obtain ⟨f0, f1, f2, f3, f4, f5, f6, f7, f8, f9, f10, f11, f12, f13⟩ := HS1.out.e.frees; obtain ⟨r0, r1, r2, r3, r4, r5, r6, r7, r8, r9, r10, r11, r12, r13⟩ := HS1.out.r.zcells; obtain ⟨g0, g1, g2, g3, g4, g5, g6, g7, g8, g9, g10, g11, g12, g13⟩ := HS1.out.r.frees; clear hb1)
  refine bodyPost_ret (v := .agg #[.int .i64 ev.kind, .int .i64 ev.session, .int .i64 ev.window, .int .i64 ev.pane, .int .i64 ev.index, .int .i64 ev.offset, .int .i64 ev.tick, .int .i64 ev.number, .int .i64 ev.flag, .string ev.name, .string v, .string ev.layout, .string ev.visible, .bool ev.zoom]) (by simp [results, Tryz.results65, go_sem, r0, r1, r2, r3, r4, r5, r6, r7, r8, r9, r10, r11, r12, r13]) rfl ?_
  exact ⟨rfl, below14 (HS1.out.set 10 (.string v) (ev' := { ev with text := v }) rfl).b (by omega) _ _ _ _ _ _ _ _ _ _ _ _ _ _⟩

set_option maxHeartbeats 1000000 in
theorem reads_qx (ev : Ev) (s : ByteArray) (hs : s.size ≤ 1048576) (w : World) : Calls Tryz.prog 65 #[.agg ev.vals, .int .u8 120, .string s] w fun e w' => e = .returned (.agg (Ch.rd .qx s.data.toList ev).vals) ∧ Below w.heap.size w w' := by
  have HS : Hid (RdSt w ((w.alloc (.cells ev.vals 27)).alloc (.cells (Ev.zero 0).vals 27)) ev) := RdSt.start w ev
  have HC : Hid (∀ W, Calls Tryz.prog 67 #[.string s] W fun e w' => (∃ b, e = .returned (.tuple #[.string (str ((unesc s.data.toList).getD [])), .int .i64 b])) ∧ Below W.heap.size W w') := unesc_get s hs
  obtain ⟨v, hv⟩ : ∃ v, str ((unesc s.data.toList).getD []) = v := ⟨_, rfl⟩
  have hrd : Ch.rd .qx s.data.toList ev = { ev with text := v } := by rw [← hv]; rfl
  rw [hrd]
  rw [hv] at HC
  clear hrd hv
  unfold Ev.vals Ev.zero at HS
  unfold Ev.vals
  go_enter Tryz.func65, Tryz.ntmps65
  go_wp2_with (go_at_call 67; refine (HC.out _).mono ?_; rintro e w1 ⟨⟨b, rfl⟩, hb1⟩; have HS1 : Hid (RdSt w w1 ev) := HS.out.below hb1; obtain ⟨q0, q1, q2, q3, q4, q5, q6, q7, q8, q9, q10, q11, q12, q13⟩ := HS1.out.e.cells; obtain ⟨f0, f1, f2, f3, f4, f5, f6, f7, f8, f9, f10, f11, f12, f13⟩ := HS1.out.e.frees; obtain ⟨r0, r1, r2, r3, r4, r5, r6, r7, r8, r9, r10, r11, r12, r13⟩ := HS1.out.r.zcells; obtain ⟨g0, g1, g2, g3, g4, g5, g6, g7, g8, g9, g10, g11, g12, g13⟩ := HS1.out.r.frees; clear hb1)
  refine bodyPost_ret (v := .agg #[.int .i64 ev.kind, .int .i64 ev.session, .int .i64 ev.window, .int .i64 ev.pane, .int .i64 ev.index, .int .i64 ev.offset, .int .i64 ev.tick, .int .i64 ev.number, .int .i64 ev.flag, .string ev.name, .string v, .string ev.layout, .string ev.visible, .bool ev.zoom]) (by simp [results, Tryz.results65, go_sem, r0, r1, r2, r3, r4, r5, r6, r7, r8, r9, r10, r11, r12, r13]) rfl ?_
  exact ⟨rfl, below14 (HS1.out.set 10 (.string v) (ev' := { ev with text := v }) rfl).b (by omega) _ _ _ _ _ _ _ _ _ _ _ _ _ _⟩

end Go.Proofs.YtplolaondmeccaaGreatDoor

namespace Go.Proofs.YtplolaondmeccaaGreatDoor
open Go.RowKit
set_option linter.unusedVariables false
set_option maxRecDepth 20000

theorem colon_iff (s : ByteArray) : [58, 32] <+: s.data.toList ↔ 2 ≤ s.size ∧ ((s.extract 0 2).toList == [58, 32]) = true := by
  rw [Lib.toList_data, Lib.extract_from_zero, beq_iff_eq]
  constructor
  · rintro ⟨r, hr⟩
    refine ⟨by rw [← size_data, ← hr]; simp, by rw [← hr]; rfl⟩
  · rintro ⟨_, h⟩
    exact ⟨s.data.toList.drop 2, by rw [← h, List.take_append_drop]⟩

set_option maxHeartbeats 1000000 in
theorem reads_qv (ev : Ev) (s : ByteArray) (hs : s.size ≤ 1048576) (w : World) : Calls Tryz.prog 65 #[.agg ev.vals, .int .u8 118, .string s] w fun e w' => e = .returned (.agg (Ch.rd .qv s.data.toList ev).vals) ∧ Below w.heap.size w w' := by
  have HS : Hid (RdSt w ((w.alloc (.cells ev.vals 27)).alloc (.cells (Ev.zero 0).vals 27)) ev) := RdSt.start w ev
  by_cases hc : [58, 32] <+: s.data.toList
  · obtain ⟨h2, h3⟩ := (colon_iff s).1 hc
    have hrd : Ch.rd .qv s.data.toList ev = { ev with text := str ((unesc (s.data.toList.drop 2)).getD []) } := if_pos hc
    have HC : Hid (∀ W, Calls Tryz.prog 67 #[.string (s.extract 2 s.size)] W fun e w' => (∃ b, e = .returned (.tuple #[.string (str ((unesc (s.data.toList.drop 2)).getD [])), .int .i64 b])) ∧ Below W.heap.size W w') := fun W => by
      have := unesc_get (s.extract 2 s.size) (by rw [← size_data, Lib.extract_to_end, List.length_drop, size_data]; omega) W
      rw [Lib.extract_to_end] at this
      exact this
    obtain ⟨v, hv⟩ : ∃ v, str ((unesc (s.data.toList.drop 2)).getD []) = v := ⟨_, rfl⟩
    rw [hrd]
    rw [hv] at HC ⊢
    have hb2 : (2 : Int) ≤ (s.size : Int) := by omega
    clear hrd hv hc
    unfold Ev.vals Ev.zero at HS
    unfold Ev.vals
    go_enter Tryz.func65, Tryz.ntmps65
    go_wp2_with fail
    refine (HC.out _).mono ?_
    rintro e w1 ⟨⟨b, rfl⟩, hb1⟩
    have HS1 : Hid (RdSt w w1 ev) := HS.out.below hb1
    obtain ⟨q0, q1, q2, q3, q4, q5, q6, q7, q8, q9, q10, q11, q12, q13⟩ := HS1.out.e.cells; obtain ⟨f0, f1, f2, f3, f4, f5, f6, f7, f8, f9, f10, f11, f12, f13⟩ := HS1.out.e.frees; obtain ⟨r0, r1, r2, r3, r4, r5, r6, r7, r8, r9, r10, r11, r12, r13⟩ := HS1.out.r.zcells; obtain ⟨g0, g1, g2, g3, g4, g5, g6, g7, g8, g9, g10, g11, g12, g13⟩ := HS1.out.r.frees
    clear hb1
    go_wp2
    refine bodyPost_ret (v := .agg #[.int .i64 ev.kind, .int .i64 ev.session, .int .i64 ev.window, .int .i64 ev.pane, .int .i64 ev.index, .int .i64 ev.offset, .int .i64 ev.tick, .int .i64 ev.number, .int .i64 ev.flag, .string ev.name, .string v, .string ev.layout, .string ev.visible, .bool ev.zoom]) (by simp [results, Tryz.results65, go_sem, r0, r1, r2, r3, r4, r5, r6, r7, r8, r9, r10, r11, r12, r13]) rfl ?_
    exact ⟨rfl, below14 (HS1.out.set 10 (.string v) (ev' := { ev with text := v }) rfl).b (by omega) _ _ _ _ _ _ _ _ _ _ _ _ _ _⟩
  · have hrd : Ch.rd .qv s.data.toList ev = ev := if_neg hc
    have hno : ¬ (2 ≤ s.size ∧ ((s.extract 0 2).toList == [58, 32]) = true) := fun h => hc ((colon_iff s).2 h)
    rw [hrd]
    have hgoal : ev.vals = #[.int .i64 ev.kind, .int .i64 ev.session, .int .i64 ev.window, .int .i64 ev.pane, .int .i64 ev.index, .int .i64 ev.offset, .int .i64 ev.tick, .int .i64 ev.number, .int .i64 ev.flag, .string ev.name, .string ev.text, .string ev.layout, .string ev.visible, .bool ev.zoom] := rfl
    clear hrd hc
    by_cases h2 : (2 : Int) ≤ (s.size : Int)
    · have h3 : ((s.extract 0 2).toList == [58, 32]) = false := Bool.eq_false_iff.2 fun h => hno ⟨by omega, h⟩
      clear hno
      have x0 : ev.vals[0]? = some (.int .i64 ev.kind) := rfl; have x1 : ev.vals[1]? = some (.int .i64 ev.session) := rfl; have x2 : ev.vals[2]? = some (.int .i64 ev.window) := rfl; have x3 : ev.vals[3]? = some (.int .i64 ev.pane) := rfl; have x4 : ev.vals[4]? = some (.int .i64 ev.index) := rfl; have x5 : ev.vals[5]? = some (.int .i64 ev.offset) := rfl; have x6 : ev.vals[6]? = some (.int .i64 ev.tick) := rfl; have x7 : ev.vals[7]? = some (.int .i64 ev.number) := rfl; have x8 : ev.vals[8]? = some (.int .i64 ev.flag) := rfl; have x9 : ev.vals[9]? = some (.string ev.name) := rfl; have x10 : ev.vals[10]? = some (.string ev.text) := rfl; have x11 : ev.vals[11]? = some (.string ev.layout) := rfl; have x12 : ev.vals[12]? = some (.string ev.visible) := rfl; have x13 : ev.vals[13]? = some (.bool ev.zoom) := rfl
      have z0 : ∀ h : 0 < ev.vals.size, ev.vals[0] = .int .i64 ev.kind := fun _ => rfl; have z1 : ∀ h : 1 < ev.vals.size, ev.vals[1] = .int .i64 ev.session := fun _ => rfl; have z2 : ∀ h : 2 < ev.vals.size, ev.vals[2] = .int .i64 ev.window := fun _ => rfl; have z3 : ∀ h : 3 < ev.vals.size, ev.vals[3] = .int .i64 ev.pane := fun _ => rfl; have z4 : ∀ h : 4 < ev.vals.size, ev.vals[4] = .int .i64 ev.index := fun _ => rfl; have z5 : ∀ h : 5 < ev.vals.size, ev.vals[5] = .int .i64 ev.offset := fun _ => rfl; have z6 : ∀ h : 6 < ev.vals.size, ev.vals[6] = .int .i64 ev.tick := fun _ => rfl; have z7 : ∀ h : 7 < ev.vals.size, ev.vals[7] = .int .i64 ev.number := fun _ => rfl; have z8 : ∀ h : 8 < ev.vals.size, ev.vals[8] = .int .i64 ev.flag := fun _ => rfl; have z9 : ∀ h : 9 < ev.vals.size, ev.vals[9] = .string ev.name := fun _ => rfl; have z10 : ∀ h : 10 < ev.vals.size, ev.vals[10] = .string ev.text := fun _ => rfl; have z11 : ∀ h : 11 < ev.vals.size, ev.vals[11] = .string ev.layout := fun _ => rfl; have z12 : ∀ h : 12 < ev.vals.size, ev.vals[12] = .string ev.visible := fun _ => rfl; have z13 : ∀ h : 13 < ev.vals.size, ev.vals[13] = .bool ev.zoom := fun _ => rfl
      have xs : ev.vals.size = 14 := rfl
      have HG : Hid (ev.vals = #[.int .i64 ev.kind, .int .i64 ev.session, .int .i64 ev.window, .int .i64 ev.pane, .int .i64 ev.index, .int .i64 ev.offset, .int .i64 ev.tick, .int .i64 ev.number, .int .i64 ev.flag, .string ev.name, .string ev.text, .string ev.layout, .string ev.visible, .bool ev.zoom]) := hgoal
      clear hgoal
      unfold Ev.zero at HS
      go_enter Tryz.func65, Tryz.ntmps65
      go_wp2
      refine bodyPost_ret (v := .agg #[.int .i64 ev.kind, .int .i64 ev.session, .int .i64 ev.window, .int .i64 ev.pane, .int .i64 ev.index, .int .i64 ev.offset, .int .i64 ev.tick, .int .i64 ev.number, .int .i64 ev.flag, .string ev.name, .string ev.text, .string ev.layout, .string ev.visible, .bool ev.zoom]) (by simp [results, Tryz.results65, go_sem]) rfl ?_
      rw [HG.out]
      exact ⟨rfl, ((Below.refl _ _).alloc (Nat.le_refl _) _).alloc (by simp) _⟩
    · clear hno
      have x0 : ev.vals[0]? = some (.int .i64 ev.kind) := rfl; have x1 : ev.vals[1]? = some (.int .i64 ev.session) := rfl; have x2 : ev.vals[2]? = some (.int .i64 ev.window) := rfl; have x3 : ev.vals[3]? = some (.int .i64 ev.pane) := rfl; have x4 : ev.vals[4]? = some (.int .i64 ev.index) := rfl; have x5 : ev.vals[5]? = some (.int .i64 ev.offset) := rfl; have x6 : ev.vals[6]? = some (.int .i64 ev.tick) := rfl; have x7 : ev.vals[7]? = some (.int .i64 ev.number) := rfl; have x8 : ev.vals[8]? = some (.int .i64 ev.flag) := rfl; have x9 : ev.vals[9]? = some (.string ev.name) := rfl; have x10 : ev.vals[10]? = some (.string ev.text) := rfl; have x11 : ev.vals[11]? = some (.string ev.layout) := rfl; have x12 : ev.vals[12]? = some (.string ev.visible) := rfl; have x13 : ev.vals[13]? = some (.bool ev.zoom) := rfl
      have z0 : ∀ h : 0 < ev.vals.size, ev.vals[0] = .int .i64 ev.kind := fun _ => rfl; have z1 : ∀ h : 1 < ev.vals.size, ev.vals[1] = .int .i64 ev.session := fun _ => rfl; have z2 : ∀ h : 2 < ev.vals.size, ev.vals[2] = .int .i64 ev.window := fun _ => rfl; have z3 : ∀ h : 3 < ev.vals.size, ev.vals[3] = .int .i64 ev.pane := fun _ => rfl; have z4 : ∀ h : 4 < ev.vals.size, ev.vals[4] = .int .i64 ev.index := fun _ => rfl; have z5 : ∀ h : 5 < ev.vals.size, ev.vals[5] = .int .i64 ev.offset := fun _ => rfl; have z6 : ∀ h : 6 < ev.vals.size, ev.vals[6] = .int .i64 ev.tick := fun _ => rfl; have z7 : ∀ h : 7 < ev.vals.size, ev.vals[7] = .int .i64 ev.number := fun _ => rfl; have z8 : ∀ h : 8 < ev.vals.size, ev.vals[8] = .int .i64 ev.flag := fun _ => rfl; have z9 : ∀ h : 9 < ev.vals.size, ev.vals[9] = .string ev.name := fun _ => rfl; have z10 : ∀ h : 10 < ev.vals.size, ev.vals[10] = .string ev.text := fun _ => rfl; have z11 : ∀ h : 11 < ev.vals.size, ev.vals[11] = .string ev.layout := fun _ => rfl; have z12 : ∀ h : 12 < ev.vals.size, ev.vals[12] = .string ev.visible := fun _ => rfl; have z13 : ∀ h : 13 < ev.vals.size, ev.vals[13] = .bool ev.zoom := fun _ => rfl
      have xs : ev.vals.size = 14 := rfl
      have HG : Hid (ev.vals = #[.int .i64 ev.kind, .int .i64 ev.session, .int .i64 ev.window, .int .i64 ev.pane, .int .i64 ev.index, .int .i64 ev.offset, .int .i64 ev.tick, .int .i64 ev.number, .int .i64 ev.flag, .string ev.name, .string ev.text, .string ev.layout, .string ev.visible, .bool ev.zoom]) := hgoal
      clear hgoal
      unfold Ev.zero at HS
      go_enter Tryz.func65, Tryz.ntmps65
      go_wp2
      refine bodyPost_ret (v := .agg #[.int .i64 ev.kind, .int .i64 ev.session, .int .i64 ev.window, .int .i64 ev.pane, .int .i64 ev.index, .int .i64 ev.offset, .int .i64 ev.tick, .int .i64 ev.number, .int .i64 ev.flag, .string ev.name, .string ev.text, .string ev.layout, .string ev.visible, .bool ev.zoom]) (by simp [results, Tryz.results65, go_sem]) rfl ?_
      rw [HG.out]
      exact ⟨rfl, ((Below.refl _ _).alloc (Nat.le_refl _) _).alloc (by simp) _⟩

theorem reads_any (c : Ch) (hc : c ≠ .qc) (ev : Ev) (s : ByteArray) (hs : s.size ≤ 1048576) (w : World) : Calls Tryz.prog 65 #[.agg ev.vals, .int .u8 (c.byte.toNat : Int), .string s] w fun e w' => e = .returned (.agg (c.rd s.data.toList ev).vals) ∧ Below w.heap.size w w' := by
  cases c with
  | qt => exact reads_qt ev s hs w
  | qn => exact reads_qn ev s hs w
  | qf => exact reads_qf ev s hs w
  | qo => exact reads_qo ev s hs w
  | qi => exact reads_qi ev s hs w
  | qs => exact reads_qs ev s hs w
  | qw => exact reads_qw ev s hs w
  | qp => exact reads_qp ev s hs w
  | qN => exact reads_qN ev s hs w
  | qW => exact reads_qW ev s hs w
  | qP => exact reads_qP ev s hs w
  | qV => exact reads_qV ev s hs w
  | qz => exact reads_qz ev s hs w
  | qd => exact reads_qd ev s hs w
  | qv => exact reads_qv ev s hs w
  | qm => exact reads_qm ev s hs w
  | qx => exact reads_qx ev s hs w
  | qc => exact absurd rfl hc

end Go.Proofs.YtplolaondmeccaaGreatDoor
