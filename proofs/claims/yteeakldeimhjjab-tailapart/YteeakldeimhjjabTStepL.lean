/-
  The tail: step's walks: Lines, All.
-/
import Derived.Test.YteeakldeimhjjabTStepX
import Derived.WalkKit
import Derived.Deep.RegionHeld3
namespace Go.Proofs.Yteeakldeimhjjab
open Go.RowKit Go.Lib
set_option linter.unusedVariables false
set_option maxRecDepth 100000

set_option maxHeartbeats 4000000 in
theorem step_lines {b : Nat} {v : Value} {lim st : Nat} {l : List UInt8} (t : ByteArray) (A B : Int) {w : World} (h : Side w b v lim st l) (h1 : -9223372036854775808 ≤ A) (h2 : A ≤ 9223372036854775807) :
    Calls Try.prog 6 #[.pointer (some ⟨b, 0, none⟩), refN lim st l, opV 2 t A B] w fun x w' => x = .returned (.tuple #[refN lim st l, .bool true]) ∧ Went w w' b v lim st l := by
  obtain ⟨S, hS⟩ : ∃ S, str (linesT A l) = S := ⟨_, rfl⟩
  have hlow := h.log.len
  have hhigh := h.log.high
  have HA : Hid (∀ W, Side W b v lim st l → Calls Try.prog 21 #[.pointer (some ⟨b, 0, none⟩), .int .i64 A] W fun x w' => x = .returned (.string S) ∧ ∃ n, w' = W.drewN n) := fun W hW => by
    have := lines_any hW.log rfl A h1 h2
    rw [hS] at this
    exact this
  have HR : Hid (∀ W, Calls Try.prog 22 #[.agg #[.int .i64 (lim : Int), .int .i64 (st : Int), .string (str l)], .int .i64 A] W fun x w' => x = .returned (.string S) ∧ Below W.heap.size W w') := fun W => by
    have := refLines_any lim st l A W (by omega) h1 h2
    rw [hS] at this
    exact this
  have HLT : Hid (∀ k ∈ foot b v, k < w.heap.size) := h.log.lt
  obtain ⟨d, hd⟩ : ∃ d, str l = d := ⟨_, rfl⟩
  have HH := Here.start (w := w) (b := b) (v := v) (lim := lim) (st := st) (l := l) (.cells #[.int .i64 (lim : Int), .int .i64 (st : Int), .string d] 27) (.cells #[.int .i64 2, .string t, .int .i64 A, .int .i64 B] 33) (.cells #[.int .i64 0, .int .i64 0, .string ⟨#[]⟩] 27)
  have HS0 := h.below (heap_three w (.cells #[.int .i64 (lim : Int), .int .i64 (st : Int), .string d] 27) (.cells #[.int .i64 2, .string t, .int .i64 A, .int .i64 B] 33) (.cells #[.int .i64 0, .int .i64 0, .string ⟨#[]⟩] 27)).2.2.2.2
  unfold refN opV
  rw [hd] at HR ⊢
  clear hS
  obtain ⟨W0, hW0⟩ : ∃ W0, W0 = (((w.alloc (.cells #[.int .i64 (lim : Int), .int .i64 (st : Int), .string d] 27)).alloc (.cells #[.int .i64 2, .string t, .int .i64 A, .int .i64 B] 33)).alloc (.cells #[.int .i64 0, .int .i64 0, .string ⟨#[]⟩] 27)) := ⟨_, rfl⟩
  rw [← hW0] at HH HS0
  have HHh : Hid (Here w W0 b v lim st l (.cells #[.int .i64 (lim : Int), .int .i64 (st : Int), .string d] 27) (.cells #[.int .i64 2, .string t, .int .i64 A, .int .i64 B] 33) (.cells #[.int .i64 0, .int .i64 0, .string ⟨#[]⟩] 27)) := HH
  have HSh : Hid (Side W0 b v lim st l) := HS0
  have HW0 : Hid (W0 = (((w.alloc (.cells #[.int .i64 (lim : Int), .int .i64 (st : Int), .string d] 27)).alloc (.cells #[.int .i64 2, .string t, .int .i64 A, .int .i64 B] 33)).alloc (.cells #[.int .i64 0, .int .i64 0, .string ⟨#[]⟩] 27))) := hW0
  have HSd : Hid (Side W0.drew b v lim st l) := ⟨⟨HS0.log.cells, HS0.log.bytes, HS0.log.low, HS0.log.high, HS0.log.len, HS0.log.most⟩, HS0.most⟩
  clear hd HH HS0 h hW0
  go_enter Try.func6, Try.ntmps6
  go_wp2_with fail
  rw [← HW0.out]
  have H1 := HHh.out
  have r0 : W0.cell? ⟨w.heap.size, 0, none⟩ = some (.int .i64 lim) := cell_atT H1.r 0
  have r1 : W0.cell? ⟨w.heap.size, 1, none⟩ = some (.int .i64 st) := cell_atT H1.r 1
  have r2 : W0.cell? ⟨w.heap.size, 2, none⟩ = some (.string d) := cell_atT H1.r 2
  have o2 : W0.cell? ⟨w.heap.size + 1, 2, none⟩ = some (.int .i64 A) := cell_atT H1.o 2
  have y0 : W0.cell? ⟨w.heap.size + 1 + 1, 0, none⟩ = some (.int .i64 0) := cell_atT H1.z 0
  have y1 : W0.cell? ⟨w.heap.size + 1 + 1, 1, none⟩ = some (.int .i64 0) := cell_atT H1.z 1
  have y2 : W0.cell? ⟨w.heap.size + 1 + 1, 2, none⟩ = some (.string ⟨#[]⟩) := cell_atT H1.z 2
  have yf : ∀ o, W0.frozen? ⟨w.heap.size + 1 + 1, o, none⟩ = false := free_atT H1.z
  clear H1
  have hq1 : ¬ (w.heap.size = w.heap.size + 1 + 1) := by omega
  have hq2 : ¬ (w.heap.size + 1 + 1 = w.heap.size) := by omega
  go_region_held3 (fun W' => W'.cell? ⟨w.heap.size, 0, none⟩ = some (.int .i64 lim) ∧ W'.cell? ⟨w.heap.size, 1, none⟩ = some (.int .i64 st) ∧ W'.cell? ⟨w.heap.size, 2, none⟩ = some (.string d) ∧ W'.cell? ⟨w.heap.size + 1, 2, none⟩ = some (.int .i64 A)) (go_keep) (first | (go_at_call 21; refine (HA.out _ HSd.out).mono ?_; rintro x w1 ⟨rfl, n, rfl⟩) | (go_at_call 22; refine (HR.out _).mono ?_; rintro x w2 ⟨rfl, hb2⟩; have H2 := HHh.out.below (⟨hb2.os, hb2.tape, hb2.output, hb2.size, hb2.block⟩ : Below W0.heap.size W0 w2); have HH2 : Hid (Here w w2 b v lim st l (.cells #[.int .i64 (lim : Int), .int .i64 (st : Int), .string d] 27) (.cells #[.int .i64 2, .string t, .int .i64 A, .int .i64 B] 33) (.cells #[.int .i64 0, .int .i64 0, .string ⟨#[]⟩] 27)) := H2; have HW2 : Hid (Side w2 b v lim st l) := HSh.out.below (⟨hb2.os, hb2.tape, hb2.output, hb2.size, hb2.block⟩ : Below W0.heap.size W0 w2); have q0 : w2.cell? ⟨w.heap.size, 0, none⟩ = some (.int .i64 lim) := cell_atT H2.r 0; have q1 : w2.cell? ⟨w.heap.size, 1, none⟩ = some (.int .i64 st) := cell_atT H2.r 1; have q2 : w2.cell? ⟨w.heap.size, 2, none⟩ = some (.string d) := cell_atT H2.r 2; have p2 : w2.cell? ⟨w.heap.size + 1, 2, none⟩ = some (.int .i64 A) := cell_atT H2.o 2; have x0 : w2.cell? ⟨w.heap.size + 1 + 1, 0, none⟩ = some (.int .i64 0) := cell_atT H2.z 0; have x1 : w2.cell? ⟨w.heap.size + 1 + 1, 1, none⟩ = some (.int .i64 0) := cell_atT H2.z 1; have x2 : w2.cell? ⟨w.heap.size + 1 + 1, 2, none⟩ = some (.string ⟨#[]⟩) := cell_atT H2.z 2; have xf : ∀ o, w2.frozen? ⟨w.heap.size + 1 + 1, o, none⟩ = false := free_atT H2.z; clear hb2 H2))
  all_goals (try go_wp2)
  all_goals (have SF := stored3 (x := .int .i64 (lim : Int)) (y := .int .i64 (st : Int)) (z := .string d) HH2.out.z)
  all_goals (have t0 := cell_atT SF.1 0; have t1 := cell_atT SF.1 1; have t2 := cell_atT SF.1 2)
  all_goals refine bodyPost_ret (v := .tuple #[.agg #[.int .i64 (lim : Int), .int .i64 (st : Int), .string d], .bool true]) (by simp [results, Try.results6, go_sem, t0, t1, t2]) rfl ?_
  all_goals refine ⟨by rfl, ?_⟩
  all_goals exact went_end HLT.out HH2.out HW2.out (.inl rfl) SF.2 (by first | exact Below.refl _ _ | exact (Below.refl _ _).drew)

set_option maxHeartbeats 4000000 in
theorem step_all {b : Nat} {v : Value} {lim st : Nat} {l : List UInt8} {k : Int} (k0 : ¬ k = 0) (k1 : ¬ k = 1) (k2 : ¬ k = 2) (t : ByteArray) (A B : Int) {w : World} (h : Side w b v lim st l) (h1 : -9223372036854775808 ≤ A) (h2 : A ≤ 9223372036854775807) :
    Calls Try.prog 6 #[.pointer (some ⟨b, 0, none⟩), refN lim st l, opV k t A B] w fun x w' => x = .returned (.tuple #[refN lim st l, .bool true]) ∧ Went w w' b v lim st l := by
  have hlow := h.log.len
  have hhigh := h.log.high
  have HA : Hid (∀ W, Side W b v lim st l → Calls Try.prog 10 #[.pointer (some ⟨b, 0, none⟩)] W fun x w' => x = .returned (.string (str l)) ∧ ∃ n, w' = W.drewN n) := fun W hW => all_any hW.log rfl
  have HLT : Hid (∀ k ∈ foot b v, k < w.heap.size) := h.log.lt
  obtain ⟨d, hd⟩ : ∃ d, str l = d := ⟨_, rfl⟩
  have HH := Here.start (w := w) (b := b) (v := v) (lim := lim) (st := st) (l := l) (.cells #[.int .i64 (lim : Int), .int .i64 (st : Int), .string d] 27) (.cells #[.int .i64 k, .string t, .int .i64 A, .int .i64 B] 33) (.cells #[.int .i64 0, .int .i64 0, .string ⟨#[]⟩] 27)
  have HS0 := h.below (heap_three w (.cells #[.int .i64 (lim : Int), .int .i64 (st : Int), .string d] 27) (.cells #[.int .i64 k, .string t, .int .i64 A, .int .i64 B] 33) (.cells #[.int .i64 0, .int .i64 0, .string ⟨#[]⟩] 27)).2.2.2.2
  unfold refN opV
  rw [hd] at HA ⊢
  obtain ⟨W0, hW0⟩ : ∃ W0, W0 = (((w.alloc (.cells #[.int .i64 (lim : Int), .int .i64 (st : Int), .string d] 27)).alloc (.cells #[.int .i64 k, .string t, .int .i64 A, .int .i64 B] 33)).alloc (.cells #[.int .i64 0, .int .i64 0, .string ⟨#[]⟩] 27)) := ⟨_, rfl⟩
  rw [← hW0] at HH HS0
  have HHh : Hid (Here w W0 b v lim st l (.cells #[.int .i64 (lim : Int), .int .i64 (st : Int), .string d] 27) (.cells #[.int .i64 k, .string t, .int .i64 A, .int .i64 B] 33) (.cells #[.int .i64 0, .int .i64 0, .string ⟨#[]⟩] 27)) := HH
  have HSh : Hid (Side W0 b v lim st l) := HS0
  have HW0 : Hid (W0 = (((w.alloc (.cells #[.int .i64 (lim : Int), .int .i64 (st : Int), .string d] 27)).alloc (.cells #[.int .i64 k, .string t, .int .i64 A, .int .i64 B] 33)).alloc (.cells #[.int .i64 0, .int .i64 0, .string ⟨#[]⟩] 27))) := hW0
  have HSd : Hid (Side W0.drew b v lim st l) := ⟨⟨HS0.log.cells, HS0.log.bytes, HS0.log.low, HS0.log.high, HS0.log.len, HS0.log.most⟩, HS0.most⟩
  clear hd HH HS0 h hW0
  go_enter Try.func6, Try.ntmps6
  go_wp2_with fail
  rw [← HW0.out]
  have H1 := HHh.out
  have r0 : W0.cell? ⟨w.heap.size, 0, none⟩ = some (.int .i64 lim) := cell_atT H1.r 0
  have r1 : W0.cell? ⟨w.heap.size, 1, none⟩ = some (.int .i64 st) := cell_atT H1.r 1
  have r2 : W0.cell? ⟨w.heap.size, 2, none⟩ = some (.string d) := cell_atT H1.r 2
  have o2 : W0.cell? ⟨w.heap.size + 1, 2, none⟩ = some (.int .i64 A) := cell_atT H1.o 2
  have y0 : W0.cell? ⟨w.heap.size + 1 + 1, 0, none⟩ = some (.int .i64 0) := cell_atT H1.z 0
  have y1 : W0.cell? ⟨w.heap.size + 1 + 1, 1, none⟩ = some (.int .i64 0) := cell_atT H1.z 1
  have y2 : W0.cell? ⟨w.heap.size + 1 + 1, 2, none⟩ = some (.string ⟨#[]⟩) := cell_atT H1.z 2
  have yf : ∀ o, W0.frozen? ⟨w.heap.size + 1 + 1, o, none⟩ = false := free_atT H1.z
  clear H1
  have hq1 : ¬ (w.heap.size = w.heap.size + 1 + 1) := by omega
  have hq2 : ¬ (w.heap.size + 1 + 1 = w.heap.size) := by omega
  go_region_held3 (fun W' => W'.cell? ⟨w.heap.size, 0, none⟩ = some (.int .i64 lim) ∧ W'.cell? ⟨w.heap.size, 1, none⟩ = some (.int .i64 st) ∧ W'.cell? ⟨w.heap.size, 2, none⟩ = some (.string d) ∧ W'.cell? ⟨w.heap.size + 1, 2, none⟩ = some (.int .i64 A)) (go_keep) ((go_at_call 10; refine (HA.out _ HSd.out).mono ?_; rintro x w1 ⟨rfl, n, rfl⟩))
  all_goals (try go_wp2)
  all_goals (have HH2 := HHh.out.below (below_drewN W0 (1 + n)); have HW2 := HSh.out.below (below_drewN W0 (1 + n)))
  all_goals (have SF := stored3 (x := .int .i64 (lim : Int)) (y := .int .i64 (st : Int)) (z := .string d) HH2.z)
  all_goals (have t0 := cell_atT SF.1 0; have t1 := cell_atT SF.1 1; have t2 := cell_atT SF.1 2)
  all_goals refine bodyPost_ret (v := .tuple #[.agg #[.int .i64 (lim : Int), .int .i64 (st : Int), .string d], .bool true]) (by simp [results, Try.results6, go_sem, t0, t1, t2]) rfl ?_
  all_goals refine ⟨by rfl, ?_⟩
  all_goals exact went_end HLT.out HH2 HW2 (.inl rfl) SF.2 (by first | exact Below.refl _ _ | exact (Below.refl _ _).drew)

theorem step_any {b : Nat} {v : Value} {lim st : Nat} {l : List UInt8} (k : Int) (t : ByteArray) (A B : Int) {w : World} (h : Side w b v lim st l) (ht : t.size ≤ 9223372036854775807) (h1 : -9223372036854775808 ≤ A) (h2 : A ≤ 9223372036854775807) (h3 : -9223372036854775808 ≤ B) (h4 : B ≤ 9223372036854775807) :
    Calls Try.prog 6 #[.pointer (some ⟨b, 0, none⟩), refN lim st l, opV k t A B] w fun x w' => x = .returned (.tuple #[refN lim (stepS k lim st l t) (stepL k lim st l t), .bool true]) ∧ Went w w' b v lim (stepS k lim st l t) (stepL k lim st l t) := by
  unfold stepS stepL
  by_cases k0 : k = 0
  · subst k0
    rw [if_pos rfl, if_pos rfl]
    exact step_append t A B h ht
  rw [if_neg k0, if_neg k0]
  by_cases k1 : k = 1
  · subst k1
    exact step_read t A B h h1 h2 h3 h4
  by_cases k2 : k = 2
  · subst k2
    exact step_lines t A B h h1 h2
  exact step_all k0 k1 k2 t A B h h1 h2

end Go.Proofs.Yteeakldeimhjjab
