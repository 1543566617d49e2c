/-
  The tail: step's walks: Read, Lines, All.
-/
import Derived.Test.YteeakldeimhjjabTStepW
import Derived.WalkKit
import Derived.Deep.RegionHeld3
namespace Go.Proofs.Yteeakldeimhjjab
open Go.RowKit Go.Lib
set_option linter.unusedVariables false
set_option maxRecDepth 100000

theorem readV_shape (s : Nat) (l : List UInt8) (f m : Int) : ∃ S X E, readV s l f m = .tuple #[.string S, .int .i64 X, .int .i64 E] := by
  unfold readV
  split
  · exact ⟨_, _, _, rfl⟩
  · split
    · exact ⟨_, _, _, rfl⟩
    · split
      · exact ⟨_, _, _, rfl⟩
      · exact ⟨_, _, _, rfl⟩

set_option maxHeartbeats 4000000 in
theorem step_read {b : Nat} {v : Value} {lim st : Nat} {l : List UInt8} (t : ByteArray) (A B : Int) {w : World} (h : Side w b v lim st l) (h1 : -9223372036854775808 ≤ A) (h2 : A ≤ 9223372036854775807) (h3 : -9223372036854775808 ≤ B) (h4 : B ≤ 9223372036854775807) :
    Calls Try.prog 6 #[.pointer (some ⟨b, 0, none⟩), refN lim st l, opV 1 t A B] w fun x w' => x = .returned (.tuple #[refN lim st l, .bool true]) ∧ Went w w' b v lim st l := by
  obtain ⟨S, X, E, hR⟩ := readV_shape st l A B
  have hlow := h.log.len
  have hhigh := h.log.high
  have HA : Hid (∀ W, Side W b v lim st l → Calls Try.prog 19 #[.pointer (some ⟨b, 0, none⟩), .int .i64 A, .int .i64 B] W fun x w' => x = .returned (.tuple #[.string S, .int .i64 X, .int .i64 E]) ∧ ∃ n, w' = W.drewN n) := fun W hW => by
    have := read_any hW.log rfl A B h1 h2 h3 h4
    rw [hR] at this
    exact this
  have HR : Hid (∀ W, Calls Try.prog 20 #[.agg #[.int .i64 (lim : Int), .int .i64 (st : Int), .string (str l)], .int .i64 A, .int .i64 B] W fun x w' => x = .returned (.tuple #[.string S, .int .i64 X, .int .i64 E]) ∧ Below W.heap.size W w') := fun W => by
    have := refRead_any lim st l A B W h.most (by omega) h1 h2 h3 h4
    rw [hR] at this
    exact this
  have HLT : Hid (∀ k ∈ foot b v, k < w.heap.size) := h.log.lt
  have HS : Hid (Side w b v lim st l) := h
  have HD : Hid (str l = str l) := (rfl : _ = _)
  obtain ⟨d, hd⟩ : ∃ d, str l = d := ⟨_, rfl⟩
  have HH := Here.start (w := w) (b := b) (v := v) (lim := lim) (st := st) (l := l) (.cells #[.int .i64 (lim : Int), .int .i64 (st : Int), .string d] 27) (.cells #[.int .i64 1, .string t, .int .i64 A, .int .i64 B] 33) (.cells #[.int .i64 0, .int .i64 0, .string ⟨#[]⟩] 27)
  have HS0 := h.below (heap_three w (.cells #[.int .i64 (lim : Int), .int .i64 (st : Int), .string d] 27) (.cells #[.int .i64 1, .string t, .int .i64 A, .int .i64 B] 33) (.cells #[.int .i64 0, .int .i64 0, .string ⟨#[]⟩] 27)).2.2.2.2
  unfold refN opV
  rw [hd] at HR ⊢
  obtain ⟨W0, hW0⟩ : ∃ W0, W0 = (((w.alloc (.cells #[.int .i64 (lim : Int), .int .i64 (st : Int), .string d] 27)).alloc (.cells #[.int .i64 1, .string t, .int .i64 A, .int .i64 B] 33)).alloc (.cells #[.int .i64 0, .int .i64 0, .string ⟨#[]⟩] 27)) := ⟨_, rfl⟩
  rw [← hW0] at HH HS0
  have HHh : Hid (Here w W0 b v lim st l (.cells #[.int .i64 (lim : Int), .int .i64 (st : Int), .string d] 27) (.cells #[.int .i64 1, .string t, .int .i64 A, .int .i64 B] 33) (.cells #[.int .i64 0, .int .i64 0, .string ⟨#[]⟩] 27)) := HH
  have HSh : Hid (Side W0 b v lim st l) := HS0
  have HW0 : Hid (W0 = (((w.alloc (.cells #[.int .i64 (lim : Int), .int .i64 (st : Int), .string d] 27)).alloc (.cells #[.int .i64 1, .string t, .int .i64 A, .int .i64 B] 33)).alloc (.cells #[.int .i64 0, .int .i64 0, .string ⟨#[]⟩] 27))) := hW0
  clear hd HH HS0 h hR hW0
  go_enter Try.func6, Try.ntmps6
  go_wp2_with fail
  rw [← HW0.out]
  refine (HA.out _ HSh.out).mono ?_
  rintro x w1 ⟨rfl, n, rfl⟩
  have H1 := HHh.out.below (below_drewN W0 n)
  have HH1 : Hid (Here w (W0.drewN n) b v lim st l (.cells #[.int .i64 (lim : Int), .int .i64 (st : Int), .string d] 27) (.cells #[.int .i64 1, .string t, .int .i64 A, .int .i64 B] 33) (.cells #[.int .i64 0, .int .i64 0, .string ⟨#[]⟩] 27)) := H1
  have r0 : W0.cell? ⟨w.heap.size, 0, none⟩ = some (.int .i64 lim) := cell_atT H1.r 0
  have r1 : W0.cell? ⟨w.heap.size, 1, none⟩ = some (.int .i64 st) := cell_atT H1.r 1
  have r2 : W0.cell? ⟨w.heap.size, 2, none⟩ = some (.string d) := cell_atT H1.r 2
  have o2 : W0.cell? ⟨w.heap.size + 1, 2, none⟩ = some (.int .i64 A) := cell_atT H1.o 2
  have o3 : W0.cell? ⟨w.heap.size + 1, 3, none⟩ = some (.int .i64 B) := cell_atT H1.o 3
  have HW1 : Hid (Side (W0.drewN n) b v lim st l) := HSh.out.below (below_drewN W0 n)
  clear H1 HHh HSh HW0
  go_wp2_with fail
  refine (HR.out _).mono ?_
  rintro x w2 ⟨rfl, hb2⟩
  have H2 := HH1.out.below hb2
  have HH2 : Hid (Here w w2 b v lim st l (.cells #[.int .i64 (lim : Int), .int .i64 (st : Int), .string d] 27) (.cells #[.int .i64 1, .string t, .int .i64 A, .int .i64 B] 33) (.cells #[.int .i64 0, .int .i64 0, .string ⟨#[]⟩] 27)) := H2
  have HW2 : Hid (Side w2 b v lim st l) := HW1.out.below hb2
  have q0 : w2.cell? ⟨w.heap.size, 0, none⟩ = some (.int .i64 lim) := cell_atT H2.r 0
  have q1 : w2.cell? ⟨w.heap.size, 1, none⟩ = some (.int .i64 st) := cell_atT H2.r 1
  have q2 : w2.cell? ⟨w.heap.size, 2, none⟩ = some (.string d) := cell_atT H2.r 2
  have y0 : w2.cell? ⟨w.heap.size + 1 + 1, 0, none⟩ = some (.int .i64 0) := cell_atT H2.z 0
  have y1 : w2.cell? ⟨w.heap.size + 1 + 1, 1, none⟩ = some (.int .i64 0) := cell_atT H2.z 1
  have y2 : w2.cell? ⟨w.heap.size + 1 + 1, 2, none⟩ = some (.string ⟨#[]⟩) := cell_atT H2.z 2
  have yf : ∀ o, w2.frozen? ⟨w.heap.size + 1 + 1, o, none⟩ = false := free_atT H2.z
  clear hb2 H2 r0 r1 r2 o2 o3
  go_wp2_with fail
  have SF := stored3 (x := .int .i64 (lim : Int)) (y := .int .i64 (st : Int)) (z := .string d) HH2.out.z
  have t0 := cell_atT SF.1 0
  have t1 := cell_atT SF.1 1
  have t2 := cell_atT SF.1 2
  refine bodyPost_ret (v := .tuple #[.agg #[.int .i64 (lim : Int), .int .i64 (st : Int), .string d], .bool true]) (by simp [results, Try.results6, go_sem, t0, t1, t2]) rfl ?_
  refine ⟨by rfl, ?_⟩
  exact went_end HLT.out HH2.out HW2.out (.inl rfl) SF.2 (Below.refl _ _)

end Go.Proofs.Yteeakldeimhjjab
