/-
  Keys: which there are, by the document.
  Keys: characters, letters, numbers, by the document.
  Keys: what bytes are worth as one character, by the document.
-/
import Derived.Test.YtgdkpmfdpfjdjaaGreatDoorHB
import Derived.Test.YtgdkpmfdpfjdjaaGreatDoorHD
import Derived.Test.YtgdkpmfdpfjdjaaGreatDoorKSeq
import Derived.Lib.AppendStr
namespace Go.Proofs.YtgdkpmfdpfjdjaaGreatDoor
open Go.RowKit
set_option linter.unusedVariables false
set_option maxRecDepth 100000

set_option maxHeartbeats 1000000 in
theorem rspecial_any (c : Int) (w : World) : Calls Tryz.prog 118 #[.int .i64 c] w fun r w' => r = .returned (.bool (spcB c)) ∧ w = w' := by
  go_enter Tryz.func118, Tryz.ntmps118
  go_wp2
  all_goals go_ret
  all_goals refine ⟨retB ?_, rfl⟩
  all_goals unfold spcB
  all_goals first | (rw [decide_eq_decide]; omega) | (symm; rw [decide_eq_false_iff_not]; omega) | (symm; rw [decide_eq_true_iff]; omega)
set_option maxHeartbeats 1000000 in
theorem rcharacter_any (c : Int) (w : World) : Calls Tryz.prog 119 #[.int .i64 c] w fun r w' => r = .returned (.bool (chrB c)) ∧ w = w' := by
  obtain ⟨z, hz⟩ : ∃ z, chrB c = z := ⟨_, rfl⟩
  rw [hz]
  unfold chrB at hz
  rcases (by omega : (33 ≤ c ∧ c ≤ 126) ∨ (c < 33) ∨ (126 < c ∧ c < 160) ∨ (160 ≤ c ∧ c < 55296) ∨ (55296 ≤ c ∧ c ≤ 57343) ∨ (57343 < c ∧ c ≤ 1114111) ∨ (1114111 < c)) with q | q | q | q | q | q | q
  · obtain rfl : true = z := by rw [← hz]; simp; omega
    have i0 : (33 : Int) ≤ c := by omega
    have i1 : c ≤ (126 : Int) := by omega
    clear hz q
    go_enter Tryz.func119, Tryz.ntmps119
    go_wp2_with fail
    go_ret
    exact ⟨rfl, rfl⟩
  · obtain rfl : false = z := by rw [← hz]; simp; omega
    have i0 : ¬ (33 : Int) ≤ c := by omega
    have i1 : ¬ (160 : Int) ≤ c := by omega
    clear hz q
    go_enter Tryz.func119, Tryz.ntmps119
    go_wp2_with fail
    go_ret
    exact ⟨rfl, rfl⟩
  · obtain rfl : false = z := by rw [← hz]; simp; omega
    have i0 : (33 : Int) ≤ c := by omega
    have i1 : ¬ c ≤ (126 : Int) := by omega
    have i2 : ¬ (160 : Int) ≤ c := by omega
    clear hz q
    go_enter Tryz.func119, Tryz.ntmps119
    go_wp2_with fail
    go_ret
    exact ⟨rfl, rfl⟩
  · obtain rfl : true = z := by rw [← hz]; simp; omega
    have i0 : (33 : Int) ≤ c := by omega
    have i1 : ¬ c ≤ (126 : Int) := by omega
    have i2 : (160 : Int) ≤ c := by omega
    have i3 : c ≤ (1114111 : Int) := by omega
    have i4 : c < (55296 : Int) := by omega
    clear hz q
    go_enter Tryz.func119, Tryz.ntmps119
    go_wp2_with fail
    go_ret
    exact ⟨rfl, rfl⟩
  · obtain rfl : false = z := by rw [← hz]; simp; omega
    have i0 : (33 : Int) ≤ c := by omega
    have i1 : ¬ c ≤ (126 : Int) := by omega
    have i2 : (160 : Int) ≤ c := by omega
    have i3 : c ≤ (1114111 : Int) := by omega
    have i4 : ¬ c < (55296 : Int) := by omega
    have i5 : ¬ (57343 : Int) < c := by omega
    clear hz q
    go_enter Tryz.func119, Tryz.ntmps119
    go_wp2_with fail
    go_ret
    exact ⟨rfl, rfl⟩
  · obtain rfl : true = z := by rw [← hz]; simp; omega
    have i0 : (33 : Int) ≤ c := by omega
    have i1 : ¬ c ≤ (126 : Int) := by omega
    have i2 : (160 : Int) ≤ c := by omega
    have i3 : c ≤ (1114111 : Int) := by omega
    have i4 : ¬ c < (55296 : Int) := by omega
    have i5 : (57343 : Int) < c := by omega
    clear hz q
    go_enter Tryz.func119, Tryz.ntmps119
    go_wp2_with fail
    go_ret
    exact ⟨rfl, rfl⟩
  · obtain rfl : false = z := by rw [← hz]; simp; omega
    have i0 : (33 : Int) ≤ c := by omega
    have i1 : ¬ c ≤ (126 : Int) := by omega
    have i2 : (160 : Int) ≤ c := by omega
    have i3 : ¬ c ≤ (1114111 : Int) := by omega
    clear hz q
    go_enter Tryz.func119, Tryz.ntmps119
    go_wp2_with fail
    go_ret
    exact ⟨rfl, rfl⟩
set_option maxHeartbeats 2000000 in
theorem rcontrolled_any (c : Int) (w : World) : Calls Tryz.prog 120 #[.int .i64 c] w fun r w' => r = .returned (.bool (ctlB c)) ∧ w = w' := by
  obtain ⟨z, hz⟩ : ∃ z, ctlB c = z := ⟨_, rfl⟩
  rw [hz]
  unfold ctlB at hz
  rcases (by omega : (c < 92) ∨ (c = 92) ∨ (c = 93) ∨ (c = 94) ∨ (c = 95) ∨ (c = 96) ∨ (97 ≤ c ∧ c ≤ 122 ∧ c ≠ 105 ∧ c ≠ 109) ∨ (c = 105) ∨ (c = 109) ∨ (122 < c)) with q | q | q | q | q | q | q | q | q | q
  · obtain rfl : false = z := by rw [← hz]; simp; omega
    have i0 : ¬ (97 : Int) ≤ c := by omega
    have i1 : (c == 92) = false := by simp; omega
    have j1 : ¬ c = 92 := by omega
    have i2 : (c == 93) = false := by simp; omega
    have j2 : ¬ c = 93 := by omega
    have i3 : (c == 94) = false := by simp; omega
    have j3 : ¬ c = 94 := by omega
    have i4 : (c == 95) = false := by simp; omega
    have j4 : ¬ c = 95 := by omega
    clear hz q
    go_enter Tryz.func120, Tryz.ntmps120
    go_wp2_with fail
    go_ret
    exact ⟨rfl, rfl⟩
  · subst q
    obtain rfl : true = z := by rw [← hz]; decide
    clear hz
    go_enter Tryz.func120, Tryz.ntmps120
    go_wp2_with fail
    go_ret
    exact ⟨rfl, rfl⟩
  · subst q
    obtain rfl : true = z := by rw [← hz]; decide
    clear hz
    go_enter Tryz.func120, Tryz.ntmps120
    go_wp2_with fail
    go_ret
    exact ⟨rfl, rfl⟩
  · subst q
    obtain rfl : true = z := by rw [← hz]; decide
    clear hz
    go_enter Tryz.func120, Tryz.ntmps120
    go_wp2_with fail
    go_ret
    exact ⟨rfl, rfl⟩
  · subst q
    obtain rfl : true = z := by rw [← hz]; decide
    clear hz
    go_enter Tryz.func120, Tryz.ntmps120
    go_wp2_with fail
    go_ret
    exact ⟨rfl, rfl⟩
  · subst q
    obtain rfl : false = z := by rw [← hz]; decide
    clear hz
    go_enter Tryz.func120, Tryz.ntmps120
    go_wp2_with fail
    go_ret
    exact ⟨rfl, rfl⟩
  · obtain rfl : true = z := by rw [← hz]; simp; omega
    have i0 : (97 : Int) ≤ c := by omega
    have i1 : c ≤ (122 : Int) := by omega
    have i2 : (c == 105) = false := by simp; omega
    have j2 : ¬ c = 105 := by omega
    have i3 : (c == 109) = false := by simp; omega
    have j3 : ¬ c = 109 := by omega
    clear hz q
    go_enter Tryz.func120, Tryz.ntmps120
    go_wp2_with fail
    go_ret
    exact ⟨rfl, rfl⟩
  · subst q
    obtain rfl : false = z := by rw [← hz]; decide
    clear hz
    go_enter Tryz.func120, Tryz.ntmps120
    go_wp2_with fail
    go_ret
    exact ⟨rfl, rfl⟩
  · subst q
    obtain rfl : false = z := by rw [← hz]; decide
    clear hz
    go_enter Tryz.func120, Tryz.ntmps120
    go_wp2_with fail
    go_ret
    exact ⟨rfl, rfl⟩
  · obtain rfl : false = z := by rw [← hz]; simp; omega
    have i0 : (97 : Int) ≤ c := by omega
    have i1 : ¬ c ≤ (122 : Int) := by omega
    have i2 : (c == 92) = false := by simp; omega
    have j2 : ¬ c = 92 := by omega
    have i3 : (c == 93) = false := by simp; omega
    have j3 : ¬ c = 93 := by omega
    have i4 : (c == 94) = false := by simp; omega
    have j4 : ¬ c = 94 := by omega
    have i5 : (c == 95) = false := by simp; omega
    have j5 : ¬ c = 95 := by omega
    clear hz q
    go_enter Tryz.func120, Tryz.ntmps120
    go_wp2_with fail
    go_ret
    exact ⟨rfl, rfl⟩
end Go.Proofs.YtgdkpmfdpfjdjaaGreatDoor

namespace Go.Proofs.YtgdkpmfdpfjdjaaGreatDoor
open Go.RowKit
set_option linter.unusedVariables false
set_option maxRecDepth 100000

theorem underBU : Tryz.prog.underlying 118 = some (.slice 5) := by kernel_rfl
theorem conv_made (l : List UInt8) (hl : l.length ≤ 9) (w : World) : (convert 118 9 (.slice (some ⟨w.heap.size, 0, none⟩) l.length l.length)).run Tryz.prog (w.alloc (.cells (l.map bv).toArray 5)) = .ok (.string (str l)) (w.alloc (.cells (l.map bv).toArray 5)) :=
  (Owns.made w w.heap.size l (Nat.le_refl _) (by unfold maxLen; omega)).text (P := Tryz.prog) 118 9 5 underBU Tryz.underlying5 Tryz.underlying9
theorem byte_ex (z : Int) (h0 : 0 ≤ z) (h1 : z < 256) : ∃ b : UInt8, z = (b.toNat : Int) ∧ b = z.toNat.toUInt8 := ⟨z.toNat.toUInt8, by rw [UInt8.toNat_ofNat']; omega, rfl⟩
theorem u8_in (n : Int) (h : 0 ≤ n ∧ n < 256) : IntKind.u8.wrap n = n := by
  have := IntKind.wrap_u8 n
  omega
/-- A code's bytes, as they are reckoned. -/
def r8F (c : Int) : List UInt8 :=
  if c < 128 then [c.toNat.toUInt8]
  else if c < 2048 then [(192 + c / 64).toNat.toUInt8, (128 + c % 64).toNat.toUInt8]
  else if c < 65536 then [(224 + c / 4096).toNat.toUInt8, (128 + c / 64 % 64).toNat.toUInt8, (128 + c % 64).toNat.toUInt8]
  else [(240 + c / 262144).toNat.toUInt8, (128 + c / 4096 % 64).toNat.toUInt8, (128 + c / 64 % 64).toNat.toUInt8, (128 + c % 64).toNat.toUInt8]
theorem r8_enc {c : Int} (h0 : 0 ≤ c) (h1 : c ≤ 1114111) (h2 : c < 55296 ∨ 57343 < c) : r8F c = Lib.encodeRune c := by
  unfold r8F Lib.encodeRune
  by_cases a : c < 128
  · rw [if_pos a, Lib.encodeRuneZ_one h0 (by omega)]; rfl
  · rw [if_neg a]
    by_cases b : c < 2048
    · rw [if_pos b, Lib.encodeRuneZ_two (by omega) (by omega)]; rfl
    · rw [if_neg b]
      by_cases d : c < 65536
      · rw [if_pos d, Lib.encodeRuneZ_three (by omega)]; rfl
      · rw [if_neg d, Lib.encodeRuneZ_four (by omega) h1]; rfl
set_option maxHeartbeats 2000000 in
theorem rutf8_any (c : Int) (h0 : 0 ≤ c) (h1 : c < 2097152) (w : World) : Calls Tryz.prog 122 #[.int .i64 c] w fun r w' => r = .returned (.string (str (r8F c))) ∧ Below w.heap.size w w' := by
  have HFin : Hid (∀ o, Below w.heap.size w (w.alloc o)) := fun o => (Below.refl _ _).alloc (Nat.le_refl _) o
  obtain ⟨R, hR⟩ : ∃ R, str (r8F c) = R := ⟨_, rfl⟩
  rw [hR]
  unfold r8F at hR
  by_cases a : c < 128
  · rw [if_pos a] at hR
    obtain ⟨b0, e0, f0⟩ := byte_ex c h0 (by omega)
    have hw := u8_in c ⟨h0, by omega⟩
    have hcv := conv_made [b0] (by simp) w
    rw [← f0] at hR
    rw [hR] at hcv
    have hcw : (convert 118 9 (.slice (some ⟨w.heap.size, 0, none⟩) 1 1)).run Tryz.prog (w.alloc (.cells #[.int .u8 c] 5)) = .ok (.string R) (w.alloc (.cells #[.int .u8 c] 5)) := by rw [e0]; exact hcv
    clear hcv hR e0 f0
    go_enter Tryz.func122, Tryz.ntmps122
    go_wp2_with fail
    go_ret
    exact ⟨rfl, HFin.out _⟩
  · rw [if_neg a] at hR
    by_cases b : c < 2048
    · rw [if_pos b] at hR
      obtain ⟨y0, hy0⟩ : ∃ y, 192 + c / 64 = y := ⟨_, rfl⟩
      obtain ⟨y1, hy1⟩ : ∃ y, 128 + c % 64 = y := ⟨_, rfl⟩
      rw [hy0, hy1] at hR
      have r0 : 0 ≤ y0 ∧ y0 < 256 := by omega
      have r1 : 0 ≤ y1 ∧ y1 < 256 := by omega
      obtain ⟨b0, e0, f0⟩ := byte_ex y0 r0.1 r0.2
      obtain ⟨b1, e1, f1⟩ := byte_ex y1 r1.1 r1.2
      have w0 := u8_in y0 r0
      have w1 := u8_in y1 r1
      have hcv := conv_made [b0, b1] (by simp) w
      rw [← f0, ← f1] at hR
      rw [hR] at hcv
      have hcw : (convert 118 9 (.slice (some ⟨w.heap.size, 0, none⟩) 2 2)).run Tryz.prog (w.alloc (.cells #[.int .u8 y0, .int .u8 y1] 5)) = .ok (.string R) (w.alloc (.cells #[.int .u8 y0, .int .u8 y1] 5)) := by rw [e0, e1]; exact hcv
      clear hcv hR e0 f0 e1 f1 r0 r1
      go_enter Tryz.func122, Tryz.ntmps122
      go_wp2_with fail
      go_ret
      exact ⟨rfl, HFin.out _⟩
    · rw [if_neg b] at hR
      by_cases d : c < 65536
      · rw [if_pos d] at hR
        obtain ⟨y0, hy0⟩ : ∃ y, 224 + c / 4096 = y := ⟨_, rfl⟩
        obtain ⟨y1, hy1⟩ : ∃ y, 128 + c / 64 % 64 = y := ⟨_, rfl⟩
        obtain ⟨y2, hy2⟩ : ∃ y, 128 + c % 64 = y := ⟨_, rfl⟩
        rw [hy0, hy1, hy2] at hR
        have r0 : 0 ≤ y0 ∧ y0 < 256 := by omega
        have r1 : 0 ≤ y1 ∧ y1 < 256 := by omega
        have r2 : 0 ≤ y2 ∧ y2 < 256 := by omega
        obtain ⟨b0, e0, f0⟩ := byte_ex y0 r0.1 r0.2
        obtain ⟨b1, e1, f1⟩ := byte_ex y1 r1.1 r1.2
        obtain ⟨b2, e2, f2⟩ := byte_ex y2 r2.1 r2.2
        have w0 := u8_in y0 r0
        have w1 := u8_in y1 r1
        have w2 := u8_in y2 r2
        have hcv := conv_made [b0, b1, b2] (by simp) w
        rw [← f0, ← f1, ← f2] at hR
        rw [hR] at hcv
        have hcw : (convert 118 9 (.slice (some ⟨w.heap.size, 0, none⟩) 3 3)).run Tryz.prog (w.alloc (.cells #[.int .u8 y0, .int .u8 y1, .int .u8 y2] 5)) = .ok (.string R) (w.alloc (.cells #[.int .u8 y0, .int .u8 y1, .int .u8 y2] 5)) := by rw [e0, e1, e2]; exact hcv
        clear hcv hR e0 f0 e1 f1 e2 f2 r0 r1 r2
        go_enter Tryz.func122, Tryz.ntmps122
        go_wp2_with fail
        go_ret
        exact ⟨rfl, HFin.out _⟩
      · rw [if_neg d] at hR
        obtain ⟨y0, hy0⟩ : ∃ y, 240 + c / 262144 = y := ⟨_, rfl⟩
        obtain ⟨y1, hy1⟩ : ∃ y, 128 + c / 4096 % 64 = y := ⟨_, rfl⟩
        obtain ⟨y2, hy2⟩ : ∃ y, 128 + c / 64 % 64 = y := ⟨_, rfl⟩
        obtain ⟨y3, hy3⟩ : ∃ y, 128 + c % 64 = y := ⟨_, rfl⟩
        rw [hy0, hy1, hy2, hy3] at hR
        have r0 : 0 ≤ y0 ∧ y0 < 256 := by omega
        have r1 : 0 ≤ y1 ∧ y1 < 256 := by omega
        have r2 : 0 ≤ y2 ∧ y2 < 256 := by omega
        have r3 : 0 ≤ y3 ∧ y3 < 256 := by omega
        obtain ⟨b0, e0, f0⟩ := byte_ex y0 r0.1 r0.2
        obtain ⟨b1, e1, f1⟩ := byte_ex y1 r1.1 r1.2
        obtain ⟨b2, e2, f2⟩ := byte_ex y2 r2.1 r2.2
        obtain ⟨b3, e3, f3⟩ := byte_ex y3 r3.1 r3.2
        have w0 := u8_in y0 r0
        have w1 := u8_in y1 r1
        have w2 := u8_in y2 r2
        have w3 := u8_in y3 r3
        have hcv := conv_made [b0, b1, b2, b3] (by simp) w
        rw [← f0, ← f1, ← f2, ← f3] at hR
        rw [hR] at hcv
        have hcw : (convert 118 9 (.slice (some ⟨w.heap.size, 0, none⟩) 4 4)).run Tryz.prog (w.alloc (.cells #[.int .u8 y0, .int .u8 y1, .int .u8 y2, .int .u8 y3] 5)) = .ok (.string R) (w.alloc (.cells #[.int .u8 y0, .int .u8 y1, .int .u8 y2, .int .u8 y3] 5)) := by rw [e0, e1, e2, e3]; exact hcv
        clear hcv hR e0 f0 e1 f1 e2 f2 e3 f3 r0 r1 r2 r3
        go_enter Tryz.func122, Tryz.ntmps122
        go_wp2_with fail
        go_ret
        exact ⟨rfl, HFin.out _⟩
end Go.Proofs.YtgdkpmfdpfjdjaaGreatDoor

namespace Go.Proofs.YtgdkpmfdpfjdjaaGreatDoor
open Go.RowKit
set_option linter.unusedVariables false
set_option maxRecDepth 100000

def headT : List Int := [0, 192, 224, 240]
def topT : List Int := [127, 223, 239, 247]
/-- The bytes behind the first. -/
def wloop : List UInt8 → Int → Int
  | [], c => c
  | b :: r, c => if b.toNat < 128 ∨ 191 < b.toNat then -1 else wloop r (64 * c + (b.toNat : Int) - 128)
def worthF (l : List UInt8) : Int :=
  let n := l.length - 1
  let b : Int := ((l.headD 0).toNat : Int)
  if b < headT.getD n 0 ∨ topT.getD n 0 < b then -1 else wloop (l.drop 1) (b - headT.getD n 0)
theorem tab_four : ∀ n : Fin 4, headT[n.val]? = some (headT.getD n.val 0) ∧ topT[n.val]? = some (topT.getD n.val 0) ∧ 0 ≤ headT.getD n.val 0 ∧ topT.getD n.val 0 ≤ 247 := by decide
set_option maxHeartbeats 8000000 in
theorem rworth_any (l : List UInt8) (h1 : 1 ≤ l.length) (h4 : l.length ≤ 4) (w : World) : Calls Tryz.prog 123 #[.string (str l)] w fun r w' => r = .returned (.int .i64 (worthF l)) ∧ Below w.heap.size w w' := by
  obtain ⟨n, hn⟩ : ∃ n, l.length = n + 1 := ⟨l.length - 1, by omega⟩
  have hn4 : n < 4 := by omega
  obtain ⟨t1, t2, t3, t4⟩ := tab_four ⟨n, hn4⟩
  simp only at t1 t2 t3 t4
  obtain ⟨hd, hhd⟩ : ∃ hd, headT.getD n 0 = hd := ⟨_, rfl⟩
  obtain ⟨tp, htp⟩ : ∃ tp, topT.getD n 0 = tp := ⟨_, rfl⟩
  rw [hhd] at t1 t3
  rw [htp] at t2 t4
  obtain ⟨U, hU⟩ : ∃ U, w.alloc (.cells #[.int .i64 0, .int .i64 192, .int .i64 224, .int .i64 240] 3) = U := ⟨_, rfl⟩
  obtain ⟨V, hV⟩ : ∃ V, U.alloc (.cells #[.int .i64 127, .int .i64 223, .int .i64 239, .int .i64 247] 3) = V := ⟨_, rfl⟩
  obtain ⟨Q, hQ⟩ : ∃ Q, w.heap.size = Q := ⟨_, rfl⟩
  obtain ⟨Q2, hQ2⟩ : ∃ Q2, U.heap.size = Q2 := ⟨_, rfl⟩
  have hbU : Below w.heap.size w U := by rw [← hU]; exact (Below.refl _ _).alloc (Nat.le_refl _) _
  have hbV1 : Below U.heap.size U V := by rw [← hV]; exact (Below.refl _ _).alloc (Nat.le_refl _) _
  have hqU : U.heap[Q]? = some (.cells (headT.map fun z => Value.int .i64 z).toArray 3 (0, 0)) := by rw [← hU, ← hQ]; exact heap_alloc_new w _
  have hqV : V.heap[Q]? = some (.cells (headT.map fun z => Value.int .i64 z).toArray 3 (0, 0)) := (hbV1.block Q (lt_block hqU)).trans hqU
  have hqW : V.heap[Q2]? = some (.cells (topT.map fun z => Value.int .i64 z).toArray 3 (0, 0)) := by rw [← hV, ← hQ2]; exact heap_alloc_new U _
  have HBV := hidK (below_step hbU hbV1)
  have v1 : V.cell? ⟨Q, n, none⟩ = some (.int .i64 hd) := by rw [cell_at hqV]; simp [t1]
  have v2 : V.cell? ⟨Q2, n, none⟩ = some (.int .i64 tp) := by rw [cell_at hqW]; simp [t2]
  obtain ⟨A, hA⟩ : ∃ A, str l = A := ⟨_, rfl⟩
  have zA : A.size = n + 1 := by rw [← hA]; exact hn
  have zI : (A.size : Int) = (n : Int) + 1 := by omega
  have HAt : Hid (∀ (k : Nat) (hk : k < A.size) (hk2 : k < l.length), A[k] = l[k]) := fun k hk hk2 => by subst hA; rfl
  have hA0 : 0 < A.size := by omega
  obtain ⟨b0, hb0⟩ : ∃ b0, l[0]'(by omega) = b0 := ⟨_, rfl⟩
  have hg0 : (A[0]'hA0).toNat = b0.toNat := by rw [HAt.out 0 hA0 (by omega), hb0]
  obtain ⟨B0, hB0⟩ : ∃ B0, b0.toNat = B0 := ⟨_, rfl⟩
  rw [hB0] at hg0
  have hB8 : B0 < 256 := by rw [← hB0]; exact b0.toNat_lt
  obtain ⟨R, hR⟩ : ∃ R, worthF l = R := ⟨_, rfl⟩
  have HWf : Hid (R = if (B0 : Int) < hd ∨ tp < (B0 : Int) then -1 else wloop (l.drop 1) ((B0 : Int) - hd)) := by
    show _ = _
    rw [← hR]
    unfold worthF
    have e1 : l.length - 1 = n := by omega
    have e0 : l[0]? = some b0 := by rw [List.getElem?_eq_getElem (by omega), hb0]
    have e2 : (l.headD 0).toNat = B0 := by rw [List.headD_eq_head?_getD, List.head?_eq_getElem?, e0, ← hB0]; rfl
    simp only [e1, e2, hhd, htp]
  rw [hR, hA]
  have HWd : Hid (w.heap.size = Q) := hQ
  have HL := hidK (And.intro hn hn4)
  have hni : (n : Int) < 4 := by omega
  clear hR hA hb0 hB0 hqU hqV hqW hbU hbV1 t1 t2 h1 h4 hhd htp hn
  by_cases c1 : (B0 : Int) < hd
  · have HF : Hid (-1 = R) := by show _ = _; rw [HWf.out, if_pos (.inl c1)]
    go_enter Tryz.func123, Tryz.ntmps123
    go_wp2_with fail
    go_ret
    exact ⟨by rw [← HF.out]; rfl, by first | exact HBV.out | (rw [← HWd.out]; exact HBV.out)⟩
  · by_cases c2 : tp < (B0 : Int)
    · have HF : Hid (-1 = R) := by show _ = _; rw [HWf.out, if_pos (.inr c2)]
      go_enter Tryz.func123, Tryz.ntmps123
      go_wp2_with fail
      go_ret
      exact ⟨by rw [← HF.out]; rfl, by first | exact HBV.out | (rw [← HWd.out]; exact HBV.out)⟩
    · have HF0 : Hid (wloop (l.drop 1) ((B0 : Int) - hd) = R) := by show _ = _; rw [HWf.out, if_neg (by omega)]
      obtain ⟨x0, hx0⟩ : ∃ x0 : Int, (B0 : Int) - hd = x0 := ⟨_, rfl⟩
      have hx1 : 0 ≤ x0 ∧ x0 ≤ 255 := by omega
      have HX0 := hidK hx1
      rw [hx0] at HF0
      go_enter Tryz.func123, Tryz.ntmps123
      go_wp2_with fail
      go_loopw [8, 7] (fun iv cv wr => ∃ (k : Nat) (x : Int), k ≤ n ∧ iv = .int .i64 ((k : Int) + 1) ∧ cv = .int .i64 x ∧ wr = V ∧ Hid (wloop (l.drop (k + 1)) x = R ∧ 0 ≤ x ∧ x < 256 * 64 ^ k)) (fun iv _ _ => 5 - (intOf iv).toNat)
      case atStart => exact ⟨0, x0, Nat.zero_le _, rfl, rfl, rfl, ⟨HF0.out, HX0.out.1, by have := HX0.out.2; omega⟩⟩
      case round =>
        obtain ⟨k, x, hk, rfl, rfl, rfl, HS⟩ := hrel
        by_cases hkl : k < n
        · have j1 : (k : Int) + 1 < (n : Int) + 1 := by omega
          have hkA : k + 1 < A.size := by omega
          have hkl2 : k + 1 < l.length := by rw [HL.out.1]; omega
          obtain ⟨b, hb⟩ : ∃ b, l[k + 1] = b := ⟨_, rfl⟩
          have hdr : l.drop (k + 1) = b :: l.drop (k + 1 + 1) := by rw [List.drop_eq_getElem_cons hkl2, hb]
          have hgk : (A[k + 1]'hkA).toNat = b.toNat := by rw [HAt.out (k + 1) hkA hkl2, hb]
          obtain ⟨bn, hbn⟩ : ∃ bn, b.toNat = bn := ⟨_, rfl⟩
          rw [hbn] at hgk
          have hb8 : bn < 256 := by rw [← hbn]; exact b.toNat_lt
          have hst := HS.out.1
          rw [hdr] at hst
          unfold wloop at hst
          rw [hbn] at hst
          have HSt := hidK hst
          have hxr : 0 ≤ x ∧ x < 67108864 := by
            have h1 := HS.out.2
            have h2 : (64 : Int) ^ k ≤ 64 ^ 3 := by
              rcases (by have := HL.out.2; omega : k = 0 ∨ k = 1 ∨ k = 2) with e | e | e <;> subst e <;> decide
            have h3 : (64 : Int) ^ 3 = 262144 := by decide
            exact ⟨h1.1, by omega⟩
          have HXr := hidK hxr
          clear hdr hb hbn hst hkl2
          by_cases d1 : bn < 128
          · have i1 : (bn : Int) < 128 := by omega
            have HF : Hid (-1 = R) := by show _ = _; have h := HSt.out; rw [if_pos (.inl d1)] at h; exact h
            clear d1
            go_wp2_with fail
            go_ret
            exact ⟨by rw [← HF.out]; rfl, by first | exact HBV.out | (rw [← HWd.out]; exact HBV.out)⟩
          · by_cases d2 : 191 < bn
            · have i1 : ¬ (bn : Int) < 128 := by omega
              have i2 : (191 : Int) < (bn : Int) := by omega
              have HF : Hid (-1 = R) := by show _ = _; have h := HSt.out; rw [if_pos (.inr d2)] at h; exact h
              clear d1 d2
              go_wp2_with fail
              go_ret
              exact ⟨by rw [← HF.out]; rfl, by first | exact HBV.out | (rw [← HWd.out]; exact HBV.out)⟩
            · have i1 : ¬ (bn : Int) < 128 := by omega
              have i2 : ¬ (191 : Int) < (bn : Int) := by omega
              have HF : Hid (wloop (l.drop (k + 1 + 1)) (64 * x + (bn : Int) - 128) = R ∧ 0 ≤ 64 * x + (bn : Int) - 128 ∧ 64 * x + (bn : Int) - 128 < 256 * 64 ^ (k + 1)) := by
                have h := HSt.out
                rw [if_neg (by omega)] at h
                refine ⟨h, by have := HS.out.2.1; omega, ?_⟩
                have h2 := HS.out.2.2
                have h3 : (64 : Int) ^ (k + 1) = 64 * 64 ^ k := by rw [Int.pow_succ, Int.mul_comm]
                rw [h3]
                generalize (64 : Int) ^ k = y at h2 ⊢
                omega
              clear d1 d2
              go_wp2_with fail
              go_roundw
              case rel => exact ⟨k + 1, 64 * x + (bn : Int) - 128, by omega, by first | go_num | (simp), by first | rfl | go_num, by first | trivial | rfl, HF⟩
              case measure => simp [intOf]; omega
        · obtain rfl : k = n := by omega
          have HF : Hid (x = R) := by
            show _ = _
            have h := HS.out.1
            rw [List.drop_of_length_le (by rw [HL.out.1]; exact Nat.le_refl _)] at h
            exact h
          have j1 : ¬ (k : Int) + 1 < (k : Int) + 1 := by omega
          go_wp2_with fail
          go_ret
          exact ⟨by rw [← HF.out]; rfl, by first | exact HBV.out | (rw [← HWd.out]; exact HBV.out)⟩
end Go.Proofs.YtgdkpmfdpfjdjaaGreatDoor
