/-
  Keys: characters, letters, numbers, by the document.
-/
import Derived.Test.YtbonnjilbocldaaGreatDoorHD
import Derived.Test.YtbonnjilbocldaaGreatDoorIG
import Derived.Lib.AppendStr
namespace Go.Proofs.YtbonnjilbocldaaGreatDoor
open Go.RowKit
set_option linter.unusedVariables false
set_option maxRecDepth 100000

theorem underBU : Tryz.prog.underlying 97 = some (.slice 5) := by kernel_rfl
theorem conv_made (l : List UInt8) (hl : l.length ≤ 9) (w : World) : (convert 97 9 (.slice (some ⟨w.heap.size, 0, none⟩) l.length l.length)).run Tryz.prog (w.alloc (.cells (l.map bv).toArray 5)) = .ok (.string (str l)) (w.alloc (.cells (l.map bv).toArray 5)) :=
  (Owns.made w w.heap.size l (Nat.le_refl _) (by unfold maxLen; omega)).text (P := Tryz.prog) 97 9 5 underBU Tryz.underlying5 Tryz.underlying9
theorem byte_ex (z : Int) (h0 : 0 ≤ z) (h1 : z < 256) : ∃ b : UInt8, z = (b.toNat : Int) ∧ b = z.toNat.toUInt8 := ⟨z.toNat.toUInt8, by rw [UInt8.toNat_ofNat']; omega, rfl⟩
theorem u8_in (n : Int) (h : 0 ≤ n ∧ n < 256) : IntKind.u8.wrap n = n := by
  have := IntKind.wrap_u8 n
  omega
/-- A code's bytes, as they are reckoned. -/
def r8F (c : Int) : List UInt8 :=
  if c < 128 then [c.toNat.toUInt8]
  else if c < 2048 then [(192 + c / 64).toNat.toUInt8, (128 + c % 64).toNat.toUInt8]
  else if c < 65536 then [(224 + c / 4096).toNat.toUInt8, (128 + c / 64 % 64).toNat.toUInt8, (128 + c % 64).toNat.toUInt8]
  else [(240 + c / 262144).toNat.toUInt8, (128 + c / 4096 % 64).toNat.toUInt8, (128 + c / 64 % 64).toNat.toUInt8, (128 + c % 64).toNat.toUInt8]
theorem r8_enc {c : Int} (h0 : 0 ≤ c) (h1 : c ≤ 1114111) (h2 : c < 55296 ∨ 57343 < c) : r8F c = Lib.encodeRune c := by
  unfold r8F Lib.encodeRune
  by_cases a : c < 128
  · rw [if_pos a, Lib.encodeRuneZ_one h0 (by omega)]; rfl
  · rw [if_neg a]
    by_cases b : c < 2048
    · rw [if_pos b, Lib.encodeRuneZ_two (by omega) (by omega)]; rfl
    · rw [if_neg b]
      by_cases d : c < 65536
      · rw [if_pos d, Lib.encodeRuneZ_three (by omega)]; rfl
      · rw [if_neg d, Lib.encodeRuneZ_four (by omega) h1]; rfl
set_option maxHeartbeats 2000000 in
theorem rutf8_any (c : Int) (h0 : 0 ≤ c) (h1 : c < 2097152) (w : World) : Calls Tryz.prog 100 #[.int .i64 c] w fun r w' => r = .returned (.string (str (r8F c))) ∧ Below w.heap.size w w' := by
  have HFin : Hid (∀ o, Below w.heap.size w (w.alloc o)) := fun o => (Below.refl _ _).alloc (Nat.le_refl _) o
  obtain ⟨R, hR⟩ : ∃ R, str (r8F c) = R := ⟨_, rfl⟩
  rw [hR]
  unfold r8F at hR
  by_cases a : c < 128
  · rw [if_pos a] at hR
    obtain ⟨b0, e0, f0⟩ := byte_ex c h0 (by omega)
    have hw := u8_in c ⟨h0, by omega⟩
    have hcv := conv_made [b0] (by simp) w
    rw [← f0] at hR
    rw [hR] at hcv
    have hcw : (convert 97 9 (.slice (some ⟨w.heap.size, 0, none⟩) 1 1)).run Tryz.prog (w.alloc (.cells #[.int .u8 c] 5)) = .ok (.string R) (w.alloc (.cells #[.int .u8 c] 5)) := by rw [e0]; exact hcv
    clear hcv hR e0 f0
    go_enter Tryz.func100, Tryz.ntmps100
    go_wp2_with fail
    go_ret
    exact ⟨rfl, HFin.out _⟩
  · rw [if_neg a] at hR
    by_cases b : c < 2048
    · rw [if_pos b] at hR
      obtain ⟨y0, hy0⟩ : ∃ y, 192 + c / 64 = y := ⟨_, rfl⟩
      obtain ⟨y1, hy1⟩ : ∃ y, 128 + c % 64 = y := ⟨_, rfl⟩
      rw [hy0, hy1] at hR
      have r0 : 0 ≤ y0 ∧ y0 < 256 := by omega
      have r1 : 0 ≤ y1 ∧ y1 < 256 := by omega
      obtain ⟨b0, e0, f0⟩ := byte_ex y0 r0.1 r0.2
      obtain ⟨b1, e1, f1⟩ := byte_ex y1 r1.1 r1.2
      have w0 := u8_in y0 r0
      have w1 := u8_in y1 r1
      have hcv := conv_made [b0, b1] (by simp) w
      rw [← f0, ← f1] at hR
      rw [hR] at hcv
      have hcw : (convert 97 9 (.slice (some ⟨w.heap.size, 0, none⟩) 2 2)).run Tryz.prog (w.alloc (.cells #[.int .u8 y0, .int .u8 y1] 5)) = .ok (.string R) (w.alloc (.cells #[.int .u8 y0, .int .u8 y1] 5)) := by rw [e0, e1]; exact hcv
      clear hcv hR e0 f0 e1 f1 r0 r1
      go_enter Tryz.func100, Tryz.ntmps100
      go_wp2_with fail
      go_ret
      exact ⟨rfl, HFin.out _⟩
    · rw [if_neg b] at hR
      by_cases d : c < 65536
      · rw [if_pos d] at hR
        obtain ⟨y0, hy0⟩ : ∃ y, 224 + c / 4096 = y := ⟨_, rfl⟩
        obtain ⟨y1, hy1⟩ : ∃ y, 128 + c / 64 % 64 = y := ⟨_, rfl⟩
        obtain ⟨y2, hy2⟩ : ∃ y, 128 + c % 64 = y := ⟨_, rfl⟩
        rw [hy0, hy1, hy2] at hR
        have r0 : 0 ≤ y0 ∧ y0 < 256 := by omega
        have r1 : 0 ≤ y1 ∧ y1 < 256 := by omega
        have r2 : 0 ≤ y2 ∧ y2 < 256 := by omega
        obtain ⟨b0, e0, f0⟩ := byte_ex y0 r0.1 r0.2
        obtain ⟨b1, e1, f1⟩ := byte_ex y1 r1.1 r1.2
        obtain ⟨b2, e2, f2⟩ := byte_ex y2 r2.1 r2.2
        have w0 := u8_in y0 r0
        have w1 := u8_in y1 r1
        have w2 := u8_in y2 r2
        have hcv := conv_made [b0, b1, b2] (by simp) w
        rw [← f0, ← f1, ← f2] at hR
        rw [hR] at hcv
        have hcw : (convert 97 9 (.slice (some ⟨w.heap.size, 0, none⟩) 3 3)).run Tryz.prog (w.alloc (.cells #[.int .u8 y0, .int .u8 y1, .int .u8 y2] 5)) = .ok (.string R) (w.alloc (.cells #[.int .u8 y0, .int .u8 y1, .int .u8 y2] 5)) := by rw [e0, e1, e2]; exact hcv
        clear hcv hR e0 f0 e1 f1 e2 f2 r0 r1 r2
        go_enter Tryz.func100, Tryz.ntmps100
        go_wp2_with fail
        go_ret
        exact ⟨rfl, HFin.out _⟩
      · rw [if_neg d] at hR
        obtain ⟨y0, hy0⟩ : ∃ y, 240 + c / 262144 = y := ⟨_, rfl⟩
        obtain ⟨y1, hy1⟩ : ∃ y, 128 + c / 4096 % 64 = y := ⟨_, rfl⟩
        obtain ⟨y2, hy2⟩ : ∃ y, 128 + c / 64 % 64 = y := ⟨_, rfl⟩
        obtain ⟨y3, hy3⟩ : ∃ y, 128 + c % 64 = y := ⟨_, rfl⟩
        rw [hy0, hy1, hy2, hy3] at hR
        have r0 : 0 ≤ y0 ∧ y0 < 256 := by omega
        have r1 : 0 ≤ y1 ∧ y1 < 256 := by omega
        have r2 : 0 ≤ y2 ∧ y2 < 256 := by omega
        have r3 : 0 ≤ y3 ∧ y3 < 256 := by omega
        obtain ⟨b0, e0, f0⟩ := byte_ex y0 r0.1 r0.2
        obtain ⟨b1, e1, f1⟩ := byte_ex y1 r1.1 r1.2
        obtain ⟨b2, e2, f2⟩ := byte_ex y2 r2.1 r2.2
        obtain ⟨b3, e3, f3⟩ := byte_ex y3 r3.1 r3.2
        have w0 := u8_in y0 r0
        have w1 := u8_in y1 r1
        have w2 := u8_in y2 r2
        have w3 := u8_in y3 r3
        have hcv := conv_made [b0, b1, b2, b3] (by simp) w
        rw [← f0, ← f1, ← f2, ← f3] at hR
        rw [hR] at hcv
        have hcw : (convert 97 9 (.slice (some ⟨w.heap.size, 0, none⟩) 4 4)).run Tryz.prog (w.alloc (.cells #[.int .u8 y0, .int .u8 y1, .int .u8 y2, .int .u8 y3] 5)) = .ok (.string R) (w.alloc (.cells #[.int .u8 y0, .int .u8 y1, .int .u8 y2, .int .u8 y3] 5)) := by rw [e0, e1, e2, e3]; exact hcv
        clear hcv hR e0 f0 e1 f1 e2 f2 e3 f3 r0 r1 r2 r3
        go_enter Tryz.func100, Tryz.ntmps100
        go_wp2_with fail
        go_ret
        exact ⟨rfl, HFin.out _⟩
end Go.Proofs.YtbonnjilbocldaaGreatDoor
