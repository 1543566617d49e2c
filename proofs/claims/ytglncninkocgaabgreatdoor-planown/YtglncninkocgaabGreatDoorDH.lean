/-
  Plans: the document's Text.
-/
import Derived.Test.YtglncninkocgaabGreatDoorDG
namespace Go.Proofs.YtglncninkocgaabGreatDoor
open Go.RowKit
set_option linter.unusedVariables false
set_option maxRecDepth 20000

theorem wrapN {x : Int} (h : -9223372036854775808 ≤ x ∧ x ≤ 9223372036854775807) : IntKind.i64.wrap x = x := by
  rw [IntKind.wrap_i64]
  omega
theorem slice_two (A : ByteArray) (a K : Nat) (h : a + K ≤ A.size) (W : World) : (Instr.slice 9 (.string A) (some (.int .i64 (a : Int))) (some (.int .i64 ((a : Int) + (K : Int)))) none).run Tryz.prog W = .ok (.string (A.extract a (a + K))) W := by
  have h1 := run_slice_string (P := Tryz.prog) (w := W) 9 A .i64 .i64 (a : Int) ((a : Int) + (K : Int)) (by kernel_rfl) (by omega) (by omega) (by omega)
  rw [h1]
  rw [show ((a : Int) + (K : Int)).toNat = a + K by omega, show ((a : Int)).toNat = a by omega]
theorem hex_cut (k : Nat) (h : k < 16) : hexS.extract k (k + 1) = str [hexB k] := by
  have key : ∀ k : Fin 16, hexS.extract k.val (k.val + 1) = str [hexB k.val] := by decide +kernel
  exact key ⟨k, h⟩
theorem hex_slice (a : Nat) (h : (a : Int) + 1 ≤ 16) (W : World) : (Instr.slice 9 (.string ⟨#[48, 49, 50, 51, 52, 53, 54, 55, 56, 57, 97, 98, 99, 100, 101, 102]⟩) (some (.int .i64 (a : Int))) (some (.int .i64 ((a : Int) + 1))) none).run Tryz.prog W = .ok (.string (str [hexB a])) W := by
  rw [← hex_cut a (by omega)]
  exact slice_two hexS a 1 (by show a + 1 ≤ 16; omega) W
set_option maxHeartbeats 2000000 in
theorem four_any (n : Nat) (hn : n < 65536) (w : World) : Calls Tryz.prog 13 #[.int .i64 n] w fun e w' => e = .returned (.string (str [hexB (n / 4096 % 16), hexB (n / 256 % 16), hexB (n / 16 % 16), hexB (n % 16)])) ∧ Below w.heap.size w w' := by
  obtain ⟨a, ha⟩ : ∃ a, n / 4096 = a := ⟨_, rfl⟩
  obtain ⟨b, hb⟩ : ∃ a, n / 256 % 16 = a := ⟨_, rfl⟩
  obtain ⟨c, hc⟩ : ∃ a, n / 16 % 16 = a := ⟨_, rfl⟩
  obtain ⟨d, hd⟩ : ∃ a, n % 16 = a := ⟨_, rfl⟩
  obtain ⟨N, hN⟩ : ∃ N : Int, (n : Int) = N := ⟨_, rfl⟩
  have e1 : n / 4096 % 16 = a := by omega
  rw [e1, hb, hc, hd, hN]
  have q1 : N / 4096 = (a : Int) := by omega
  have q2 : N / 256 % 16 = (b : Int) := by omega
  have q3 : N / 16 % 16 = (c : Int) := by omega
  have q4 : N % 16 = (d : Int) := by omega
  have t1 : N.tdiv 4096 = (a : Int) := by rw [← q1, Int.tdiv_eq_ediv_of_nonneg (by omega)]
  have t2 : (N.tdiv 256).tmod 16 = (b : Int) := by rw [← q2, Int.tdiv_eq_ediv_of_nonneg (by omega), Int.tmod_eq_emod_of_nonneg (by omega)]
  have t3 : (N.tdiv 16).tmod 16 = (c : Int) := by rw [← q3, Int.tdiv_eq_ediv_of_nonneg (by omega), Int.tmod_eq_emod_of_nonneg (by omega)]
  have t4 : N.tmod 16 = (d : Int) := by rw [← q4, Int.tmod_eq_emod_of_nonneg (by omega)]
  have b1 : (a : Int) + 1 ≤ 16 := by omega
  have b2 : (b : Int) + 1 ≤ 16 := by omega
  have b3 : (c : Int) + 1 ≤ 16 := by omega
  have b4 : (d : Int) + 1 ≤ 16 := by omega
  have HE : Hid (str [hexB a] ++ str [hexB b] ++ str [hexB c] ++ str [hexB d] = str [hexB a, hexB b, hexB c, hexB d]) := by
    show _ = _
    rw [str_cat, str_cat, str_cat]
    rfl
  have x1 := hex_slice a b1
  have x2 := hex_slice b b2
  have x3 := hex_slice c b3
  have x4 := hex_slice d b4
  have r1 : IntKind.i64.wrap (a : Int) = (a : Int) := wrapN (by omega)
  have r2 : IntKind.i64.wrap (b : Int) = (b : Int) := wrapN (by omega)
  have r3 : IntKind.i64.wrap (c : Int) = (c : Int) := wrapN (by omega)
  have r4 : IntKind.i64.wrap (d : Int) = (d : Int) := wrapN (by omega)
  have s1 : IntKind.i64.wrap ((a : Int) + 1) = (a : Int) + 1 := wrapN (by omega)
  have s2 : IntKind.i64.wrap ((b : Int) + 1) = (b : Int) + 1 := wrapN (by omega)
  have s3 : IntKind.i64.wrap ((c : Int) + 1) = (c : Int) + 1 := wrapN (by omega)
  have s4 : IntKind.i64.wrap ((d : Int) + 1) = (d : Int) + 1 := wrapN (by omega)
  have u1 : IntKind.i64.wrap (N.tdiv 256) = N.tdiv 256 := wrapN (by rw [Int.tdiv_eq_ediv_of_nonneg (by omega)]; omega)
  have u2 : IntKind.i64.wrap (N.tdiv 16) = N.tdiv 16 := wrapN (by rw [Int.tdiv_eq_ediv_of_nonneg (by omega)]; omega)
  have k1 : (str [hexB a]).size = 1 := rfl
  have k2 : (str [hexB b]).size = 1 := rfl
  have k3 : (str [hexB c]).size = 1 := rfl
  have k4 : (str [hexB d]).size = 1 := rfl
  have N0 : 0 ≤ N := by omega
  have N1 : N < 65536 := by omega
  clear ha hb hc hd hN e1 q1 q2 q3 q4
  go_enter Tryz.func13, Tryz.ntmps13
  go_wp2_with fail
  go_quiet (fail)
  go_wp2
  go_ret
  exact ⟨by first | (rw [← HE.out]; done) | (rw [← HE.out]; rfl), below_drewN (Below.refl _ _) _⟩
end Go.Proofs.YtglncninkocgaabGreatDoor
