/-
  The walks of octal.codeOf, octal.appendCode, octal.mustEscape, mullionref01.must.
-/
import Derived.Test.YtplolaondmeccaaGreatDoorRows
import Derived.Test.YtplolaondmeccaaGreatDoorPlain
import Derived.WalkKit
import Derived.RegionTactic
import Derived.Deep.DrawnRows
namespace Go.Proofs.YtplolaondmeccaaGreatDoor
open Go.RowKit
set_option linter.unusedVariables false
attribute [local go_sem ↓] Go.wp_at_zero Go.wp_at_succ

theorem and7 : ∀ n : Fin 256, bits BinOp.and IntKind.u8 ((n.val : Nat) : Int) 7 = ((n.val : Nat) : Int) % 8 := by decide +kernel
theorem and7' (n : Nat) (h : n < 256) : bits BinOp.and IntKind.u8 (n : Int) 7 = (n : Int) % 8 := and7 ⟨n, h⟩

theorem codeOf_any (b : UInt8) (w : World) (hD : Digs w) :
    Calls Tryz.prog 130 #[.int .u8 b.toNat] w fun e w' => e = .returned (.agg #[.int .u8 92, .int .u8 (d1 b).toNat, .int .u8 (d2 b).toNat, .int .u8 (d3 b).toNat]) ∧ Below w.heap.size w w' := by
  have hb : b.toNat < 256 := UInt8.toNat_lt b
  obtain ⟨x, hx⟩ : ∃ x, ((b.toNat : Int) / 64) = x := ⟨_, rfl⟩
  obtain ⟨y, hy⟩ : ∃ y, bits BinOp.and IntKind.u8 ((b.toNat : Int) / 8) 7 = y := ⟨_, rfl⟩
  obtain ⟨z, hz⟩ : ∃ z, bits BinOp.and IntKind.u8 (b.toNat : Int) 7 = z := ⟨_, rfl⟩
  have ey : y = (b.toNat : Int) / 8 % 8 := by rw [← hy]; have := and7' (b.toNat / 8) (by omega); simpa using this
  have ez : z = (b.toNat : Int) % 8 := by rw [← hz]; exact and7' _ hb
  have bx : 0 ≤ x ∧ x < 8 := by omega
  have bY : 0 ≤ y ∧ y < 8 := by omega
  have bz : 0 ≤ z ∧ z < 8 := by omega
  have E1 : Hid (48 + x = ((d1 b).toNat : Int)) := by show _ = _; rw [d1_nat]; omega
  have E2 : Hid (48 + y = ((d2 b).toNat : Int)) := by show _ = _; rw [d2_nat]; omega
  have E3 : Hid (48 + z = ((d3 b).toNat : Int)) := by show _ = _; rw [d3_nat]; omega
  clear ey ez
  have cx : w.cell? ⟨4, x.toNat, none⟩ = some (.int .u8 (48 + x)) := by rw [hD x.toNat (by omega), Int.toNat_of_nonneg bx.1]
  have cy : w.cell? ⟨4, y.toNat, none⟩ = some (.int .u8 (48 + y)) := by rw [hD y.toNat (by omega), Int.toNat_of_nonneg bY.1]
  have cz : w.cell? ⟨4, z.toNat, none⟩ = some (.int .u8 (48 + z)) := by rw [hD z.toNat (by omega), Int.toNat_of_nonneg bz.1]
  have n0 : 4 < w.heap.size := hD.pos
  have al : ∀ o k, (w.alloc o).cell? ⟨4, k, none⟩ = w.cell? ⟨4, k, none⟩ := fun o k => ((Below.refl w.heap.size w).alloc (Nat.le_refl _) o).cell (p := ⟨4, k, none⟩) n0
  clear hD
  rw [← E1.out, ← E2.out, ← E3.out]
  clear E1 E2 E3
  go_enter Tryz.func130, Tryz.ntmps130
  go_wp2
  go_region
  go_wp2
  exact bodyPost_ret (v := .agg #[.int .u8 92, .int .u8 (48 + x), .int .u8 (48 + y), .int .u8 (48 + z)]) (by simp [results, Tryz.results130, go_sem]) rfl ⟨rfl, ((Below.refl _ _).alloc (Nat.le_refl _) _).drew⟩

theorem info5 : (Tryz.prog.info? 5).map (fun i => (i.zero, i.size, i.bytes)) = some (some (.int .u8 0), 1, 1) := by kernel_rfl

theorem code_cells (w : World) (b : UInt8) (t : TypeId) : ∀ j (hj : j < (code b).length), (w.alloc (.cells #[.int .u8 92, .int .u8 (d1 b).toNat, .int .u8 (d2 b).toNat, .int .u8 (d3 b).toNat] t)).cell? ((⟨w.heap.size, 0, none⟩ : Addr).add j) = some (bv (code b)[j]) := by
  intro j hj
  rw [show (⟨w.heap.size, 0, none⟩ : Addr).add j = ⟨w.heap.size, j, none⟩ by unfold Addr.add; split <;> simp_all, World.cell?_alloc_mark]
  match j, hj with
  | 0, _ => rfl
  | 1, _ => rfl
  | 2, _ => rfl
  | 3, _ => rfl

theorem appendCode_any (B : Nat) (v : Value) (l : List UInt8) (b : UInt8) (w : World) (hD : Digs w) (hB : B ≤ w.heap.size) (hown : Owns w B v l) (hlen : l.length + 4 ≤ 140737488355328) :
    Calls Tryz.prog 128 #[v, .int .u8 b.toNat] w fun e w' => ∃ v', e = .returned v' ∧ Owns w' B v' (l ++ code b) ∧ Below B w w' := by
  go_enter Tryz.func128, Tryz.ntmps128
  go_wp2_with (first
    | (go_at_call 130; refine (codeOf_any _ _ hD).mono ?_; rintro e w1 ⟨rfl, hb⟩)
    | (at_builtin; refine wpList_append_bytes _ rfl (.tmp 8) (.tmp 9) 79 rfl Tryz.underlying79 info5 B _ l rfl ((hown.below hb).alloc _) ⟨w1.heap.size, 0, none⟩ 4 4 (code b) rfl rfl (code_cells w1 b _) hlen ?_ ?_; (have := hb.size; simp; omega); (intro v' w2 hown' hb')))
  go_ret
  exact ⟨_, rfl, hown', (((hb.mono hB).alloc (by have := hb.size; omega) _).trans hb')⟩

theorem mustEscape_any (c : UInt8) (w : World) :
    Calls Tryz.prog 157 #[.int .u8 c.toNat] w fun e w' => e = .returned (.bool (mustB c)) ∧ w = w' := by
  go_enter Tryz.func157, Tryz.ntmps157
  go_wp2
  all_goals go_ret
  all_goals refine ⟨ret_bool ?_, rfl⟩
  all_goals (unfold mustB; rw [Bool.eq_iff_iff]; simp; omega)
end Go.Proofs.YtplolaondmeccaaGreatDoor
