/-
  ESC [ 31 m is read.
-/
import Derived.Test.YtooahffclghcjaaGreatDoorVOrdB
import Derived.Test.YtooahffclghcjaaGreatDoorShelf
import Derived.Shelf.Strings.SlTrimAscii
namespace Go.Proofs.YtooahffclghcjaaGreatDoor
open Go.RowKit
set_option linter.unusedVariables false
set_option maxRecDepth 100000
attribute [-go_sem] Instr.loadAt
attribute [local go_sem low] open_loadAt

/-- The numbers as far as they are read. -/
def val31 : Nat → Int
  | 0 => 0
  | 1 => 3
  | _ => 31
def ordC (n0 cnt : Int) : Array Value := #[.int .u8 0, .int .i64 n0, .int .i64 0, .int .i64 0, .int .i64 0, .int .i64 0, .int .i64 0, .int .i64 0, .int .i64 0, .int .i64 0, .int .i64 0, .int .i64 0, .int .i64 0, .int .i64 0, .int .i64 0, .int .i64 0, .int .i64 0, .int .i64 cnt, .string ⟨#[]⟩, .int .u8 109]
theorem ordC_set (n0 n1 cnt : Int) : (ordC n0 cnt).setIfInBounds 1 (.int .i64 n1) = ordC n1 cnt := rfl
theorem ordC_cnt (n0 cnt c1 : Int) : (ordC n0 cnt).setIfInBounds 17 (.int .i64 c1) = ordC n0 c1 := rfl
set_option maxHeartbeats 4000000 in
theorem readNumbers_31 {w : World} {B : Nat} (h : w.heap[B]? = some (.cells (ordC 0 0) 120 (0, 0))) : Calls Tryz.prog 81 #[.pointer (some ⟨B, 0, none⟩), .string ⟨#[51, 49]⟩] w fun r w' => r = .returned (.bool true) ∧ w'.heap[B]? = some (.cells (ordC 31 1) 120 (0, 0)) ∧ But [B] w w' := by
  have H := hidK h
  have c17 : w.cell? ⟨B, 17, none⟩ = some (.int .i64 0) := cell_atT h 17
  have f17 := free_atT h 17
  clear h
  go_enter Tryz.func81, Tryz.ntmps81
  go_wp2_with fail
  go_loopw [12] (fun i wr => ∃ k : Nat, k ≤ 2 ∧ i = .int .i64 (k : Int) ∧ wr.heap[B]? = some (.cells (ordC (val31 k) 1) 120 (0, 0)) ∧ But [B] w wr) (fun i _ => 2 - (intOf i).toNat)
  case atStart => exact ⟨0, by omega, rfl, put_at H.out 17 _, But.one _ _⟩
  case round =>
    obtain ⟨k, hk, rfl, hr, hb⟩ := hrel
    have HR := hidK hr
    have HB := hidK hb
    rcases (by omega : k = 0 ∨ k = 1 ∨ k = 2) with rfl | rfl | rfl
    · have d17 : wr.cell? ⟨B, 17, none⟩ = some (.int .i64 1) := cell_atT hr 17
      have d1 : wr.cell? ⟨B, 1, none⟩ = some (.int .i64 0) := cell_atT hr 1
      have e1 := free_atT hr 1
      clear hr hb c17 f17
      go_wp2_with fail
      go_region
      go_wp2_with fail
      go_region
      go_wp2_with fail
      go_roundw
      case rel => exact ⟨1, by omega, rfl, put_at HR.out 1 _, (HB.out.next _ _).drew.drew⟩
      case measure => simp [intOf]
    · have d17 : wr.cell? ⟨B, 17, none⟩ = some (.int .i64 1) := cell_atT hr 17
      have d1 : wr.cell? ⟨B, 1, none⟩ = some (.int .i64 3) := cell_atT hr 1
      have e1 := free_atT hr 1
      clear hr hb c17 f17
      go_wp2_with fail
      go_region
      go_wp2_with fail
      go_region
      go_wp2_with fail
      go_roundw
      case rel => exact ⟨2, by omega, rfl, put_at HR.out 1 _, (HB.out.next _ _).drew.drew⟩
      case measure => simp [intOf]
    · clear hr hb c17 f17
      go_wp2_with fail
      go_ret
      exact ⟨rfl, HR.out, HB.out⟩
end Go.Proofs.YtooahffclghcjaaGreatDoor
