/-
  Options: what a kind says of a value: fault, and a text's check.
-/
import Derived.Test.YtgdkpmfdpfjdjaaGreatDoorOKnd
namespace Go.Proofs.YtgdkpmfdpfjdjaaGreatDoor
open Go.RowKit
set_option linter.unusedVariables false
set_option maxRecDepth 100000

theorem fault_any {w : World} (b : Bool) : Calls Tryz.prog 63 #[.bool b] w fun r w' => r = .returned (.int .i64 (if b then 0 else 125)) ∧ w = w' := by
  cases b
  · go_enter Tryz.func63, Tryz.ntmps63
    go_wp2_with fail
    go_ret
    exact ⟨rfl, rfl⟩
  · go_enter Tryz.func63, Tryz.ntmps63
    go_wp2_with fail
    go_ret
    exact ⟨rfl, rfl⟩
theorem textCheck_any {w : World} (v : ByteArray) : Calls Tryz.prog 64 #[.string v] w fun r w' => r = .returned (.int .i64 (if 1024 < v.size then 2 else 0)) ∧ w = w' := by
  obtain ⟨n, hn⟩ : ∃ n, v.size = n := ⟨_, rfl⟩
  by_cases h : 1024 < n
  · have h1 : (1024 : Int) < (n : Int) := by omega
    go_enter Tryz.func64, Tryz.ntmps64
    go_wp2_with fail
    go_ret
    exact ⟨rfl, rfl⟩
  · have h1 : ¬ (1024 : Int) < (n : Int) := by omega
    go_enter Tryz.func64, Tryz.ntmps64
    go_wp2_with fail
    go_ret
    exact ⟨rfl, rfl⟩
end Go.Proofs.YtgdkpmfdpfjdjaaGreatDoor
