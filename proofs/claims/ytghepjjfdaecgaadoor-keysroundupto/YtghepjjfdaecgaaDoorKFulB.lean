/-
  Keys: whether bytes are a whole character.
-/
import Derived.Test.YtghepjjfdaecgaaDoorKFull
import Derived.BigRegion
import Derived.RegionTactic
import Derived.BigQuiet
import Derived.Deep.QuietTactic
namespace Go.Proofs.YtghepjjfdaecgaaDoor
open Go.RowKit
set_option linter.unusedVariables false
set_option maxRecDepth 100000

set_option maxHeartbeats 8000000 in
theorem full_1 (b0 : UInt8) (g o cap : Nat) (hcap : 1 ≤ cap) {w : World} (hT : Tabs w) (c0 : w.cell? ⟨g, o, none⟩ = some (.int .u8 b0.toNat)) (z : Bool) (hz : fullB [b0] = z) :
    Calls Tryd.prog 68 #[.slice (some ⟨g, o, none⟩) 1 cap] w fun e w' => e = .returned (.bool z) ∧ Below w.heap.size w w' := by
  have hb := b0.toNat_lt
  have t0 := hT.u8.1 b0.toNat hb
  have hb2 : (b0.toNat : Int) < 256 := by omega
  have hcp : (1 : Int) ≤ (cap : Int) := by omega
  unfold fullB at hz
  simp only [List.length_nil, Bool.or_false, Nat.zero_add] at hz
  have HA : Hid (∀ i, i < 16 → w.cell? ⟨4, 2 * i, none⟩ = some (.int .u8 (Lib.accLo i)) ∧ w.cell? ⟨4, 2 * i + 1, none⟩ = some (.int .u8 (Lib.accHi i))) := hT.u8.2
  have HFin : Hid (∀ a b k, Below w.heap.size w ((w.alloc (.cells #[.int .u8 a, .int .u8 b] 100)).drewN k)) := fun a b k => ((Below.refl _ _).alloc (Nat.le_refl _) _).trans ((below_drewN _ _).mono (by simp))
  obtain ⟨n0, hn0⟩ : ∃ n, b0.toNat = n := ⟨_, rfl⟩
  rw [hn0] at t0 c0 hb2 hz
  have hx := Lib.firstT_cases n0
  clear hT hb hn0 hcap
  rcases hx with h | h | h | h | h | h | h | h | h <;> rw [h] at t0 hz <;> clear h
  · obtain rfl : true = z := by rw [← hz]; decide
    clear hz
    go_enter Tryd.func68, Tryd.ntmps68
    go_wp2_with fail
    go_ret
    exact ⟨rfl, Below.refl _ _⟩
  · obtain rfl : true = z := by rw [← hz]; decide
    clear hz
    go_enter Tryd.func68, Tryd.ntmps68
    go_wp2_with fail
    go_ret
    exact ⟨rfl, Below.refl _ _⟩
  · obtain rfl : false = z := by rw [← hz]; decide
    have a1 : w.cell? ⟨4, 0, none⟩ = some (.int .u8 128) := (HA.out 0 (by decide)).1
    have a2 : w.cell? ⟨4, 1, none⟩ = some (.int .u8 191) := (HA.out 0 (by decide)).2
    clear hz
    go_enter Tryd.func68, Tryd.ntmps68
    go_wp2_with fail
    go_quiet (fail)
    go_wp2_with fail
    go_ret
    exact ⟨rfl, HFin.out _ _ _⟩
  · obtain rfl : false = z := by rw [← hz]; decide
    have a1 : w.cell? ⟨4, 2, none⟩ = some (.int .u8 160) := (HA.out 1 (by decide)).1
    have a2 : w.cell? ⟨4, 3, none⟩ = some (.int .u8 191) := (HA.out 1 (by decide)).2
    clear hz
    go_enter Tryd.func68, Tryd.ntmps68
    go_wp2_with fail
    go_quiet (fail)
    go_wp2_with fail
    go_ret
    exact ⟨rfl, HFin.out _ _ _⟩
  · obtain rfl : false = z := by rw [← hz]; decide
    have a1 : w.cell? ⟨4, 0, none⟩ = some (.int .u8 128) := (HA.out 0 (by decide)).1
    have a2 : w.cell? ⟨4, 1, none⟩ = some (.int .u8 191) := (HA.out 0 (by decide)).2
    clear hz
    go_enter Tryd.func68, Tryd.ntmps68
    go_wp2_with fail
    go_quiet (fail)
    go_wp2_with fail
    go_ret
    exact ⟨rfl, HFin.out _ _ _⟩
  · obtain rfl : false = z := by rw [← hz]; decide
    have a1 : w.cell? ⟨4, 4, none⟩ = some (.int .u8 128) := (HA.out 2 (by decide)).1
    have a2 : w.cell? ⟨4, 5, none⟩ = some (.int .u8 159) := (HA.out 2 (by decide)).2
    clear hz
    go_enter Tryd.func68, Tryd.ntmps68
    go_wp2_with fail
    go_quiet (fail)
    go_wp2_with fail
    go_ret
    exact ⟨rfl, HFin.out _ _ _⟩
  · obtain rfl : false = z := by rw [← hz]; decide
    have a1 : w.cell? ⟨4, 6, none⟩ = some (.int .u8 144) := (HA.out 3 (by decide)).1
    have a2 : w.cell? ⟨4, 7, none⟩ = some (.int .u8 191) := (HA.out 3 (by decide)).2
    clear hz
    go_enter Tryd.func68, Tryd.ntmps68
    go_wp2_with fail
    go_quiet (fail)
    go_wp2_with fail
    go_ret
    exact ⟨rfl, HFin.out _ _ _⟩
  · obtain rfl : false = z := by rw [← hz]; decide
    have a1 : w.cell? ⟨4, 0, none⟩ = some (.int .u8 128) := (HA.out 0 (by decide)).1
    have a2 : w.cell? ⟨4, 1, none⟩ = some (.int .u8 191) := (HA.out 0 (by decide)).2
    clear hz
    go_enter Tryd.func68, Tryd.ntmps68
    go_wp2_with fail
    go_quiet (fail)
    go_wp2_with fail
    go_ret
    exact ⟨rfl, HFin.out _ _ _⟩
  · obtain rfl : false = z := by rw [← hz]; decide
    have a1 : w.cell? ⟨4, 8, none⟩ = some (.int .u8 128) := (HA.out 4 (by decide)).1
    have a2 : w.cell? ⟨4, 9, none⟩ = some (.int .u8 143) := (HA.out 4 (by decide)).2
    clear hz
    go_enter Tryd.func68, Tryd.ntmps68
    go_wp2_with fail
    go_quiet (fail)
    go_wp2_with fail
    go_ret
    exact ⟨rfl, HFin.out _ _ _⟩
end Go.Proofs.YtghepjjfdaecgaaDoor
