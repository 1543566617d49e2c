/-
  Keys: whether bytes are a whole character.
  Keys: whether bytes are a whole character.
  Keys: whether bytes are a whole character.
  Keys: whether bytes are a whole character: every text.
-/
import Derived.Test.YtnehkokppobncaaDoorKFull
import Derived.BigRegion
import Derived.RegionTactic
import Derived.BigQuiet
import Derived.Deep.QuietTactic
namespace Go.Proofs.YtnehkokppobncaaDoor
open Go.RowKit
set_option linter.unusedVariables false
set_option maxRecDepth 100000

set_option maxHeartbeats 8000000 in
theorem full_1 (b0 : UInt8) (g o cap : Nat) (hcap : 1 ≤ cap) {w : World} (hT : Tabs w) (c0 : w.cell? ⟨g, o, none⟩ = some (.int .u8 b0.toNat)) (z : Bool) (hz : fullB [b0] = z) :
    Calls Tryd.prog 39 #[.slice (some ⟨g, o, none⟩) 1 cap] w fun e w' => e = .returned (.bool z) ∧ Below w.heap.size w w' := by
  have hb := b0.toNat_lt
  have t0 := hT.u8.1 b0.toNat hb
  have hb2 : (b0.toNat : Int) < 256 := by omega
  have hcp : (1 : Int) ≤ (cap : Int) := by omega
  unfold fullB at hz
  simp only [List.length_nil, Bool.or_false, Nat.zero_add] at hz
  have HA : Hid (∀ i, i < 16 → w.cell? ⟨4, 2 * i, none⟩ = some (.int .u8 (Lib.accLo i)) ∧ w.cell? ⟨4, 2 * i + 1, none⟩ = some (.int .u8 (Lib.accHi i))) := hT.u8.2
  have HFin : Hid (∀ a b k, Below w.heap.size w ((w.alloc (.cells #[.int .u8 a, .int .u8 b] 84)).drewN k)) := fun a b k => ((Below.refl _ _).alloc (Nat.le_refl _) _).trans ((below_drewN _ _).mono (by simp))
  obtain ⟨n0, hn0⟩ : ∃ n, b0.toNat = n := ⟨_, rfl⟩
  rw [hn0] at t0 c0 hb2 hz
  have hx := Lib.firstT_cases n0
  clear hT hb hn0 hcap
  rcases hx with h | h | h | h | h | h | h | h | h <;> rw [h] at t0 hz <;> clear h
  · obtain rfl : true = z := by rw [← hz]; decide
    clear hz
    go_enter Tryd.func39, Tryd.ntmps39
    go_wp2_with fail
    go_ret
    exact ⟨rfl, Below.refl _ _⟩
  · obtain rfl : true = z := by rw [← hz]; decide
    clear hz
    go_enter Tryd.func39, Tryd.ntmps39
    go_wp2_with fail
    go_ret
    exact ⟨rfl, Below.refl _ _⟩
  · obtain rfl : false = z := by rw [← hz]; decide
    have a1 : w.cell? ⟨4, 0, none⟩ = some (.int .u8 128) := (HA.out 0 (by decide)).1
    have a2 : w.cell? ⟨4, 1, none⟩ = some (.int .u8 191) := (HA.out 0 (by decide)).2
    clear hz
    go_enter Tryd.func39, Tryd.ntmps39
    go_wp2_with fail
    go_quiet (fail)
    go_wp2_with fail
    go_ret
    exact ⟨rfl, HFin.out _ _ _⟩
  · obtain rfl : false = z := by rw [← hz]; decide
    have a1 : w.cell? ⟨4, 2, none⟩ = some (.int .u8 160) := (HA.out 1 (by decide)).1
    have a2 : w.cell? ⟨4, 3, none⟩ = some (.int .u8 191) := (HA.out 1 (by decide)).2
    clear hz
    go_enter Tryd.func39, Tryd.ntmps39
    go_wp2_with fail
    go_quiet (fail)
    go_wp2_with fail
    go_ret
    exact ⟨rfl, HFin.out _ _ _⟩
  · obtain rfl : false = z := by rw [← hz]; decide
    have a1 : w.cell? ⟨4, 0, none⟩ = some (.int .u8 128) := (HA.out 0 (by decide)).1
    have a2 : w.cell? ⟨4, 1, none⟩ = some (.int .u8 191) := (HA.out 0 (by decide)).2
    clear hz
    go_enter Tryd.func39, Tryd.ntmps39
    go_wp2_with fail
    go_quiet (fail)
    go_wp2_with fail
    go_ret
    exact ⟨rfl, HFin.out _ _ _⟩
  · obtain rfl : false = z := by rw [← hz]; decide
    have a1 : w.cell? ⟨4, 4, none⟩ = some (.int .u8 128) := (HA.out 2 (by decide)).1
    have a2 : w.cell? ⟨4, 5, none⟩ = some (.int .u8 159) := (HA.out 2 (by decide)).2
    clear hz
    go_enter Tryd.func39, Tryd.ntmps39
    go_wp2_with fail
    go_quiet (fail)
    go_wp2_with fail
    go_ret
    exact ⟨rfl, HFin.out _ _ _⟩
  · obtain rfl : false = z := by rw [← hz]; decide
    have a1 : w.cell? ⟨4, 6, none⟩ = some (.int .u8 144) := (HA.out 3 (by decide)).1
    have a2 : w.cell? ⟨4, 7, none⟩ = some (.int .u8 191) := (HA.out 3 (by decide)).2
    clear hz
    go_enter Tryd.func39, Tryd.ntmps39
    go_wp2_with fail
    go_quiet (fail)
    go_wp2_with fail
    go_ret
    exact ⟨rfl, HFin.out _ _ _⟩
  · obtain rfl : false = z := by rw [← hz]; decide
    have a1 : w.cell? ⟨4, 0, none⟩ = some (.int .u8 128) := (HA.out 0 (by decide)).1
    have a2 : w.cell? ⟨4, 1, none⟩ = some (.int .u8 191) := (HA.out 0 (by decide)).2
    clear hz
    go_enter Tryd.func39, Tryd.ntmps39
    go_wp2_with fail
    go_quiet (fail)
    go_wp2_with fail
    go_ret
    exact ⟨rfl, HFin.out _ _ _⟩
  · obtain rfl : false = z := by rw [← hz]; decide
    have a1 : w.cell? ⟨4, 8, none⟩ = some (.int .u8 128) := (HA.out 4 (by decide)).1
    have a2 : w.cell? ⟨4, 9, none⟩ = some (.int .u8 143) := (HA.out 4 (by decide)).2
    clear hz
    go_enter Tryd.func39, Tryd.ntmps39
    go_wp2_with fail
    go_quiet (fail)
    go_wp2_with fail
    go_ret
    exact ⟨rfl, HFin.out _ _ _⟩
end Go.Proofs.YtnehkokppobncaaDoor

namespace Go.Proofs.YtnehkokppobncaaDoor
open Go.RowKit
set_option linter.unusedVariables false
set_option maxRecDepth 100000

set_option maxHeartbeats 8000000 in
theorem full_2 (b0 b1 : UInt8) (g o cap : Nat) (hcap : 2 ≤ cap) {w : World} (hT : Tabs w) (c0 : w.cell? ⟨g, o, none⟩ = some (.int .u8 b0.toNat)) (c1 : w.cell? ⟨g, o + 1, none⟩ = some (.int .u8 b1.toNat)) (z : Bool) (hz : fullB [b0, b1] = z) :
    Calls Tryd.prog 39 #[.slice (some ⟨g, o, none⟩) 2 cap] w fun e w' => e = .returned (.bool z) ∧ Below w.heap.size w w' := by
  have hb := b0.toNat_lt
  have t0 := hT.u8.1 b0.toNat hb
  have hb2 : (b0.toNat : Int) < 256 := by omega
  have hcp : (2 : Int) ≤ (cap : Int) := by omega
  unfold fullB at hz
  simp only [List.length_nil, List.length_cons, Bool.or_false, Nat.zero_add, Nat.reduceAdd] at hz
  have HA : Hid (∀ i, i < 16 → w.cell? ⟨4, 2 * i, none⟩ = some (.int .u8 (Lib.accLo i)) ∧ w.cell? ⟨4, 2 * i + 1, none⟩ = some (.int .u8 (Lib.accHi i))) := hT.u8.2
  have HFin : Hid (∀ a b k, Below w.heap.size w ((w.alloc (.cells #[.int .u8 a, .int .u8 b] 84)).drewN k)) := fun a b k => ((Below.refl _ _).alloc (Nat.le_refl _) _).trans ((below_drewN _ _).mono (by simp))
  obtain ⟨n0, hn0⟩ : ∃ n, b0.toNat = n := ⟨_, rfl⟩
  obtain ⟨n1, hn1⟩ : ∃ n, b1.toNat = n := ⟨_, rfl⟩
  rw [hn0] at t0 c0 hb2 hz
  rw [hn1] at c1 hz
  have hx := Lib.firstT_cases n0
  clear hT hb hn0 hn1 hcap
  rcases hx with h | h | h | h | h | h | h | h | h <;> rw [h] at t0 hz <;> clear h
  · obtain rfl : true = z := by rw [← hz]; simp
    clear hz
    go_enter Tryd.func39, Tryd.ntmps39
    go_wp2_with fail
    go_ret
    exact ⟨rfl, Below.refl _ _⟩
  · obtain rfl : true = z := by rw [← hz]; simp
    clear hz
    go_enter Tryd.func39, Tryd.ntmps39
    go_wp2_with fail
    go_ret
    exact ⟨rfl, Below.refl _ _⟩
  · obtain rfl : true = z := by rw [← hz]; simp
    clear hz
    go_enter Tryd.func39, Tryd.ntmps39
    go_wp2_with fail
    go_ret
    exact ⟨rfl, Below.refl _ _⟩
  · have a1 : w.cell? ⟨4, 2, none⟩ = some (.int .u8 160) := (HA.out 1 (by decide)).1
    have a2 : w.cell? ⟨4, 3, none⟩ = some (.int .u8 191) := (HA.out 1 (by decide)).2
    obtain ⟨V, hV⟩ : ∃ V, w.alloc (.cells #[.int .u8 160, .int .u8 191] 84) = V := ⟨_, rfl⟩
    obtain ⟨K, hK⟩ : ∃ K, w.heap.size = K := ⟨_, rfl⟩
    have hbV : Below w.heap.size w V := by rw [← hV]; exact (Below.refl _ _).alloc (Nat.le_refl _) _
    have hvb : V.heap[K]? = some (.cells #[.int .u8 160, .int .u8 191] 84 (0, 0)) := by rw [← hV, ← hK]; exact heap_alloc_new w _
    have v0 : V.cell? ⟨K, 0, none⟩ = some (.int .u8 160) := cell_at hvb 0
    have v1 : V.cell? ⟨K, 1, none⟩ = some (.int .u8 191) := cell_at hvb 1
    have e1 : V.cell? ⟨g, o + 1, none⟩ = some (.int .u8 n1) := (hbV.cell (World.block_lt_of_cell? w _ c1)).trans c1
    have HFV : Hid (∀ k, Below w.heap.size w (V.drewN k)) := fun k => hbV.trans ((below_drewN _ _).mono hbV.size)
    clear hbV hvb
    simp only [Nat.reduceMod, Nat.reduceLeDiff, decide_false, Bool.false_or, Nat.reduceDiv, show Lib.accLo 1 = 160 from rfl, show Lib.accHi 1 = 191 from rfl] at hz
    rcases (by omega : n1 < 160 ∨ 191 < n1 ∨ (160 ≤ n1 ∧ n1 ≤ 191)) with q | q | q
    · obtain rfl : true = z := by rw [← hz]; simp; omega
      have i1 : (n1 : Int) < 160 := by omega
      clear hz q
      go_enter Tryd.func39, Tryd.ntmps39
      go_wp2_with fail
      go_quiet (fail)
      go_wp2_with fail
      go_ret
      exact ⟨rfl, by first | exact HFV.out _ | (rw [← hK]; exact HFV.out _)⟩
    · obtain rfl : true = z := by rw [← hz]; simp; omega
      have i1 : ¬ (n1 : Int) < 160 := by omega
      have j1 : decide ((n1 : Int) < 160) = false := by simp only [decide_eq_false_iff_not]; omega
      have i2 : (191 : Int) < (n1 : Int) := by omega
      clear hz q
      go_enter Tryd.func39, Tryd.ntmps39
      go_wp2_with fail
      go_quiet (fail)
      go_wp2_with fail
      go_ret
      exact ⟨rfl, by first | exact HFV.out _ | (rw [← hK]; exact HFV.out _)⟩
    · obtain rfl : false = z := by rw [← hz]; simp; omega
      have i1 : ¬ (n1 : Int) < 160 := by omega
      have j1 : decide ((n1 : Int) < 160) = false := by simp only [decide_eq_false_iff_not]; omega
      have i2 : ¬ (191 : Int) < (n1 : Int) := by omega
      have j2 : decide ((191 : Int) < (n1 : Int)) = false := by simp only [decide_eq_false_iff_not]; omega
      clear hz q
      go_enter Tryd.func39, Tryd.ntmps39
      go_wp2_with fail
      go_quiet (fail)
      go_wp2_with fail
      go_ret
      exact ⟨rfl, by first | exact HFV.out _ | (rw [← hK]; exact HFV.out _)⟩
  · have a1 : w.cell? ⟨4, 0, none⟩ = some (.int .u8 128) := (HA.out 0 (by decide)).1
    have a2 : w.cell? ⟨4, 1, none⟩ = some (.int .u8 191) := (HA.out 0 (by decide)).2
    obtain ⟨V, hV⟩ : ∃ V, w.alloc (.cells #[.int .u8 128, .int .u8 191] 84) = V := ⟨_, rfl⟩
    obtain ⟨K, hK⟩ : ∃ K, w.heap.size = K := ⟨_, rfl⟩
    have hbV : Below w.heap.size w V := by rw [← hV]; exact (Below.refl _ _).alloc (Nat.le_refl _) _
    have hvb : V.heap[K]? = some (.cells #[.int .u8 128, .int .u8 191] 84 (0, 0)) := by rw [← hV, ← hK]; exact heap_alloc_new w _
    have v0 : V.cell? ⟨K, 0, none⟩ = some (.int .u8 128) := cell_at hvb 0
    have v1 : V.cell? ⟨K, 1, none⟩ = some (.int .u8 191) := cell_at hvb 1
    have e1 : V.cell? ⟨g, o + 1, none⟩ = some (.int .u8 n1) := (hbV.cell (World.block_lt_of_cell? w _ c1)).trans c1
    have HFV : Hid (∀ k, Below w.heap.size w (V.drewN k)) := fun k => hbV.trans ((below_drewN _ _).mono hbV.size)
    clear hbV hvb
    simp only [Nat.reduceMod, Nat.reduceLeDiff, decide_false, Bool.false_or, Nat.reduceDiv, show Lib.accLo 0 = 128 from rfl, show Lib.accHi 0 = 191 from rfl] at hz
    rcases (by omega : n1 < 128 ∨ 191 < n1 ∨ (128 ≤ n1 ∧ n1 ≤ 191)) with q | q | q
    · obtain rfl : true = z := by rw [← hz]; simp; omega
      have i1 : (n1 : Int) < 128 := by omega
      clear hz q
      go_enter Tryd.func39, Tryd.ntmps39
      go_wp2_with fail
      go_quiet (fail)
      go_wp2_with fail
      go_ret
      exact ⟨rfl, by first | exact HFV.out _ | (rw [← hK]; exact HFV.out _)⟩
    · obtain rfl : true = z := by rw [← hz]; simp; omega
      have i1 : ¬ (n1 : Int) < 128 := by omega
      have j1 : decide ((n1 : Int) < 128) = false := by simp only [decide_eq_false_iff_not]; omega
      have i2 : (191 : Int) < (n1 : Int) := by omega
      clear hz q
      go_enter Tryd.func39, Tryd.ntmps39
      go_wp2_with fail
      go_quiet (fail)
      go_wp2_with fail
      go_ret
      exact ⟨rfl, by first | exact HFV.out _ | (rw [← hK]; exact HFV.out _)⟩
    · obtain rfl : false = z := by rw [← hz]; simp; omega
      have i1 : ¬ (n1 : Int) < 128 := by omega
      have j1 : decide ((n1 : Int) < 128) = false := by simp only [decide_eq_false_iff_not]; omega
      have i2 : ¬ (191 : Int) < (n1 : Int) := by omega
      have j2 : decide ((191 : Int) < (n1 : Int)) = false := by simp only [decide_eq_false_iff_not]; omega
      clear hz q
      go_enter Tryd.func39, Tryd.ntmps39
      go_wp2_with fail
      go_quiet (fail)
      go_wp2_with fail
      go_ret
      exact ⟨rfl, by first | exact HFV.out _ | (rw [← hK]; exact HFV.out _)⟩
  · have a1 : w.cell? ⟨4, 4, none⟩ = some (.int .u8 128) := (HA.out 2 (by decide)).1
    have a2 : w.cell? ⟨4, 5, none⟩ = some (.int .u8 159) := (HA.out 2 (by decide)).2
    obtain ⟨V, hV⟩ : ∃ V, w.alloc (.cells #[.int .u8 128, .int .u8 159] 84) = V := ⟨_, rfl⟩
    obtain ⟨K, hK⟩ : ∃ K, w.heap.size = K := ⟨_, rfl⟩
    have hbV : Below w.heap.size w V := by rw [← hV]; exact (Below.refl _ _).alloc (Nat.le_refl _) _
    have hvb : V.heap[K]? = some (.cells #[.int .u8 128, .int .u8 159] 84 (0, 0)) := by rw [← hV, ← hK]; exact heap_alloc_new w _
    have v0 : V.cell? ⟨K, 0, none⟩ = some (.int .u8 128) := cell_at hvb 0
    have v1 : V.cell? ⟨K, 1, none⟩ = some (.int .u8 159) := cell_at hvb 1
    have e1 : V.cell? ⟨g, o + 1, none⟩ = some (.int .u8 n1) := (hbV.cell (World.block_lt_of_cell? w _ c1)).trans c1
    have HFV : Hid (∀ k, Below w.heap.size w (V.drewN k)) := fun k => hbV.trans ((below_drewN _ _).mono hbV.size)
    clear hbV hvb
    simp only [Nat.reduceMod, Nat.reduceLeDiff, decide_false, Bool.false_or, Nat.reduceDiv, show Lib.accLo 2 = 128 from rfl, show Lib.accHi 2 = 159 from rfl] at hz
    rcases (by omega : n1 < 128 ∨ 159 < n1 ∨ (128 ≤ n1 ∧ n1 ≤ 159)) with q | q | q
    · obtain rfl : true = z := by rw [← hz]; simp; omega
      have i1 : (n1 : Int) < 128 := by omega
      clear hz q
      go_enter Tryd.func39, Tryd.ntmps39
      go_wp2_with fail
      go_quiet (fail)
      go_wp2_with fail
      go_ret
      exact ⟨rfl, by first | exact HFV.out _ | (rw [← hK]; exact HFV.out _)⟩
    · obtain rfl : true = z := by rw [← hz]; simp; omega
      have i1 : ¬ (n1 : Int) < 128 := by omega
      have j1 : decide ((n1 : Int) < 128) = false := by simp only [decide_eq_false_iff_not]; omega
      have i2 : (159 : Int) < (n1 : Int) := by omega
      clear hz q
      go_enter Tryd.func39, Tryd.ntmps39
      go_wp2_with fail
      go_quiet (fail)
      go_wp2_with fail
      go_ret
      exact ⟨rfl, by first | exact HFV.out _ | (rw [← hK]; exact HFV.out _)⟩
    · obtain rfl : false = z := by rw [← hz]; simp; omega
      have i1 : ¬ (n1 : Int) < 128 := by omega
      have j1 : decide ((n1 : Int) < 128) = false := by simp only [decide_eq_false_iff_not]; omega
      have i2 : ¬ (159 : Int) < (n1 : Int) := by omega
      have j2 : decide ((159 : Int) < (n1 : Int)) = false := by simp only [decide_eq_false_iff_not]; omega
      clear hz q
      go_enter Tryd.func39, Tryd.ntmps39
      go_wp2_with fail
      go_quiet (fail)
      go_wp2_with fail
      go_ret
      exact ⟨rfl, by first | exact HFV.out _ | (rw [← hK]; exact HFV.out _)⟩
  · have a1 : w.cell? ⟨4, 6, none⟩ = some (.int .u8 144) := (HA.out 3 (by decide)).1
    have a2 : w.cell? ⟨4, 7, none⟩ = some (.int .u8 191) := (HA.out 3 (by decide)).2
    obtain ⟨V, hV⟩ : ∃ V, w.alloc (.cells #[.int .u8 144, .int .u8 191] 84) = V := ⟨_, rfl⟩
    obtain ⟨K, hK⟩ : ∃ K, w.heap.size = K := ⟨_, rfl⟩
    have hbV : Below w.heap.size w V := by rw [← hV]; exact (Below.refl _ _).alloc (Nat.le_refl _) _
    have hvb : V.heap[K]? = some (.cells #[.int .u8 144, .int .u8 191] 84 (0, 0)) := by rw [← hV, ← hK]; exact heap_alloc_new w _
    have v0 : V.cell? ⟨K, 0, none⟩ = some (.int .u8 144) := cell_at hvb 0
    have v1 : V.cell? ⟨K, 1, none⟩ = some (.int .u8 191) := cell_at hvb 1
    have e1 : V.cell? ⟨g, o + 1, none⟩ = some (.int .u8 n1) := (hbV.cell (World.block_lt_of_cell? w _ c1)).trans c1
    have HFV : Hid (∀ k, Below w.heap.size w (V.drewN k)) := fun k => hbV.trans ((below_drewN _ _).mono hbV.size)
    clear hbV hvb
    simp only [Nat.reduceMod, Nat.reduceLeDiff, decide_false, Bool.false_or, Nat.reduceDiv, show Lib.accLo 3 = 144 from rfl, show Lib.accHi 3 = 191 from rfl] at hz
    rcases (by omega : n1 < 144 ∨ 191 < n1 ∨ (144 ≤ n1 ∧ n1 ≤ 191)) with q | q | q
    · obtain rfl : true = z := by rw [← hz]; simp; omega
      have i1 : (n1 : Int) < 144 := by omega
      clear hz q
      go_enter Tryd.func39, Tryd.ntmps39
      go_wp2_with fail
      go_quiet (fail)
      go_wp2_with fail
      go_ret
      exact ⟨rfl, by first | exact HFV.out _ | (rw [← hK]; exact HFV.out _)⟩
    · obtain rfl : true = z := by rw [← hz]; simp; omega
      have i1 : ¬ (n1 : Int) < 144 := by omega
      have j1 : decide ((n1 : Int) < 144) = false := by simp only [decide_eq_false_iff_not]; omega
      have i2 : (191 : Int) < (n1 : Int) := by omega
      clear hz q
      go_enter Tryd.func39, Tryd.ntmps39
      go_wp2_with fail
      go_quiet (fail)
      go_wp2_with fail
      go_ret
      exact ⟨rfl, by first | exact HFV.out _ | (rw [← hK]; exact HFV.out _)⟩
    · obtain rfl : false = z := by rw [← hz]; simp; omega
      have i1 : ¬ (n1 : Int) < 144 := by omega
      have j1 : decide ((n1 : Int) < 144) = false := by simp only [decide_eq_false_iff_not]; omega
      have i2 : ¬ (191 : Int) < (n1 : Int) := by omega
      have j2 : decide ((191 : Int) < (n1 : Int)) = false := by simp only [decide_eq_false_iff_not]; omega
      clear hz q
      go_enter Tryd.func39, Tryd.ntmps39
      go_wp2_with fail
      go_quiet (fail)
      go_wp2_with fail
      go_ret
      exact ⟨rfl, by first | exact HFV.out _ | (rw [← hK]; exact HFV.out _)⟩
  · have a1 : w.cell? ⟨4, 0, none⟩ = some (.int .u8 128) := (HA.out 0 (by decide)).1
    have a2 : w.cell? ⟨4, 1, none⟩ = some (.int .u8 191) := (HA.out 0 (by decide)).2
    obtain ⟨V, hV⟩ : ∃ V, w.alloc (.cells #[.int .u8 128, .int .u8 191] 84) = V := ⟨_, rfl⟩
    obtain ⟨K, hK⟩ : ∃ K, w.heap.size = K := ⟨_, rfl⟩
    have hbV : Below w.heap.size w V := by rw [← hV]; exact (Below.refl _ _).alloc (Nat.le_refl _) _
    have hvb : V.heap[K]? = some (.cells #[.int .u8 128, .int .u8 191] 84 (0, 0)) := by rw [← hV, ← hK]; exact heap_alloc_new w _
    have v0 : V.cell? ⟨K, 0, none⟩ = some (.int .u8 128) := cell_at hvb 0
    have v1 : V.cell? ⟨K, 1, none⟩ = some (.int .u8 191) := cell_at hvb 1
    have e1 : V.cell? ⟨g, o + 1, none⟩ = some (.int .u8 n1) := (hbV.cell (World.block_lt_of_cell? w _ c1)).trans c1
    have HFV : Hid (∀ k, Below w.heap.size w (V.drewN k)) := fun k => hbV.trans ((below_drewN _ _).mono hbV.size)
    clear hbV hvb
    simp only [Nat.reduceMod, Nat.reduceLeDiff, decide_false, Bool.false_or, Nat.reduceDiv, show Lib.accLo 0 = 128 from rfl, show Lib.accHi 0 = 191 from rfl] at hz
    rcases (by omega : n1 < 128 ∨ 191 < n1 ∨ (128 ≤ n1 ∧ n1 ≤ 191)) with q | q | q
    · obtain rfl : true = z := by rw [← hz]; simp; omega
      have i1 : (n1 : Int) < 128 := by omega
      clear hz q
      go_enter Tryd.func39, Tryd.ntmps39
      go_wp2_with fail
      go_quiet (fail)
      go_wp2_with fail
      go_ret
      exact ⟨rfl, by first | exact HFV.out _ | (rw [← hK]; exact HFV.out _)⟩
    · obtain rfl : true = z := by rw [← hz]; simp; omega
      have i1 : ¬ (n1 : Int) < 128 := by omega
      have j1 : decide ((n1 : Int) < 128) = false := by simp only [decide_eq_false_iff_not]; omega
      have i2 : (191 : Int) < (n1 : Int) := by omega
      clear hz q
      go_enter Tryd.func39, Tryd.ntmps39
      go_wp2_with fail
      go_quiet (fail)
      go_wp2_with fail
      go_ret
      exact ⟨rfl, by first | exact HFV.out _ | (rw [← hK]; exact HFV.out _)⟩
    · obtain rfl : false = z := by rw [← hz]; simp; omega
      have i1 : ¬ (n1 : Int) < 128 := by omega
      have j1 : decide ((n1 : Int) < 128) = false := by simp only [decide_eq_false_iff_not]; omega
      have i2 : ¬ (191 : Int) < (n1 : Int) := by omega
      have j2 : decide ((191 : Int) < (n1 : Int)) = false := by simp only [decide_eq_false_iff_not]; omega
      clear hz q
      go_enter Tryd.func39, Tryd.ntmps39
      go_wp2_with fail
      go_quiet (fail)
      go_wp2_with fail
      go_ret
      exact ⟨rfl, by first | exact HFV.out _ | (rw [← hK]; exact HFV.out _)⟩
  · have a1 : w.cell? ⟨4, 8, none⟩ = some (.int .u8 128) := (HA.out 4 (by decide)).1
    have a2 : w.cell? ⟨4, 9, none⟩ = some (.int .u8 143) := (HA.out 4 (by decide)).2
    obtain ⟨V, hV⟩ : ∃ V, w.alloc (.cells #[.int .u8 128, .int .u8 143] 84) = V := ⟨_, rfl⟩
    obtain ⟨K, hK⟩ : ∃ K, w.heap.size = K := ⟨_, rfl⟩
    have hbV : Below w.heap.size w V := by rw [← hV]; exact (Below.refl _ _).alloc (Nat.le_refl _) _
    have hvb : V.heap[K]? = some (.cells #[.int .u8 128, .int .u8 143] 84 (0, 0)) := by rw [← hV, ← hK]; exact heap_alloc_new w _
    have v0 : V.cell? ⟨K, 0, none⟩ = some (.int .u8 128) := cell_at hvb 0
    have v1 : V.cell? ⟨K, 1, none⟩ = some (.int .u8 143) := cell_at hvb 1
    have e1 : V.cell? ⟨g, o + 1, none⟩ = some (.int .u8 n1) := (hbV.cell (World.block_lt_of_cell? w _ c1)).trans c1
    have HFV : Hid (∀ k, Below w.heap.size w (V.drewN k)) := fun k => hbV.trans ((below_drewN _ _).mono hbV.size)
    clear hbV hvb
    simp only [Nat.reduceMod, Nat.reduceLeDiff, decide_false, Bool.false_or, Nat.reduceDiv, show Lib.accLo 4 = 128 from rfl, show Lib.accHi 4 = 143 from rfl] at hz
    rcases (by omega : n1 < 128 ∨ 143 < n1 ∨ (128 ≤ n1 ∧ n1 ≤ 143)) with q | q | q
    · obtain rfl : true = z := by rw [← hz]; simp; omega
      have i1 : (n1 : Int) < 128 := by omega
      clear hz q
      go_enter Tryd.func39, Tryd.ntmps39
      go_wp2_with fail
      go_quiet (fail)
      go_wp2_with fail
      go_ret
      exact ⟨rfl, by first | exact HFV.out _ | (rw [← hK]; exact HFV.out _)⟩
    · obtain rfl : true = z := by rw [← hz]; simp; omega
      have i1 : ¬ (n1 : Int) < 128 := by omega
      have j1 : decide ((n1 : Int) < 128) = false := by simp only [decide_eq_false_iff_not]; omega
      have i2 : (143 : Int) < (n1 : Int) := by omega
      clear hz q
      go_enter Tryd.func39, Tryd.ntmps39
      go_wp2_with fail
      go_quiet (fail)
      go_wp2_with fail
      go_ret
      exact ⟨rfl, by first | exact HFV.out _ | (rw [← hK]; exact HFV.out _)⟩
    · obtain rfl : false = z := by rw [← hz]; simp; omega
      have i1 : ¬ (n1 : Int) < 128 := by omega
      have j1 : decide ((n1 : Int) < 128) = false := by simp only [decide_eq_false_iff_not]; omega
      have i2 : ¬ (143 : Int) < (n1 : Int) := by omega
      have j2 : decide ((143 : Int) < (n1 : Int)) = false := by simp only [decide_eq_false_iff_not]; omega
      clear hz q
      go_enter Tryd.func39, Tryd.ntmps39
      go_wp2_with fail
      go_quiet (fail)
      go_wp2_with fail
      go_ret
      exact ⟨rfl, by first | exact HFV.out _ | (rw [← hK]; exact HFV.out _)⟩
end Go.Proofs.YtnehkokppobncaaDoor

namespace Go.Proofs.YtnehkokppobncaaDoor
open Go.RowKit
set_option linter.unusedVariables false
set_option maxRecDepth 100000

set_option maxHeartbeats 8000000 in
theorem full_3 (b0 b1 b2 : UInt8) (g o cap : Nat) (hcap : 3 ≤ cap) {w : World} (hT : Tabs w) (c0 : w.cell? ⟨g, o, none⟩ = some (.int .u8 b0.toNat)) (c1 : w.cell? ⟨g, o + 1, none⟩ = some (.int .u8 b1.toNat)) (c2 : w.cell? ⟨g, o + 2, none⟩ = some (.int .u8 b2.toNat)) (z : Bool) (hz : fullB [b0, b1, b2] = z) :
    Calls Tryd.prog 39 #[.slice (some ⟨g, o, none⟩) 3 cap] w fun e w' => e = .returned (.bool z) ∧ Below w.heap.size w w' := by
  have hb := b0.toNat_lt
  have t0 := hT.u8.1 b0.toNat hb
  have hb2 : (b0.toNat : Int) < 256 := by omega
  have hcp : (3 : Int) ≤ (cap : Int) := by omega
  unfold fullB at hz
  simp only [List.length_nil, List.length_cons, Nat.zero_add, Nat.reduceAdd] at hz
  have HA : Hid (∀ i, i < 16 → w.cell? ⟨4, 2 * i, none⟩ = some (.int .u8 (Lib.accLo i)) ∧ w.cell? ⟨4, 2 * i + 1, none⟩ = some (.int .u8 (Lib.accHi i))) := hT.u8.2
  have HFin : Hid (∀ a b k, Below w.heap.size w ((w.alloc (.cells #[.int .u8 a, .int .u8 b] 84)).drewN k)) := fun a b k => ((Below.refl _ _).alloc (Nat.le_refl _) _).trans ((below_drewN _ _).mono (by simp))
  obtain ⟨n0, hn0⟩ : ∃ n, b0.toNat = n := ⟨_, rfl⟩
  obtain ⟨n1, hn1⟩ : ∃ n, b1.toNat = n := ⟨_, rfl⟩
  obtain ⟨n2, hn2⟩ : ∃ n, b2.toNat = n := ⟨_, rfl⟩
  rw [hn0] at t0 c0 hb2 hz
  rw [hn1] at c1 hz
  rw [hn2] at c2 hz
  have hx := Lib.firstT_cases n0
  clear hT hb hn0 hn1 hn2 hcap
  rcases hx with h | h | h | h | h | h | h | h | h <;> rw [h] at t0 hz <;> clear h
  · obtain rfl : true = z := by rw [← hz]; simp
    clear hz
    go_enter Tryd.func39, Tryd.ntmps39
    go_wp2_with fail
    go_ret
    exact ⟨rfl, Below.refl _ _⟩
  · obtain rfl : true = z := by rw [← hz]; simp
    clear hz
    go_enter Tryd.func39, Tryd.ntmps39
    go_wp2_with fail
    go_ret
    exact ⟨rfl, Below.refl _ _⟩
  · obtain rfl : true = z := by rw [← hz]; simp
    clear hz
    go_enter Tryd.func39, Tryd.ntmps39
    go_wp2_with fail
    go_ret
    exact ⟨rfl, Below.refl _ _⟩
  · obtain rfl : true = z := by rw [← hz]; simp
    clear hz
    go_enter Tryd.func39, Tryd.ntmps39
    go_wp2_with fail
    go_ret
    exact ⟨rfl, Below.refl _ _⟩
  · obtain rfl : true = z := by rw [← hz]; simp
    clear hz
    go_enter Tryd.func39, Tryd.ntmps39
    go_wp2_with fail
    go_ret
    exact ⟨rfl, Below.refl _ _⟩
  · obtain rfl : true = z := by rw [← hz]; simp
    clear hz
    go_enter Tryd.func39, Tryd.ntmps39
    go_wp2_with fail
    go_ret
    exact ⟨rfl, Below.refl _ _⟩
  · have a1 : w.cell? ⟨4, 6, none⟩ = some (.int .u8 144) := (HA.out 3 (by decide)).1
    have a2 : w.cell? ⟨4, 7, none⟩ = some (.int .u8 191) := (HA.out 3 (by decide)).2
    obtain ⟨V, hV⟩ : ∃ V, w.alloc (.cells #[.int .u8 144, .int .u8 191] 84) = V := ⟨_, rfl⟩
    obtain ⟨K, hK⟩ : ∃ K, w.heap.size = K := ⟨_, rfl⟩
    have hbV : Below w.heap.size w V := by rw [← hV]; exact (Below.refl _ _).alloc (Nat.le_refl _) _
    have hvb : V.heap[K]? = some (.cells #[.int .u8 144, .int .u8 191] 84 (0, 0)) := by rw [← hV, ← hK]; exact heap_alloc_new w _
    have v0 : V.cell? ⟨K, 0, none⟩ = some (.int .u8 144) := cell_at hvb 0
    have v1 : V.cell? ⟨K, 1, none⟩ = some (.int .u8 191) := cell_at hvb 1
    have e1 : V.cell? ⟨g, o + 1, none⟩ = some (.int .u8 n1) := (hbV.cell (World.block_lt_of_cell? w _ c1)).trans c1
    have e2 : V.cell? ⟨g, o + 2, none⟩ = some (.int .u8 n2) := (hbV.cell (World.block_lt_of_cell? w _ c2)).trans c2
    have HFV : Hid (∀ k, Below w.heap.size w (V.drewN k)) := fun k => hbV.trans ((below_drewN _ _).mono hbV.size)
    clear hbV hvb
    simp only [Nat.reduceMod, Nat.reduceLeDiff, decide_false, Bool.false_or, Nat.reduceDiv, show Lib.accLo 3 = 144 from rfl, show Lib.accHi 3 = 191 from rfl] at hz
    rcases (by omega : n1 < 144 ∨ 191 < n1 ∨ (144 ≤ n1 ∧ n1 ≤ 191 ∧ n2 < 128) ∨ (144 ≤ n1 ∧ n1 ≤ 191 ∧ 191 < n2) ∨ (144 ≤ n1 ∧ n1 ≤ 191 ∧ 128 ≤ n2 ∧ n2 ≤ 191)) with q | q | q | q | q
    · obtain rfl : true = z := by rw [← hz]; simp; omega
      have i1 : (n1 : Int) < 144 := by omega
      clear hz q
      go_enter Tryd.func39, Tryd.ntmps39
      go_wp2_with fail
      go_quiet (fail)
      go_wp2_with fail
      go_ret
      exact ⟨rfl, by first | exact HFV.out _ | (rw [← hK]; exact HFV.out _)⟩
    · obtain rfl : true = z := by rw [← hz]; simp; omega
      have i1 : ¬ (n1 : Int) < 144 := by omega
      have j1 : decide ((n1 : Int) < 144) = false := by simp only [decide_eq_false_iff_not]; omega
      have i2 : (191 : Int) < (n1 : Int) := by omega
      clear hz q
      go_enter Tryd.func39, Tryd.ntmps39
      go_wp2_with fail
      go_quiet (fail)
      go_wp2_with fail
      go_ret
      exact ⟨rfl, by first | exact HFV.out _ | (rw [← hK]; exact HFV.out _)⟩
    · obtain rfl : true = z := by rw [← hz]; simp; omega
      have i1 : ¬ (n1 : Int) < 144 := by omega
      have j1 : decide ((n1 : Int) < 144) = false := by simp only [decide_eq_false_iff_not]; omega
      have i2 : ¬ (191 : Int) < (n1 : Int) := by omega
      have j2 : decide ((191 : Int) < (n1 : Int)) = false := by simp only [decide_eq_false_iff_not]; omega
      have i3 : (n2 : Int) < 128 := by omega
      clear hz q
      go_enter Tryd.func39, Tryd.ntmps39
      go_wp2_with fail
      go_quiet (fail)
      go_wp2_with fail
      go_ret
      exact ⟨rfl, by first | exact HFV.out _ | (rw [← hK]; exact HFV.out _)⟩
    · obtain rfl : true = z := by rw [← hz]; simp; omega
      have i1 : ¬ (n1 : Int) < 144 := by omega
      have j1 : decide ((n1 : Int) < 144) = false := by simp only [decide_eq_false_iff_not]; omega
      have i2 : ¬ (191 : Int) < (n1 : Int) := by omega
      have j2 : decide ((191 : Int) < (n1 : Int)) = false := by simp only [decide_eq_false_iff_not]; omega
      have i3 : ¬ (n2 : Int) < 128 := by omega
      have j3 : decide ((n2 : Int) < 128) = false := by simp only [decide_eq_false_iff_not]; omega
      have i4 : (191 : Int) < (n2 : Int) := by omega
      clear hz q
      go_enter Tryd.func39, Tryd.ntmps39
      go_wp2_with fail
      go_quiet (fail)
      go_wp2_with fail
      go_ret
      exact ⟨rfl, by first | exact HFV.out _ | (rw [← hK]; exact HFV.out _)⟩
    · obtain rfl : false = z := by rw [← hz]; simp; omega
      have i1 : ¬ (n1 : Int) < 144 := by omega
      have j1 : decide ((n1 : Int) < 144) = false := by simp only [decide_eq_false_iff_not]; omega
      have i2 : ¬ (191 : Int) < (n1 : Int) := by omega
      have j2 : decide ((191 : Int) < (n1 : Int)) = false := by simp only [decide_eq_false_iff_not]; omega
      have i3 : ¬ (n2 : Int) < 128 := by omega
      have j3 : decide ((n2 : Int) < 128) = false := by simp only [decide_eq_false_iff_not]; omega
      have i4 : ¬ (191 : Int) < (n2 : Int) := by omega
      have j4 : decide ((191 : Int) < (n2 : Int)) = false := by simp only [decide_eq_false_iff_not]; omega
      clear hz q
      go_enter Tryd.func39, Tryd.ntmps39
      go_wp2_with fail
      go_quiet (fail)
      go_wp2_with fail
      go_ret
      exact ⟨rfl, by first | exact HFV.out _ | (rw [← hK]; exact HFV.out _)⟩
  · have a1 : w.cell? ⟨4, 0, none⟩ = some (.int .u8 128) := (HA.out 0 (by decide)).1
    have a2 : w.cell? ⟨4, 1, none⟩ = some (.int .u8 191) := (HA.out 0 (by decide)).2
    obtain ⟨V, hV⟩ : ∃ V, w.alloc (.cells #[.int .u8 128, .int .u8 191] 84) = V := ⟨_, rfl⟩
    obtain ⟨K, hK⟩ : ∃ K, w.heap.size = K := ⟨_, rfl⟩
    have hbV : Below w.heap.size w V := by rw [← hV]; exact (Below.refl _ _).alloc (Nat.le_refl _) _
    have hvb : V.heap[K]? = some (.cells #[.int .u8 128, .int .u8 191] 84 (0, 0)) := by rw [← hV, ← hK]; exact heap_alloc_new w _
    have v0 : V.cell? ⟨K, 0, none⟩ = some (.int .u8 128) := cell_at hvb 0
    have v1 : V.cell? ⟨K, 1, none⟩ = some (.int .u8 191) := cell_at hvb 1
    have e1 : V.cell? ⟨g, o + 1, none⟩ = some (.int .u8 n1) := (hbV.cell (World.block_lt_of_cell? w _ c1)).trans c1
    have e2 : V.cell? ⟨g, o + 2, none⟩ = some (.int .u8 n2) := (hbV.cell (World.block_lt_of_cell? w _ c2)).trans c2
    have HFV : Hid (∀ k, Below w.heap.size w (V.drewN k)) := fun k => hbV.trans ((below_drewN _ _).mono hbV.size)
    clear hbV hvb
    simp only [Nat.reduceMod, Nat.reduceLeDiff, decide_false, Bool.false_or, Nat.reduceDiv, show Lib.accLo 0 = 128 from rfl, show Lib.accHi 0 = 191 from rfl] at hz
    rcases (by omega : n1 < 128 ∨ 191 < n1 ∨ (128 ≤ n1 ∧ n1 ≤ 191 ∧ n2 < 128) ∨ (128 ≤ n1 ∧ n1 ≤ 191 ∧ 191 < n2) ∨ (128 ≤ n1 ∧ n1 ≤ 191 ∧ 128 ≤ n2 ∧ n2 ≤ 191)) with q | q | q | q | q
    · obtain rfl : true = z := by rw [← hz]; simp; omega
      have i1 : (n1 : Int) < 128 := by omega
      clear hz q
      go_enter Tryd.func39, Tryd.ntmps39
      go_wp2_with fail
      go_quiet (fail)
      go_wp2_with fail
      go_ret
      exact ⟨rfl, by first | exact HFV.out _ | (rw [← hK]; exact HFV.out _)⟩
    · obtain rfl : true = z := by rw [← hz]; simp; omega
      have i1 : ¬ (n1 : Int) < 128 := by omega
      have j1 : decide ((n1 : Int) < 128) = false := by simp only [decide_eq_false_iff_not]; omega
      have i2 : (191 : Int) < (n1 : Int) := by omega
      clear hz q
      go_enter Tryd.func39, Tryd.ntmps39
      go_wp2_with fail
      go_quiet (fail)
      go_wp2_with fail
      go_ret
      exact ⟨rfl, by first | exact HFV.out _ | (rw [← hK]; exact HFV.out _)⟩
    · obtain rfl : true = z := by rw [← hz]; simp; omega
      have i1 : ¬ (n1 : Int) < 128 := by omega
      have j1 : decide ((n1 : Int) < 128) = false := by simp only [decide_eq_false_iff_not]; omega
      have i2 : ¬ (191 : Int) < (n1 : Int) := by omega
      have j2 : decide ((191 : Int) < (n1 : Int)) = false := by simp only [decide_eq_false_iff_not]; omega
      have i3 : (n2 : Int) < 128 := by omega
      clear hz q
      go_enter Tryd.func39, Tryd.ntmps39
      go_wp2_with fail
      go_quiet (fail)
      go_wp2_with fail
      go_ret
      exact ⟨rfl, by first | exact HFV.out _ | (rw [← hK]; exact HFV.out _)⟩
    · obtain rfl : true = z := by rw [← hz]; simp; omega
      have i1 : ¬ (n1 : Int) < 128 := by omega
      have j1 : decide ((n1 : Int) < 128) = false := by simp only [decide_eq_false_iff_not]; omega
      have i2 : ¬ (191 : Int) < (n1 : Int) := by omega
      have j2 : decide ((191 : Int) < (n1 : Int)) = false := by simp only [decide_eq_false_iff_not]; omega
      have i3 : ¬ (n2 : Int) < 128 := by omega
      have j3 : decide ((n2 : Int) < 128) = false := by simp only [decide_eq_false_iff_not]; omega
      have i4 : (191 : Int) < (n2 : Int) := by omega
      clear hz q
      go_enter Tryd.func39, Tryd.ntmps39
      go_wp2_with fail
      go_quiet (fail)
      go_wp2_with fail
      go_ret
      exact ⟨rfl, by first | exact HFV.out _ | (rw [← hK]; exact HFV.out _)⟩
    · obtain rfl : false = z := by rw [← hz]; simp; omega
      have i1 : ¬ (n1 : Int) < 128 := by omega
      have j1 : decide ((n1 : Int) < 128) = false := by simp only [decide_eq_false_iff_not]; omega
      have i2 : ¬ (191 : Int) < (n1 : Int) := by omega
      have j2 : decide ((191 : Int) < (n1 : Int)) = false := by simp only [decide_eq_false_iff_not]; omega
      have i3 : ¬ (n2 : Int) < 128 := by omega
      have j3 : decide ((n2 : Int) < 128) = false := by simp only [decide_eq_false_iff_not]; omega
      have i4 : ¬ (191 : Int) < (n2 : Int) := by omega
      have j4 : decide ((191 : Int) < (n2 : Int)) = false := by simp only [decide_eq_false_iff_not]; omega
      clear hz q
      go_enter Tryd.func39, Tryd.ntmps39
      go_wp2_with fail
      go_quiet (fail)
      go_wp2_with fail
      go_ret
      exact ⟨rfl, by first | exact HFV.out _ | (rw [← hK]; exact HFV.out _)⟩
  · have a1 : w.cell? ⟨4, 8, none⟩ = some (.int .u8 128) := (HA.out 4 (by decide)).1
    have a2 : w.cell? ⟨4, 9, none⟩ = some (.int .u8 143) := (HA.out 4 (by decide)).2
    obtain ⟨V, hV⟩ : ∃ V, w.alloc (.cells #[.int .u8 128, .int .u8 143] 84) = V := ⟨_, rfl⟩
    obtain ⟨K, hK⟩ : ∃ K, w.heap.size = K := ⟨_, rfl⟩
    have hbV : Below w.heap.size w V := by rw [← hV]; exact (Below.refl _ _).alloc (Nat.le_refl _) _
    have hvb : V.heap[K]? = some (.cells #[.int .u8 128, .int .u8 143] 84 (0, 0)) := by rw [← hV, ← hK]; exact heap_alloc_new w _
    have v0 : V.cell? ⟨K, 0, none⟩ = some (.int .u8 128) := cell_at hvb 0
    have v1 : V.cell? ⟨K, 1, none⟩ = some (.int .u8 143) := cell_at hvb 1
    have e1 : V.cell? ⟨g, o + 1, none⟩ = some (.int .u8 n1) := (hbV.cell (World.block_lt_of_cell? w _ c1)).trans c1
    have e2 : V.cell? ⟨g, o + 2, none⟩ = some (.int .u8 n2) := (hbV.cell (World.block_lt_of_cell? w _ c2)).trans c2
    have HFV : Hid (∀ k, Below w.heap.size w (V.drewN k)) := fun k => hbV.trans ((below_drewN _ _).mono hbV.size)
    clear hbV hvb
    simp only [Nat.reduceMod, Nat.reduceLeDiff, decide_false, Bool.false_or, Nat.reduceDiv, show Lib.accLo 4 = 128 from rfl, show Lib.accHi 4 = 143 from rfl] at hz
    rcases (by omega : n1 < 128 ∨ 143 < n1 ∨ (128 ≤ n1 ∧ n1 ≤ 143 ∧ n2 < 128) ∨ (128 ≤ n1 ∧ n1 ≤ 143 ∧ 191 < n2) ∨ (128 ≤ n1 ∧ n1 ≤ 143 ∧ 128 ≤ n2 ∧ n2 ≤ 191)) with q | q | q | q | q
    · obtain rfl : true = z := by rw [← hz]; simp; omega
      have i1 : (n1 : Int) < 128 := by omega
      clear hz q
      go_enter Tryd.func39, Tryd.ntmps39
      go_wp2_with fail
      go_quiet (fail)
      go_wp2_with fail
      go_ret
      exact ⟨rfl, by first | exact HFV.out _ | (rw [← hK]; exact HFV.out _)⟩
    · obtain rfl : true = z := by rw [← hz]; simp; omega
      have i1 : ¬ (n1 : Int) < 128 := by omega
      have j1 : decide ((n1 : Int) < 128) = false := by simp only [decide_eq_false_iff_not]; omega
      have i2 : (143 : Int) < (n1 : Int) := by omega
      clear hz q
      go_enter Tryd.func39, Tryd.ntmps39
      go_wp2_with fail
      go_quiet (fail)
      go_wp2_with fail
      go_ret
      exact ⟨rfl, by first | exact HFV.out _ | (rw [← hK]; exact HFV.out _)⟩
    · obtain rfl : true = z := by rw [← hz]; simp; omega
      have i1 : ¬ (n1 : Int) < 128 := by omega
      have j1 : decide ((n1 : Int) < 128) = false := by simp only [decide_eq_false_iff_not]; omega
      have i2 : ¬ (143 : Int) < (n1 : Int) := by omega
      have j2 : decide ((143 : Int) < (n1 : Int)) = false := by simp only [decide_eq_false_iff_not]; omega
      have i3 : (n2 : Int) < 128 := by omega
      clear hz q
      go_enter Tryd.func39, Tryd.ntmps39
      go_wp2_with fail
      go_quiet (fail)
      go_wp2_with fail
      go_ret
      exact ⟨rfl, by first | exact HFV.out _ | (rw [← hK]; exact HFV.out _)⟩
    · obtain rfl : true = z := by rw [← hz]; simp; omega
      have i1 : ¬ (n1 : Int) < 128 := by omega
      have j1 : decide ((n1 : Int) < 128) = false := by simp only [decide_eq_false_iff_not]; omega
      have i2 : ¬ (143 : Int) < (n1 : Int) := by omega
      have j2 : decide ((143 : Int) < (n1 : Int)) = false := by simp only [decide_eq_false_iff_not]; omega
      have i3 : ¬ (n2 : Int) < 128 := by omega
      have j3 : decide ((n2 : Int) < 128) = false := by simp only [decide_eq_false_iff_not]; omega
      have i4 : (191 : Int) < (n2 : Int) := by omega
      clear hz q
      go_enter Tryd.func39, Tryd.ntmps39
      go_wp2_with fail
      go_quiet (fail)
      go_wp2_with fail
      go_ret
      exact ⟨rfl, by first | exact HFV.out _ | (rw [← hK]; exact HFV.out _)⟩
    · obtain rfl : false = z := by rw [← hz]; simp; omega
      have i1 : ¬ (n1 : Int) < 128 := by omega
      have j1 : decide ((n1 : Int) < 128) = false := by simp only [decide_eq_false_iff_not]; omega
      have i2 : ¬ (143 : Int) < (n1 : Int) := by omega
      have j2 : decide ((143 : Int) < (n1 : Int)) = false := by simp only [decide_eq_false_iff_not]; omega
      have i3 : ¬ (n2 : Int) < 128 := by omega
      have j3 : decide ((n2 : Int) < 128) = false := by simp only [decide_eq_false_iff_not]; omega
      have i4 : ¬ (191 : Int) < (n2 : Int) := by omega
      have j4 : decide ((191 : Int) < (n2 : Int)) = false := by simp only [decide_eq_false_iff_not]; omega
      clear hz q
      go_enter Tryd.func39, Tryd.ntmps39
      go_wp2_with fail
      go_quiet (fail)
      go_wp2_with fail
      go_ret
      exact ⟨rfl, by first | exact HFV.out _ | (rw [← hK]; exact HFV.out _)⟩
end Go.Proofs.YtnehkokppobncaaDoor

namespace Go.Proofs.YtnehkokppobncaaDoor
open Go.RowKit
set_option linter.unusedVariables false
set_option maxRecDepth 100000

set_option maxHeartbeats 4000000 in
theorem full_4 (b0 : UInt8) (g o n cap : Nat) (hn4 : 4 ≤ n) {w : World} (hT : Tabs w) (c0 : w.cell? ⟨g, o, none⟩ = some (.int .u8 b0.toNat)) :
    Calls Tryd.prog 39 #[.slice (some ⟨g, o, none⟩) n cap] w fun e w' => e = .returned (.bool true) ∧ Below w.heap.size w w' := by
  have hb := b0.toNat_lt
  have t0 := hT.u8.1 b0.toNat hb
  have hb2 : (b0.toNat : Int) < 256 := by omega
  have i1 : ¬ ((n : Int) == 0) = true := by simp; omega
  have i2 : (0 : Int) < (n : Int) := by omega
  have i3 : (4 : Int) ≤ (n : Int) := by omega
  have i4 : (3 : Int) ≤ (n : Int) := by omega
  have i5 : (2 : Int) ≤ (n : Int) := by omega
  have i6 : (1 : Int) ≤ (n : Int) := by omega
  have i7 : (0 : Int) ≤ (n : Int) := by omega
  obtain ⟨m, hm⟩ : ∃ m, b0.toNat = m := ⟨_, rfl⟩
  rw [hm] at t0 c0 hb2
  have hx := Lib.firstT_cases m
  clear hT hm hb hn4
  rcases hx with h | h | h | h | h | h | h | h | h <;> rw [h] at t0 <;> clear h <;>
  · go_enter Tryd.func39, Tryd.ntmps39
    go_wp2_with fail
    go_ret
    exact ⟨rfl, Below.refl _ _⟩
theorem full_long {b0 b1 b2 b3 : UInt8} {r : List UInt8} : fullB (b0 :: b1 :: b2 :: b3 :: r) = true := by
  unfold fullB
  have hx := Lib.firstT_cases b0.toNat
  have h : Lib.firstT b0.toNat % 8 ≤ (b1 :: b2 :: b3 :: r).length + 1 := by
    simp only [List.length_cons]
    rcases hx with h | h | h | h | h | h | h | h | h <;> omega
  simp only [decide_eq_true h, Bool.true_or]
theorem full_any (l : List UInt8) (hl : l ≠ []) (g o cap : Nat) (hcap : l.length ≤ cap) {w : World} (hT : Tabs w) (hc : ∀ j (hj : j < l.length), w.cell? ⟨g, o + j, none⟩ = some (bv l[j])) :
    Calls Tryd.prog 39 #[.slice (some ⟨g, o, none⟩) l.length cap] w fun e w' => e = .returned (.bool (fullB l)) ∧ Below w.heap.size w w' := by
  match l, hl with
  | [b0], _ => exact full_1 b0 g o cap hcap hT (hc 0 (by simp)) _ rfl
  | [b0, b1], _ => exact full_2 b0 b1 g o cap hcap hT (hc 0 (by simp)) (hc 1 (by simp)) _ rfl
  | [b0, b1, b2], _ => exact full_3 b0 b1 b2 g o cap hcap hT (hc 0 (by simp)) (hc 1 (by simp)) (hc 2 (by simp)) _ rfl
  | b0 :: b1 :: b2 :: b3 :: r, _ =>
    rw [full_long]
    exact full_4 b0 g o _ cap (by simp) hT (hc 0 (by simp))
end Go.Proofs.YtnehkokppobncaaDoor
