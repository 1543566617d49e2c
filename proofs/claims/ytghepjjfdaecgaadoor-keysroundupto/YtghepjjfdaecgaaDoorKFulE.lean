/-
  Keys: whether bytes are a whole character: every text.
-/
import Derived.Test.YtghepjjfdaecgaaDoorKFulB
import Derived.Test.YtghepjjfdaecgaaDoorKFulC
import Derived.Test.YtghepjjfdaecgaaDoorKFulD
namespace Go.Proofs.YtghepjjfdaecgaaDoor
open Go.RowKit
set_option linter.unusedVariables false
set_option maxRecDepth 100000

set_option maxHeartbeats 4000000 in
theorem full_4 (b0 : UInt8) (g o n cap : Nat) (hn4 : 4 ≤ n) {w : World} (hT : Tabs w) (c0 : w.cell? ⟨g, o, none⟩ = some (.int .u8 b0.toNat)) :
    Calls Tryd.prog 68 #[.slice (some ⟨g, o, none⟩) n cap] w fun e w' => e = .returned (.bool true) ∧ Below w.heap.size w w' := by
  have hb := b0.toNat_lt
  have t0 := hT.u8.1 b0.toNat hb
  have hb2 : (b0.toNat : Int) < 256 := by omega
  have i1 : ¬ ((n : Int) == 0) = true := by simp; omega
  have i2 : (0 : Int) < (n : Int) := by omega
  have i3 : (4 : Int) ≤ (n : Int) := by omega
  have i4 : (3 : Int) ≤ (n : Int) := by omega
  have i5 : (2 : Int) ≤ (n : Int) := by omega
  have i6 : (1 : Int) ≤ (n : Int) := by omega
  have i7 : (0 : Int) ≤ (n : Int) := by omega
  obtain ⟨m, hm⟩ : ∃ m, b0.toNat = m := ⟨_, rfl⟩
  rw [hm] at t0 c0 hb2
  have hx := Lib.firstT_cases m
  clear hT hm hb hn4
  rcases hx with h | h | h | h | h | h | h | h | h <;> rw [h] at t0 <;> clear h <;>
  · go_enter Tryd.func68, Tryd.ntmps68
    go_wp2_with fail
    go_ret
    exact ⟨rfl, Below.refl _ _⟩
theorem full_long {b0 b1 b2 b3 : UInt8} {r : List UInt8} : fullB (b0 :: b1 :: b2 :: b3 :: r) = true := by
  unfold fullB
  have hx := Lib.firstT_cases b0.toNat
  have h : Lib.firstT b0.toNat % 8 ≤ (b1 :: b2 :: b3 :: r).length + 1 := by
    simp only [List.length_cons]
    rcases hx with h | h | h | h | h | h | h | h | h <;> omega
  simp only [decide_eq_true h, Bool.true_or]
theorem full_any (l : List UInt8) (hl : l ≠ []) (g o cap : Nat) (hcap : l.length ≤ cap) {w : World} (hT : Tabs w) (hc : ∀ j (hj : j < l.length), w.cell? ⟨g, o + j, none⟩ = some (bv l[j])) :
    Calls Tryd.prog 68 #[.slice (some ⟨g, o, none⟩) l.length cap] w fun e w' => e = .returned (.bool (fullB l)) ∧ Below w.heap.size w w' := by
  match l, hl with
  | [b0], _ => exact full_1 b0 g o cap hcap hT (hc 0 (by simp)) _ rfl
  | [b0, b1], _ => exact full_2 b0 b1 g o cap hcap hT (hc 0 (by simp)) (hc 1 (by simp)) _ rfl
  | [b0, b1, b2], _ => exact full_3 b0 b1 b2 g o cap hcap hT (hc 0 (by simp)) (hc 1 (by simp)) (hc 2 (by simp)) _ rfl
  | b0 :: b1 :: b2 :: b3 :: r, _ =>
    rw [full_long]
    exact full_4 b0 g o _ cap (by simp) hT (hc 0 (by simp))
end Go.Proofs.YtghepjjfdaecgaaDoor
