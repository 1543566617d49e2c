/-
  The document's text of a row of blanks.
-/
import Derived.Test.YtklonlgmifgckaaGreatDoorVRefB
import Derived.Test.YtklonlgmifgckaaGreatDoorVSame
namespace Go.Proofs.YtklonlgmifgckaaGreatDoor
open Go.RowKit
set_option linter.unusedVariables false
set_option maxRecDepth 100000

set_option maxHeartbeats 4000000 in
theorem refText_blank {w : World} {v : Value} {n : Nat} (hn : n ≤ 1000) (h : Row w 49 5 v n (tgsV (blks n))) : Calls Tryz.prog 30 #[v] w fun e w' => e = .returned (.string ⟨#[]⟩) ∧ w' = w := by
  have hb : (blks n).length = n := List.length_replicate ..
  obtain ⟨ad, cap, hve, hs⟩ := Row.seen (gs := blks n) (by rw [hb]; exact h)
  rw [hb] at hve
  subst hve
  have HS : Hid (∀ i, i < n → ∃ g o, ad = some ⟨g, o, none⟩ ∧ w.cell? ⟨g, o + i * 5, none⟩ = some (.string ⟨#[32]⟩)) := fun i hi => by
    obtain ⟨g, o, e, h0, _⟩ := hs w (Below.refl _ _) i blk0 (by unfold blks; rw [List.getElem?_replicate, if_pos hi])
    exact ⟨g, o, e, h0⟩
  clear h hb hs
  go_enter Tryz.func30, Tryz.ntmps30
  go_wp2_with fail
  go_loopw [3] (fun i wr => ∃ k : Nat, k ≤ n ∧ i = .int .i64 (k : Int) ∧ w = wr) (fun i _ => (intOf i).toNat)
  case atStart => exact ⟨n, Nat.le_refl _, rfl, rfl⟩
  case round =>
    obtain ⟨k, hk, rfl, rfl⟩ := hrel
    cases k with
    | zero =>
      go_wp2_with fail
      go_loopw [4, 5] (fun t i wr => t = .string ⟨#[]⟩ ∧ i = .int .i64 0 ∧ w = wr) (fun _ _ _ => 0)
      case atStart => exact ⟨rfl, rfl, rfl⟩
      case round =>
        obtain ⟨rfl, rfl, rfl⟩ := hrel
        go_wp2_with fail
        go_ret
        exact ⟨rfl, rfl⟩
    | succ j =>
      obtain ⟨g, o, e, c⟩ := HS.out j (by omega)
      subst e
      have hj : (j : Int) < (n : Int) := by omega
      go_wp2_with fail
      go_roundw
      case rel => exact ⟨j, by omega, by go_num, trivial⟩
      case measure => simp [intOf]
end Go.Proofs.YtklonlgmifgckaaGreatDoor
