/-
  The document's Rows and Encode.
-/
import Derived.Test.YtlgkdnmhoboinaaGreatDoorREnc
import Derived.Test.YtlgkdnmhoboinaaGreatDoorRDec
import Derived.LoopTactic
namespace Go.Proofs.YtlgkdnmhoboinaaGreatDoor
open Go.RowKit
set_option linter.unusedVariables false
set_option maxRecDepth 20000

/-- The table lies in a block. -/
def TabAt (w : World) (b : Nat) : Prop := ∀ i, i < 23 → w.cell? ⟨b, i * 3, none⟩ = some (.int .i64 (kAt i : Nat)) ∧ w.cell? ⟨b, i * 3 + 1, none⟩ = some (.string (str (wordOf (kAt i)))) ∧ w.cell? ⟨b, i * 3 + 2, none⟩ = some (.string (partsOf (chs (kAt i))))
theorem TabAt.below {w w' : World} {b B : Nat} (h : TabAt w b) (hb : Below B w w') (hB : b < B) : TabAt w' b := fun i hi => by
  obtain ⟨h1, h2, h3⟩ := h i hi
  exact ⟨(hb.cell (p := ⟨b, i * 3, none⟩) hB).trans h1, (hb.cell (p := ⟨b, i * 3 + 1, none⟩) hB).trans h2, (hb.cell (p := ⟨b, i * 3 + 2, none⟩) hB).trans h3⟩
theorem cell_new (w : World) (cs : Array Value) (t : TypeId) (o : Nat) : (w.alloc (.cells cs t)).cell? ⟨w.heap.size, o, none⟩ = cs[o]? := by
  have hn := heap_alloc_new w (.cells cs t)
  unfold World.cell?
  rw [hn]
  rfl

set_option maxHeartbeats 8000000 in
theorem rows_any (w : World) : Calls Tryz.prog 30 #[] w fun e w' => e = .returned (.slice (some ⟨w.heap.size, 0, none⟩) 23 23) ∧ TabAt w' w.heap.size ∧ w.heap.size < w'.heap.size ∧ Below w.heap.size w w' := by
  go_enter Tryz.func30, Tryz.ntmps30
  go_wp2
  go_ret
  refine ⟨rfl, fun i hi => ?_, by simp, (Below.refl _ _).alloc (Nat.le_refl _) _⟩
  rw [cell_new, cell_new, cell_new]
  rcases (show i = 0 ∨ i = 1 ∨ i = 2 ∨ i = 3 ∨ i = 4 ∨ i = 5 ∨ i = 6 ∨ i = 7 ∨ i = 8 ∨ i = 9 ∨ i = 10 ∨ i = 11 ∨ i = 12 ∨ i = 13 ∨ i = 14 ∨ i = 15 ∨ i = 16 ∨ i = 17 ∨ i = 18 ∨ i = 19 ∨ i = 20 ∨ i = 21 ∨ i = 22 by omega) with rfl | rfl | rfl | rfl | rfl | rfl | rfl | rfl | rfl | rfl | rfl | rfl | rfl | rfl | rfl | rfl | rfl | rfl | rfl | rfl | rfl | rfl | rfl
  all_goals exact ⟨rfl, rfl, rfl⟩

theorem kinds_all (k : Int) (h : ∀ j, j < 23 → (kAt j : Int) ≠ k) (h4 : k ≠ 4) : ¬ (0 < k ∧ k < 25) := by
  rintro ⟨h0, h1⟩
  obtain ⟨i, hi, hk⟩ := kAt_of k.toNat (by omega) (by omega) (by omega)
  exact h i hi (by rw [hk]; omega)

end Go.Proofs.YtlgkdnmhoboinaaGreatDoor
