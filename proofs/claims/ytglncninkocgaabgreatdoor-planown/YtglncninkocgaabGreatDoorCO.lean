/-
  Layouts: works, the head of the statements.
  Layouts: the document's layout of one pane; the statement on New, walked.
-/
import Derived.Test.YtglncninkocgaabGreatDoorCK
namespace Go.Proofs.YtglncninkocgaabGreatDoor
open Go.RowKit
set_option linter.unusedVariables false
set_option maxRecDepth 100000

theorem eqCe_same (c : CellV) (W : World) : (Op.equalIn 10000 36 (.agg c.vals) (.agg c.vals)).run Tryz.prog W = .ok true W := by
  have := eqCe c c W
  rw [(ceEq_iff c c).2 rfl] at this
  exact this
theorem SeenIn.at0 {w : World} {b off : Nat} {c : CellV} {l : List CellV} (h : SeenIn w b off (c :: l)) : HeadIn w b off c := by
  have := h 0 c rfl
  simpa using this

end Go.Proofs.YtglncninkocgaabGreatDoor

namespace Go.Proofs.YtglncninkocgaabGreatDoor
open Go.RowKit
set_option linter.unusedVariables false
set_option maxRecDepth 100000

theorem owns_made (X : World) (g B : Nat) (hg : X.heap.size = g) (c : CellV) (hB : B ≤ g) : CeOwns (X.alloc (.cells c.vals 36)) B (.slice (some ⟨g, 0, none⟩) 1 1) [c] := by
  subst hg
  exact ⟨rfl, .inr ⟨X.heap.size, 1, c.vals, rfl, hB, heap_alloc_new _ _, Nat.le_refl _, by decide, rfl, rfl⟩⟩

theorem ref_lay_leaf (k a b i d x y : Int) (w : World) :
    Calls Tryz.prog 58 #[.agg #[.int .i64 k, .int .i64 a, .int .i64 b, .int .i64 i, .slice none 0 0], .int .i64 d, .int .i64 x, .int .i64 y] w fun e w' => ∃ u, e = .returned u ∧ CeOwns w' w.heap.size u [⟨d, k, x, y, a, b, i⟩] ∧ Below w.heap.size w w' := by
  have HO : Hid (∀ o, CeOwns ((w.alloc o).alloc (.cells (CellV.vals ⟨d, k, x, y, a, b, i⟩) 36)) w.heap.size (.slice (some ⟨w.heap.size + 1, 0, none⟩) 1 1) [⟨d, k, x, y, a, b, i⟩]) := fun o => owns_made (w.alloc o) (w.heap.size + 1) w.heap.size (by simp) _ (by omega)
  have HB : Hid (∀ o o', Below w.heap.size w ((w.alloc o).alloc o')) := fun o o' => ((Below.refl _ _).alloc (Nat.le_refl _) _).alloc (by simp) _
  go_enter Tryz.func58, Tryz.ntmps58
  go_wp2
  go_loopw [9, 10] (fun u v wr => u = .slice (some ⟨w.heap.size + 1, 0, none⟩) 1 1 ∧ v = .int .i64 0 ∧ wr = ((w.alloc (.cells #[.int .i64 k, .int .i64 a, .int .i64 b, .int .i64 i, .slice none 0 0] 56)).alloc (.cells #[.int .i64 d, .int .i64 k, .int .i64 x, .int .i64 y, .int .i64 a, .int .i64 b, .int .i64 i] 36))) (fun _ _ _ => 0)
  case atStart => exact ⟨rfl, rfl, rfl⟩
  case round =>
    obtain ⟨rfl, rfl, rfl⟩ := hrel
    go_wp2
    go_ret
    exact ⟨_, rfl, HO.out _, HB.out _ _⟩
theorem ref_list_leaf (k a b i : Int) (w : World) :
    Calls Tryz.prog 43 #[.agg #[.int .i64 k, .int .i64 a, .int .i64 b, .int .i64 i, .slice none 0 0]] w fun e w' => ∃ u, e = .returned u ∧ CeOwns w' w.heap.size u [⟨0, k, 0, 0, a, b, i⟩] ∧ Below w.heap.size w w' := by
  have HL : Hid (∀ o, Calls Tryz.prog 58 #[.agg #[.int .i64 k, .int .i64 a, .int .i64 b, .int .i64 i, .slice none 0 0], .int .i64 0, .int .i64 0, .int .i64 0] (w.alloc o) fun e w' => ∃ u, e = .returned u ∧ CeOwns w' w.heap.size u [⟨0, k, 0, 0, a, b, i⟩] ∧ Below w.heap.size w w') := fun o => (ref_lay_leaf k a b i 0 0 0 (w.alloc o)).mono fun e w' ⟨u, h1, h2, h3⟩ => ⟨u, h1, h2.lower (by simp), below_step ((Below.refl _ _).alloc (Nat.le_refl _) _) h3⟩
  go_enter Tryz.func43, Tryz.ntmps43
  go_wp2_with fail
  refine (HL.out _).mono ?_
  rintro e w1 ⟨u, rfl, hu, hb⟩
  have HU : Hid (CeOwns w1 w.heap.size u [⟨0, k, 0, 0, a, b, i⟩]) := hu
  clear hu
  go_wp2
  go_ret
  exact ⟨u, rfl, HU.out, hb⟩

def newL (x y p : Int) : List CellV := if newErr x y p = 0 then [oneCell x y p] else []
theorem newL_length (x y p : Int) : (newL x y p).length ≤ 1 := by
  unfold newL
  split <;> simp

end Go.Proofs.YtglncninkocgaabGreatDoor
