/-
  The walk of OctalEscapes.
-/
import Derived.Test.YtkdfpoficieknaaDoorRefE
import Derived.WalkKit
namespace Go.Proofs.YtkdfpoficieknaaDoor
open Go.RowKit
set_option linter.unusedVariables false

set_option maxHeartbeats 2000000 in
theorem octalEscapes_walk (a0 : ByteArray) (w0 : a0.size ≤ maxLen) (w : World) (hD : Digs w) (hsh : a0.size ≤ 1048576) :
    Calls Tryd.prog 6 #[.string a0] w fun e w' => e = .returned (.bool true) ∧ Below w.heap.size w w' := by
  obtain ⟨c1, c2, c3⟩ := bd a0 (by omega)
  obtain ⟨g1, g2, g3⟩ := bd ⟨#[10]⟩ (by decide)
  clear w0
  have hb0 := Below.refl w.heap.size w
  go_enter Tryd.func6, Tryd.ntmps6
  go_wp2_with (first | (go_at_call 8; refine (escape_in hD (by assumption) _ (by assumption) (by assumption)).mono ?_; rintro e w' ⟨rfl, hb⟩) | (go_at_call 9; refine (escapeBody_in hD (by assumption) _ (by assumption) (by assumption)).mono ?_; rintro e w' ⟨rfl, hb⟩) | (go_at_call 10; refine (refEscape_in (w := w) (by assumption) _ (by assumption) (by assumption)).mono ?_; rintro e w' ⟨rfl, hb⟩) | (go_at_call 11; refine (refEscapeBody_in (w := w) (by assumption) _ (by assumption) (by assumption)).mono ?_; rintro e w' ⟨rfl, hb⟩))
  all_goals go_ret
  all_goals exact ⟨ret_bool (by decide +kernel), by assumption⟩
end Go.Proofs.YtkdfpoficieknaaDoor
