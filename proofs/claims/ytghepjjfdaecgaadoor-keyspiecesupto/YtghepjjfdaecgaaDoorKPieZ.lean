/-
  Keys: the law of pieces, wherever it is cut.
-/
import Derived.Test.YtghepjjfdaecgaaDoorKPieX
import Derived.Test.YtghepjjfdaecgaaDoorKPieY
namespace Go.Proofs.YtghepjjfdaecgaaDoor
open Go.RowKit
set_option linter.unusedVariables false
set_option maxRecDepth 100000

theorem keysPieces_walk (t : List UInt8) (x : Int) (ht : t.length ≤ 1048576) (w : World) (hT : Tabs w) : Calls Tryd.prog 3 #[.string (str t), .int .i64 x] w fun r w' => r = .returned (.bool true) ∧ Below w.heap.size w w' := by
  by_cases h1 : x < 0
  · exact pieces_neg t (t.length / 2) (by omega) x h1 rfl ht w hT
  · by_cases h2 : (t.length : Int) < x
    · exact pieces_far t (t.length / 2) (by omega) x h2 rfl ht w hT
    · obtain ⟨p, rfl⟩ : ∃ p : Nat, x = (p : Int) := ⟨x.toNat, by omega⟩
      exact pieces_try t p (by omega) ht w hT
end Go.Proofs.YtghepjjfdaecgaaDoor
