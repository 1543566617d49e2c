/-
  FormatSums: the walk, whole.
-/
import Derived.Test.YtpfhhpmoagmhhaaGreatDoorHD
import Derived.Test.YtpfhhpmoagmhhaaGreatDoorHE
import Derived.Test.YtpfhhpmoagmhhaaGreatDoorHF
namespace Go.Proofs.YtpfhhpmoagmhhaaGreatDoor
open Go.RowKit
set_option linter.unusedVariables false

theorem formatSums_walk (x y : Int) (x1 : -9223372036854775808 ≤ x) (x2 : x ≤ 9223372036854775807) (y1 : -9223372036854775808 ≤ y) (y2 : y ≤ 9223372036854775807) (w : World) (hE : FEnv w) :
    Calls Tryz.prog 3 #[.int .i64 x, .int .i64 y] w fun e w' => e = .returned (.bool true) ∧ Below w.heap.size w w' := by
  by_cases hx : NumIn x
  · by_cases hy : NumIn y
    · rcases Int.lt_trichotomy x y with h | h | h
      · exact formatSums_lt x y h hx hy w hE
      · exact formatSums_eq x y h hx hy w hE
      · exact formatSums_gt x y h hx hy w hE
    · exact formatSums_far x y (.inr hy) x1 x2 y1 y2 w hE
  · exact formatSums_far x y (.inl hx) x1 x2 y1 y2 w hE
theorem int_wfF {n : Int} (h : (Lit.int .i64 n).wf = true) : -9223372036854775808 ≤ n ∧ n ≤ 9223372036854775807 := by
  simpa [Lit.wf, IntKind.min, IntKind.max, IntKind.signed, IntKind.bits] using h

end Go.Proofs.YtpfhhpmoagmhhaaGreatDoor
