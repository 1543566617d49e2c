/-
  The walk of WireBack.
-/
import Derived.Test.YtlgkdnmhoboinaaGreatDoorWTotalW
import Derived.WalkKit
import Derived.RegionTactic
import Derived.Deep.RegionWith
import Derived.Deep.DrawnRows
import Derived.Laws.StructEq
import Derived.Deep.RegionHeld3
namespace Go.Proofs.YtlgkdnmhoboinaaGreatDoor
open Go.RowKit
set_option linter.unusedVariables false

theorem enc_len {e : Ev} {l : List UInt8} (hf : e.Fits) (h : encS e = some l) : l.length ≤ lim := by
  rcases encS_cases e with h0 | ⟨k, h1, h2, _, _, h4⟩
  · rw [h0] at h; cases h
  · rw [h4] at h
    cases h
    exact write_length k h1 h2 e hf

end Go.Proofs.YtlgkdnmhoboinaaGreatDoor
