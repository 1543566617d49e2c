/-
  Options: an option of a slot, if it can be set there; a text copied.
-/
import Derived.Test.YtgdkpmfdpfjdjaaGreatDoorOLk

import Derived.Test.YtgdkpmfdpfjdjaaGreatDoorShelf
import Derived.Deep.RegionHeld3
namespace Go.Proofs.YtgdkpmfdpfjdjaaGreatDoor
open Go.RowKit Go.Maps
set_option linter.unusedVariables false
set_option maxRecDepth 100000


theorem clone_any (s : ByteArray) (w : World) (hl : s.size ≤ 140737488355328) : Calls Tryz.prog 23 #[.string s] w fun r w' => r = .returned (.string s) ∧ Below w.heap.size w w' := by
  have HC := hidK (Tryz.stringslite_Clone s w (by omega))
  clear hl
  go_enter Tryz.func23, Tryz.ntmps23
  go_wp2_with fail
  refine HC.out.mono ?_
  rintro e w1 ⟨rfl, hb⟩
  have HB := hidK hb
  clear hb
  go_wp2_with fail
  go_ret
  exact ⟨rfl, HB.out⟩
set_option maxHeartbeats 4000000 in
theorem isOf_any (rs sc : Int) (f : Value) (x y : Bool) (fs : ByteArray) (w : World) : Calls Tryz.prog 69 #[.agg #[.int .i64 rs, f, .bool x, .bool y, .string fs], .int .i64 sc] w fun r w' => r = .returned (.bool (isOfB rs sc)) ∧ Below w.heap.size w w' := by
  obtain ⟨W, hW, h1, h2, h3⟩ := two_blk (w := w) #[.int .i64 rs, f, .bool x, .bool y, .string fs] 51
  obtain ⟨q, hq⟩ : ∃ q, w.heap.size = q := ⟨_, rfl⟩
  rw [hq] at h1
  have H2 := hidK h2
  have c0 := cell_at h1 0
  clear h1 h2 h3
  by_cases e1 : sc = rs
  · subst e1
    go_enter Tryz.func69, Tryz.ntmps69
    go_wp2_with fail
    go_ret
    exact ⟨by simp [isOfB], H2.out⟩
  · by_cases e2 : rs = 4
    · subst e2
      by_cases e3 : sc = 3
      · subst e3
        go_enter Tryz.func69, Tryz.ntmps69
        go_wp2_with fail
        go_ret
        exact ⟨by simp [isOfB], H2.out⟩
      · go_enter Tryz.func69, Tryz.ntmps69
        go_wp2_with fail
        go_ret
        exact ⟨by simp [isOfB, e1, e3], H2.out⟩
    · go_enter Tryz.func69, Tryz.ntmps69
      go_wp2_with fail
      go_ret
      exact ⟨by simp [isOfB, e1, e2], H2.out⟩
end Go.Proofs.YtgdkpmfdpfjdjaaGreatDoor
