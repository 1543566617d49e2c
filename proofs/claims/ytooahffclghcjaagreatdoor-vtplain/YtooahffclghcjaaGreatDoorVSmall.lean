/-
  The screen's small functions.
-/
import Derived.Test.YtooahffclghcjaaGreatDoorVMem
import Derived.WalkKit
import Derived.RegionTactic
import Derived.BigRegion
namespace Go.Proofs.YtooahffclghcjaaGreatDoor
open Go.RowKit
set_option linter.unusedVariables false
set_option maxRecDepth 100000

set_option maxHeartbeats 1000000 in
theorem wholeRegion_any {w : World} {b : Nat} {s : Sc} (h : ScAt w b s) (hh : 1 ≤ s.h) (hh2 : s.h ≤ 1000) : Calls Tryz.prog 26 #[.pointer (some ⟨b, 0, none⟩)] w fun x w' => x = .returned (.tuple #[]) ∧ ScAt w' b { s with top := 0, bot := s.h - 1 } ∧ But [b] w w' := by
  have H := hidK h
  have h1 := h.c1
  have h40 := h.c40
  have h41 := h.c41
  have f40 := h.free 40
  have f41 := h.free 41
  clear h
  go_enter Tryz.func26, Tryz.ntmps26
  go_wp2
  go_end0
  exact ⟨rfl, .fin (put_at (put_at H.out 40 _) 41 _) (by rfl), (But.one _ _).next _ _⟩

def sizB (a b : Int) : Bool := decide (1 ≤ a ∧ a ≤ 1000 ∧ 1 ≤ b ∧ b ≤ 1000)
theorem isz {a b : Bool} (h : a = b) : Ending.returned (.bool a) = .returned (.bool b) := by rw [h]
set_option maxHeartbeats 1000000 in
theorem isSize_any (a b : Int) (w : World) : Calls Tryz.prog 13 #[.int .i64 a, .int .i64 b] w fun x w' => x = .returned (.bool (sizB a b)) ∧ w' = w := by
  go_enter Tryz.func13, Tryz.ntmps13
  go_wp2
  all_goals go_ret
  all_goals refine ⟨isz ?_, rfl⟩
  all_goals unfold sizB
  all_goals first | (rw [decide_eq_decide]; omega) | (symm; rw [decide_eq_false_iff_not]; omega) | (symm; rw [decide_eq_true_iff]; omega)

set_option maxHeartbeats 1000000 in
theorem enter_any {w : World} {b : Nat} {s : Sc} (h : ScAt w b s) (ad : Option Addr) (n cap : Nat) (hs : s.held = .slice ad n cap) (st : Int) : Calls Tryz.prog 20 #[.pointer (some ⟨b, 0, none⟩), .int .i64 st] w fun x w' => x = .returned (.tuple #[]) ∧ ScAt w' b { s with st := st, held := .slice ad 0 cap } ∧ But [b] w w' := by
  have H := hidK h
  have h29 := h.c29
  have h30 := h.c30
  rw [hs] at h30
  have f29 := h.free 29
  have f30 := h.free 30
  clear h hs
  go_enter Tryz.func20, Tryz.ntmps20
  go_wp2
  go_end0
  exact ⟨rfl, .fin (put_at (put_at H.out 29 _) 30 _) (by rfl), (But.one _ _).next _ _⟩

/-- The byte 13. -/
theorem control_cr {w : World} {b : Nat} {s : Sc} (h : ScAt w b s) : Calls Tryz.prog 39 #[.pointer (some ⟨b, 0, none⟩), .int .u8 13] w fun x w' => x = .returned (.tuple #[]) ∧ ScAt w' b { s with cur := { s.cur with x := 0, wt := false } } ∧ But [b] w w' := by
  have H := hidK h
  have h13 := h.c13
  have h22 := h.c22
  have f13 := h.free 13
  have f22 := h.free 22
  clear h
  go_enter Tryz.func39, Tryz.ntmps39
  go_wp2
  go_end0
  exact ⟨rfl, .fin (put_at (put_at H.out 13 _) 22 _) (by rfl), (But.one _ _).next _ _⟩

/-- A line feed above the region's bottom. -/
theorem lineFeed_in {w : World} {b : Nat} {s : Sc} (h : ScAt w b s) (h0 : 0 ≤ s.cur.y) (h1 : s.cur.y + 1 < s.h) (hh : s.h ≤ 1000) (hb : s.cur.y ≠ s.bot) : Calls Tryz.prog 52 #[.pointer (some ⟨b, 0, none⟩)] w fun x w' => x = .returned (.tuple #[]) ∧ ScAt w' b { s with cur := { s.cur with y := s.cur.y + 1, wt := false } } ∧ But [b] w w' := by
  have H := hidK h
  have c1 := h.c1
  have c14 := h.c14
  have c22 := h.c22
  have c41 := h.c41
  have f14 := h.free 14
  have f22 := h.free 22
  clear h
  go_enter Tryz.func52, Tryz.ntmps52
  go_wp2
  go_region
  all_goals go_wp2
  all_goals go_region
  all_goals go_wp2
  all_goals go_end0
  all_goals exact ⟨rfl, .fin (put_at (put_at H.out 14 _) 22 _) (by rfl), ((But.one _ _).next _ _).drew.drew⟩
end Go.Proofs.YtooahffclghcjaaGreatDoor
