/-
  Layouts: boxes and leaves, what their methods answer; which function an interface's call means.
-/
import Derived.Test.YtcjcekaahooamaaLMem
import Derived.WalkKit
import Derived.Deep.RegionHeld3
namespace Go.Proofs.Ytcjcekaahooamaa
open Go.RowKit
set_option linter.unusedVariables false
set_option maxRecDepth 20000

theorem ret_boolL {a b : Bool} (h : a = b) : Ending.returned (.bool a) = .returned (.bool b) := by rw [h]
theorem isSide_any (n : Int) (w : World) : Calls Try.prog 26 #[.int .i64 n] w fun e w' => e = .returned (.bool (sideB n)) ∧ w = w' := by
  go_enter Try.func26, Try.ntmps26
  go_wp2
  all_goals go_ret
  all_goals refine ⟨ret_boolL ?_, rfl⟩
  all_goals (unfold sideB; rw [Bool.eq_iff_iff]; simp; omega)
theorem isId_any (n : Int) (w : World) : Calls Try.prog 27 #[.int .i64 n] w fun e w' => e = .returned (.bool (idB n)) ∧ w = w' := by
  go_enter Try.func27, Try.ntmps27
  go_wp2
  all_goals go_ret
  all_goals refine ⟨ret_boolL ?_, rfl⟩
  all_goals (unfold idB; rw [Bool.eq_iff_iff]; simp; omega)
theorem across_any (k : Int) (w : World) : Calls Try.prog 53 #[.int .i64 k] w fun e w' => e = .returned (.int .i64 (acrossK k)) ∧ w = w' := by
  unfold acrossK
  by_cases h : k = 2
  · subst h
    rw [if_pos rfl]
    go_enter Try.func53, Try.ntmps53
    go_wp2
    all_goals go_ret
    all_goals exact ⟨rfl, rfl⟩
  · rw [if_neg h]
    have h2 : (k == 2) = false := by simpa using h
    go_enter Try.func53, Try.ntmps53
    go_wp2
    all_goals go_ret
    all_goals exact ⟨rfl, rfl⟩

theorem box_extent (g : Nat) (b : Box) (k : Int) (w : World) (h : BoxAt w g b) :
    Calls Try.prog 30 #[.pointer (some ⟨g, 0, none⟩), .int .i64 k] w fun e w' => e = .returned (.int .i64 (b.ext k)) ∧ w = w' := by
  obtain ⟨q0, q1, q2, q3, _⟩ := h
  unfold Box.ext
  by_cases hk : k = 2
  · subst hk
    rw [if_pos rfl]
    go_enter Try.func30, Try.ntmps30
    go_wp2
    all_goals go_ret
    all_goals exact ⟨rfl, rfl⟩
  · rw [if_neg hk]
    have h2 : (k == 2) = false := by simpa using hk
    go_enter Try.func30, Try.ntmps30
    go_wp2
    all_goals go_ret
    all_goals exact ⟨rfl, rfl⟩
theorem box_fits (g : Nat) (b : Box) (w : World) (h : BoxAt w g b) :
    Calls Try.prog 90 #[.pointer (some ⟨g, 0, none⟩)] w fun e w' => e = .returned (.bool (sideB b.w && sideB b.h)) ∧ w = w' := by
  obtain ⟨q0, q1, q2, q3, _⟩ := h
  have H1 : Hid (∀ n W, Calls Try.prog 26 #[.int .i64 n] W fun e w' => e = .returned (.bool (sideB n)) ∧ W = w') := isSide_any
  cases h1 : sideB b.w
  all_goals
    go_enter Try.func90, Try.ntmps90
    go_wp2_with (go_at_call 26; refine (H1.out _ _).mono ?_; rintro e w1 ⟨rfl, rfl⟩)
    all_goals go_ret
    all_goals exact ⟨rfl, rfl⟩
theorem leaf_sound (g : Nat) (b : Box) (p : Int) (w : World) (h : LeafAt w g b p) :
    Calls Try.prog 93 #[.pointer (some ⟨g, 0, none⟩)] w fun e w' => e = .returned (.bool (Tree.leaf b p).sound) ∧ w = w' := by
  have q4 : w.cell? ⟨g, 4, none⟩ = some (.int .i64 p) := cell_atL h 4
  have H1 := box_fits g b w h.box
  have H2 : Hid (∀ n W, Calls Try.prog 27 #[.int .i64 n] W fun e w' => e = .returned (.bool (idB n)) ∧ W = w') := isId_any
  show Calls _ _ _ _ fun e w' => e = .returned (.bool ((sideB b.w && sideB b.h) && idB p)) ∧ w = w'
  obtain ⟨c, hc⟩ : ∃ c, (sideB b.w && sideB b.h) = c := ⟨_, rfl⟩
  rw [hc] at H1 ⊢
  have H1' : Hid (Calls Try.prog 90 #[.pointer (some ⟨g, 0, none⟩)] w fun e w' => e = .returned (.bool c) ∧ w = w') := H1
  clear h hc H1
  cases c
  all_goals
    go_enter Try.func93, Try.ntmps93
    go_wp2_with (first | (go_at_call 90; refine H1'.out.mono ?_; rintro e w1 ⟨rfl, rfl⟩) | (go_at_call 27; refine (H2.out _ _).mono ?_; rintro e w2 ⟨rfl, rfl⟩))
    all_goals go_ret
    all_goals exact ⟨rfl, rfl⟩
theorem leaf_as (g : Nat) (k : Int) (w : World) : Calls Try.prog 89 #[.pointer (some ⟨g, 0, none⟩), .int .i64 k] w fun e w' => e = .returned (.pointer none) ∧ w = w' := by
  go_enter Try.func89, Try.ntmps89
  go_wp2
  all_goals go_ret
  all_goals exact ⟨rfl, rfl⟩
theorem split_as (g : Nat) (b : Box) (k : Int) (sl : Value) (j : Int) (w : World) (h : SplitAt w g b k sl) : Calls Try.prog 97 #[.pointer (some ⟨g, 0, none⟩), .int .i64 j] w fun e w' => e = .returned (.pointer (if k = j then some ⟨g, 0, none⟩ else none)) ∧ w = w' := by
  have q4 : w.cell? ⟨g, 4, none⟩ = some (.int .i64 k) := cell_atL h 4
  clear h
  by_cases hk : k = j
  · subst hk
    rw [if_pos rfl]
    go_enter Try.func97, Try.ntmps97
    go_wp2
    all_goals go_ret
    all_goals exact ⟨rfl, rfl⟩
  · rw [if_neg hk]
    have h2 : (k != j) = true := by simpa using hk
    go_enter Try.func97, Try.ntmps97
    go_wp2
    all_goals go_ret
    all_goals exact ⟨rfl, rfl⟩

/-! Which function an interface's call means. -/
theorem l_extent (g : Nat) (W : World) : (method 241 38 (.pointer (some ⟨g, 0, none⟩)) "mullion/layout.extent").run Try.prog W = .ok (30, .pointer (some ⟨g, 0, none⟩)) W := by kernel_rfl
theorem s_extent (g : Nat) (W : World) : (method 241 73 (.pointer (some ⟨g, 0, none⟩)) "mullion/layout.extent").run Try.prog W = .ok (30, .pointer (some ⟨g, 0, none⟩)) W := by kernel_rfl
theorem l_sound (g : Nat) (W : World) : (method 241 38 (.pointer (some ⟨g, 0, none⟩)) "mullion/layout.sound").run Try.prog W = .ok (93, .pointer (some ⟨g, 0, none⟩)) W := by kernel_rfl
theorem s_sound (g : Nat) (W : World) : (method 241 73 (.pointer (some ⟨g, 0, none⟩)) "mullion/layout.sound").run Try.prog W = .ok (101, .pointer (some ⟨g, 0, none⟩)) W := by kernel_rfl
theorem l_as (g : Nat) (W : World) : (method 241 38 (.pointer (some ⟨g, 0, none⟩)) "mullion/layout.as").run Try.prog W = .ok (89, .pointer (some ⟨g, 0, none⟩)) W := by kernel_rfl
theorem s_as (g : Nat) (W : World) : (method 241 73 (.pointer (some ⟨g, 0, none⟩)) "mullion/layout.as").run Try.prog W = .ok (97, .pointer (some ⟨g, 0, none⟩)) W := by kernel_rfl

end Go.Proofs.Ytcjcekaahooamaa
