/-
  The document's New.
-/
import Derived.Test.YtooahffclghcjaaGreatDoorVRefS
namespace Go.Proofs.YtooahffclghcjaaGreatDoor
open Go.RowKit
set_option linter.unusedVariables false
set_option maxRecDepth 100000

set_option maxHeartbeats 4000000 in
theorem refNew_bad (a c l : Int) (w : World) (h : sizB a c = false) : Calls Tryz.prog 9 #[.int .i64 a, .int .i64 c, .int .i64 l] w fun x w' => x = .returned (.tuple #[.pointer none, .int .i64 41]) ∧ w' = w := by
  have hn : ¬ (1 ≤ a ∧ a ≤ 1000 ∧ 1 ≤ c ∧ c ≤ 1000) := of_decide_eq_false h
  clear h
  by_cases h1 : a < 1
  · clear hn
    go_enter Tryz.func9, Tryz.ntmps9
    go_wp2_with fail
    go_ret2
    exact ⟨rfl, rfl⟩
  by_cases h2 : 1000 < a
  · clear hn
    go_enter Tryz.func9, Tryz.ntmps9
    go_wp2_with fail
    go_ret2
    exact ⟨rfl, rfl⟩
  by_cases h3 : c < 1
  · clear hn
    go_enter Tryz.func9, Tryz.ntmps9
    go_wp2_with fail
    go_ret2
    exact ⟨rfl, rfl⟩
  by_cases h4 : 1000 < c
  · clear hn
    go_enter Tryz.func9, Tryz.ntmps9
    go_wp2_with fail
    go_ret2
    exact ⟨rfl, rfl⟩
  exact absurd ⟨by omega, by omega, by omega, by omega⟩ hn
set_option maxHeartbeats 4000000 in
theorem refNew_arg (a c l : Int) (w : World) (h : sizB a c = true) (hl : l < 0 ∨ 2000 < l) : Calls Tryz.prog 9 #[.int .i64 a, .int .i64 c, .int .i64 l] w fun x w' => x = .returned (.tuple #[.pointer none, .int .i64 1]) ∧ w' = w := by
  have hn : 1 ≤ a ∧ a ≤ 1000 ∧ 1 ≤ c ∧ c ≤ 1000 := of_decide_eq_true h
  have h1 : ¬ a < 1 := by omega
  have h2 : ¬ 1000 < a := by omega
  have h3 : ¬ c < 1 := by omega
  have h4 : ¬ 1000 < c := by omega
  clear h hn
  by_cases h5 : l < 0
  · clear hl
    go_enter Tryz.func9, Tryz.ntmps9
    go_wp2_with fail
    go_ret2
    exact ⟨rfl, rfl⟩
  · have h6 : 2000 < l := by omega
    clear hl
    go_enter Tryz.func9, Tryz.ntmps9
    go_wp2_with fail
    go_ret2
    exact ⟨rfl, rfl⟩
set_option maxHeartbeats 4000000 in
theorem refNew_ok (nw nh : Nat) (l : Int) (w : World) (n1 : 1 ≤ nw) (n2 : nw ≤ 1000) (n3 : 1 ≤ nh) (n4 : nh ≤ 1000) (h5 : ¬ l < 0) (h6 : ¬ 2000 < l) : Calls Tryz.prog 9 #[.int .i64 (nw : Int), .int .i64 (nh : Int), .int .i64 l] w fun x w' => ∃ b v vs, x = .returned (.tuple #[.pointer (some ⟨b, 0, none⟩), .int .i64 0]) ∧ Below w.heap.size w w' ∧ RN w w' nw nh l b v vs := by
  have h1 : ¬ (nw : Int) < 1 := by omega
  have h2 : ¬ 1000 < (nw : Int) := by omega
  have h3 : ¬ (nh : Int) < 1 := by omega
  have h4 : ¬ 1000 < (nh : Int) := by omega
  obtain ⟨L, hL⟩ : ∃ L : Array Value, #[.int .i64 (nw : Int), .int .i64 (nh : Int), .int .i64 l, .slice none 0 0, .slice none 0 0, .bool false, .slice none 0 0, .int .i64 0, .int .i64 0, .bool false, .int .i64 0, .int .i64 0, .int .i64 0, .int .i64 0, .int .i64 0, .bool false, .bool false, .bool false, .bool false, .bool false, .bool false, .bool false, .slice none 0 0, .bool false, .bool false, .int .i64 0, .bool false, .int .i64 0, .int .i64 0, .int .i64 0, .int .i64 0, .int .i64 0, .bool false, .bool false, .bool false, .int .i64 0, .bool false, .bool false, .int .i64 0, .int .i64 0, .int .i64 0, .int .i64 0, .int .i64 0, .bool false, .bool false, .bool false, .int .i64 0, .bool false, .string ⟨#[]⟩, .string ⟨#[]⟩, .int .i64 0, .int .i32 0, .int .i64 0, .string ⟨#[]⟩, .bool false] = L := ⟨_, rfl⟩
  have hNew : RfAt (w.alloc (.cells L 70)) w.heap.size nw nh l (.slice none 0 0) (.slice none 0 0) 0 false := by
    have h9 : refC nw nh l (.slice none 0 0) (.slice none 0 0) 0 false = L := by rw [← hL]; rfl
    unfold RfAt
    rw [h9]
    exact heap_alloc_new w (.cells L 70)
  have HRe : Hid (Calls Tryz.prog 15 #[.pointer (some ⟨w.heap.size, 0, none⟩)] (w.alloc (.cells L 70)) fun x w' => x = .returned (.tuple #[]) ∧ ∃ v vs, Below w.heap.size w w' ∧ RN w w' nw nh l w.heap.size v vs) :=
    (refReset_any nw nh l n1 n2 n3 n4 ((Below.refl _ _).alloc (Nat.le_refl _) _) (Nat.le_refl _) hNew).mono (by
      rintro x w' ⟨rfl, v, vs, ta, tc, q1, q2, q3⟩
      exact ⟨rfl, v, vs, q3.mine.below, ⟨⟨ta, tc, q2⟩, q1, q3, Nat.le_refl _⟩⟩)
  rw [← hL] at HRe
  clear hL hNew n1 n2 n3 n4
  go_enter Tryz.func9, Tryz.ntmps9
  go_wp2_with fail
  refine HRe.out.mono ?_
  rintro e w2 ⟨rfl, v, vs, hb, hn⟩
  have HN := hidK (And.intro hb hn)
  clear hb hn HRe
  go_wp2_with fail
  go_ret2
  exact ⟨_, v, vs, rfl, HN.out.1, HN.out.2⟩
end Go.Proofs.YtooahffclghcjaaGreatDoor
