/-
  The walk of WirePrefix.
-/
import Derived.Test.YtplolaondmeccaaGreatDoorWWordW
import Derived.WalkKit
namespace Go.Proofs.YtplolaondmeccaaGreatDoor
open Go.RowKit
set_option linter.unusedVariables false

theorem extract_take (s : ByteArray) (k : Nat) : (s.extract 0 k).data.toList = s.data.toList.take k := by
  rw [ByteArray.data_extract, Array.toList_extract]
  simp

set_option maxHeartbeats 1000000 in
theorem wirePrefix_at (a0 : ByteArray) (k : Nat) (hk : k ≤ a0.size) (a1 : Int) (hk1 : (0 ≤ a1 ∧ a1 ≤ a0.size ∧ a1 = k) ∨ (a1 < 0 ∧ k = a0.size / 2) ∨ (¬ a1 < 0 ∧ (a0.size : Int) < a1 ∧ k = a0.size / 2)) (hsh : a0.size ≤ 1048576) (w : World) (hE : Env w) (hS : Spaces w) :
    Calls Tryz.prog 3 #[.string a0, .int .i64 a1] w fun e w' => e = .returned (.bool true) ∧ Below w.heap.size w w' := by
  obtain ⟨r, hr⟩ : ∃ r, wordS 0 a0.data.toList = r := ⟨_, rfl⟩
  obtain ⟨a, b⟩ := r
  obtain ⟨r2, hr2⟩ : ∃ r, wordS 0 (a0.data.toList.take k) = r := ⟨_, rfl⟩
  obtain ⟨c, d⟩ := r2
  have h1 : a = true → c = true := fun h => by
    have := wordS_pre _ 0 a0.data.toList (a0.data.toList.take k) (Nat.le_refl _) (by rw [hr]; exact h) (List.take_prefix _ _)
    rw [hr2] at this
    exact this
  have h2 : b = true → a = true := fun h => by
    have := wordS_both _ 0 a0.data.toList (Nat.le_refl _) (by rw [hr]; exact h)
    rw [hr] at this
    exact this
  have HWa : Hid (∀ W, Below w.heap.size w W → Calls Tryz.prog 6 #[.string a0] W fun e w' => e = .returned (.tuple #[.bool a, .bool b]) ∧ Below W.heap.size W w') := fun W hb => by
    have := word_any a0 (by omega) W (hE.below hb) (hS.below hb)
    rw [hr] at this
    exact this
  have HWc : Hid (∀ W, Below w.heap.size w W → Calls Tryz.prog 6 #[.string (a0.extract 0 k)] W fun e w' => e = .returned (.tuple #[.bool c, .bool d]) ∧ Below W.heap.size W w') := fun W hb => by
    have := word_any (a0.extract 0 k) (by rw [ByteArray.size_extract]; omega) W (hE.below hb) (hS.below hb)
    rw [extract_take, hr2] at this
    exact this
  have HWe : Hid (∀ W, Below w.heap.size w W → Calls Tryz.prog 6 #[.string ⟨#[37, 101, 120, 105, 116, 10]⟩] W fun e w' => e = .returned (.tuple #[.bool true, .bool true]) ∧ Below W.heap.size W w') := fun W hb => by
    have := word_any ⟨#[37, 101, 120, 105, 116, 10]⟩ (by decide) W (hE.below hb) (hS.below hb)
    rw [show (⟨#[37, 101, 120, 105, 116, 10]⟩ : ByteArray).data.toList = [37, 101, 120, 105, 116, 10] from rfl, word_exit] at this
    exact this
  have hB0 : Hid (Below w.heap.size w w) := Below.refl _ _
  clear hr hr2 hE hS
  have hkz : (k : Int) ≤ (a0.size : Int) := by omega
  rcases hk1 with ⟨p1, p2, rfl⟩ | ⟨p1, rfl⟩ | ⟨p1, p2, rfl⟩
  all_goals go_enter Tryz.func3, Tryz.ntmps3
  all_goals go_wp2_with fail
  all_goals refine (HWa.out _ hB0.out).mono ?_
  all_goals rintro e w1 ⟨rfl, hb1⟩
  all_goals have HB1 : Hid (Below w.heap.size w w1) := hb1
  all_goals clear hb1
  all_goals go_wp2_with fail
  all_goals refine (HWc.out _ HB1.out).mono ?_
  all_goals rintro e w2 ⟨rfl, hb2⟩
  all_goals have HB2 : Hid (Below w.heap.size w w2) := below_step HB1.out hb2
  all_goals clear hb2
  all_goals go_wp2_with fail
  all_goals refine (HWe.out _ HB2.out).mono ?_
  all_goals rintro e w3 ⟨rfl, hb3⟩
  all_goals have HB3 : Hid (Below w.heap.size w w3) := below_step HB2.out hb3
  all_goals clear hb3 HWa HWc HWe
  all_goals (cases a <;> cases b <;> cases c <;> first | exact absurd (h1 rfl) (by decide) | exact absurd (h2 rfl) (by decide) | (clear h1 h2; go_wp2; go_ret; exact ⟨rfl, HB3.out⟩))

theorem wirePrefix_walk (a0 : ByteArray) (a1 : Int) (hsh : a0.size ≤ 1048576) (w : World) (hE : Env w) (hS : Spaces w) :
    Calls Tryz.prog 3 #[.string a0, .int .i64 a1] w fun e w' => e = .returned (.bool true) ∧ Below w.heap.size w w' := by
  by_cases h : 0 ≤ a1 ∧ a1 ≤ a0.size
  · obtain ⟨k, rfl⟩ := Int.eq_ofNat_of_zero_le h.1
    exact wirePrefix_at a0 k (by omega) k (.inl ⟨h.1, h.2, rfl⟩) hsh w hE hS
  · refine wirePrefix_at a0 (a0.size / 2) (by omega) a1 (.inr ?_) hsh w hE hS
    by_cases h0 : a1 < 0
    · exact .inl ⟨h0, rfl⟩
    · exact .inr ⟨h0, by omega, rfl⟩

end Go.Proofs.YtplolaondmeccaaGreatDoor
