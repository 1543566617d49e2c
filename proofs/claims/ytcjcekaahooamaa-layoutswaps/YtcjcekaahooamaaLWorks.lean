/-
  Layouts: works, the head of the statements.
-/
import Derived.Test.YtcjcekaahooamaaLOne
namespace Go.Proofs.Ytcjcekaahooamaa
open Go.RowKit
set_option linter.unusedVariables false
set_option maxRecDepth 100000

theorem eqCe_same (c : CellV) (W : World) : (Op.equalIn 10000 33 (.agg c.vals) (.agg c.vals)).run Try.prog W = .ok true W := by
  have := eqCe c c W
  rw [(ceEq_iff c c).2 rfl] at this
  exact this
theorem SeenIn.at0 {w : World} {b off : Nat} {c : CellV} {l : List CellV} (h : SeenIn w b off (c :: l)) : HeadIn w b off c := by
  have := h 0 c rfl
  simpa using this

set_option maxHeartbeats 2000000 in
theorem works_true (w : World) : Calls Try.prog 7 #[] w fun e w' => e = .returned (.bool true) ∧ Below w.heap.size w w' := by
  have hne : newErr 9 5 7 = 0 := rfl
  have HN : Hid (Calls Try.prog 15 #[.int .i64 9, .int .i64 5, .int .i64 7] w fun e w1 => ∃ b off cap, e = .returned (.tuple #[.slice (some ⟨b, off, none⟩) 1 cap, .int .i64 0]) ∧ CellsIn w1 (.slice (some ⟨b, off, none⟩) 1 cap) [oneCell 9 5 7] ∧ SeenIn w1 b off [oneCell 9 5 7] ∧ Below w.heap.size w w1) := by
    refine (new_good 9 5 7 w hne).mono ?_
    rintro e w1 ⟨u, rfl, hu, hb⟩
    obtain ⟨b, off, cap, rfl, _, hs⟩ := hu.cellsIn.seen (by simp)
    exact ⟨b, off, cap, rfl, hu.cellsIn, hs, hb⟩
  have HC0 : Hid (∀ W, Calls Try.prog 16 #[.slice none 0 0] W fun e w' => e = .returned (.int .i64 40) ∧ Below W.heap.size W w') := fun W => check_nil ▸ check_any (.slice none 0 0) [] W ⟨none, 0, rfl, Nat.le_refl _, .inl rfl⟩
  have HC1 : Hid (∀ v W, CellsIn W v [oneCell 9 5 7] → Calls Try.prog 16 #[v] W fun e w' => e = .returned (.int .i64 0) ∧ Below W.heap.size W w') := fun v W h => check_one 9 5 7 hne ▸ check_any v _ W h
  have HSp : Hid (∀ v W, CellsIn W v [oneCell 9 5 7] → Calls Try.prog 17 #[v, .int .i64 7, .int .i64 2, .int .i64 0, .bool false, .int .i64 8] W fun e w1 => ∃ b off cap, e = .returned (.tuple #[.slice (some ⟨b, off, none⟩) 3 cap, .int .i64 0]) ∧ SeenIn w1 b off [⟨0, 2, 0, 0, 9, 5, 0⟩, ⟨1, 1, 0, 0, 4, 5, 7⟩, ⟨1, 1, 5, 0, 4, 5, 8⟩] ∧ Below W.heap.size W w1) := by
    intro v W h
    refine (split_one v 9 5 7 8 W h hne (by decide) rfl (by decide)).mono ?_
    rintro e w1 ⟨u, rfl, hu, hb⟩
    obtain ⟨b, off, cap, rfl, _, hs⟩ := hu.cellsIn.seen (by unfold twoCells; simp)
    exact ⟨b, off, cap, rfl, hs, hb⟩
  go_enter Try.func7, Try.ntmps7
  go_wp2_with fail
  refine HN.out.mono ?_
  rintro e w1 ⟨b, off, cap, rfl, hc, hs, hb⟩
  obtain ⟨q0, q1, q2, q3, q4, q5, q6⟩ := hs.at0
  have HV1 : Hid (CellsIn w1 (.slice (some ⟨b, off, none⟩) 1 cap) [oneCell 9 5 7]) := hc
  have HB1 : Hid (Below w.heap.size w w1) := hb
  have hEq : ∀ W : World, (Op.equalIn 10000 33 (.agg #[.int .i64 0, .int .i64 1, .int .i64 0, .int .i64 0, .int .i64 9, .int .i64 5, .int .i64 7]) (.agg #[.int .i64 0, .int .i64 1, .int .i64 0, .int .i64 0, .int .i64 9, .int .i64 5, .int .i64 7])).run Try.prog W = .ok true W := eqCe_same (oneCell 9 5 7)
  unfold oneCell at q0 q1 q2 q3 q4 q5 q6
  clear hc hs hb HN
  go_wp2_with fail
  refine (HC1.out _ _ HV1.out).mono ?_
  rintro e w2 ⟨rfl, hb2⟩
  have HB2 : Hid (Below w.heap.size w w2) := below_step HB1.out hb2
  have HV2 : Hid (CellsIn w2 (.slice (some ⟨b, off, none⟩) 1 cap) [oneCell 9 5 7]) := HV1.out.below hb2
  clear hb2 HB1 HV1 q0 q1 q2 q3 q4 q5 q6 hEq
  go_wp2_with fail
  refine (HC0.out _).mono ?_
  rintro e w3 ⟨rfl, hb3⟩
  have HB3 : Hid (Below w.heap.size w w3) := below_step HB2.out hb3
  have HV3 : Hid (CellsIn w3 (.slice (some ⟨b, off, none⟩) 1 cap) [oneCell 9 5 7]) := HV2.out.below hb3
  clear hb3 HB2 HV2
  go_wp2_with fail
  refine (HSp.out _ _ HV3.out).mono ?_
  rintro e w4 ⟨b4, off4, cap4, rfl, hs4, hb4⟩
  have HB4 : Hid (Below w.heap.size w w4) := below_step HB3.out hb4
  have h0 := hs4 0 _ rfl
  have h1 := hs4 1 _ rfl
  have h2 := hs4 2 _ rfl
  rw [show off4 + 0 * 7 = off4 by omega] at h0
  rw [show off4 + 1 * 7 = off4 + 7 by omega] at h1
  rw [show off4 + 2 * 7 = off4 + 14 by omega] at h2
  obtain ⟨q0, q1, q2, q3, q4, q5, q6⟩ := h0
  obtain ⟨p0, p1, p2, p3, p4, p5, p6⟩ := h1
  obtain ⟨r0, r1, r2, r3, r4, r5, r6⟩ := h2
  have hEq0 : ∀ W : World, (Op.equalIn 10000 33 (.agg #[.int .i64 0, .int .i64 2, .int .i64 0, .int .i64 0, .int .i64 9, .int .i64 5, .int .i64 0]) (.agg #[.int .i64 0, .int .i64 2, .int .i64 0, .int .i64 0, .int .i64 9, .int .i64 5, .int .i64 0])).run Try.prog W = .ok true W := eqCe_same ⟨0, 2, 0, 0, 9, 5, 0⟩
  have hEq1 : ∀ W : World, (Op.equalIn 10000 33 (.agg #[.int .i64 1, .int .i64 1, .int .i64 0, .int .i64 0, .int .i64 4, .int .i64 5, .int .i64 7]) (.agg #[.int .i64 1, .int .i64 1, .int .i64 0, .int .i64 0, .int .i64 4, .int .i64 5, .int .i64 7])).run Try.prog W = .ok true W := eqCe_same ⟨1, 1, 0, 0, 4, 5, 7⟩
  have hEq2 : ∀ W : World, (Op.equalIn 10000 33 (.agg #[.int .i64 1, .int .i64 1, .int .i64 5, .int .i64 0, .int .i64 4, .int .i64 5, .int .i64 8]) (.agg #[.int .i64 1, .int .i64 1, .int .i64 5, .int .i64 0, .int .i64 4, .int .i64 5, .int .i64 8])).run Try.prog W = .ok true W := eqCe_same ⟨1, 1, 5, 0, 4, 5, 8⟩
  clear hs4 hb4 HB3 HV3 HSp HC0 HC1
  go_wp2
  go_ret
  exact ⟨rfl, HB4.out⟩

end Go.Proofs.Ytcjcekaahooamaa
