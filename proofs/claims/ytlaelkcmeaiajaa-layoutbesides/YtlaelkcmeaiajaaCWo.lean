/-
  Layouts: works, the head of the statements.
  Layouts: the document's layout of one pane; the statement on New, walked.
-/
import Derived.Test.YtlaelkcmeaiajaaCJo
namespace Go.Proofs.Ytlaelkcmeaiajaa
open Go.RowKit
set_option linter.unusedVariables false
set_option maxRecDepth 100000

theorem eqCe_same (c : CellV) (W : World) : (Op.equalIn 10000 35 (.agg c.vals) (.agg c.vals)).run Try.prog W = .ok true W := by
  have := eqCe c c W
  rw [(ceEq_iff c c).2 rfl] at this
  exact this
theorem SeenIn.at0 {w : World} {b off : Nat} {c : CellV} {l : List CellV} (h : SeenIn w b off (c :: l)) : HeadIn w b off c := by
  have := h 0 c rfl
  simpa using this

set_option maxHeartbeats 2000000 in
theorem works_true (w : World) : Calls Try.prog 8 #[] w fun e w' => e = .returned (.bool true) ∧ Below w.heap.size w w' := by
  have hne : newErr 9 5 7 = 0 := rfl
  have HN : Hid (Calls Try.prog 19 #[.int .i64 9, .int .i64 5, .int .i64 7] w fun e w1 => ∃ b off cap, e = .returned (.tuple #[.slice (some ⟨b, off, none⟩) 1 cap, .int .i64 0]) ∧ CellsIn w1 (.slice (some ⟨b, off, none⟩) 1 cap) [oneCell 9 5 7] ∧ SeenIn w1 b off [oneCell 9 5 7] ∧ Below w.heap.size w w1) := by
    refine (new_good 9 5 7 w hne).mono ?_
    rintro e w1 ⟨u, rfl, hu, hb⟩
    obtain ⟨b, off, cap, rfl, _, hs⟩ := hu.cellsIn.seen (by simp)
    exact ⟨b, off, cap, rfl, hu.cellsIn, hs, hb⟩
  have HC0 : Hid (∀ W, Calls Try.prog 20 #[.slice none 0 0] W fun e w' => e = .returned (.int .i64 40) ∧ Below W.heap.size W w') := fun W => check_nil ▸ check_any (.slice none 0 0) [] W ⟨none, 0, rfl, Nat.le_refl _, .inl rfl⟩
  have HC1 : Hid (∀ v W, CellsIn W v [oneCell 9 5 7] → Calls Try.prog 20 #[v] W fun e w' => e = .returned (.int .i64 0) ∧ Below W.heap.size W w') := fun v W h => check_one 9 5 7 hne ▸ check_any v _ W h
  have HSp : Hid (∀ v W, CellsIn W v [oneCell 9 5 7] → Calls Try.prog 21 #[v, .int .i64 7, .int .i64 2, .int .i64 0, .bool false, .int .i64 8] W fun e w1 => ∃ b off cap, e = .returned (.tuple #[.slice (some ⟨b, off, none⟩) 3 cap, .int .i64 0]) ∧ SeenIn w1 b off [⟨0, 2, 0, 0, 9, 5, 0⟩, ⟨1, 1, 0, 0, 4, 5, 7⟩, ⟨1, 1, 5, 0, 4, 5, 8⟩] ∧ Below W.heap.size W w1) := by
    intro v W h
    refine (split_one v 9 5 7 8 W h hne (by decide) rfl (by decide)).mono ?_
    rintro e w1 ⟨u, rfl, hu, hb⟩
    obtain ⟨b, off, cap, rfl, _, hs⟩ := hu.cellsIn.seen (by unfold twoCells; simp)
    exact ⟨b, off, cap, rfl, hs, hb⟩
  go_enter Try.func8, Try.ntmps8
  go_wp2_with fail
  refine HN.out.mono ?_
  rintro e w1 ⟨b, off, cap, rfl, hc, hs, hb⟩
  obtain ⟨q0, q1, q2, q3, q4, q5, q6⟩ := hs.at0
  have HV1 : Hid (CellsIn w1 (.slice (some ⟨b, off, none⟩) 1 cap) [oneCell 9 5 7]) := hc
  have HB1 : Hid (Below w.heap.size w w1) := hb
  have hEq : ∀ W : World, (Op.equalIn 10000 35 (.agg #[.int .i64 0, .int .i64 1, .int .i64 0, .int .i64 0, .int .i64 9, .int .i64 5, .int .i64 7]) (.agg #[.int .i64 0, .int .i64 1, .int .i64 0, .int .i64 0, .int .i64 9, .int .i64 5, .int .i64 7])).run Try.prog W = .ok true W := eqCe_same (oneCell 9 5 7)
  unfold oneCell at q0 q1 q2 q3 q4 q5 q6
  clear hc hs hb HN
  go_wp2_with fail
  refine (HC1.out _ _ HV1.out).mono ?_
  rintro e w2 ⟨rfl, hb2⟩
  have HB2 : Hid (Below w.heap.size w w2) := below_step HB1.out hb2
  have HV2 : Hid (CellsIn w2 (.slice (some ⟨b, off, none⟩) 1 cap) [oneCell 9 5 7]) := HV1.out.below hb2
  clear hb2 HB1 HV1 q0 q1 q2 q3 q4 q5 q6 hEq
  go_wp2_with fail
  refine (HC0.out _).mono ?_
  rintro e w3 ⟨rfl, hb3⟩
  have HB3 : Hid (Below w.heap.size w w3) := below_step HB2.out hb3
  have HV3 : Hid (CellsIn w3 (.slice (some ⟨b, off, none⟩) 1 cap) [oneCell 9 5 7]) := HV2.out.below hb3
  clear hb3 HB2 HV2
  go_wp2_with fail
  refine (HSp.out _ _ HV3.out).mono ?_
  rintro e w4 ⟨b4, off4, cap4, rfl, hs4, hb4⟩
  have HB4 : Hid (Below w.heap.size w w4) := below_step HB3.out hb4
  have h0 := hs4 0 _ rfl
  have h1 := hs4 1 _ rfl
  have h2 := hs4 2 _ rfl
  rw [show off4 + 0 * 7 = off4 by omega] at h0
  rw [show off4 + 1 * 7 = off4 + 7 by omega] at h1
  rw [show off4 + 2 * 7 = off4 + 14 by omega] at h2
  obtain ⟨q0, q1, q2, q3, q4, q5, q6⟩ := h0
  obtain ⟨p0, p1, p2, p3, p4, p5, p6⟩ := h1
  obtain ⟨r0, r1, r2, r3, r4, r5, r6⟩ := h2
  have hEq0 : ∀ W : World, (Op.equalIn 10000 35 (.agg #[.int .i64 0, .int .i64 2, .int .i64 0, .int .i64 0, .int .i64 9, .int .i64 5, .int .i64 0]) (.agg #[.int .i64 0, .int .i64 2, .int .i64 0, .int .i64 0, .int .i64 9, .int .i64 5, .int .i64 0])).run Try.prog W = .ok true W := eqCe_same ⟨0, 2, 0, 0, 9, 5, 0⟩
  have hEq1 : ∀ W : World, (Op.equalIn 10000 35 (.agg #[.int .i64 1, .int .i64 1, .int .i64 0, .int .i64 0, .int .i64 4, .int .i64 5, .int .i64 7]) (.agg #[.int .i64 1, .int .i64 1, .int .i64 0, .int .i64 0, .int .i64 4, .int .i64 5, .int .i64 7])).run Try.prog W = .ok true W := eqCe_same ⟨1, 1, 0, 0, 4, 5, 7⟩
  have hEq2 : ∀ W : World, (Op.equalIn 10000 35 (.agg #[.int .i64 1, .int .i64 1, .int .i64 5, .int .i64 0, .int .i64 4, .int .i64 5, .int .i64 8]) (.agg #[.int .i64 1, .int .i64 1, .int .i64 5, .int .i64 0, .int .i64 4, .int .i64 5, .int .i64 8])).run Try.prog W = .ok true W := eqCe_same ⟨1, 1, 5, 0, 4, 5, 8⟩
  clear hs4 hb4 HB3 HV3 HSp HC0 HC1
  go_wp2
  go_ret
  exact ⟨rfl, HB4.out⟩

end Go.Proofs.Ytlaelkcmeaiajaa

namespace Go.Proofs.Ytlaelkcmeaiajaa
open Go.RowKit
set_option linter.unusedVariables false
set_option maxRecDepth 100000

theorem owns_made (X : World) (g B : Nat) (hg : X.heap.size = g) (c : CellV) (hB : B ≤ g) : CeOwns (X.alloc (.cells c.vals 35)) B (.slice (some ⟨g, 0, none⟩) 1 1) [c] := by
  subst hg
  exact ⟨rfl, .inr ⟨X.heap.size, 1, c.vals, rfl, hB, heap_alloc_new _ _, Nat.le_refl _, by decide, rfl, rfl⟩⟩

theorem ref_lay_leaf (k a b i d x y : Int) (w : World) :
    Calls Try.prog 58 #[.agg #[.int .i64 k, .int .i64 a, .int .i64 b, .int .i64 i, .slice none 0 0], .int .i64 d, .int .i64 x, .int .i64 y] w fun e w' => ∃ u, e = .returned u ∧ CeOwns w' w.heap.size u [⟨d, k, x, y, a, b, i⟩] ∧ Below w.heap.size w w' := by
  have HO : Hid (∀ o, CeOwns ((w.alloc o).alloc (.cells (CellV.vals ⟨d, k, x, y, a, b, i⟩) 35)) w.heap.size (.slice (some ⟨w.heap.size + 1, 0, none⟩) 1 1) [⟨d, k, x, y, a, b, i⟩]) := fun o => owns_made (w.alloc o) (w.heap.size + 1) w.heap.size (by simp) _ (by omega)
  have HB : Hid (∀ o o', Below w.heap.size w ((w.alloc o).alloc o')) := fun o o' => ((Below.refl _ _).alloc (Nat.le_refl _) _).alloc (by simp) _
  go_enter Try.func58, Try.ntmps58
  go_wp2
  go_loopw [9, 10] (fun u v wr => u = .slice (some ⟨w.heap.size + 1, 0, none⟩) 1 1 ∧ v = .int .i64 0 ∧ wr = ((w.alloc (.cells #[.int .i64 k, .int .i64 a, .int .i64 b, .int .i64 i, .slice none 0 0] 58)).alloc (.cells #[.int .i64 d, .int .i64 k, .int .i64 x, .int .i64 y, .int .i64 a, .int .i64 b, .int .i64 i] 35))) (fun _ _ _ => 0)
  case atStart => exact ⟨rfl, rfl, rfl⟩
  case round =>
    obtain ⟨rfl, rfl, rfl⟩ := hrel
    go_wp2
    go_ret
    exact ⟨_, rfl, HO.out _, HB.out _ _⟩
theorem ref_list_leaf (k a b i : Int) (w : World) :
    Calls Try.prog 49 #[.agg #[.int .i64 k, .int .i64 a, .int .i64 b, .int .i64 i, .slice none 0 0]] w fun e w' => ∃ u, e = .returned u ∧ CeOwns w' w.heap.size u [⟨0, k, 0, 0, a, b, i⟩] ∧ Below w.heap.size w w' := by
  have HL : Hid (∀ o, Calls Try.prog 58 #[.agg #[.int .i64 k, .int .i64 a, .int .i64 b, .int .i64 i, .slice none 0 0], .int .i64 0, .int .i64 0, .int .i64 0] (w.alloc o) fun e w' => ∃ u, e = .returned u ∧ CeOwns w' w.heap.size u [⟨0, k, 0, 0, a, b, i⟩] ∧ Below w.heap.size w w') := fun o => (ref_lay_leaf k a b i 0 0 0 (w.alloc o)).mono fun e w' ⟨u, h1, h2, h3⟩ => ⟨u, h1, h2.lower (by simp), below_step ((Below.refl _ _).alloc (Nat.le_refl _) _) h3⟩
  go_enter Try.func49, Try.ntmps49
  go_wp2_with fail
  refine (HL.out _).mono ?_
  rintro e w1 ⟨u, rfl, hu, hb⟩
  have HU : Hid (CeOwns w1 w.heap.size u [⟨0, k, 0, 0, a, b, i⟩]) := hu
  clear hu
  go_wp2
  go_ret
  exact ⟨u, rfl, HU.out, hb⟩

def newL (x y p : Int) : List CellV := if newErr x y p = 0 then [oneCell x y p] else []
theorem new_any (x y p : Int) (w : World) : Calls Try.prog 19 #[.int .i64 x, .int .i64 y, .int .i64 p] w fun e w' => ∃ u, e = .returned (.tuple #[u, .int .i64 (newErr x y p)]) ∧ CeOwns w' w.heap.size u (newL x y p) ∧ Below w.heap.size w w' := by
  by_cases h : newErr x y p = 0
  · unfold newL
    rw [if_pos h, h]
    exact new_good x y p w h
  · unfold newL
    rw [if_neg h]
    exact (new_bad x y p w h).mono fun e w' h2 => ⟨_, h2.1, World.ownsRow_nil _ _ _ _, h2.2 ▸ Below.refl _ _⟩
theorem newL_length (x y p : Int) : (newL x y p).length ≤ 1 := by
  unfold newL
  split <;> simp

end Go.Proofs.Ytlaelkcmeaiajaa
