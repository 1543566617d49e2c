/-
  The law of new screens.
-/
import Derived.Test.YtklonlgmifgckaaGreatDoorVNwM
import Derived.Test.YtklonlgmifgckaaGreatDoorVRefK
namespace Go.Proofs.YtklonlgmifgckaaGreatDoor
open Go.RowKit
set_option linter.unusedVariables false
set_option maxRecDepth 100000

/-- Blank, the program's and the document's. -/
theorem blanks_both (a c : Int) : ∃ pw ph er : Int, ∃ k : Nat, k ≤ 1000000 ∧ (∀ w, Calls Tryz.prog 5 #[.int .i64 a, .int .i64 c] w fun x w' => Below w.heap.size w w' ∧ ∃ ad cap, x = .returned (.tuple #[.agg #[.int .i64 pw, .int .i64 ph, .slice ad k cap, .int .i64 0, .int .i64 0, .bool false, .string ⟨#[]⟩], .int .i64 er]) ∧ Row w' 49 5 (.slice ad k cap) k (tgsV (blks k))) ∧
    (∀ w, Calls Tryz.prog 6 #[.int .i64 a, .int .i64 c] w fun x w' => Below w.heap.size w w' ∧ ∃ ad cap, x = .returned (.tuple #[.agg #[.int .i64 pw, .int .i64 ph, .slice ad k cap, .int .i64 0, .int .i64 0, .bool false, .string ⟨#[]⟩], .int .i64 er]) ∧ Row w' 49 5 (.slice ad k cap) k (tgsV (blks k))) := by
  by_cases hz : sizB a c = true
  · have hs : 1 ≤ a ∧ a ≤ 1000 ∧ 1 ≤ c ∧ c ≤ 1000 := of_decide_eq_true hz
    obtain ⟨nw, rfl⟩ : ∃ n : Nat, a = (n : Int) := ⟨a.toNat, by omega⟩
    obtain ⟨nh, rfl⟩ : ∃ n : Nat, c = (n : Int) := ⟨c.toNat, by omega⟩
    refine ⟨nw, nh, 0, nh * nw, Nat.mul_le_mul (by omega : nh ≤ 1000) (by omega : nw ≤ 1000), fun w => ?_, fun w => ?_⟩
    · refine (vtBlank_any _ _ w).mono ?_
      rintro x w' ⟨hb, ⟨h, _⟩ | ⟨_, v, n1, n2, e1, e2, rfl, hr, _⟩⟩
      · rw [hz] at h; cases h
      · obtain rfl : nw = n1 := by omega
        obtain rfl : nh = n2 := by omega
        obtain ⟨ad, cap, rfl, _, _, _, _⟩ := hr.shape
        exact ⟨hb, ad, cap, rfl, hr⟩
    · refine (refBlankN_any _ _ w).mono ?_
      rintro x w' ⟨hb, ⟨h, _⟩ | ⟨_, v, n1, n2, e1, e2, rfl, hr, _⟩⟩
      · rw [hz] at h; cases h
      · obtain rfl : nw = n1 := by omega
        obtain rfl : nh = n2 := by omega
        obtain ⟨ad, cap, rfl, _, _, _, _⟩ := hr.shape
        exact ⟨hb, ad, cap, rfl, hr⟩
  · have hz2 : sizB a c = false := by simpa using hz
    refine ⟨0, 0, 41, 0, by omega, fun w => ?_, fun w => ?_⟩
    · refine (vtBlank_any _ _ w).mono ?_
      rintro x w' ⟨hb, ⟨_, rfl⟩ | ⟨h, _⟩⟩
      · exact ⟨hb, none, 0, rfl, Row.nil _ _ _⟩
      · exact absurd h hz
    · refine (refBlankN_any _ _ w).mono ?_
      rintro x w' ⟨hb, ⟨_, rfl⟩ | ⟨h, _⟩⟩
      · exact ⟨hb, none, 0, rfl, Row.nil _ _ _⟩
      · exact absurd h hz
set_option maxHeartbeats 4000000 in
theorem vtNews_walk (a c l : Int) (w : World) : Calls Tryz.prog 3 #[.agg #[.int .i64 a, .int .i64 c, .int .i64 l]] w fun x w' => x = .returned (.bool true) ∧ Below w.heap.size w w' := by
  obtain ⟨W, hW⟩ : ∃ W, w.alloc (.cells #[.int .i64 a, .int .i64 c, .int .i64 l] 23) = W := ⟨_, rfl⟩
  have HW := hidK hW
  obtain ⟨B, hB⟩ : ∃ B, w.heap.size = B := ⟨_, rfl⟩
  have HB := hidK hB
  have hX : W.heap[B]? = some (.cells #[.int .i64 a, .int .i64 c, .int .i64 l] 23 (0, 0)) := by rw [← hB, ← hW]; exact heap_alloc_new w _
  have HBW : Hid (Below w.heap.size w W) := by rw [← hW]; exact (Below.refl _ _).alloc (Nat.le_refl _) _
  have HC : Hid (∀ W', Below W.heap.size W W' → W'.cell? ⟨B, 0, none⟩ = some (.int .i64 a) ∧ W'.cell? ⟨B, 1, none⟩ = some (.int .i64 c) ∧ W'.cell? ⟨B, 2, none⟩ = some (.int .i64 l)) := fun W' hb => by
    have h := (hb.block B (lt_of_block hX)).trans hX
    exact ⟨cell_atT h 0, cell_atT h 1, cell_atT h 2⟩
  obtain ⟨c0, c1, c2⟩ := HC.out W (Below.refl _ _)
  obtain ⟨pw, ph, er, k, hk, hV, hD⟩ := blanks_both a c
  have HV := hidK hV
  have HD := hidK hD
  have HM := hidK (made_any a c l)
  have HSm : Hid (∀ W v1 v2, Row W 49 5 v1 k (tgsV (blks k)) → Row W 49 5 v2 k (tgsV (blks k)) → Calls Tryz.prog 7 #[.agg #[.int .i64 pw, .int .i64 ph, v1, .int .i64 0, .int .i64 0, .bool false, .string ⟨#[]⟩], .agg #[.int .i64 pw, .int .i64 ph, v2, .int .i64 0, .int .i64 0, .bool false, .string ⟨#[]⟩]] W fun r w' => r = .returned (.bool true) ∧ Below W.heap.size W w') := fun W v1 v2 q1 q2 => same_any _ _ _ _ _ _ (blks k) (by rw [blks_len]; omega) (by rw [blks_len]; exact q1) (by rw [blks_len]; exact q2)
  clear hW hB hX hV hD hk
  go_enter Tryz.func3, Tryz.ntmps3
  go_wp2_with fail
  rw [HW.out, HB.out]
  refine (HM.out _).mono ?_
  rintro x w1 ⟨hb1, rfl | ⟨hz, b, G, T, rs, rb, rv, vs, nw, nh, lim, w0, e1, e2, rfl, hbb, hf, hn⟩⟩
  · have HB1 := hidK hb1
    clear c0 c1 c2 HM
    obtain ⟨c0, c1, c2⟩ := HC.out w1 hb1
    clear hb1
    go_wp2_with fail
    refine (HV.out _).mono ?_
    rintro x w2 ⟨hb2, ad2, cap2, rfl, hr2⟩
    have h12 : Below W.heap.size W w2 := HB1.out.trans (hb2.mono HB1.out.size)
    have H2 := hidK (And.intro h12 hr2)
    clear c0 c1 c2
    obtain ⟨c0, c1, c2⟩ := HC.out w2 h12
    have hlt : B < w2.heap.size := World.block_lt_of_cell? w2 _ c0
    clear hb2 hr2 h12
    go_wp2_with fail
    refine (HD.out _).mono ?_
    rintro x w3 ⟨hb3, ad3, cap3, rfl, hr3⟩
    have hbY : Below w2.heap.size w2 (w2.alloc (.cells #[.int .i64 pw, .int .i64 ph, .slice ad2 k cap2, .int .i64 0, .int .i64 0, .bool false, .string ⟨#[]⟩] 30)) := (Below.refl _ _).alloc (Nat.le_refl _) _
    obtain ⟨P2, hP2⟩ : ∃ P, w2.heap.size = P := ⟨_, rfl⟩
    have hk2 : w3.heap[P2]? = some (.cells #[.int .i64 pw, .int .i64 ph, .slice ad2 k cap2, .int .i64 0, .int .i64 0, .bool false, .string ⟨#[]⟩] 30 (0, 0)) := by rw [← hP2]; exact (hb3.block _ (by simp)).trans (heap_alloc_new w2 _)
    have h23 : Below w2.heap.size w2 w3 := hbY.trans (hb3.mono hbY.size)
    have HP2 := hidK hP2
    have H3 : Hid (Below W.heap.size W w3 ∧ Row w3 49 5 (.slice ad2 k cap2) k (tgsV (blks k)) ∧ Row w3 49 5 (.slice ad3 k cap3) k (tgsV (blks k))) := ⟨H2.out.1.trans (h23.mono H2.out.1.size), H2.out.2.below h23, hr3⟩
    have hltP : P2 < w3.heap.size := lt_of_block hk2
    have a0 := cell_atT hk2 0
    have a1 := cell_atT hk2 1
    have a2 := cell_atT hk2 2
    have a3 := cell_atT hk2 3
    have a4 := cell_atT hk2 4
    have a5 := cell_atT hk2 5
    have a6 := cell_atT hk2 6
    simp at a0 a1 a2 a3 a4 a5 a6
    clear c0 c1 c2 hb3 hr3 hbY hk2 h23 hP2 hlt
    rw [HP2.out]
    go_wp2_with fail
    refine (HSm.out _ _ _ (H3.out.2.1.below ((Below.refl _ _).alloc (Nat.le_refl _) _)) (H3.out.2.2.below ((Below.refl _ _).alloc (Nat.le_refl _) _))).mono ?_
    rintro x w4 ⟨rfl, hb4⟩
    have H4 : Hid (Below W.heap.size W w4) := by
      have h9 : Below w3.heap.size w3 w4 := ((Below.refl _ _).alloc (Nat.le_refl _) _).trans (hb4.mono (by simp))
      exact H3.out.1.trans (h9.mono H3.out.1.size)
    clear hb4
    go_wp2_with fail
    go_ret
    exact ⟨rfl, HBW.out.trans (H4.out.mono HBW.out.size)⟩
  · have HB1 := hidK hb1
    have hs : 1 ≤ a ∧ a ≤ 1000 ∧ 1 ≤ c ∧ c ≤ 1000 := of_decide_eq_true hz
    have HF := hidK (And.intro hbb (And.intro hf hn))
    have HAs : Hid (∀ W', Below w1.heap.size w1 W' → Calls Tryz.prog 8 #[.pointer (some ⟨b, 0, none⟩), .pointer (some ⟨rb, 0, none⟩)] W' fun r w' => r = .returned (.bool true) ∧ Below W'.heap.size W' w') := fun W' hb => as_new (by omega) (by omega) (by omega) (hf.more hb) (hn.more hb)
    have HAn : Hid (∀ W', Below w1.heap.size w1 W' → Calls Tryz.prog 9 #[.pointer (some ⟨b, 0, none⟩)] W' fun r w' => r = .returned (.string ⟨#[]⟩) ∧ But [b] W' w') := fun W' hb => (answer_none (hf.more hb).at_ rfl).mono (fun r w' h => ⟨h.1, h.2.2⟩)
    clear hz hs hbb hf hn e1 e2
    clear c0 c1 c2 HM
    obtain ⟨c0, c1, c2⟩ := HC.out w1 hb1
    clear hb1
    go_wp2_with fail
    refine (HV.out _).mono ?_
    rintro x w2 ⟨hb2, ad2, cap2, rfl, hr2⟩
    have h12 : Below W.heap.size W w2 := HB1.out.trans (hb2.mono HB1.out.size)
    have H2 := hidK (And.intro h12 hr2)
    have HL2 := hidK hb2
    clear c0 c1 c2
    obtain ⟨c0, c1, c2⟩ := HC.out w2 h12
    have hlt : B < w2.heap.size := World.block_lt_of_cell? w2 _ c0
    clear hb2 hr2 h12
    go_wp2_with fail
    refine (HD.out _).mono ?_
    rintro x w3 ⟨hb3, ad3, cap3, rfl, hr3⟩
    have hbY : Below w2.heap.size w2 (w2.alloc (.cells #[.int .i64 pw, .int .i64 ph, .slice ad2 k cap2, .int .i64 0, .int .i64 0, .bool false, .string ⟨#[]⟩] 30)) := (Below.refl _ _).alloc (Nat.le_refl _) _
    obtain ⟨P2, hP2⟩ : ∃ P, w2.heap.size = P := ⟨_, rfl⟩
    have hk2 : w3.heap[P2]? = some (.cells #[.int .i64 pw, .int .i64 ph, .slice ad2 k cap2, .int .i64 0, .int .i64 0, .bool false, .string ⟨#[]⟩] 30 (0, 0)) := by rw [← hP2]; exact (hb3.block _ (by simp)).trans (heap_alloc_new w2 _)
    have h23 : Below w2.heap.size w2 w3 := hbY.trans (hb3.mono hbY.size)
    have HP2 := hidK hP2
    have HL3 : Hid (Below w1.heap.size w1 w3) := HL2.out.trans (h23.mono HL2.out.size)
    have H3 : Hid (Below W.heap.size W w3 ∧ Row w3 49 5 (.slice ad2 k cap2) k (tgsV (blks k)) ∧ Row w3 49 5 (.slice ad3 k cap3) k (tgsV (blks k))) := ⟨H2.out.1.trans (h23.mono H2.out.1.size), H2.out.2.below h23, hr3⟩
    have hltP : P2 < w3.heap.size := lt_of_block hk2
    have a0 := cell_atT hk2 0
    have a1 := cell_atT hk2 1
    have a2 := cell_atT hk2 2
    have a3 := cell_atT hk2 3
    have a4 := cell_atT hk2 4
    have a5 := cell_atT hk2 5
    have a6 := cell_atT hk2 6
    simp at a0 a1 a2 a3 a4 a5 a6
    clear c0 c1 c2 hb3 hr3 hbY hk2 h23 hP2 hlt
    rw [HP2.out]
    go_wp2_with fail
    refine (HSm.out _ _ _ (H3.out.2.1.below ((Below.refl _ _).alloc (Nat.le_refl _) _)) (H3.out.2.2.below ((Below.refl _ _).alloc (Nat.le_refl _) _))).mono ?_
    rintro x w4 ⟨rfl, hb4⟩
    have h9 : Below w3.heap.size w3 w4 := ((Below.refl _ _).alloc (Nat.le_refl _) _).trans (hb4.mono (by simp))
    have H4 : Hid (Below W.heap.size W w4) := H3.out.1.trans (h9.mono H3.out.1.size)
    have HL4 : Hid (Below w1.heap.size w1 w4) := HL3.out.trans (h9.mono HL3.out.size)
    clear hb4 h9
    go_wp2_with fail
    refine (HAs.out _ HL4.out).mono ?_
    rintro x w5 ⟨rfl, hb5⟩
    have H5 : Hid (Below W.heap.size W w5) := H4.out.trans (hb5.mono H4.out.size)
    have HL5 : Hid (Below w1.heap.size w1 w5) := HL4.out.trans (hb5.mono HL4.out.size)
    clear hb5
    go_wp2_with fail
    refine (HAn.out _ HL5.out).mono ?_
    rintro x w6 ⟨rfl, hb6⟩
    have H6 := hidK hb6
    clear hb6
    go_wp2_with fail
    go_ret
    have h5 := HBW.out.trans (H5.out.mono HBW.out.size)
    have hbo : w.heap.size ≤ b := Nat.le_trans HBW.out.size HF.out.1
    refine ⟨rfl, H6.out.under h5 h5.size (fun q hq => ?_)⟩
    obtain rfl : q = b := by simpa using hq
    exact hbo
end Go.Proofs.YtklonlgmifgckaaGreatDoor
