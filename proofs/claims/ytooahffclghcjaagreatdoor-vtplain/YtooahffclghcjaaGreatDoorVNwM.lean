/-
  The law's own: a screen and the document's.
-/
import Derived.Test.YtooahffclghcjaaGreatDoorVNwA
import Derived.Test.YtooahffclghcjaaGreatDoorVRefN
namespace Go.Proofs.YtooahffclghcjaaGreatDoor
open Go.RowKit
set_option linter.unusedVariables false
set_option maxRecDepth 100000

set_option maxHeartbeats 4000000 in
theorem made_any (a c l : Int) (w : World) : Calls Tryz.prog 4 #[.agg #[.int .i64 a, .int .i64 c, .int .i64 l]] w fun x w' => Below w.heap.size w w' ∧ (x = .returned (.tuple #[.pointer none, .pointer none, .bool true]) ∨ (sizB a c = true ∧ ∃ b G T rs rb rv vs, ∃ nw nh lim : Nat, ∃ w0 : World, a = (nw : Int) ∧ c = (nh : Int) ∧ x = .returned (.tuple #[.pointer (some ⟨b, 0, none⟩), .pointer (some ⟨rb, 0, none⟩), .bool true]) ∧ (∀ k ∈ b :: G :: rs.map Prod.fst, w.heap.size ≤ k) ∧ lim = l.toNat ∧ 0 ≤ l ∧ l ≤ 2000 ∧ FrP w' nw nh lim b G T rs ∧ RN w0 w' nw nh l rb rv vs)) := by
  obtain ⟨W, hW⟩ : ∃ W, w.alloc (.cells #[.int .i64 a, .int .i64 c, .int .i64 l] 23) = W := ⟨_, rfl⟩
  have HW := hidK hW
  obtain ⟨B, hB⟩ : ∃ B, w.heap.size = B := ⟨_, rfl⟩
  have HB := hidK hB
  have hX : W.heap[B]? = some (.cells #[.int .i64 a, .int .i64 c, .int .i64 l] 23 (0, 0)) := by rw [← hB, ← hW]; exact heap_alloc_new w _
  have HBW : Hid (Below w.heap.size w W) := by rw [← hW]; exact (Below.refl _ _).alloc (Nat.le_refl _) _
  have HC : Hid (∀ W', Below W.heap.size W W' → W'.cell? ⟨B, 0, none⟩ = some (.int .i64 a) ∧ W'.cell? ⟨B, 1, none⟩ = some (.int .i64 c) ∧ W'.cell? ⟨B, 2, none⟩ = some (.int .i64 l)) := fun W' hb => by
    have h := (hb.block B (lt_of_block hX)).trans hX
    exact ⟨cell_atT h 0, cell_atT h 1, cell_atT h 2⟩
  obtain ⟨c0, c1, c2⟩ := HC.out W (Below.refl _ _)
  have HWk : Hid (∀ W, Calls Tryz.prog 10 #[] W fun x w' => x = .returned (.bool true) ∧ Below W.heap.size W w') := works_true
  have HN : Hid (∀ W, Calls Tryz.prog 8 #[.int .i64 a, .int .i64 c, .int .i64 l] W fun x w' => (sizB a c = false ∧ x = .returned (.tuple #[.pointer none, .int .i64 41]) ∧ w' = W) ∨ (sizB a c = true ∧ (l < 0 ∨ 2000 < l) ∧ x = .returned (.tuple #[.pointer none, .int .i64 1]) ∧ w' = W) ∨ (sizB a c = true ∧ 0 ≤ l ∧ l ≤ 2000 ∧ ∃ b G T rs, ∃ nw nh : Nat, a = (nw : Int) ∧ c = (nh : Int) ∧ x = .returned (.tuple #[.pointer (some ⟨b, 0, none⟩), .int .i64 0]) ∧ Fresh W w' nw nh l.toNat b G T rs)) := vtNew_any a c l
  clear hW hB hX
  go_enter Tryz.func4, Tryz.ntmps4
  go_wp2_with fail
  rw [HW.out, HB.out]
  refine (HN.out _).mono ?_
  rintro x w1 (⟨hz, rfl, rfl⟩ | ⟨hz, hl, rfl, rfl⟩ | ⟨hz, hl1, hl2, b, G, T, rs, nw, nh, e1, e2, rfl, hf⟩)
  · have HR : Hid (∀ W, Calls Tryz.prog 9 #[.int .i64 a, .int .i64 c, .int .i64 l] W fun x w' => x = .returned (.tuple #[.pointer none, .int .i64 41]) ∧ w' = W) := fun W => refNew_bad a c l W hz
    clear hz HN
    go_wp2_with fail
    refine (HR.out _).mono ?_
    rintro x w2 ⟨rfl, rfl⟩
    go_wp2_with fail
    refine (HWk.out _).mono ?_
    rintro x w3 ⟨rfl, hb⟩
    have H3 := hidK hb
    clear hb
    go_wp2_with fail
    go_ret3
    exact ⟨HBW.out.trans (H3.out.mono HBW.out.size), .inl rfl⟩
  · have HR : Hid (∀ W, Calls Tryz.prog 9 #[.int .i64 a, .int .i64 c, .int .i64 l] W fun x w' => x = .returned (.tuple #[.pointer none, .int .i64 1]) ∧ w' = W) := fun W => refNew_arg a c l W hz hl
    clear hz hl HN
    go_wp2_with fail
    refine (HR.out _).mono ?_
    rintro x w2 ⟨rfl, rfl⟩
    go_wp2_with fail
    refine (HWk.out _).mono ?_
    rintro x w3 ⟨rfl, hb⟩
    have H3 := hidK hb
    clear hb
    go_wp2_with fail
    go_ret3
    exact ⟨HBW.out.trans (H3.out.mono HBW.out.size), .inl rfl⟩
  · have hs : 1 ≤ a ∧ a ≤ 1000 ∧ 1 ≤ c ∧ c ≤ 1000 := of_decide_eq_true hz
    obtain ⟨q1, q2, q3, q4, q5, q6, q7, q8⟩ := hf
    have HF : Hid (FrP w1 nw nh l.toNat b G T rs ∧ Below W.heap.size W w1 ∧ ∀ k ∈ b :: G :: rs.map Prod.fst, w.heap.size ≤ k) := ⟨⟨q1, q2, q3, q4⟩, q5, fun k hk => by
      have h8 := HBW.out.size
      simp only [List.mem_cons, List.mem_map] at hk
      rcases hk with rfl | rfl | ⟨r, hr, rfl⟩
      · omega
      · omega
      · have := q8 r hr
        omega⟩
    have HLm := hidK (And.intro hl1 hl2)
    have HR : Hid (∀ W, Calls Tryz.prog 9 #[.int .i64 a, .int .i64 c, .int .i64 l] W fun x w' => ∃ b v vs, x = .returned (.tuple #[.pointer (some ⟨b, 0, none⟩), .int .i64 0]) ∧ Below W.heap.size W w' ∧ RN W w' nw nh l b v vs) := fun W => by
      have h := refNew_ok nw nh l W (by omega) (by omega) (by omega) (by omega) (by omega) (by omega)
      rw [← e1, ← e2] at h
      exact h
    have HE := hidK (And.intro hz (And.intro e1 e2))
    clear c0 c1 c2
    obtain ⟨c0, c1, c2⟩ := HC.out w1 HF.out.2.1
    clear q1 q2 q3 q4 q5 q6 q7 q8 hs hz hl1 hl2 e1 e2 HN
    go_wp2_with fail
    refine (HR.out _).mono ?_
    rintro x w2 ⟨rb, rv, vs, rfl, hb2, hrn⟩
    have H2 := hidK (And.intro hb2 hrn)
    clear hb2 hrn
    go_wp2_with fail
    refine (HWk.out _).mono ?_
    rintro x w3 ⟨rfl, hb⟩
    have H3 := hidK hb
    clear hb
    go_wp2_with fail
    go_ret3
    have hb1 := HBW.out.trans (HF.out.2.1.mono HBW.out.size)
    have hb2 := hb1.trans (H2.out.1.mono hb1.size)
    exact ⟨hb2.trans (H3.out.mono hb2.size), .inr ⟨HE.out.1, b, G, T, rs, rb, rv, vs, nw, nh, l.toNat, w1, HE.out.2.1, HE.out.2.2, rfl, HF.out.2.2, rfl, HLm.out.1, HLm.out.2, (HF.out.1.more H2.out.1).more H3.out, H2.out.2.more H3.out⟩⟩
end Go.Proofs.YtooahffclghcjaaGreatDoor
