/-
  The law's own functions: made.
-/
import Derived.Test.YtkpnolkbheoocaaQWor
import Derived.WalkKit
import Derived.Deep.RegionLaw
import Derived.Deep.RegionHeld3
namespace Go.Proofs.Ytkpnolkbheoocaa
open Go.RowKit
set_option linter.unusedVariables false
set_option maxRecDepth 100000

/-- What made leaves: neither, or both. -/
def Pair (w w' : World) (x : Ending) : Prop :=
  Below w.heap.size w w' ∧ (x = .returned (.tuple #[.pointer none, .agg #[.int .i64 0, .slice none 0 0, .bool false], .bool true]) ∨ ∃ (n : Nat) (F : List Nat) (b : Nat), n ≤ 65536 ∧ x = .returned (.tuple #[.pointer (some ⟨b, 0, none⟩), .agg #[.int .i64 (n : Int), .slice none 0 0, .bool false], .bool true]) ∧ Play w w' F b (newQ n))
theorem newR (w : World) (n : Nat) : RIn w (.slice none 0 0) [] (newQ n) := ⟨Row.nil _ _ _, (fun i hi => by cases hi), rfl, rfl⟩

set_option maxHeartbeats 4000000 in
theorem made_any (lim : Int) (w : World) : Calls Try.prog 6 #[.int .i64 lim] w fun x w' => Pair w w' x := by
  have HN : Hid (∀ W, Calls Try.prog 17 #[.int .i64 lim] W fun x w' => Made W w' lim x) := new_any lim
  have HR : Hid (∀ W, Calls Try.prog 18 #[.int .i64 lim] W fun x w' => Below W.heap.size W w' ∧ ((lim < 0 ∨ lim > 65536) ∧ x = .returned (.tuple #[.agg #[.int .i64 0, .slice none 0 0, .bool false], .int .i64 1]) ∨ (0 ≤ lim ∧ lim ≤ 65536) ∧ x = .returned (.tuple #[.agg #[.int .i64 lim, .slice none 0 0, .bool false], .int .i64 0]))) := refNew_any lim
  have HWo : Hid (∀ W, Calls Try.prog 19 #[] W fun x w' => x = .returned (.bool true) ∧ Below W.heap.size W w') := works_any
  obtain ⟨W1, hW1e⟩ : ∃ W1, w.alloc (.cells #[.int .i64 0, .slice none 0 0, .bool false] 26) = W1 := ⟨_, rfl⟩
  obtain ⟨N0, hN0⟩ : ∃ N0, w.heap.size = N0 := ⟨_, rfl⟩
  have HW1 : Hid (w.alloc (.cells #[.int .i64 0, .slice none 0 0, .bool false] 26) = W1) := hW1e
  have HN0 : Hid (w.heap.size = N0) := hN0
  have hW1 : Below w.heap.size w W1 := by rw [← hW1e]; exact (Below.refl _ _).alloc (Nat.le_refl _) _
  have hW0 : W1.heap[N0]? = some (.cells #[.int .i64 0, .slice none 0 0, .bool false] 26 (0, 0)) ∧ N0 < W1.heap.size := by
    have h := heap_alloc_new w (.cells #[.int .i64 0, .slice none 0 0, .bool false] 26)
    rw [hW1e, hN0] at h
    exact ⟨h, lt_of_block h⟩
  clear hW1e hN0
  go_enter Try.func6, Try.ntmps6
  go_wp2_with fail
  rw [HW1.out]
  refine (HN.out _).mono ?_
  rintro x w1 ⟨hb1, ⟨hE, rfl⟩ | ⟨n, hn, hn1, b, F, rfl, hq, hf⟩⟩
  · have HW0b := hidK (And.intro hW0 hW1)
    have HEe := hidK hE
    clear hW0 hW1 hE
    go_wp2_with fail
    refine (HR.out _).mono ?_
    rintro x w2 ⟨hb2, ⟨_, rfl⟩ | ⟨hE2, rfl⟩⟩
    · go_wp2_with fail
      rw [HN0.out]
      obtain ⟨hW0, hW1⟩ := HW0b.out
      obtain ⟨W4, hW4⟩ : ∃ W4, w2.alloc (.cells #[.int .i64 0, .slice none 0 0, .bool false] 26) = W4 := ⟨_, rfl⟩
      obtain ⟨R, hR⟩ : ∃ R, w2.heap.size = R := ⟨_, rfl⟩
      have hb4 : Below w2.heap.size w2 W4 := by rw [← hW4]; exact (Below.refl _ _).alloc (Nat.le_refl _) _
      have hr4 : W4.heap[R]? = some (.cells #[.int .i64 0, .slice none 0 0, .bool false] 26 (0, 0)) := by rw [← hW4, ← hR]; exact heap_alloc_new w2 _
      have hz4 : W4.heap[N0]? = some (.cells #[.int .i64 0, .slice none 0 0, .bool false] 26 (0, 0)) := (hb4.block N0 (by have := hb1.size; have := hb2.size; have := hW0.2; omega)).trans ((hb2.block N0 (by have := hb1.size; have := hW0.2; omega)).trans ((hb1.block N0 (by have := hW0.2; omega)).trans hW0.1))
      have HL : Hid (∀ X, Below W4.heap.size W4 X → (X.cell? ⟨R, 0, none⟩ = some (.int .i64 0) ∧ X.cell? ⟨R, 1, none⟩ = some (.slice none 0 0) ∧ X.cell? ⟨R, 2, none⟩ = some (.bool false)) ∧ X.heap[N0]? = some (.cells #[.int .i64 0, .slice none 0 0, .bool false] 26 (0, 0))) := fun X hX => by
        have h1 := (hX.block R (lt_of_block hr4)).trans hr4
        exact ⟨⟨cell_atT h1 0, cell_atT h1 1, cell_atT h1 2⟩, (hX.block N0 (lt_of_block hz4)).trans hz4⟩
      have HF : Hid (∀ X, Below W4.heap.size W4 X → Below w1.heap.size w1 X ∧ Below w.heap.size w X) := fun X hX => by
        have h1 : Below w1.heap.size w1 X := hb2.trans ((hb4.mono hb2.size).trans (hX.mono (Nat.le_trans hb2.size hb4.size)))
        exact ⟨h1, hW1.trans ((hb1.mono hW1.size).trans (h1.mono (Nat.le_trans hW1.size hb1.size)))⟩
      have hW4h : Hid (w2.alloc (.cells #[.int .i64 0, .slice none 0 0, .bool false] 26) = W4) := hW4
      have hRh : Hid (w2.heap.size = R) := hR
      obtain ⟨⟨r0, r1, r2⟩, -⟩ := HL.out W4 (Below.refl _ _)
      have HBX : Hid (Below W4.heap.size W4 W4.drew) := (Below.refl _ _).drew
      rw [hW4h.out, hRh.out]
      have hne : N0 ≠ R := by have := hW0.2; have := hb1.size; have := hb2.size; have := hRh.out; omega
      have hne2 : R ≠ N0 := Ne.symm hne
      have HK := hidK (And.intro hW0 (And.intro hW1 (And.intro hb1 hb2)))
      clear hW4 hR hb4 hr4 hz4 hW0 hW1 hb1 hb2
      go_region_held3 (fun X => X.cell? ⟨R, 0, none⟩ = some (.int .i64 0) ∧ X.cell? ⟨R, 1, none⟩ = some (.slice none 0 0) ∧ X.cell? ⟨R, 2, none⟩ = some (.bool false)) (go_keep) (first
        | (go_at_call 19; refine (HWo.out _).mono ?_; rintro x w5 ⟨rfl, hb5⟩; have HB5 : Hid (Below W4.heap.size W4 w5) := HBX.out.trans (hb5.mono HBX.out.size); obtain ⟨⟨r0, r1, r2⟩, hz5⟩ := HL.out w5 HB5.out; have HZ5 := hidK hz5; obtain ⟨z0, z1, z2, zf⟩ := res_cells hz5; clear hb5 hz5))
      all_goals (try go_wp2_with fail)
      all_goals (have SF := stored3 (x := .int .i64 0) (y := .slice none 0 0) (z := .bool false) HZ5.out)
      all_goals (have t0 := cell_atT SF.1 0; have t1 := cell_atT SF.1 1; have t2 := cell_atT SF.1 2)
      all_goals refine bodyPost_ret (v := .tuple #[.pointer none, .agg #[.int .i64 0, .slice none 0 0, .bool false], .bool true]) (by simp [results, Try.results6, go_sem, t0, t1, t2]) rfl ?_
      all_goals (have hbw := (HF.out w5 HB5.out).2.trans (SF.2.2 w.heap.size (by have := HN0.out; omega)))
      all_goals exact ⟨hbw, .inl rfl⟩
    · exact absurd HEe.out (by omega)
  · have HNn := hidK hn
    have HQf := hidK (And.intro hq hf)
    have HW0b := hidK (And.intro hW0 hW1)
    clear hn hq hf hW0 hW1
    go_wp2_with fail
    refine (HR.out _).mono ?_
    rintro x w2 ⟨hb2, ⟨hE2, rfl⟩ | ⟨hE2, rfl⟩⟩
    · exact absurd hE2 (by have := HNn.out; omega)
    · go_wp2_with fail
      rw [HN0.out]
      obtain ⟨hW0, hW1⟩ := HW0b.out
      have hn := HNn.out
      subst hn
      obtain ⟨W4, hW4⟩ : ∃ W4, w2.alloc (.cells #[.int .i64 (n : Int), .slice none 0 0, .bool false] 26) = W4 := ⟨_, rfl⟩
      obtain ⟨R, hR⟩ : ∃ R, w2.heap.size = R := ⟨_, rfl⟩
      have hb4 : Below w2.heap.size w2 W4 := by rw [← hW4]; exact (Below.refl _ _).alloc (Nat.le_refl _) _
      have hr4 : W4.heap[R]? = some (.cells #[.int .i64 (n : Int), .slice none 0 0, .bool false] 26 (0, 0)) := by rw [← hW4, ← hR]; exact heap_alloc_new w2 _
      have hz4 : W4.heap[N0]? = some (.cells #[.int .i64 0, .slice none 0 0, .bool false] 26 (0, 0)) := (hb4.block N0 (by have := hb1.size; have := hb2.size; have := hW0.2; omega)).trans ((hb2.block N0 (by have := hb1.size; have := hW0.2; omega)).trans ((hb1.block N0 (by have := hW0.2; omega)).trans hW0.1))
      have HL : Hid (∀ X, Below W4.heap.size W4 X → (X.cell? ⟨R, 0, none⟩ = some (.int .i64 (n : Int)) ∧ X.cell? ⟨R, 1, none⟩ = some (.slice none 0 0) ∧ X.cell? ⟨R, 2, none⟩ = some (.bool false)) ∧ X.heap[N0]? = some (.cells #[.int .i64 0, .slice none 0 0, .bool false] 26 (0, 0))) := fun X hX => by
        have h1 := (hX.block R (lt_of_block hr4)).trans hr4
        exact ⟨⟨cell_atT h1 0, cell_atT h1 1, cell_atT h1 2⟩, (hX.block N0 (lt_of_block hz4)).trans hz4⟩
      have HF : Hid (∀ X, Below W4.heap.size W4 X → Below w1.heap.size w1 X ∧ Below w.heap.size w X) := fun X hX => by
        have h1 : Below w1.heap.size w1 X := hb2.trans ((hb4.mono hb2.size).trans (hX.mono (Nat.le_trans hb2.size hb4.size)))
        exact ⟨h1, hW1.trans ((hb1.mono hW1.size).trans (h1.mono (Nat.le_trans hW1.size hb1.size)))⟩
      have hW4h : Hid (w2.alloc (.cells #[.int .i64 (n : Int), .slice none 0 0, .bool false] 26) = W4) := hW4
      have hRh : Hid (w2.heap.size = R) := hR
      obtain ⟨⟨r0, r1, r2⟩, -⟩ := HL.out W4 (Below.refl _ _)
      have HBX : Hid (Below W4.heap.size W4 W4.drew) := (Below.refl _ _).drew
      rw [hW4h.out, hRh.out]
      have hne : N0 ≠ R := by have := hW0.2; have := hb1.size; have := hb2.size; have := hRh.out; omega
      have hne2 : R ≠ N0 := Ne.symm hne
      have HK := hidK (And.intro hW0 (And.intro hW1 (And.intro hb1 hb2)))
      clear hW4 hR hb4 hr4 hz4 hW0 hW1 hb1 hb2
      go_region_held3 (fun X => X.cell? ⟨R, 0, none⟩ = some (.int .i64 (n : Int)) ∧ X.cell? ⟨R, 1, none⟩ = some (.slice none 0 0) ∧ X.cell? ⟨R, 2, none⟩ = some (.bool false)) (go_keep) (first
        | (go_at_call 19; refine (HWo.out _).mono ?_; rintro x w5 ⟨rfl, hb5⟩; have HB5 : Hid (Below W4.heap.size W4 w5) := HBX.out.trans (hb5.mono HBX.out.size); obtain ⟨⟨r0, r1, r2⟩, hz5⟩ := HL.out w5 HB5.out; have HZ5 := hidK hz5; obtain ⟨z0, z1, z2, zf⟩ := res_cells hz5; clear hb5 hz5))
      all_goals (try go_wp2_with fail)
      all_goals (have SF := stored3 (x := .int .i64 (n : Int)) (y := .slice none 0 0) (z := .bool false) HZ5.out)
      all_goals (have t0 := cell_atT SF.1 0; have t1 := cell_atT SF.1 1; have t2 := cell_atT SF.1 2)
      all_goals refine bodyPost_ret (v := .tuple #[.pointer (some ⟨b, 0, none⟩), .agg #[.int .i64 (n : Int), .slice none 0 0, .bool false], .bool true]) (by simp [results, Try.results6, go_sem, t0, t1, t2]) rfl ?_
      all_goals (have hbw := (HF.out w5 HB5.out).2.trans (SF.2.2 w.heap.size (by have := HN0.out; omega)))
      all_goals exact ⟨hbw, .inr ⟨n, F, b, hn1, rfl, (HQf.out.1.below (HF.out w5 HB5.out).1).keep fun k hk => SF.2.1 k (fun e => by have h1 := HQf.out.2 k hk; have h2 := HK.out.1.2; omega), hbw, fun k hk => by have h1 := HQf.out.2 k hk; have h2 := HK.out.2.1.size; omega⟩⟩

end Go.Proofs.Ytkpnolkbheoocaa
