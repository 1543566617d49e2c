/-
  The document's Blank.
-/
import Derived.Test.YtklonlgmifgckaaGreatDoorVRefN
import Derived.Test.YtklonlgmifgckaaGreatDoorVRefP
import Derived.Test.YtklonlgmifgckaaGreatDoorVTell
namespace Go.Proofs.YtklonlgmifgckaaGreatDoor
open Go.RowKit
set_option linter.unusedVariables false
set_option maxRecDepth 100000

set_option maxHeartbeats 2000000 in
/-- What the document's new screen shows. -/
theorem refBlankN_any (a c : Int) (w : World) : Calls Tryz.prog 6 #[.int .i64 a, .int .i64 c] w fun x w' => Below w.heap.size w w' ∧ ((sizB a c = false ∧ x = .returned (.tuple #[.agg pic0, .int .i64 41])) ∨ (sizB a c = true ∧ ∃ v, ∃ nw nh : Nat, a = (nw : Int) ∧ c = (nh : Int) ∧ x = .returned (.tuple #[.agg #[.int .i64 (nw : Int), .int .i64 (nh : Int), v, .int .i64 0, .int .i64 0, .bool false, .string ⟨#[]⟩], .int .i64 0]) ∧ Row w' 49 5 v (nh * nw) (tgsV (blks (nh * nw))) ∧ ∀ g, v.ownBlock = some g → w.heap.size ≤ g)) := by
  obtain ⟨W, hWe⟩ : ∃ W, w.alloc (.cells pic0 30) = W := ⟨_, rfl⟩
  have HBW : Hid (Below w.heap.size w W) := by rw [← hWe]; exact (Below.refl _ _).alloc (Nat.le_refl _) _
  obtain ⟨B, hB⟩ : ∃ B, w.heap.size = B := ⟨_, rfl⟩
  have HBe := hidK hB
  have HZ : Hid (W.heap[B]? = some (.cells pic0 30 (0, 0))) := by rw [← hWe, ← hB]; exact heap_alloc_new w _
  unfold pic0 at hWe
  have HWe := hidK hWe
  have HN : Hid (∀ W, Calls Tryz.prog 11 #[.int .i64 a, .int .i64 c, .int .i64 0] W fun x w' => (sizB a c = false ∧ x = .returned (.tuple #[.pointer none, .int .i64 41]) ∧ w' = W) ∨ (sizB a c = true ∧ ∃ b v vs, ∃ nw nh : Nat, a = (nw : Int) ∧ c = (nh : Int) ∧ x = .returned (.tuple #[.pointer (some ⟨b, 0, none⟩), .int .i64 0]) ∧ Below W.heap.size W w' ∧ RN W w' nw nh 0 b v vs)) := fun W => by
    by_cases hz : sizB a c = true
    · have hs : 1 ≤ a ∧ a ≤ 1000 ∧ 1 ≤ c ∧ c ≤ 1000 := of_decide_eq_true hz
      obtain ⟨nw, rfl⟩ : ∃ n : Nat, a = (n : Int) := ⟨a.toNat, by omega⟩
      obtain ⟨nh, rfl⟩ : ∃ n : Nat, c = (n : Int) := ⟨c.toNat, by omega⟩
      refine (refNew_ok nw nh 0 W (by omega) (by omega) (by omega) (by omega) (by decide) (by decide)).mono ?_
      rintro x w' ⟨b, v, vs, h1, h2, h3⟩
      exact .inr ⟨hz, b, v, vs, nw, nh, rfl, rfl, h1, h2, h3⟩
    · have hz2 : sizB a c = false := by simpa using hz
      exact (refNew_bad a c 0 W hz2).mono (fun x w' h => .inl ⟨hz2, h.1, h.2⟩)
  clear hWe hB
  go_enter Tryz.func6, Tryz.ntmps6
  go_wp2_with fail
  rw [HWe.out, HBe.out]
  refine (HN.out _).mono ?_
  rintro x w1 (⟨h1, rfl, rfl⟩ | ⟨h1, b, vr, vs, nw, nh, e1, e2, rfl, hbw, hrn⟩)
  · have hz := HZ.out
    have z0 := cell_atT hz 0
    have z1 := cell_atT hz 1
    have z2 := cell_atT hz 2
    have z3 := cell_atT hz 3
    have z4 := cell_atT hz 4
    have z5 := cell_atT hz 5
    have z6 := cell_atT hz 6
    simp [pic0] at z0 z1 z2 z3 z4 z5 z6
    have f0 := free_atT hz 0
    have f1 := free_atT hz 1
    have f2 := free_atT hz 2
    have f3 := free_atT hz 3
    have f4 := free_atT hz 4
    have f5 := free_atT hz 5
    have f6 := free_atT hz 6
    clear hz
    go_wp2_with fail
    have hB1 := HBe.out
    have hq : ∀ i u X, Below w.heap.size w X → Below w.heap.size w (X.setCell ⟨B, i, none⟩ u) := fun i u X hX => hX.setCell (p := ⟨B, i, none⟩) (by simp only; omega) _
    refine ret_cell2 rfl rfl (cs := pic0) (put_at (put_at (put_at (put_at (put_at (put_at (put_at HZ.out 0 _) 1 _) 2 _) 3 _) 4 _) 5 _) 6 _) Tryz.underlying30 rfl infoPic rfl ⟨?_, .inl ⟨h1, rfl⟩⟩
    exact hq _ _ _ (hq _ _ _ (hq _ _ _ (hq _ _ _ (hq _ _ _ (hq _ _ _ (hq _ _ _ HBW.out))))))
  · have hs := of_decide_eq_true h1
    have HP : Hid (Calls Tryz.prog 14 #[.pointer (some ⟨b, 0, none⟩)] w1 fun r w' => ∃ v, r = .returned (.agg #[.int .i64 (nw : Int), .int .i64 (nh : Int), v, .int .i64 0, .int .i64 0, .bool false, .string ⟨#[]⟩]) ∧ Below w1.heap.size w1 w' ∧ Row w' 49 5 v (nh * nw) (tgsV (blks (nh * nw))) ∧ ∀ g, v.ownBlock = some g → w1.heap.size ≤ g) := refPicture_fresh (by omega) (by omega) (by omega) hrn
    have HQ := hidK (And.intro hbw (And.intro h1 (And.intro e1 e2)))
    clear hbw hrn hs h1 e1 e2 HN
    go_wp2_with fail
    refine HP.out.mono ?_
    rintro x w2 ⟨v, rfl, hb2, hr, hy⟩
    have HB2 : Hid (Below W.heap.size W w2) := HQ.out.1.trans (hb2.mono HQ.out.1.size)
    have hz2 : w2.heap[B]? = some (.cells pic0 30 (0, 0)) := (HB2.out.block _ (lt_of_block HZ.out)).trans HZ.out
    have HZ2 := hidK hz2
    obtain ⟨ad, cap, hv, _, _, _, _⟩ := hr.shape
    have HR := hidK (And.intro hr hy)
    have HB12 := hidK hb2
    subst hv
    have z0 := cell_atT hz2 0
    have z1 := cell_atT hz2 1
    have z2 := cell_atT hz2 2
    have z3 := cell_atT hz2 3
    have z4 := cell_atT hz2 4
    have z5 := cell_atT hz2 5
    have z6 := cell_atT hz2 6
    simp [pic0] at z0 z1 z2 z3 z4 z5 z6
    have f0 := free_atT hz2 0
    have f1 := free_atT hz2 1
    have f2 := free_atT hz2 2
    have f3 := free_atT hz2 3
    have f4 := free_atT hz2 4
    have f5 := free_atT hz2 5
    have f6 := free_atT hz2 6
    clear hz2 hr hy hb2
    go_wp2_with fail
    have hB1 := HBe.out
    have hw2 : Below w.heap.size w w2 := HBW.out.trans (HB2.out.mono HBW.out.size)
    have hq : ∀ i u X, Below w.heap.size w X → Below w.heap.size w (X.setCell ⟨B, i, none⟩ u) := fun i u X hX => hX.setCell (p := ⟨B, i, none⟩) (by simp only; omega) _
    refine ret_cell2 rfl rfl (cs := #[.int .i64 (nw : Int), .int .i64 (nh : Int), .slice ad (nh * nw) cap, .int .i64 0, .int .i64 0, .bool false, .string ⟨#[]⟩]) (put_at (put_at (put_at (put_at (put_at (put_at (put_at HZ2.out 0 _) 1 _) 2 _) 3 _) 4 _) 5 _) 6 _) Tryz.underlying30 rfl infoPic rfl ⟨?_, .inr ⟨HQ.out.2.1, _, nw, nh, HQ.out.2.2.1, HQ.out.2.2.2, rfl, ?_, fun g hg => ?_⟩⟩
    · exact hq _ _ _ (hq _ _ _ (hq _ _ _ (hq _ _ _ (hq _ _ _ (hq _ _ _ (hq _ _ _ hw2))))))
    · refine HR.out.1.keep (fun g hg => ?_)
      have hgB : g ≠ B := fun e => by
        obtain ⟨cur, hc⟩ := HR.out.1.block hg
        rw [e, HZ2.out] at hc
        simp at hc
      exact put_other (put_other (put_other (put_other (put_other (put_other (put_other rfl hgB _ _) hgB _ _) hgB _ _) hgB _ _) hgB _ _) hgB _ _) hgB _ _
    · exact Nat.le_trans (Nat.le_trans HBW.out.size HQ.out.1.size) (HR.out.2 g hg)
end Go.Proofs.YtklonlgmifgckaaGreatDoor
