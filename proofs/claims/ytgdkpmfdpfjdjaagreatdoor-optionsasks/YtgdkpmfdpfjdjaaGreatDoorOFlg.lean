/-
  Options: a flag, as the program makes it.
-/
import Derived.Test.YtgdkpmfdpfjdjaaGreatDoorOKnd
namespace Go.Proofs.YtgdkpmfdpfjdjaaGreatDoor
open Go.RowKit
set_option linter.unusedVariables false
set_option maxRecDepth 100000

set_option maxHeartbeats 4000000 in
theorem flag_any {w : World} : Calls Tryz.prog 45 #[] w fun r w' => ∃ v g lv, r = .returned v ∧ ChoK w' w.heap.size lv true v ∧ w.heap.size ≤ g ∧ lv = .slice (some ⟨g, 0, none⟩) 2 2 ∧ w'.heap[g]? = some (.cells #[.string ⟨#[111, 110]⟩, .string ⟨#[111, 102, 102]⟩] 9 (0, 0)) ∧ Below w.heap.size w w' := by
  have hrs := run_store_func
  obtain ⟨q, hq⟩ : ∃ q, w.heap.size = q := ⟨_, rfl⟩
  obtain ⟨W1, hW1⟩ : ∃ W, w.alloc (.cells #[.nilFunc, .bool false, .bool false] 49) = W := ⟨_, rfl⟩
  have HC := fun (X : World) (a : Option Addr) (n c : Nat) => choice_any (w := X) a n c
  go_enter Tryz.func45, Tryz.ntmps45
  go_wp2_with fail
  obtain ⟨g, hg⟩ : ∃ g, W1.heap.size = g := ⟨_, rfl⟩
  obtain ⟨W2, hW2⟩ : ∃ W, W1.alloc (.cells #[.string ⟨#[111, 110]⟩, .string ⟨#[111, 102, 102]⟩] 9) = W := ⟨_, rfl⟩
  have s1 : g = q + 1 := by rw [← hg, ← hW1, ← hq]; simp
  have s2 : W2.heap.size = g + 1 := by rw [← hW2, ← hg]; simp
  have a1 : W2.heap[q]? = some (.cells #[.nilFunc, .bool false, .bool false] 49 (0, 0)) := by rw [← hW2, ← hW1, ← hq]; exact alloc_at (heap_alloc_new _ _) _
  have a2 : W2.heap[g]? = some (.cells #[.string ⟨#[111, 110]⟩, .string ⟨#[111, 102, 102]⟩] 9 (0, 0)) := by rw [← hW2, ← hg]; exact heap_alloc_new _ _
  have b2 : Below w.heap.size w W2 := by
    rw [← hW2, ← hW1]
    exact ((Below.refl _ _).alloc (Nat.le_refl _) _).alloc (by simp) _
  rw [hg, hW2]
  refine (HC W2 _ _ _).mono ?_
  rintro e Y ⟨v, rfl, ⟨b, rfl, hlb, hcb⟩, hbY⟩
  obtain ⟨q2, hq2⟩ : ∃ q, Y.heap.size = q := ⟨_, rfl⟩
  obtain ⟨Y2, hY2⟩ : ∃ W, Y.alloc (.cells #[.nilFunc, .bool false, .bool false] 49) = W := ⟨_, rfl⟩
  obtain ⟨Y3, hY3⟩ : ∃ W, ((Y2.setCell ⟨q2, 0, none⟩ (.func (.func 65) #[] #[.pointer (some ⟨b, 0, none⟩)])).setCell ⟨q2, 1, none⟩ (.bool false)).setCell ⟨q2, 2, none⟩ (.bool false) = W := ⟨_, rfl⟩
  obtain ⟨Y4, hY4⟩ : ∃ W, Y3.setCell ⟨q2, 2, none⟩ (.bool true) = W := ⟨_, rfl⟩
  have lbq : b < q2 := by have := lt_block hcb; omega
  have lgq : g < q2 := by have := hbY.size; omega
  have n2 : Y2.heap[q2]? = some (.cells #[.nilFunc, .bool false, .bool false] 49 (0, 0)) := by rw [← hY2, ← hq2]; exact heap_alloc_new _ _
  have n3 : Y3.heap[q2]? = some (.cells #[.func (.func 65) #[] #[.pointer (some ⟨b, 0, none⟩)], .bool false, .bool false] 49 (0, 0)) := by rw [← hY3]; exact three_at n2
  have n4 : Y4.heap[q2]? = some (.cells #[.func (.func 65) #[] #[.pointer (some ⟨b, 0, none⟩)], .bool false, .bool true] 49 (0, 0)) := by rw [← hY4]; exact put_at n3 2 _
  have up : ∀ {k : Nat} {o : Obj}, Y.heap[k]? = some o → Y4.heap[k]? = some o := fun {k o} h => by
    have hk : k ≠ q2 := by have := lt_block h; omega
    rw [← hY4, ← hY3, ← hY2]
    exact put_other (put_other (put_other (put_other (alloc_at h _) hk _ _) hk _ _) hk _ _) hk _ _
  have m1 : Y4.heap[q]? = some (.cells #[.nilFunc, .bool false, .bool false] 49 (0, 0)) := up ((hbY.block q (by omega)).trans a1)
  have m2 := up ((hbY.block g (by omega)).trans a2)
  have m3 := up hcb
  have hl2 : w.heap.size ≤ q2 := by omega
  have b4 : Below w.heap.size w Y4 := by
    rw [← hY4, ← hY3, ← hY2]
    have h1 : Below w.heap.size w Y := b2.trans (hbY.mono b2.size)
    exact ((((h1.alloc h1.size _).setCell hl2 _).setCell hl2 _).setCell hl2 _).setCell hl2 _
  have M1 := hidK m1
  have M2 := hidK m2
  have M3 := hidK m3
  have B4 := hidK b4
  have HL : Hid (w.heap.size = q ∧ q < b ∧ q < g) := by show _ ∧ _; omega
  have c0 := cell_at n2 0
  have c1 := cell_at n2 1
  have c2 := cell_at n2 2
  have f0 := free_at n2 0
  have f1 := free_at n2 1
  have f2 := free_at n2 2
  have d2 := cell_at n3 2
  have e2 := free_at n3 2
  have g0 := cell_at n4 0
  have g1 := cell_at n4 1
  have g2 := cell_at n4 2
  have h0 := cell_at m1 0
  have h1 := cell_at m1 1
  have h2 := cell_at m1 2
  have i0 := free_at m1 0
  have i1 := free_at m1 1
  have i2 := free_at m1 2
  clear a1 a2 b2 n2 n3 n4 m1 m2 m3 b4 hbY hcb up s1 s2 hlb lbq lgq hl2
  go_wp2_with fail
  refine ret_kind rfl rfl (three_at M1.out) Tryz.underlying49 rfl infoKind rfl ?_
  have hL := HL.out
  have hl : w.heap.size ≤ q := by omega
  refine ⟨_, g, _, rfl, ⟨b, rfl, by omega, ?_⟩, by omega, rfl, ?_, ?_⟩
  · exact put_other (put_other (put_other M3.out (by omega) _ _) (by omega) _ _) (by omega) _ _
  · exact put_other (put_other (put_other M2.out (by omega) _ _) (by omega) _ _) (by omega) _ _
  · exact ((B4.out.setCell hl _).setCell hl _).setCell hl _
end Go.Proofs.YtgdkpmfdpfjdjaaGreatDoor
