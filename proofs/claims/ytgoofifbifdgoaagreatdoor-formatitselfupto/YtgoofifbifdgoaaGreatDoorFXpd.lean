/-
  Formats: Expand.
-/
import Derived.Test.YtgoofifbifdgoaaGreatDoorFAsA
namespace Go.Proofs.YtgoofifbifdgoaaGreatDoor
open Go.RowKit
set_option linter.unusedVariables false
set_option maxRecDepth 100000

/-- What Expand answers. -/
def ansF (r : Except Int (List UInt8)) : Ending := match r with
  | .ok s => .returned (.tuple #[.string (str s), .int .i64 0])
  | .error k => .returned (.tuple #[.string (str []), .int .i64 k])
set_option maxHeartbeats 4000000 in
theorem exp_any {w : World} {sv : Value} {vs : Vars} (hv : VarsIn w sv vs) (hm : ∃ m, w.cell? ⟨1, 0, none⟩ = some (.int .i64 m)) (hs : ∀ p ∈ vs, p.2.length ≤ 2147483647) (hg : w.cell? ⟨0, 0, none⟩ = some (rtv 41))
    (l : List UInt8) (hl : l.length ≤ 2147483647) (res : Except Int (List UInt8)) (h : sayF vs 16 l = some res) :
    Calls Tryz.prog 11 #[.string (str l), sv] w fun e w' => e = ansF res ∧ Below w.heap.size w w' := by
  have HN := hidK (new_any hv)
  have HX : Hid (∀ (w1 : World) (xb : Nat), Below w.heap.size w w1 → XAll w1 xb vs → Calls Tryz.prog 20 #[.pointer (some ⟨xb, 0, none⟩), .string (str l), .int .i64 0] w1 fun e w' => Out res e ∧ Below w1.heap.size w1 w') := by
    intro w1 xb h1 h2
    obtain ⟨m, hm⟩ := hm
    exact say_any 16 (Nat.le_refl _) w1 xb vs ⟨h2, ⟨m, (h1.cell (p := ⟨1, 0, none⟩) (World.block_lt_of_cell? w _ hm)).trans hm⟩, hs⟩ l hl res h
  have HG := hidK hg
  obtain ⟨z, hz⟩ : ∃ z, str l = z := ⟨_, rfl⟩
  rw [hz] at HX ⊢
  clear hv hm hs hg h hl hz
  go_enter Tryz.func11, Tryz.ntmps11
  go_wp2_with fail
  refine HN.out.mono ?_
  rintro e w1 ⟨xb, rfl, hb1, hx1⟩
  have HE := hidK (HX.out w1 xb hb1 hx1)
  have HB1 := hidK hb1
  clear hb1 hx1 HN
  go_wp2_with fail
  refine HE.out.mono ?_
  cases res with
  | ok s =>
    rintro e w2 ⟨ho, hb2⟩
    have ho' : e = .returned (.tuple #[.string (str s), .nilIface]) := ho
    subst ho'
    have HB2 := hidK (HB1.out.trans (hb2.mono HB1.out.size))
    clear ho hb2
    have HA := hidK fun t w => as_nil t w
    obtain ⟨zs, hzs⟩ : ∃ zs, str s = zs := ⟨_, rfl⟩
    have HZ := hidK hzs
    rw [hzs]
    clear hzs
    go_wp2_with fail
    refine (HA.out _ _).mono ?_
    rintro e w3 ⟨rfl, rfl⟩
    go_wp2_with fail
    all_goals go_ret2
    all_goals exact ⟨by rw [← HZ.out]; rfl, HB2.out.alloc HB2.out.size _⟩
  | error k =>
    rintro e w2 ⟨⟨v, rfl, hv⟩, hb2⟩
    have hB2 := HB1.out.trans (hb2.mono HB1.out.size)
    have HA := hidK (as_any k hv ⟨w2.heap.size, 0, none⟩ (.int .i64 0) (w2.alloc (.cells #[.int .i64 0] 47))
      (by rw [World.cell?_alloc_lt _ _ ⟨0, 0, none⟩ (Nat.lt_of_lt_of_le (World.block_lt_of_cell? w _ HG.out) hB2.size)]; exact (hB2.cell (p := ⟨0, 0, none⟩) (World.block_lt_of_cell? w _ HG.out)).trans HG.out)
      (by rw [World.cell?_alloc_at _ _ _ _ rfl]; rfl) (by simp))
    have HB2 := hidK hB2
    clear hb2 hv hB2
    go_wp2_with fail
    refine HA.out.mono ?_
    rintro e w3 ⟨rfl, W, hW, rfl⟩
    have hk : ((W.alloc (.cells #[.int .i64 k] 47)).setCell ⟨w2.heap.size, 0, none⟩ (.int .i64 k)).cell? ⟨w2.heap.size, 0, none⟩ = some (.int .i64 k) := by
      have hlt : w2.heap.size < W.heap.size := by have := hW.size; simp at this; omega
      refine World.cell?_setCell_same (u := .int .i64 0) _ _ _ ?_
      rw [World.cell?_alloc_lt _ _ ⟨w2.heap.size, 0, none⟩ hlt, hW.cell (p := ⟨w2.heap.size, 0, none⟩) (by simp), World.cell?_alloc_at _ _ _ _ rfl]
      rfl
    have HW : Hid (Below w.heap.size w ((W.alloc (.cells #[.int .i64 k] 47)).setCell ⟨w2.heap.size, 0, none⟩ (.int .i64 k))) := by
      have h1 := HB2.out.alloc HB2.out.size (.cells #[.int .i64 0] 47)
      have h2 := h1.trans (hW.mono h1.size)
      exact (h2.alloc h2.size _).setCell HB2.out.size _
    obtain ⟨w4, hw4⟩ : ∃ w4, (W.alloc (.cells #[.int .i64 k] 47)).setCell ⟨w2.heap.size, 0, none⟩ (.int .i64 k) = w4 := ⟨_, rfl⟩
    rw [hw4] at hk HW ⊢
    clear hw4 hW HA
    go_wp2_with fail
    have hk2 : w4.drew.cell? ⟨w2.heap.size, 0, none⟩ = some (.int .i64 k) := hk
    go_region
    all_goals go_wp2
    all_goals go_ret2
    all_goals exact ⟨rfl, by first | exact HW.out | exact HW.out.drew⟩
end Go.Proofs.YtgoofifbifdgoaaGreatDoor
