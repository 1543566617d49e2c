/-
  Formats: whether a text is of a pattern's tokens.
-/
import Derived.Test.YtgoofifbifdgoaaGreatDoorFHas
import Derived.Deep.LoopGhost
import Derived.Deep.RegionHeld3
namespace Go.Proofs.YtgoofifbifdgoaaGreatDoor
open Go.RowKit
set_option linter.unusedVariables false
set_option maxRecDepth 20000

structure Tok where
  many : Bool
  not : Bool
  mem : List UInt8
  deriving DecidableEq
def Tok.of (t : Tok) (b : UInt8) : Bool := hasF t.mem b != t.not
def TokIn (w : World) (v : Value) (ts : List Tok) : Prop := ∃ ad cap, v = .slice ad ts.length cap ∧ ts.length ≤ 4611686018427387904 ∧ ∀ (i : Nat) (t : Tok), ts[i]? = some t → t.mem.length ≤ 4611686018427387904 ∧ ∃ g o, ad = some ⟨g, o, none⟩ ∧ w.cell? ⟨g, o + i * 3, none⟩ = some (.bool t.many) ∧ w.cell? ⟨g, o + i * 3 + 1, none⟩ = some (.bool t.not) ∧ w.cell? ⟨g, o + i * 3 + 2, none⟩ = some (.string (str t.mem))
set_option maxHeartbeats 1000000 in
theorem stands_any (t : Tok) (hl : t.mem.length ≤ 4611686018427387904) (b : UInt8) (w : World) : Calls Tryz.prog 23 #[.agg #[.bool t.many, .bool t.not, .string (str t.mem)], .int .u8 (b.toNat : Int)] w fun e w' => e = .returned (.bool (t.of b)) ∧ Below w.heap.size w w' := by
  have HH := hidK fun W => has_any t.mem hl b W
  obtain ⟨z, hz⟩ : ∃ z, str t.mem = z := ⟨_, rfl⟩
  have HO : Hid (t.of b = (hasF t.mem b != t.not)) := rfl
  obtain ⟨q, hq⟩ : ∃ q, hasF t.mem b = q := ⟨_, rfl⟩
  obtain ⟨tm, tn, tl⟩ := t
  simp only at hz hq HH HO hl
  rw [hz] at HH ⊢
  rw [hq] at HH HO
  simp only
  clear hz hq hl
  obtain ⟨w1, hw1⟩ : ∃ w1, w.alloc (.cells #[.bool tm, .bool tn, .string z] 51) = w1 := ⟨_, rfl⟩
  have HCell : Hid (∀ X, Below w1.heap.size w1 X → X.cell? ⟨w.heap.size, 1, none⟩ = some (.bool tn) ∧ X.cell? ⟨w.heap.size, 2, none⟩ = some (.string z)) := by
    intro X hX
    have hlt : w.heap.size < w1.heap.size := by rw [← hw1]; simp
    refine ⟨(hX.cell (p := ⟨w.heap.size, 1, none⟩) hlt).trans ?_, (hX.cell (p := ⟨w.heap.size, 2, none⟩) hlt).trans ?_⟩
    · rw [← hw1, World.cell?_alloc_at _ _ _ _ rfl]; rfl
    · rw [← hw1, World.cell?_alloc_at _ _ _ _ rfl]; rfl
  have HB1 : Hid (Below w.heap.size w w1) := by rw [← hw1]; exact (Below.refl _ _).alloc (Nat.le_refl _) _
  go_enter Tryz.func23, Tryz.ntmps23
  go_wp2_with fail
  try rw [hw1]
  obtain ⟨m1, m2⟩ := HCell.out _ (Below.refl _ _)
  have HBx := hidK (Below.refl w1.heap.size w1)
  go_region_held3 (fun X => X.cell? ⟨w.heap.size, 1, none⟩ = some (.bool tn) ∧ X.cell? ⟨w.heap.size, 2, none⟩ = some (.string z)) (go_keep) ((go_at_call 37; refine (HH.out _).mono ?_; rintro e wS ⟨rfl, hbS⟩; have HBn : Hid (Below w1.heap.size w1 wS) := (by first | exact hbS | exact (Below.drew (Below.refl _ _)).trans hbS); clear hbS; clear HBx; have HBx := hidK HBn.out; clear HBn; obtain ⟨m1, m2⟩ := HCell.out wS HBx.out))
  all_goals (try go_wp2)
  all_goals go_ret
  all_goals refine ⟨ret_bool ?_, HB1.out.trans (by first | exact HBx.out.mono HB1.out.size | exact HBx.out.drew.mono HB1.out.size)⟩
  all_goals (rw [HO.out]; try rfl)
end Go.Proofs.YtgoofifbifdgoaaGreatDoor
