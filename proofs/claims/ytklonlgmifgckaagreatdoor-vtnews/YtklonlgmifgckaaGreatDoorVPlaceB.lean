/-
  A letter laid onto its place.
-/
import Derived.Test.YtklonlgmifgckaaGreatDoorVPlace
namespace Go.Proofs.YtklonlgmifgckaaGreatDoor
open Go.RowKit
set_option linter.unusedVariables false
set_option maxRecDepth 100000

/-- No place is a right one. -/
def Whole (gs : List Gl) : Prop := ∀ y ∈ gs, y.l ≠ 0
set_option maxHeartbeats 1000000 in
theorem cut_no {w : World} {g : Nat} {gs : List Gl} (h : GAt w g gs) (hw : Whole gs) (hl : gs.length ≤ 1000) (k : Nat) : Calls Tryz.prog 93 #[.slice (some ⟨g, 0, none⟩) gs.length gs.length, .int .i64 (k : Int)] w fun r w' => r = .returned (.tuple #[]) ∧ Below w.heap.size w w' := by
  by_cases h0 : k = 0
  · subst h0
    clear h hw
    go_enter Tryz.func93, Tryz.ntmps93
    go_wp2_with fail
    go_end0
    exact ⟨rfl, Below.refl _ _⟩
  by_cases hk : k < gs.length
  · obtain ⟨x, hx⟩ : ∃ x, gs[k]? = some x := ⟨_, List.getElem?_eq_getElem hk⟩
    obtain ⟨c0, c1, c2, c3, c4⟩ := h.c hx
    have HI : Hid (∀ W, Calls Tryz.prog 40 #[.agg #[.int .i32 x.l, .int .i64 x.n, .int .i64 x.fo, .int .i64 x.ba, .int .i64 x.ma]] W fun r w' => r = .returned (.bool false) ∧ Below W.heap.size W w') := isRight_no x (hw x (List.mem_of_getElem? hx))
    clear h hw hx
    have hk2 : (0 : Int) < (k : Int) := by omega
    have hk3 : (k : Int) < (gs.length : Int) := by omega
    go_enter Tryz.func93, Tryz.ntmps93
    go_wp2_with (go_at_call 40; refine (HI.out _).mono ?_; rintro e w1 ⟨rfl, hb⟩; have HB := hidK hb; clear hb)
    go_end0
    exact ⟨rfl, HB.out⟩
  · have hk2 : (0 : Int) < (k : Int) := by omega
    have hk3 : ¬ (k : Int) < (gs.length : Int) := by omega
    clear h hw
    go_enter Tryz.func93, Tryz.ntmps93
    go_wp2_with fail
    go_end0
    exact ⟨rfl, Below.refl _ _⟩
set_option maxHeartbeats 1000000 in
theorem span_any {w : World} {g : Nat} {gs : List Gl} (h : GAt w g gs) (hw : Whole gs) (hl : gs.length ≤ 1000) (i j : Nat) (hij : i ≤ j) (hi : i < gs.length) (hj : j ≤ gs.length) : Calls Tryz.prog 77 #[.slice (some ⟨g, 0, none⟩) gs.length gs.length, .int .i64 (i : Int), .int .i64 (j : Int)] w fun r w' => r = .returned (.slice (some ⟨g, i * 5, none⟩) (j - i) (gs.length - i)) ∧ Below w.heap.size w w' := by
  have H1 : Hid (Calls Tryz.prog 93 #[.slice (some ⟨g, 0, none⟩) gs.length gs.length, .int .i64 (i : Int)] w fun r w' => r = .returned (.tuple #[]) ∧ Below w.heap.size w w') := cut_no h hw hl i
  have H2 : Hid (∀ W, Below w.heap.size w W → Calls Tryz.prog 93 #[.slice (some ⟨g, 0, none⟩) gs.length gs.length, .int .i64 (j : Int)] W fun r w' => r = .returned (.tuple #[]) ∧ Below W.heap.size W w') := fun W hW => cut_no (h.keep (hW.block g h.lt)) hw hl j
  have hn1 : ¬ ((gs.length : Int) < (j : Int)) := by omega
  have hn2 : ¬ ((j : Int) < (i : Int)) := by omega
  have hn3 : gs.length ≠ i := by omega
  clear h hw
  go_enter Tryz.func77, Tryz.ntmps77
  go_wp2_with fail
  refine H1.out.mono ?_
  rintro e w1 ⟨rfl, hb1⟩
  have HB1 := hidK hb1
  clear hb1
  go_wp2_with fail
  refine (H2.out _ HB1.out).mono ?_
  rintro e w2 ⟨rfl, hb2⟩
  have HB2 := hidK hb2
  clear hb2
  go_wp2_with fail
  go_ret
  have hB := HB1.out.trans (HB2.out.mono HB1.out.size)
  refine ⟨?_, hB⟩
  simp
end Go.Proofs.YtklonlgmifgckaaGreatDoor
