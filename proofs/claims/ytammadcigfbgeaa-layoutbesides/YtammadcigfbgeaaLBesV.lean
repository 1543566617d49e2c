/-
  Layouts: the law of Beside.
-/
import Derived.Test.YtammadcigfbgeaaLBesR
import Derived.Test.YtammadcigfbgeaaLNextW
namespace Go.Proofs.Ytammadcigfbgeaa
open Go.RowKit
set_option linter.unusedVariables false
set_option maxRecDepth 100000

set_option maxHeartbeats 1000000 in
theorem besides_walk (v : Value) (l : List CellV) (pane side : Int) (w : World) (hv : CellsIn w v l) (hnil : v = .slice none 0 0 ∨ ∃ a n c, v = .slice (some a) n c) (hlen : l.length * 56 ≤ 140737488351232) : Calls Try.prog 6 #[v, .int .i64 pane, .int .i64 side] w fun x w' => x = .returned (.bool true) ∧ Below w.heap.size w w' := by
  obtain ⟨y, e, hN⟩ := bes_ex l pane side
  have HTw : Hid (Calls Try.prog 13 #[v] w fun e w' => ∃ g cap, e = .returned (.slice (some ⟨g, 0, none⟩) l.length cap) ∧ TwinAt w' g cap l ∧ w.heap.size ≤ g ∧ Below w.heap.size w w') := twin_any v l w hv hnil hlen
  have HP : Hid (∀ u X, CellsIn X u l → Calls Try.prog 21 #[u, .int .i64 pane, .int .i64 side] X fun x w' => x = .returned (.tuple #[.int .i64 y, .bool e]) ∧ Below X.heap.size X w') := fun u X hX => bes_prog u l pane side y e X hX hN
  have HR : Hid (∀ X, Below w.heap.size w X → Calls Try.prog 22 #[v, .int .i64 pane, .int .i64 side] X fun x w' => x = .returned (.tuple #[.int .i64 y, .bool e]) ∧ Below X.heap.size X w') := fun X hX => bes_ref v l pane side y e X (hv.below hX) hN
  have HW : Hid (∀ W, Calls Try.prog 11 #[] W fun e w' => e = .returned (.bool true) ∧ Below W.heap.size W w') := works_true
  have HK : Hid (∀ g cap X, TwinAt X g cap l → Below w.heap.size w X → Calls Try.prog 16 #[.slice (some ⟨g, 0, none⟩) l.length cap, v] X fun e w' => e = .returned (.bool true) ∧ Below X.heap.size X w') := fun g cap X hT hX => kept_any v g cap l X hT (hv.below hX) hlen
  obtain ⟨L, hL⟩ : ∃ L, l.length = L := ⟨_, rfl⟩
  rw [hL] at HTw HK
  have HL : Hid (l.length = L) := hL
  clear hv hnil hlen hN hL
  go_enter Try.func6, Try.ntmps6
  go_wp2_with fail
  refine HTw.out.mono ?_
  rintro x w1 ⟨g, cap, rfl, hT, _, hb1⟩
  have H1 : Hid (TwinAt w1 g cap l ∧ Below w.heap.size w w1) := ⟨hT, hb1⟩
  have HP1 : Hid (Calls Try.prog 21 #[.slice (some ⟨g, 0, none⟩) L cap, .int .i64 pane, .int .i64 side] w1 fun x w' => x = .returned (.tuple #[.int .i64 y, .bool e]) ∧ Below w1.heap.size w1 w') := HP.out _ w1 (by have := hT.cellsIn; rw [HL.out] at this; exact this)
  clear hT hb1 HTw HP
  go_wp2_with fail
  refine HP1.out.mono ?_
  rintro x w2 ⟨rfl, hb2⟩
  have H2 : Hid (TwinAt w2 g cap l ∧ Below w.heap.size w w2) := ⟨H1.out.1.below hb2, below_step H1.out.2 hb2⟩
  clear hb2 H1 HP1
  go_wp2_with fail
  refine (HR.out _ H2.out.2).mono ?_
  rintro x w3 ⟨rfl, hb3⟩
  have H3 : Hid (TwinAt w3 g cap l ∧ Below w.heap.size w w3) := ⟨H2.out.1.below hb3, below_step H2.out.2 hb3⟩
  clear hb3 H2 HR
  go_wp2_with fail
  refine (HW.out _).mono ?_
  rintro x w4 ⟨rfl, hb4⟩
  have H4 : Hid (TwinAt w4 g cap l ∧ Below w.heap.size w w4) := ⟨H3.out.1.below hb4, below_step H3.out.2 hb4⟩
  clear hb4 H3 HW
  go_wp2_with fail
  refine (HK.out _ _ _ H4.out.1 H4.out.2).mono ?_
  rintro x w5 ⟨rfl, hb5⟩
  have H5 : Hid (Below w.heap.size w w5) := below_step H4.out.2 hb5
  clear hb5 H4
  go_wp2
  go_ret
  exact ⟨rfl, H5.out⟩

end Go.Proofs.Ytammadcigfbgeaa
