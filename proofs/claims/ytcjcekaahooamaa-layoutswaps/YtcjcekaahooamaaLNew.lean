/-
  Layouts: the layout of one pane.
-/
import Derived.Test.YtcjcekaahooamaaLTellA
namespace Go.Proofs.Ytcjcekaahooamaa
open Go.RowKit
set_option linter.unusedVariables false
set_option maxRecDepth 100000

def newErr (x y p : Int) : Int := if (sideB x && sideB y) = false then 41 else if idB p = false then 43 else 0

theorem new_bad (x y p : Int) (w : World) (hb : ¬ newErr x y p = 0) :
    Calls Try.prog 15 #[.int .i64 x, .int .i64 y, .int .i64 p] w fun e w' => e = .returned (.tuple #[.slice none 0 0, .int .i64 (newErr x y p)]) ∧ w = w' := by
  have H1 : Hid (∀ n W, Calls Try.prog 26 #[.int .i64 n] W fun e w' => e = .returned (.bool (sideB n)) ∧ W = w') := isSide_any
  have H2 : Hid (∀ n W, Calls Try.prog 27 #[.int .i64 n] W fun e w' => e = .returned (.bool (idB n)) ∧ W = w') := isId_any
  unfold newErr at hb ⊢
  obtain ⟨a, ha⟩ : ∃ a, sideB x = a := ⟨_, rfl⟩
  obtain ⟨c, hc⟩ : ∃ c, sideB y = c := ⟨_, rfl⟩
  obtain ⟨d, hd⟩ : ∃ d, idB p = d := ⟨_, rfl⟩
  rw [ha, hc, hd] at hb ⊢
  cases a <;> cases c <;> cases d <;> simp only [Bool.and_true, Bool.and_false, Bool.true_eq_false, if_true, if_false, not_true_eq_false] at hb ⊢
  all_goals
    go_enter Try.func15, Try.ntmps15
    go_wp2_with (first | (go_at_call 26; refine (H1.out _ _).mono ?_; rintro e w1 ⟨rfl, rfl⟩) | (go_at_call 27; refine (H2.out _ _).mono ?_; rintro e w1 ⟨rfl, rfl⟩))
    all_goals go_ret2
    all_goals exact ⟨rfl, rfl⟩

theorem CeOwns.lower {w : World} {B B' : Nat} {v : Value} {l : List CellV} (h : CeOwns w B v l) (hB : B' ≤ B) : CeOwns w B' v l := by
  refine ⟨h.1, ?_⟩
  rcases h.2 with h0 | ⟨g, cap, cur, e, hb, r⟩
  · exact .inl h0
  · exact .inr ⟨g, cap, cur, e, Nat.le_trans hB hb, r⟩

theorem new_good (x y p : Int) (w : World) (hb : newErr x y p = 0) :
    Calls Try.prog 15 #[.int .i64 x, .int .i64 y, .int .i64 p] w fun e w' => ∃ u, e = .returned (.tuple #[u, .int .i64 0]) ∧ CeOwns w' w.heap.size u [⟨0, 1, 0, 0, x, y, p⟩] ∧ Below w.heap.size w w' := by
  have hab : (sideB x && sideB y) = true := by
    cases h : (sideB x && sideB y) with
    | true => rfl
    | false => unfold newErr at hb; rw [h] at hb; simp at hb
  have hd : idB p = true := by
    cases h : idB p with
    | true => rfl
    | false => unfold newErr at hb; rw [h, hab] at hb; simp at hb
  have ha : sideB x = true := (Bool.and_eq_true _ _ ▸ hab).1
  have hc : sideB y = true := (Bool.and_eq_true _ _ ▸ hab).2
  have H1 : Hid (∀ W, Calls Try.prog 26 #[.int .i64 x] W fun e w' => e = .returned (.bool true) ∧ W = w') := fun W => ha ▸ isSide_any x W
  have H3 : Hid (∀ W, Calls Try.prog 26 #[.int .i64 y] W fun e w' => e = .returned (.bool true) ∧ W = w') := fun W => hc ▸ isSide_any y W
  have H2 : Hid (∀ W, Calls Try.prog 27 #[.int .i64 p] W fun e w' => e = .returned (.bool true) ∧ W = w') := fun W => hd ▸ isId_any p W
  have HL : Hid (∀ X, w.heap.size ≤ X.heap.size → ∀ g, LeafAt X g ⟨0, 0, x, y⟩ p → Calls Try.prog 11 #[leafI g] X fun e w' => ∃ u, e = .returned u ∧ CeOwns w' X.heap.size u [⟨0, 1, 0, 0, x, y, p⟩] ∧ But [g] X w') := by
    intro X hX g hg
    refine (lay_any (.leaf ⟨0, 0, x, y⟩ p) 0 (leafI g) [g] X ⟨g, rfl, hg, rfl⟩ (by simp) (by unfold Tree.sound; rw [ha, hc, hd]; rfl) trivial (by show (1 : Nat) ≤ 900; omega)).mono fun e w' h => ?_
    obtain ⟨u, h1, h2, _, h4⟩ := h
    exact ⟨u, h1, h2, h4⟩
  clear hab ha hc hd hb
  go_enter Try.func15, Try.ntmps15
  go_wp2_with fail
  refine (H1.out _).mono ?_
  rintro e w1 ⟨rfl, rfl⟩
  go_wp2_with fail
  refine (H3.out _).mono ?_
  rintro e w1 ⟨rfl, rfl⟩
  go_wp2_with fail
  refine (H2.out _).mono ?_
  rintro e w1 ⟨rfl, rfl⟩
  go_wp2_with fail
  have hX : w.heap.size ≤ (w.alloc (.cells #[.int .i64 0, .int .i64 0, .int .i64 x, .int .i64 y, .int .i64 p] 44)).heap.size := by simp
  refine (HL.out _ hX w.heap.size (heap_alloc_new w _)).mono ?_
  rintro e w2 ⟨u, rfl, hu, hb⟩
  have HU : Hid (CeOwns w2 w.heap.size u [⟨0, 1, 0, 0, x, y, p⟩]) := hu.lower hX
  have HB : Hid (Below w.heap.size w w2) := by
    have h0 : Below w.heap.size w (w.alloc (.cells #[.int .i64 0, .int .i64 0, .int .i64 x, .int .i64 y, .int .i64 p] 44)) := (Below.refl _ w).alloc (Nat.le_refl _) _
    exact ⟨hb.os.trans h0.os, hb.tape.trans h0.tape, hb.output.trans h0.output, Nat.le_trans h0.size hb.size, fun q hq => (hb.block q (by omega) (by simp; omega)).trans (h0.block q hq)⟩
  clear hu hb hX
  go_wp2
  go_ret2
  exact ⟨u, rfl, HU.out, HB.out⟩

end Go.Proofs.Ytcjcekaahooamaa
