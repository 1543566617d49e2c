/-
  Layouts: sound, of every tree.
-/
import Derived.Test.YtcjcekaahooamaaLSoundW
namespace Go.Proofs.Ytcjcekaahooamaa
open Go.RowKit
set_option linter.unusedVariables false
set_option maxRecDepth 20000

theorem sound_few (g : Nat) (b : Box) (k : Int) (sl : Value) (vs : List Value) (B : Nat) (w : World) (hS : SplitAt w g b k sl) (hR : w.ownsRow B 35 1 sl vs.length vs) (h2 : vs.length < 2) :
    Calls Try.prog 101 #[.pointer (some ⟨g, 0, none⟩)] w fun e w' => e = .returned (.bool false) ∧ Below w.heap.size w w' := by
  have c5 : w.cell? ⟨g, 5, none⟩ = some sl := cell_atL hS 5
  obtain ⟨n, hn⟩ : ∃ n, vs.length = n := ⟨_, rfl⟩
  rw [hn] at hR h2
  have hnd : ((n : Int) < 2) := by omega
  clear hS hn
  rcases hR.2 with ⟨rfl, h0⟩ | ⟨pg, cap, cur, rfl, _⟩
  · clear hR h0 hnd h2
    go_enter Try.func101, Try.ntmps101
    go_wp2
    all_goals go_ret
    all_goals exact ⟨rfl, Below.refl _ _⟩
  · clear hR h2
    go_enter Try.func101, Try.ntmps101
    go_wp2
    all_goals go_ret
    all_goals exact ⟨rfl, Below.refl _ _⟩
theorem sound_unfit (g : Nat) (b : Box) (k : Int) (sl : Value) (vs : List Value) (B : Nat) (w : World) (hS : SplitAt w g b k sl) (hR : w.ownsRow B 35 1 sl vs.length vs) (h2 : 2 ≤ vs.length) (hf : (sideB b.w && sideB b.h) = false) :
    Calls Try.prog 101 #[.pointer (some ⟨g, 0, none⟩)] w fun e w' => e = .returned (.bool false) ∧ Below w.heap.size w w' := by
  have c5 : w.cell? ⟨g, 5, none⟩ = some sl := cell_atL hS 5
  have HFi : Hid (Calls Try.prog 90 #[.pointer (some ⟨g, 0, none⟩)] w fun e w' => e = .returned (.bool false) ∧ w = w') := hf ▸ box_fits g b w hS.box
  obtain ⟨n, hn⟩ : ∃ n, vs.length = n := ⟨_, rfl⟩
  rw [hn] at hR h2
  have hnd : ¬ ((n : Int) < 2) := by omega
  clear hS hn
  rcases hR.2 with ⟨rfl, h0⟩ | ⟨pg, cap, cur, rfl, _⟩
  · omega
  · clear hR h2
    go_enter Try.func101, Try.ntmps101
    go_wp2_with (go_at_call 90; refine HFi.out.mono ?_; rintro e w1 ⟨rfl, rfl⟩)
    all_goals go_ret
    all_goals exact ⟨rfl, Below.refl _ _⟩

mutual
/-- Splits are rows or columns, of no more than 200 parts. -/
def Tree.fine : Tree → Prop
  | .leaf _ _ => True
  | .split _ k ts => (k = 2 ∨ k = 3) ∧ ts.length ≤ 200 ∧ fines ts
def fines : List Tree → Prop
  | [] => True
  | t :: ts => t.fine ∧ fines ts
end

theorem l_nA (g : Nat) (W : World) : (nilAhead 241 38 (.pointer (some ⟨g, 0, none⟩)) "mullion/layout.as").run Try.prog W = .ok (some false) W := by kernel_rfl
theorem s_nA (g : Nat) (W : World) : (nilAhead 241 73 (.pointer (some ⟨g, 0, none⟩)) "mullion/layout.as").run Try.prog W = .ok (some false) W := by kernel_rfl
theorem l_nE (g : Nat) (W : World) : (nilAhead 241 38 (.pointer (some ⟨g, 0, none⟩)) "mullion/layout.extent").run Try.prog W = .ok (some false) W := by kernel_rfl
theorem s_nE (g : Nat) (W : World) : (nilAhead 241 73 (.pointer (some ⟨g, 0, none⟩)) "mullion/layout.extent").run Try.prog W = .ok (some false) W := by kernel_rfl

theorem LeafAt.below {W W' : World} {g : Nat} {b : Box} {p : Int} (h : LeafAt W g b p) (hb : Below W.heap.size W W') : LeafAt W' g b p := (hb.block g (lt_of_block h)).trans h

theorem sound_of_calls {P : Program} {F : FuncId} {vs : Array Value} {X : World} {r : Bool} (h : Calls P F vs X fun e w' => e = .returned (.bool r) ∧ X = w') : Calls P F vs X fun e w' => e = .returned (.bool r) ∧ Below X.heap.size X w' := h.mono fun e w' h2 => ⟨h2.1, h2.2 ▸ Below.refl _ _⟩

mutual
theorem Tree.At.partS : ∀ {t : Tree} {w : World} {B : Nat} {v : Value} {fp : List Nat}, t.At w B v fp → t.fine → ∃ T gi Fs Fa, PartS w v t T gi Fs Fa
  | .leaf b p, w, B, v, fp, h, _ => by
    obtain ⟨g, rfl, h2, rfl⟩ := h
    exact ⟨_, g, _, _, { val := rfl, mS := l_sound g, mA := l_as g, mE := l_extent g, fS := l_fS, fA := l_fA, nA := l_nA g, nE := l_nE g, cS := fun X hX => sound_of_calls (leaf_sound g b p X (h2.below hX)), cA := fun k X _ => leaf_as g k X, cE := fun k X hX => box_extent g b k X (h2.box.below hX) }⟩
  | .split b k ts, w, B, v, fp, h, hfi => by
    obtain ⟨g, sl, vs, fs, rfl, h2, h3, h4, rfl⟩ := h
    refine ⟨_, g, _, _, { val := rfl, mS := s_sound g, mA := s_as g, mE := s_extent g, fS := s_fS, fA := s_fA, nA := s_nA g, nE := s_nE g, cS := fun X hX => ?_, cA := fun j X hX => ?_, cE := fun j X hX => box_extent g b j X (h2.box.below hX) }⟩
    · have h2' := h2.below hX
      have h3' := own_below h3 hX
      have h4' := h4.below hX
      have hl := h4.length
      by_cases hn : vs.length < 2
      · refine (sound_few g b k sl vs B X h2' h3' hn).mono fun e w' h5 => ⟨h5.1.trans (ret_boolL ?_), h5.2⟩
        unfold Tree.sound
        rw [decide_eq_false (by omega)]
        rfl
      · cases hq : (sideB b.w && sideB b.h) with
        | false =>
          refine (sound_unfit g b k sl vs B X h2' h3' (by omega) hq).mono fun e w' h5 => ⟨h5.1.trans (ret_boolL ?_), h5.2⟩
          unfold Tree.sound
          rw [hq, Bool.and_false]
          rfl
        | true => exact sound_split g b k hfi.1 sl vs fs ts B X h2' h3' h4' (partsAt.sounds h4' hfi.2.2) (by omega) hfi.2.1 hq
    · refine (split_as g b k sl j X (h2.below hX)).mono fun e w' h5 => ⟨h5.1.trans ?_, h5.2⟩
      show Ending.returned (.pointer (if k = j then _ else _)) = Ending.returned (.pointer (if decide (k = j) = true then _ else _))
      by_cases hk : k = j <;> simp [hk]
theorem partsAt.sounds : ∀ {ts : List Tree} {w : World} {B : Nat} {vs : List Value} {fp : List Nat}, partsAt w B ts vs fp → fines ts → Sounds w vs ts
  | [], w, B, vs, fp, h, _ => by
    intro i t hi
    simp at hi
  | t :: ts, w, B, vs, fp, h, hfi => by
    obtain ⟨v, vs', f, f', rfl, h2, h3, rfl⟩ := h
    have h4 := Tree.At.partS h2 hfi.1
    have h5 := partsAt.sounds h3 hfi.2
    intro i t' hi
    cases i with
    | zero =>
      simp at hi
      subst hi
      obtain ⟨T, gi, Fs, Fa, hp⟩ := h4
      exact ⟨v, T, gi, Fs, Fa, rfl, hp⟩
    | succ i => exact h5 i t' (by simpa using hi)
end

end Go.Proofs.Ytcjcekaahooamaa
