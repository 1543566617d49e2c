/-
  Layouts: the document's layout of one pane; the statement on New, walked.
-/
import Derived.Test.YtcjcekaahooamaaLWorks
namespace Go.Proofs.Ytcjcekaahooamaa
open Go.RowKit
set_option linter.unusedVariables false
set_option maxRecDepth 100000

theorem owns_made (X : World) (g B : Nat) (hg : X.heap.size = g) (c : CellV) (hB : B ≤ g) : CeOwns (X.alloc (.cells c.vals 33)) B (.slice (some ⟨g, 0, none⟩) 1 1) [c] := by
  subst hg
  exact ⟨rfl, .inr ⟨X.heap.size, 1, c.vals, rfl, hB, heap_alloc_new _ _, Nat.le_refl _, by decide, rfl, rfl⟩⟩

theorem ref_lay_leaf (k a b i d x y : Int) (w : World) :
    Calls Try.prog 41 #[.agg #[.int .i64 k, .int .i64 a, .int .i64 b, .int .i64 i, .slice none 0 0], .int .i64 d, .int .i64 x, .int .i64 y] w fun e w' => ∃ u, e = .returned u ∧ CeOwns w' w.heap.size u [⟨d, k, x, y, a, b, i⟩] ∧ Below w.heap.size w w' := by
  have HO : Hid (∀ o, CeOwns ((w.alloc o).alloc (.cells (CellV.vals ⟨d, k, x, y, a, b, i⟩) 33)) w.heap.size (.slice (some ⟨w.heap.size + 1, 0, none⟩) 1 1) [⟨d, k, x, y, a, b, i⟩]) := fun o => owns_made (w.alloc o) (w.heap.size + 1) w.heap.size (by simp) _ (by omega)
  have HB : Hid (∀ o o', Below w.heap.size w ((w.alloc o).alloc o')) := fun o o' => ((Below.refl _ _).alloc (Nat.le_refl _) _).alloc (by simp) _
  go_enter Try.func41, Try.ntmps41
  go_wp2
  go_loopw [9, 10] (fun u v wr => u = .slice (some ⟨w.heap.size + 1, 0, none⟩) 1 1 ∧ v = .int .i64 0 ∧ wr = ((w.alloc (.cells #[.int .i64 k, .int .i64 a, .int .i64 b, .int .i64 i, .slice none 0 0] 48)).alloc (.cells #[.int .i64 d, .int .i64 k, .int .i64 x, .int .i64 y, .int .i64 a, .int .i64 b, .int .i64 i] 33))) (fun _ _ _ => 0)
  case atStart => exact ⟨rfl, rfl, rfl⟩
  case round =>
    obtain ⟨rfl, rfl, rfl⟩ := hrel
    go_wp2
    go_ret
    exact ⟨_, rfl, HO.out _, HB.out _ _⟩
theorem ref_list_leaf (k a b i : Int) (w : World) :
    Calls Try.prog 25 #[.agg #[.int .i64 k, .int .i64 a, .int .i64 b, .int .i64 i, .slice none 0 0]] w fun e w' => ∃ u, e = .returned u ∧ CeOwns w' w.heap.size u [⟨0, k, 0, 0, a, b, i⟩] ∧ Below w.heap.size w w' := by
  have HL : Hid (∀ o, Calls Try.prog 41 #[.agg #[.int .i64 k, .int .i64 a, .int .i64 b, .int .i64 i, .slice none 0 0], .int .i64 0, .int .i64 0, .int .i64 0] (w.alloc o) fun e w' => ∃ u, e = .returned u ∧ CeOwns w' w.heap.size u [⟨0, k, 0, 0, a, b, i⟩] ∧ Below w.heap.size w w') := fun o => (ref_lay_leaf k a b i 0 0 0 (w.alloc o)).mono fun e w' ⟨u, h1, h2, h3⟩ => ⟨u, h1, h2.lower (by simp), below_step ((Below.refl _ _).alloc (Nat.le_refl _) _) h3⟩
  go_enter Try.func25, Try.ntmps25
  go_wp2_with fail
  refine (HL.out _).mono ?_
  rintro e w1 ⟨u, rfl, hu, hb⟩
  have HU : Hid (CeOwns w1 w.heap.size u [⟨0, k, 0, 0, a, b, i⟩]) := hu
  clear hu
  go_wp2
  go_ret
  exact ⟨u, rfl, HU.out, hb⟩

def newL (x y p : Int) : List CellV := if newErr x y p = 0 then [oneCell x y p] else []
theorem new_any (x y p : Int) (w : World) : Calls Try.prog 15 #[.int .i64 x, .int .i64 y, .int .i64 p] w fun e w' => ∃ u, e = .returned (.tuple #[u, .int .i64 (newErr x y p)]) ∧ CeOwns w' w.heap.size u (newL x y p) ∧ Below w.heap.size w w' := by
  by_cases h : newErr x y p = 0
  · unfold newL
    rw [if_pos h, h]
    exact new_good x y p w h
  · unfold newL
    rw [if_neg h]
    exact (new_bad x y p w h).mono fun e w' h2 => ⟨_, h2.1, World.ownsRow_nil _ _ _ _, h2.2 ▸ Below.refl _ _⟩
theorem newL_length (x y p : Int) : (newL x y p).length ≤ 1 := by
  unfold newL
  split <;> simp

end Go.Proofs.Ytcjcekaahooamaa
