/-
  The walk of QueueNews.
-/
import Derived.Test.YtimigbhgghcbeaaQMade
import Derived.WalkKit
import Derived.Deep.RegionHeld3
namespace Go.Proofs.Ytimigbhgghcbeaa
open Go.RowKit
set_option linter.unusedVariables false
set_option maxRecDepth 100000

theorem under_one {w w1 : World} {o : Obj} (h : Below (w.alloc o).heap.size (w.alloc o) w1) : Below w.heap.size w w1 ∧ w1.heap[w.heap.size]? = some o ∧ w.heap.size + 1 ≤ w1.heap.size := by
  have h3 : (w.alloc o).heap.size = w.heap.size + 1 := by simp
  rw [h3] at h
  exact ⟨((Below.refl _ w).alloc (Nat.le_refl _) o).trans (h.mono (by omega)), (h.block _ (by omega)).trans (heap_alloc_new w _), by have := h.size; omega⟩

set_option maxHeartbeats 2000000 in
theorem queueNews_walk (lim : Int) (w : World) : Calls Try.prog 6 #[.int .i64 lim] w fun x w' => x = .returned (.bool true) ∧ Below w.heap.size w w' := by
  have HM : Hid (∀ W, Calls Try.prog 9 #[.int .i64 lim] W fun x w' => Pair W w' x) := made_any lim
  go_enter Try.func6, Try.ntmps6
  go_wp2_with fail
  refine (HM.out _).mono ?_
  rintro x w1 ⟨hb1, rfl | ⟨n, F, b, hn, rfl, hp⟩⟩
  · have HB : Hid (Below w.heap.size w w1 ∧ w.heap.size ≤ w1.heap.size) := ⟨hb1, hb1.size⟩
    clear hb1
    go_wp2_with fail
    all_goals go_ret
    all_goals exact ⟨rfl, by have := HB.out.2; repeat (first | exact HB.out.1 | apply Below.drew | refine Below.setCell ?_ (by first | omega | (simp <;> omega)) _ | refine Below.alloc ?_ (by first | omega | (simp <;> omega)) _)⟩
  · have HB : Hid (Below w.heap.size w w1 ∧ w.heap.size ≤ w1.heap.size) := ⟨hb1, hb1.size⟩
    have HP : Hid (∀ X, Below w1.heap.size w1 X → Play w X F b (newQ n)) := fun X hX => hp.more hX
    have HAs : Hid (∀ X, Below w1.heap.size w1 X → Calls Try.prog 18 #[.pointer (some ⟨b, 0, none⟩), .agg #[.int .i64 (n : Int), .slice none 0 0, .bool false], .int .i64 lim] X fun x w' => x = .returned (.bool true) ∧ Below w1.heap.size w1 w') := fun X hX => (as_any (HP.out X hX).at_ (newR X n) lim).mono fun x w' h => ⟨h.1, hX.trans (h.2.mono hX.size)⟩
    have HDr : Hid (∀ X, Below w1.heap.size w1 X → Calls Try.prog 14 #[.pointer (some ⟨b, 0, none⟩), .int .i64 1] X fun x w' => x = .returned (.string ⟨#[]⟩) ∧ Below w.heap.size w w') := fun X hX => (drain_any 1 (HP.out X hX).at_ (by decide) (by decide)).mono fun x w' h => ⟨h.1, by obtain ⟨F', h4⟩ := (HP.out X hX).went h.2; exact h4.below⟩
    clear hb1 hp
    go_wp2_with fail
    refine (HAs.out _ (by repeat (first | exact Below.refl _ _ | apply Below.drew | refine Below.setCell ?_ (by first | omega | simp) _ | refine Below.alloc ?_ (by first | omega | simp) _))).mono ?_
    rintro x w2 ⟨rfl, hb2⟩
    have HB2 : Hid (Below w1.heap.size w1 w2) := hb2
    clear hb2
    go_wp2_with fail
    refine (HDr.out _ HB2.out).mono ?_
    rintro x w3 ⟨rfl, hb3⟩
    have HB3 : Hid (Below w.heap.size w w3) := hb3
    clear hb3
    go_wp2_with fail
    all_goals go_ret
    all_goals exact ⟨rfl, HB3.out⟩

end Go.Proofs.Ytimigbhgghcbeaa
