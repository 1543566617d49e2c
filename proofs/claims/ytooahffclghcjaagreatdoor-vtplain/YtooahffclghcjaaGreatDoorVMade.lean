/-
  New: a screen that is made.
-/
import Derived.Test.YtooahffclghcjaaGreatDoorVReset
namespace Go.Proofs.YtooahffclghcjaaGreatDoor
open Go.RowKit
set_option linter.unusedVariables false
set_option maxRecDepth 100000

/-- A screen at first. -/
def newSc (nw nh lim G T : Nat) : Sc := { w := nw, h := nh, rows := .slice (some ⟨G, 0, none⟩) nh nh, kept := cu0, cur := cu0, ins := false, nl := false, wrap := true, app := false, br := false, hid := false, st := 0, held := .slice none 0 0, b0 := 0, b1 := 0, b2 := 0, b3 := 0, hv := 0, wn := 0, main := .pointer none, lim := lim, past := .slice none 0 0, top := 0, bot := (nh : Int) - 1, stops := .slice (some ⟨T, 0, none⟩) nw nw, last := 0, title := ⟨#[]⟩, bells := 0, ans := .slice none 0 0 }
/-- A new screen in memory. -/
def Fresh (w w' : World) (nw nh lim b G T : Nat) (rs : List (Nat × List Gl)) : Prop :=
  ScAt w' b (newSc nw nh lim G T) ∧ rs.length = nh ∧ RowsAt w' G rs 0 ∧ Alike nw ⟨32, 1, 0, 0, 0⟩ rs ∧ Below w.heap.size w w' ∧ w.heap.size ≤ b ∧ b < G ∧ ∀ r ∈ rs, b < r.1
set_option maxHeartbeats 1000000 in
theorem vtNew_any (a c l : Int) (w : World) : Calls Tryz.prog 8 #[.int .i64 a, .int .i64 c, .int .i64 l] w fun x w' => (sizB a c = false ∧ x = .returned (.tuple #[.pointer none, .int .i64 41]) ∧ w' = w) ∨ (sizB a c = true ∧ (l < 0 ∨ 2000 < l) ∧ x = .returned (.tuple #[.pointer none, .int .i64 1]) ∧ w' = w) ∨ (sizB a c = true ∧ 0 ≤ l ∧ l ≤ 2000 ∧ ∃ b G T rs, ∃ nw nh : Nat, a = (nw : Int) ∧ c = (nh : Int) ∧ x = .returned (.tuple #[.pointer (some ⟨b, 0, none⟩), .int .i64 0]) ∧ Fresh w w' nw nh l.toNat b G T rs) := by
  have HI : Hid (∀ W, Calls Tryz.prog 13 #[.int .i64 a, .int .i64 c] W fun x w' => x = .returned (.bool (sizB a c)) ∧ w' = W) := isSize_any a c
  by_cases hz : sizB a c = true
  · rw [hz] at HI
    have hs := of_decide_eq_true hz
    by_cases hl : l < 0 ∨ 2000 < l
    · rcases hl with hl | hl
      · go_enter Tryz.func8, Tryz.ntmps8
        go_wp2_with (go_at_call 13; refine (HI.out _).mono ?_; rintro e w1 ⟨rfl, rfl⟩)
        go_ret2
        exact .inr (.inl ⟨hz, .inl hl, rfl, rfl⟩)
      · have hl2 : ¬ l < 0 := by omega
        go_enter Tryz.func8, Tryz.ntmps8
        go_wp2_with (go_at_call 13; refine (HI.out _).mono ?_; rintro e w1 ⟨rfl, rfl⟩)
        go_ret2
        exact .inr (.inl ⟨hz, .inr hl, rfl, rfl⟩)
    · obtain ⟨S0, hS0⟩ : ∃ S0 : Sc, { w := a, h := c, rows := .slice none 0 0, kept := cu0, cur := cu0, ins := false, nl := false, wrap := false, app := false, br := false, hid := false, st := 0, held := .slice none 0 0, b0 := 0, b1 := 0, b2 := 0, b3 := 0, hv := 0, wn := 0, main := .pointer none, lim := l, past := .slice none 0 0, top := 0, bot := 0, stops := .slice none 0 0, last := 0, title := ⟨#[]⟩, bells := 0, ans := .slice none 0 0 } = S0 := ⟨_, rfl⟩
      have hat : ScAt (w.alloc (.cells S0.cells 62)) w.heap.size S0 := heap_alloc_new w _
      have HRe : Hid (Calls Tryz.prog 14 #[.pointer (some ⟨w.heap.size, 0, none⟩)] (w.alloc (.cells S0.cells 62)) fun x w' => x = .returned (.tuple #[]) ∧ ∃ G T rs, ∃ nw nh : Nat, a = (nw : Int) ∧ c = (nh : Int) ∧ Fresh w w' nw nh l.toNat w.heap.size G T rs) := by
        refine (reset_any hat none none 0 0 0 0 (by rw [← hS0]) (by rw [← hS0]) (by rw [← hS0]; exact hs.1) (by rw [← hS0]; exact hs.2.1) (by rw [← hS0]; exact hs.2.2.1) (by rw [← hS0]; exact hs.2.2.2)).mono ?_
        rintro x w' ⟨rfl, G, rs, T, nw, nh, h1, h2, h3, h4, h5, h6, h7, h8, h9⟩
        subst hS0
        simp only at h1 h2
        have hsz : (w.alloc (.cells (Sc.cells { w := a, h := c, rows := .slice none 0 0, kept := cu0, cur := cu0, ins := false, nl := false, wrap := false, app := false, br := false, hid := false, st := 0, held := .slice none 0 0, b0 := 0, b1 := 0, b2 := 0, b3 := 0, hv := 0, wn := 0, main := .pointer none, lim := l, past := .slice none 0 0, top := 0, bot := 0, stops := .slice none 0 0, last := 0, title := ⟨#[]⟩, bells := 0, ans := .slice none 0 0 }) 62)).heap.size = w.heap.size + 1 := by simp
        rw [hsz] at h6 h7
        refine ⟨rfl, G, T, rs, nw, nh, h1, h2, ?_, h3, h4, h5, h9.under ((Below.refl _ _).alloc (Nat.le_refl _) _) (by simp) (by simp), Nat.le_refl _, h6, fun r hr => h7 r hr⟩
        unfold newSc
        rw [← h1, ← h2, show ((l.toNat : Nat) : Int) = l by omega]
        exact h8
      clear hat
      subst hS0
      have hl1 : ¬ l < 0 := by omega
      have hl2 : ¬ 2000 < l := by omega
      have HZ := hidK (And.intro hz hs)
      clear hl hz hs
      go_enter Tryz.func8, Tryz.ntmps8
      go_wp2_with (first | (go_at_call 13; refine (HI.out _).mono ?_; rintro e w1 ⟨rfl, rfl⟩) | (go_at_call 14; refine HRe.out.mono ?_; rintro e w2 ⟨rfl, G, T, rs, nw, nh, hn1, hn2, hf⟩; have HF := hidK (And.intro hn1 (And.intro hn2 hf)); clear hn1 hn2 hf))
      go_ret2
      exact .inr (.inr ⟨HZ.out.1, by omega, by omega, _, G, T, rs, nw, nh, HF.out.1, HF.out.2.1, rfl, HF.out.2.2⟩)
  · have hz2 : sizB a c = false := by simpa using hz
    rw [hz2] at HI
    go_enter Tryz.func8, Tryz.ntmps8
    go_wp2_with (go_at_call 13; refine (HI.out _).mono ?_; rintro e w1 ⟨rfl, rfl⟩)
    go_ret2
    exact .inl ⟨hz2, rfl, rfl⟩
end Go.Proofs.YtooahffclghcjaaGreatDoor
