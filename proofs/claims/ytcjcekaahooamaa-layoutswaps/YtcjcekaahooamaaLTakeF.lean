/-
  Layouts: the trees that lists lay down are fine, and as large as the cells that they take.
-/
import Derived.Test.YtcjcekaahooamaaLSoundA
import Derived.Test.YtcjcekaahooamaaLTakeP
namespace Go.Proofs.Ytcjcekaahooamaa
open Go.RowKit
set_option linter.unusedVariables false

theorem takes_fine : ∀ (m : Nat) (l : List CellV) (d : Int), l.length ≤ m → l.length ≤ 200 → (∀ t r, takeF l d = some (t, r) → t.fine ∧ t.size + r.length = l.length) ∧ (fines (takeAllF l d).1 ∧ sizes (takeAllF l d).1 + (takeAllF l d).2.length = l.length ∧ (takeAllF l d).1.length + (takeAllF l d).2.length ≤ l.length) := by
  intro m
  induction m with
  | zero =>
    intro l d hm _
    have : l = [] := List.length_eq_zero_iff.1 (by omega)
    subst this
    refine ⟨fun t r h => ?_, ?_⟩
    · rw [takeF_nil] at h; cases h
    · rw [takeAllF_eq, takeF_nil]
      exact ⟨trivial, rfl, Nat.le_refl _⟩
  | succ m ih =>
    intro l d hm h200
    have one : ∀ t r, takeF l d = some (t, r) → t.fine ∧ t.size + r.length = l.length := by
      intro t r h
      cases l with
      | nil => rw [takeF_nil] at h; cases h
      | cons c l =>
        rw [List.length_cons] at hm h200
        obtain ⟨_, k1, k2, k3⟩ := ih l (d + 1) (by omega) (by omega)
        rw [takeF_cons] at h
        split at h
        · split at h
          · cases h
            exact ⟨trivial, by show 1 + _ = _; rw [List.length_cons]; omega⟩
          · split at h
            · rename_i h23
              cases h
              refine ⟨⟨h23, by omega, k1⟩, ?_⟩
              show 1 + sizes _ + _ = _
              rw [List.length_cons]
              omega
            · cases h
        · cases h
    refine ⟨one, ?_⟩
    rw [takeAllF_eq]
    cases h : takeF l d with
    | none => exact ⟨trivial, by show 0 + l.length = l.length; omega, by show 0 + l.length ≤ l.length; omega⟩
    | some p =>
      obtain ⟨t, r⟩ := p
      have hr := takeF_shorter l d t r h
      obtain ⟨a1, a2⟩ := one t r h
      obtain ⟨_, k1, k2, k3⟩ := ih r d (by omega) (by omega)
      refine ⟨⟨a1, k1⟩, ?_, ?_⟩
      · show t.size + sizes _ + (takeAllF r d).2.length = l.length
        omega
      · show (takeAllF r d).1.length + 1 + (takeAllF r d).2.length ≤ l.length
        omega

end Go.Proofs.Ytcjcekaahooamaa
