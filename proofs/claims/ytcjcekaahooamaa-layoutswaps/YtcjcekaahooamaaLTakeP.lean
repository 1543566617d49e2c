/-
  Layouts, by plain functions: what a list begins with, without fuel.
-/
import Derived.Test.YtcjcekaahooamaaLPure
namespace Go.Proofs.Ytcjcekaahooamaa
open Go.RowKit
set_option linter.unusedVariables false

theorem takes_shorter : ∀ (n : Nat), (∀ l d t r, takeT n l d = some (t, r) → r.length < l.length) ∧ (∀ l d, (takeAllT n l d).2.length ≤ l.length)
  | 0 => by
    refine ⟨fun l d t r h => ?_, fun l d => ?_⟩
    · unfold takeT at h; cases h
    · unfold takeAllT; exact Nat.le_refl _
  | n + 1 => by
    obtain ⟨ih1, ih2⟩ := takes_shorter n
    refine ⟨fun l d t r h => ?_, fun l d => ?_⟩
    · cases l with
      | nil => unfold takeT at h; cases h
      | cons c l =>
        unfold takeT at h
        split at h
        · split at h
          · cases h; exact Nat.lt_succ_self _
          · split at h
            · cases h
              exact Nat.lt_succ_of_le (ih2 l (d + 1))
            · cases h
        · cases h
    · unfold takeAllT
      split
      · exact Nat.le_refl _
      · rename_i t r h
        exact Nat.le_trans (ih2 r d) (Nat.le_of_lt (ih1 l d t r h))

theorem takes_fuel : ∀ (m : Nat), (∀ n n' l d, l.length < m → 2 * l.length + 1 ≤ n → 2 * l.length + 1 ≤ n' → takeT n l d = takeT n' l d) ∧ (∀ n n' l d, l.length < m → 2 * l.length + 2 ≤ n → 2 * l.length + 2 ≤ n' → takeAllT n l d = takeAllT n' l d)
  | 0 => ⟨fun _ _ _ _ h => by omega, fun _ _ _ _ h => by omega⟩
  | m + 1 => by
    obtain ⟨ih1, ih2⟩ := takes_fuel m
    have one : ∀ n n' l d, l.length < m + 1 → 2 * l.length + 1 ≤ n → 2 * l.length + 1 ≤ n' → takeT n l d = takeT n' l d := by
      intro n n' l d hl hn hn'
      obtain ⟨k, rfl⟩ : ∃ k, n = k + 1 := ⟨n - 1, by omega⟩
      obtain ⟨k', rfl⟩ : ∃ k', n' = k' + 1 := ⟨n' - 1, by omega⟩
      cases l with
      | nil => unfold takeT; rfl
      | cons c l =>
        rw [List.length_cons] at hl hn hn'
        have := ih2 k k' l (d + 1) (by omega) (by omega) (by omega)
        unfold takeT
        rw [this]
    refine ⟨one, fun n n' l d hl hn hn' => ?_⟩
    obtain ⟨k, rfl⟩ : ∃ k, n = k + 1 := ⟨n - 1, by omega⟩
    obtain ⟨k', rfl⟩ : ∃ k', n' = k' + 1 := ⟨n' - 1, by omega⟩
    have h1 := one k k' l d hl (by omega) (by omega)
    unfold takeAllT
    rw [h1]
    cases h : takeT k' l d with
    | none => rfl
    | some p =>
      obtain ⟨t, r⟩ := p
      have hr := (takes_shorter k').1 l d t r h
      have h2 := ih2 k k' r d (by omega) (by omega) (by omega)
      show (t :: (takeAllT k r d).1, (takeAllT k r d).2) = _
      rw [h2]

/-- What a list begins with, if it stands so deep. -/
def takeF (l : List CellV) (d : Int) : Option (Tree × List CellV) := takeT (2 * l.length + 1) l d
def takeAllF (l : List CellV) (d : Int) : List Tree × List CellV := takeAllT (2 * l.length + 2) l d
theorem takeF_nil (d : Int) : takeF [] d = none := by unfold takeF takeT; rfl
theorem takeF_cons (c : CellV) (l : List CellV) (d : Int) : takeF (c :: l) d =
    if c.depth = d then
      if c.kind = 1 then some (.leaf c.box c.p, l)
      else if c.kind = 2 ∨ c.kind = 3 then some (.split c.box c.kind (takeAllF l (d + 1)).1, (takeAllF l (d + 1)).2)
      else none
    else none := by
  unfold takeF takeAllF
  rw [show 2 * (c :: l).length + 1 = (2 * l.length + 2) + 1 by simp; omega]
  conv => lhs; unfold takeT
theorem takeAllF_eq (l : List CellV) (d : Int) : takeAllF l d = match takeF l d with
    | none => ([], l)
    | some (t, r) => (t :: (takeAllF r d).1, (takeAllF r d).2) := by
  unfold takeF
  conv => lhs; unfold takeAllF takeAllT
  cases h : takeT (2 * l.length + 1) l d with
  | none => rfl
  | some p =>
    obtain ⟨t, r⟩ := p
    have hr := (takes_shorter _).1 l d t r h
    have h2 := (takes_fuel (r.length + 1)).2 (2 * l.length + 1) (2 * r.length + 2) r d (by omega) (by omega) (by omega)
    show (t :: (takeAllT (2 * l.length + 1) r d).1, (takeAllT (2 * l.length + 1) r d).2) = _
    rw [h2]
    rfl
theorem takeF_shorter (l : List CellV) (d : Int) (t : Tree) (r : List CellV) (h : takeF l d = some (t, r)) : r.length < l.length := (takes_shorter _).1 l d t r h

end Go.Proofs.Ytcjcekaahooamaa
