/-
  Formats: the document's rows: which beginnings of a text are of the first tokens.
-/
import Derived.Test.YtgoofifbifdgoaaGreatDoorFMatP
namespace Go.Proofs.YtgoofifbifdgoaaGreatDoor
set_option linter.unusedVariables false

def upF (p : Nat → Bool) : Nat → Bool
  | 0 => p 0
  | k + 1 => p (k + 1) || upF p k
theorem up_iff (p : Nat → Bool) : ∀ k, upF p k = true ↔ ∃ j, j ≤ k ∧ p j = true
  | 0 => by
    constructor
    · intro h
      exact ⟨0, Nat.le_refl _, h⟩
    · rintro ⟨j, hj, h⟩
      have e : j = 0 := by omega
      rw [e] at h
      exact h
  | k + 1 => by
    simp only [upF, Bool.or_eq_true, up_iff p k]
    constructor
    · rintro (h | ⟨j, hj, h⟩)
      · exact ⟨k + 1, Nat.le_refl _, h⟩
      · exact ⟨j, by omega, h⟩
    · rintro ⟨j, hj, h⟩
      rcases Nat.lt_or_ge j (k + 1) with h1 | h1
      · exact .inr ⟨j, by omega, h⟩
      · have e : j = k + 1 := by omega
        rw [e] at h
        exact .inl h
def standsF (t : Tok) (s : List UInt8) (k : Nat) : Bool := match s[k]? with
  | none => false
  | some c => t.of c
def oneR (t : Tok) (s : List UInt8) (p : Nat → Bool) : Nat → Bool
  | 0 => false
  | k + 1 => p k && standsF t s k
def stepR (t : Tok) (s : List UInt8) (p : Nat → Bool) : Nat → Bool := if t.many then upF p else oneR t s p
def reachF (s : List UInt8) : List Tok → (Nat → Bool) → Nat → Bool
  | [], p => p
  | t :: ts, p => reachF s ts (stepR t s p)
def rowZero : Nat → Bool := fun k => decide (k = 0)

theorem reach_iff (s : List UInt8) : ∀ (ts : List Tok) (p : Nat → Bool), reachF s ts p s.length = true ↔ ∃ k, k ≤ s.length ∧ p k = true ∧ mat ts (s.drop k) = true
  | [], p => by
    constructor
    · intro h
      refine ⟨s.length, Nat.le_refl _, h, ?_⟩
      rw [List.drop_length]
      rfl
    · rintro ⟨k, hk, hp, hm⟩
      have h0 : s.drop k = [] := List.isEmpty_iff.1 hm
      have h1 : s.length ≤ k := by
        have := congrArg List.length h0
        rw [List.length_drop] at this
        simp at this
        omega
      have e : k = s.length := by omega
      rw [e] at hp
      exact hp
  | t :: ts, p => by
    show reachF s ts (stepR t s p) s.length = true ↔ _
    rw [reach_iff s ts]
    unfold stepR
    cases hm : t.many with
    | true =>
      rw [if_pos rfl]
      constructor
      · rintro ⟨k, hk, hp, h⟩
        obtain ⟨j, hj, hj2⟩ := (up_iff p k).1 hp
        refine ⟨j, by omega, hj2, ?_⟩
        rw [star_shift hm]
        exact ⟨k, hj, .inl hk, h⟩
      · rintro ⟨j, hj, hp, h⟩
        rw [star_shift hm] at h
        obtain ⟨k, h1, h2, h3⟩ := h
        exact ⟨k, by omega, (up_iff p k).2 ⟨j, h1, hp⟩, h3⟩
    | false =>
      rw [if_neg (by simp)]
      constructor
      · rintro ⟨k, hk, hp, h⟩
        cases k with
        | zero => cases hp
        | succ k =>
          obtain ⟨c, hc⟩ : ∃ c, s[k]? = some c := ⟨_, List.getElem?_eq_getElem (by omega)⟩
          simp only [oneR, standsF, hc, Bool.and_eq_true] at hp
          refine ⟨k, by omega, hp.1, ?_⟩
          rw [drop_at hc, mat_one hm, hp.2, Bool.true_and]
          exact h
      · rintro ⟨k, hk, hp, h⟩
        rcases Nat.lt_or_ge k s.length with h1 | h1
        · obtain ⟨c, hc⟩ : ∃ c, s[k]? = some c := ⟨_, List.getElem?_eq_getElem h1⟩
          rw [drop_at hc, mat_one hm, Bool.and_eq_true] at h
          refine ⟨k + 1, by omega, ?_, h.2⟩
          simp only [oneR, standsF, hc, Bool.and_eq_true]
          exact ⟨hp, h.1⟩
        · have e : s.drop k = [] := List.drop_eq_nil_of_le h1
          rw [e, mat_one_nil hm] at h
          cases h
theorem reach_mat (ts : List Tok) (s : List UInt8) : reachF s ts rowZero s.length = mat ts s := by
  rw [Bool.eq_iff_iff, reach_iff]
  constructor
  · rintro ⟨k, hk, hp, h⟩
    have e : k = 0 := of_decide_eq_true hp
    rw [e] at h
    exact h
  · intro h
    exact ⟨0, Nat.zero_le _, rfl, h⟩
theorem reach_snoc (s : List UInt8) : ∀ (ts : List Tok) (t : Tok) (p : Nat → Bool), reachF s (ts ++ [t]) p = stepR t s (reachF s ts p)
  | [], _, _ => rfl
  | u :: ts, t, p => reach_snoc s ts t (stepR u s p)
end Go.Proofs.YtgoofifbifdgoaaGreatDoor
