/-
  Formats: the document's rows: which beginnings of a text are of the first tokens.
  Formats: a pattern in which a backslash stands ahead of each byte.
-/
import Derived.Test.YtgoofifbifdgoabGreatDoorGM
namespace Go.Proofs.YtgoofifbifdgoabGreatDoor
set_option linter.unusedVariables false

def upF (p : Nat → Bool) : Nat → Bool
  | 0 => p 0
  | k + 1 => p (k + 1) || upF p k
theorem up_iff (p : Nat → Bool) : ∀ k, upF p k = true ↔ ∃ j, j ≤ k ∧ p j = true
  | 0 => by
    constructor
    · intro h
      exact ⟨0, Nat.le_refl _, h⟩
    · rintro ⟨j, hj, h⟩
      have e : j = 0 := by omega
      rw [e] at h
      exact h
  | k + 1 => by
    simp only [upF, Bool.or_eq_true, up_iff p k]
    constructor
    · rintro (h | ⟨j, hj, h⟩)
      · exact ⟨k + 1, Nat.le_refl _, h⟩
      · exact ⟨j, by omega, h⟩
    · rintro ⟨j, hj, h⟩
      rcases Nat.lt_or_ge j (k + 1) with h1 | h1
      · exact .inr ⟨j, by omega, h⟩
      · have e : j = k + 1 := by omega
        rw [e] at h
        exact .inl h
def standsF (t : Tok) (s : List UInt8) (k : Nat) : Bool := match s[k]? with
  | none => false
  | some c => t.of c
def oneR (t : Tok) (s : List UInt8) (p : Nat → Bool) : Nat → Bool
  | 0 => false
  | k + 1 => p k && standsF t s k
def stepR (t : Tok) (s : List UInt8) (p : Nat → Bool) : Nat → Bool := if t.many then upF p else oneR t s p
def reachF (s : List UInt8) : List Tok → (Nat → Bool) → Nat → Bool
  | [], p => p
  | t :: ts, p => reachF s ts (stepR t s p)
def rowZero : Nat → Bool := fun k => decide (k = 0)

theorem reach_iff (s : List UInt8) : ∀ (ts : List Tok) (p : Nat → Bool), reachF s ts p s.length = true ↔ ∃ k, k ≤ s.length ∧ p k = true ∧ mat ts (s.drop k) = true
  | [], p => by
    constructor
    · intro h
      refine ⟨s.length, Nat.le_refl _, h, ?_⟩
      rw [List.drop_length]
      rfl
    · rintro ⟨k, hk, hp, hm⟩
      have h0 : s.drop k = [] := List.isEmpty_iff.1 hm
      have h1 : s.length ≤ k := by
        have := congrArg List.length h0
        rw [List.length_drop] at this
        simp at this
        omega
      have e : k = s.length := by omega
      rw [e] at hp
      exact hp
  | t :: ts, p => by
    show reachF s ts (stepR t s p) s.length = true ↔ _
    rw [reach_iff s ts]
    unfold stepR
    cases hm : t.many with
    | true =>
      rw [if_pos rfl]
      constructor
      · rintro ⟨k, hk, hp, h⟩
        obtain ⟨j, hj, hj2⟩ := (up_iff p k).1 hp
        refine ⟨j, by omega, hj2, ?_⟩
        rw [star_shift hm]
        exact ⟨k, hj, .inl hk, h⟩
      · rintro ⟨j, hj, hp, h⟩
        rw [star_shift hm] at h
        obtain ⟨k, h1, h2, h3⟩ := h
        exact ⟨k, by omega, (up_iff p k).2 ⟨j, h1, hp⟩, h3⟩
    | false =>
      rw [if_neg (by simp)]
      constructor
      · rintro ⟨k, hk, hp, h⟩
        cases k with
        | zero => cases hp
        | succ k =>
          obtain ⟨c, hc⟩ : ∃ c, s[k]? = some c := ⟨_, List.getElem?_eq_getElem (by omega)⟩
          simp only [oneR, standsF, hc, Bool.and_eq_true] at hp
          refine ⟨k, by omega, hp.1, ?_⟩
          rw [drop_at hc, mat_one hm, hp.2, Bool.true_and]
          exact h
      · rintro ⟨k, hk, hp, h⟩
        rcases Nat.lt_or_ge k s.length with h1 | h1
        · obtain ⟨c, hc⟩ : ∃ c, s[k]? = some c := ⟨_, List.getElem?_eq_getElem h1⟩
          rw [drop_at hc, mat_one hm, Bool.and_eq_true] at h
          refine ⟨k + 1, by omega, ?_, h.2⟩
          simp only [oneR, standsF, hc, Bool.and_eq_true]
          exact ⟨hp, h.1⟩
        · have e : s.drop k = [] := List.drop_eq_nil_of_le h1
          rw [e, mat_one_nil hm] at h
          cases h
theorem reach_mat (ts : List Tok) (s : List UInt8) : reachF s ts rowZero s.length = mat ts s := by
  rw [Bool.eq_iff_iff, reach_iff]
  constructor
  · rintro ⟨k, hk, hp, h⟩
    have e : k = 0 := of_decide_eq_true hp
    rw [e] at h
    exact h
  · intro h
    exact ⟨0, Nat.zero_le _, rfl, h⟩
theorem reach_snoc (s : List UInt8) : ∀ (ts : List Tok) (t : Tok) (p : Nat → Bool), reachF s (ts ++ [t]) p = stepR t s (reachF s ts p)
  | [], _, _ => rfl
  | u :: ts, t, p => reach_snoc s ts t (stepR u s p)
end Go.Proofs.YtgoofifbifdgoabGreatDoor

namespace Go.Proofs.YtgoofifbifdgoabGreatDoor
set_option linter.unusedVariables false

theorem dset_le {l : List UInt8} : (dsetF l).2 ≤ l.length := by
  obtain ⟨h1, h2⟩ := set_both (last_ok l)
  rcases Nat.eq_zero_or_pos (dsetF l).2 with h | h
  · omega
  · rw [← h2 (h1.2 h)]
    exact set_le (last_ok l)
theorem dtok_len {l : List UInt8} (h : l ≠ []) : 1 ≤ (dtokF l).2 ∧ (dtokF l).2 ≤ l.length := by
  rw [← tok_both (last_ok l)]
  exact tok_len (last_ok l) h
theorem dtoks_fuel : ∀ (f g : Nat) (l : List UInt8), l.length ≤ f → l.length ≤ g → dtoksG f l = dtoksG g l
  | 0, 0, _, _, _ => rfl
  | 0, g + 1, l, h1, _ => by
    have e : l = [] := List.length_eq_zero_iff.1 (by omega)
    subst e
    rfl
  | f + 1, 0, l, _, h2 => by
    have e : l = [] := List.length_eq_zero_iff.1 (by omega)
    subst e
    rfl
  | f + 1, g + 1, l, h1, h2 => by
    unfold dtoksG
    by_cases h : l = []
    · rw [if_pos h, if_pos h]
    · rw [if_neg h, if_neg h]
      have := (dtok_len h).1
      have := List.length_pos_iff.2 h
      rw [dtoks_fuel f g (l.drop (dtokF l).2) (by rw [List.length_drop]; omega) (by rw [List.length_drop]; omega)]
theorem dtoks_cons {l : List UInt8} (h : l ≠ []) : dtoksF l = (dtokF l).1 :: dtoksF (l.drop (dtokF l).2) := by
  have h0 := (dtok_len h).1
  have h1 := List.length_pos_iff.2 h
  obtain ⟨n, hn⟩ : ∃ n, l.length = n + 1 := ⟨l.length - 1, by omega⟩
  unfold dtoksF
  rw [hn]
  conv => lhs; unfold dtoksG
  rw [if_neg h, dtoks_fuel n _ (l.drop (dtokF l).2) (by rw [List.length_drop]; omega) (Nat.le_refl _)]
def litT (c : UInt8) : Tok := ⟨false, false, [c]⟩
def starT : Tok := ⟨true, false, []⟩
def anyT : Tok := ⟨false, true, []⟩
def bslF (s : List UInt8) : List UInt8 := s.flatMap fun c => [92, c]
theorem bsl_cons (c : UInt8) (s : List UInt8) : bslF (c :: s) = 92 :: c :: bslF s := rfl
theorem bsl_snoc (c : UInt8) (s : List UInt8) : bslF (s ++ [c]) = bslF s ++ [92, c] := by unfold bslF; rw [List.flatMap_append]; rfl
theorem bsl_len (s : List UInt8) : (bslF s).length = 2 * s.length := by
  induction s with
  | nil => rfl
  | cons c r ih => rw [bsl_cons, List.length_cons, List.length_cons, ih, List.length_cons]; omega
theorem dtok_lit (c : UInt8) (r : List UInt8) : dtokF (92 :: c :: r) = (litT c, 2) := by
  simp only [dtokF]
  rw [if_neg (by decide), if_neg (by decide), if_pos ⟨by decide, by simp⟩]
  rfl
theorem dtoks_bsl (s tail : List UInt8) : dtoksF (bslF s ++ tail) = s.map litT ++ dtoksF tail := by
  induction s with
  | nil => rfl
  | cons c r ih =>
    rw [bsl_cons, List.cons_append, List.cons_append, dtoks_cons (by simp), dtok_lit]
    show litT c :: dtoksF (bslF r ++ tail) = _
    rw [ih]
    rfl
theorem dtoks_star (r : List UInt8) : dtoksF (42 :: r) = starT :: dtoksF r := by rw [dtoks_cons (by simp)]; rfl
theorem dtoks_nil : dtoksF [] = [] := rfl
theorem dtoks_any : dtoksF [63] = [anyT] := rfl
theorem lit_of (c b : UInt8) : (litT c).of b = decide (c = b) := by
  have e : (litT c).of b = ((decide (c.toNat ≤ b.toNat) && decide (b.toNat ≤ c.toNat) || false) != false) := rfl
  rw [e, Bool.or_false]
  by_cases h : c = b
  · subst h; simp
  · have h1 : ¬ c.toNat = b.toNat := fun h2 => h (UInt8.toNat_inj.1 h2)
    rw [decide_eq_false h]
    by_cases h2 : c.toNat ≤ b.toNat
    · have h3 : ¬ b.toNat ≤ c.toNat := by omega
      simp [h2, h3]
    · simp [h2]
theorem any_of (b : UInt8) : anyT.of b = true := rfl
theorem mat_lits (s : List UInt8) (ts : List Tok) : ∀ t, mat (s.map litT ++ ts) t = (s.isPrefixOf t && mat ts (t.drop s.length)) := by
  induction s with
  | nil => intro t; simp
  | cons c r ih =>
    intro t
    show mat (litT c :: (r.map litT ++ ts)) t = _
    cases t with
    | nil => rw [mat_one_nil rfl]; rfl
    | cons d t =>
      rw [mat_one rfl, lit_of, ih]
      have e : (c :: r).isPrefixOf (d :: t) = ((c == d) && r.isPrefixOf t) := rfl
      have e2 : (c == d) = decide (c = d) := by by_cases h : c = d <;> simp [h]
      rw [e, e2, Bool.and_assoc]
      rfl
theorem mat_star_all (t : List UInt8) : mat [starT] t = true := (mat_star rfl [] t).2 ⟨t.length, Nat.le_refl _, by rw [List.drop_length]; rfl⟩
theorem mat_any_one (t : List UInt8) : mat [anyT] t = decide (t.length = 1) := by
  cases t with
  | nil => rfl
  | cons c r =>
    rw [mat_one rfl, any_of, Bool.true_and]
    cases r with
    | nil => rfl
    | cons d r => simp [mat]
theorem exact_same (s t : List UInt8) : mat (dtoksF (bslF s)) t = decide (s = t) := by
  have h := dtoks_bsl s []
  rw [List.append_nil] at h
  rw [h, dtoks_nil, mat_lits]
  by_cases e : s = t
  · subst e
    rw [decide_eq_true rfl, List.drop_length]
    simp [mat]
  · rw [decide_eq_false e]
    rw [Bool.and_eq_false_iff]
    by_cases hp : s.isPrefixOf t = true
    · refine .inr ?_
      obtain ⟨r, hr⟩ := List.isPrefixOf_iff_prefix.1 hp
      subst hr
      rw [List.drop_left' rfl]
      cases r with
      | nil => exact absurd (List.append_nil s).symm e
      | cons c r => rfl
    · exact .inl (by cases h9 : s.isPrefixOf t with | false => rfl | true => exact absurd h9 hp)
theorem exact_begins (s t : List UInt8) : mat (dtoksF (bslF s ++ [42])) t = s.isPrefixOf t := by
  rw [dtoks_bsl, dtoks_star, dtoks_nil, mat_lits, mat_star_all, Bool.and_true]
theorem exact_more (s t : List UInt8) : mat (dtoksF (bslF s ++ [63])) t = (s.isPrefixOf t && decide (t.length = s.length + 1)) := by
  rw [dtoks_bsl, dtoks_any, mat_lits, mat_any_one, List.length_drop]
  congr 1
  exact decide_eq_decide.2 ⟨fun h => by omega, fun h => by omega⟩
theorem exact_within (s t : List UInt8) : mat (dtoksF (42 :: (bslF s ++ [42]))) (t ++ (s ++ t)) = true := by
  rw [dtoks_star, mat_star rfl]
  refine ⟨t.length, by simp, ?_⟩
  rw [List.drop_left' rfl, exact_begins, List.isPrefixOf_iff_prefix]
  exact ⟨t, rfl⟩
theorem exact_behind (s t : List UInt8) : mat (dtoksF (bslF s ++ [42])) (s ++ t) = true := by
  rw [exact_begins, List.isPrefixOf_iff_prefix]
  exact ⟨t, rfl⟩
end Go.Proofs.YtgoofifbifdgoabGreatDoor
