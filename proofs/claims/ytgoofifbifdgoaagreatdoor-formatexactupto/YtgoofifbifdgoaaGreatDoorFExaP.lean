/-
  Formats: a pattern in which a backslash stands ahead of each byte.
-/
import Derived.Test.YtgoofifbifdgoaaGreatDoorFMatP
import Derived.Test.YtgoofifbifdgoaaGreatDoorFTokP
namespace Go.Proofs.YtgoofifbifdgoaaGreatDoor
set_option linter.unusedVariables false

theorem dset_le {l : List UInt8} : (dsetF l).2 ≤ l.length := by
  obtain ⟨h1, h2⟩ := set_both (last_ok l)
  rcases Nat.eq_zero_or_pos (dsetF l).2 with h | h
  · omega
  · rw [← h2 (h1.2 h)]
    exact set_le (last_ok l)
theorem dtok_len {l : List UInt8} (h : l ≠ []) : 1 ≤ (dtokF l).2 ∧ (dtokF l).2 ≤ l.length := by
  rw [← tok_both (last_ok l)]
  exact tok_len (last_ok l) h
theorem dtoks_fuel : ∀ (f g : Nat) (l : List UInt8), l.length ≤ f → l.length ≤ g → dtoksG f l = dtoksG g l
  | 0, 0, _, _, _ => rfl
  | 0, g + 1, l, h1, _ => by
    have e : l = [] := List.length_eq_zero_iff.1 (by omega)
    subst e
    rfl
  | f + 1, 0, l, _, h2 => by
    have e : l = [] := List.length_eq_zero_iff.1 (by omega)
    subst e
    rfl
  | f + 1, g + 1, l, h1, h2 => by
    unfold dtoksG
    by_cases h : l = []
    · rw [if_pos h, if_pos h]
    · rw [if_neg h, if_neg h]
      have := (dtok_len h).1
      have := List.length_pos_iff.2 h
      rw [dtoks_fuel f g (l.drop (dtokF l).2) (by rw [List.length_drop]; omega) (by rw [List.length_drop]; omega)]
theorem dtoks_cons {l : List UInt8} (h : l ≠ []) : dtoksF l = (dtokF l).1 :: dtoksF (l.drop (dtokF l).2) := by
  have h0 := (dtok_len h).1
  have h1 := List.length_pos_iff.2 h
  obtain ⟨n, hn⟩ : ∃ n, l.length = n + 1 := ⟨l.length - 1, by omega⟩
  unfold dtoksF
  rw [hn]
  conv => lhs; unfold dtoksG
  rw [if_neg h, dtoks_fuel n _ (l.drop (dtokF l).2) (by rw [List.length_drop]; omega) (Nat.le_refl _)]
def litT (c : UInt8) : Tok := ⟨false, false, [c]⟩
def starT : Tok := ⟨true, false, []⟩
def anyT : Tok := ⟨false, true, []⟩
def bslF (s : List UInt8) : List UInt8 := s.flatMap fun c => [92, c]
theorem bsl_cons (c : UInt8) (s : List UInt8) : bslF (c :: s) = 92 :: c :: bslF s := rfl
theorem bsl_snoc (c : UInt8) (s : List UInt8) : bslF (s ++ [c]) = bslF s ++ [92, c] := by unfold bslF; rw [List.flatMap_append]; rfl
theorem bsl_len (s : List UInt8) : (bslF s).length = 2 * s.length := by
  induction s with
  | nil => rfl
  | cons c r ih => rw [bsl_cons, List.length_cons, List.length_cons, ih, List.length_cons]; omega
theorem dtok_lit (c : UInt8) (r : List UInt8) : dtokF (92 :: c :: r) = (litT c, 2) := by
  simp only [dtokF]
  rw [if_neg (by decide), if_neg (by decide), if_pos ⟨by decide, by simp⟩]
  rfl
theorem dtoks_bsl (s tail : List UInt8) : dtoksF (bslF s ++ tail) = s.map litT ++ dtoksF tail := by
  induction s with
  | nil => rfl
  | cons c r ih =>
    rw [bsl_cons, List.cons_append, List.cons_append, dtoks_cons (by simp), dtok_lit]
    show litT c :: dtoksF (bslF r ++ tail) = _
    rw [ih]
    rfl
theorem dtoks_star (r : List UInt8) : dtoksF (42 :: r) = starT :: dtoksF r := by rw [dtoks_cons (by simp)]; rfl
theorem dtoks_nil : dtoksF [] = [] := rfl
theorem dtoks_any : dtoksF [63] = [anyT] := rfl
theorem lit_of (c b : UInt8) : (litT c).of b = decide (c = b) := by
  have e : (litT c).of b = ((decide (c.toNat ≤ b.toNat) && decide (b.toNat ≤ c.toNat) || false) != false) := rfl
  rw [e, Bool.or_false]
  by_cases h : c = b
  · subst h; simp
  · have h1 : ¬ c.toNat = b.toNat := fun h2 => h (UInt8.toNat_inj.1 h2)
    rw [decide_eq_false h]
    by_cases h2 : c.toNat ≤ b.toNat
    · have h3 : ¬ b.toNat ≤ c.toNat := by omega
      simp [h2, h3]
    · simp [h2]
theorem any_of (b : UInt8) : anyT.of b = true := rfl
theorem mat_lits (s : List UInt8) (ts : List Tok) : ∀ t, mat (s.map litT ++ ts) t = (s.isPrefixOf t && mat ts (t.drop s.length)) := by
  induction s with
  | nil => intro t; simp
  | cons c r ih =>
    intro t
    show mat (litT c :: (r.map litT ++ ts)) t = _
    cases t with
    | nil => rw [mat_one_nil rfl]; rfl
    | cons d t =>
      rw [mat_one rfl, lit_of, ih]
      have e : (c :: r).isPrefixOf (d :: t) = ((c == d) && r.isPrefixOf t) := rfl
      have e2 : (c == d) = decide (c = d) := by by_cases h : c = d <;> simp [h]
      rw [e, e2, Bool.and_assoc]
      rfl
theorem mat_star_all (t : List UInt8) : mat [starT] t = true := (mat_star rfl [] t).2 ⟨t.length, Nat.le_refl _, by rw [List.drop_length]; rfl⟩
theorem mat_any_one (t : List UInt8) : mat [anyT] t = decide (t.length = 1) := by
  cases t with
  | nil => rfl
  | cons c r =>
    rw [mat_one rfl, any_of, Bool.true_and]
    cases r with
    | nil => rfl
    | cons d r => simp [mat]
theorem exact_same (s t : List UInt8) : mat (dtoksF (bslF s)) t = decide (s = t) := by
  have h := dtoks_bsl s []
  rw [List.append_nil] at h
  rw [h, dtoks_nil, mat_lits]
  by_cases e : s = t
  · subst e
    rw [decide_eq_true rfl, List.drop_length]
    simp [mat]
  · rw [decide_eq_false e]
    rw [Bool.and_eq_false_iff]
    by_cases hp : s.isPrefixOf t = true
    · refine .inr ?_
      obtain ⟨r, hr⟩ := List.isPrefixOf_iff_prefix.1 hp
      subst hr
      rw [List.drop_left' rfl]
      cases r with
      | nil => exact absurd (List.append_nil s).symm e
      | cons c r => rfl
    · exact .inl (by cases h9 : s.isPrefixOf t with | false => rfl | true => exact absurd h9 hp)
theorem exact_begins (s t : List UInt8) : mat (dtoksF (bslF s ++ [42])) t = s.isPrefixOf t := by
  rw [dtoks_bsl, dtoks_star, dtoks_nil, mat_lits, mat_star_all, Bool.and_true]
theorem exact_more (s t : List UInt8) : mat (dtoksF (bslF s ++ [63])) t = (s.isPrefixOf t && decide (t.length = s.length + 1)) := by
  rw [dtoks_bsl, dtoks_any, mat_lits, mat_any_one, List.length_drop]
  congr 1
  exact decide_eq_decide.2 ⟨fun h => by omega, fun h => by omega⟩
theorem exact_within (s t : List UInt8) : mat (dtoksF (42 :: (bslF s ++ [42]))) (t ++ (s ++ t)) = true := by
  rw [dtoks_star, mat_star rfl]
  refine ⟨t.length, by simp, ?_⟩
  rw [List.drop_left' rfl, exact_begins, List.isPrefixOf_iff_prefix]
  exact ⟨t, rfl⟩
theorem exact_behind (s t : List UInt8) : mat (dtoksF (bslF s ++ [42])) (s ++ t) = true := by
  rw [exact_begins, List.isPrefixOf_iff_prefix]
  exact ⟨t, rfl⟩
end Go.Proofs.YtgoofifbifdgoaaGreatDoor
