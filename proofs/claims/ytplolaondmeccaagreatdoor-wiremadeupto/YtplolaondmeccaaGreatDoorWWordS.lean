/-
  Words of the wire, by plain functions: a beginning of a beginning is one.
-/
import Derived.Test.YtplolaondmeccaaGreatDoorWBegT
namespace Go.Proofs.YtplolaondmeccaaGreatDoor
open Go.RowKit
set_option linter.unusedVariables false

/-- Where a line of that class leads to: 0 outside, 1 inside, 2 over, 3 lost. -/
def afterK (p c : Int) : Int := if p = 0 ∧ c = 1 then 0 else if p = 0 ∧ c = 2 then 1 else if p = 0 ∧ c = 5 then 2 else if p = 1 ∧ c = 3 then 1 else if p = 1 ∧ c = 4 then 0 else 3
theorem after_none (p : Int) : afterK p 0 = 3 := by unfold afterK; simp

noncomputable def mayK (p : Int) (l : List UInt8) (k : Nat) : Bool := decide (afterK p (classK k) ≠ 3) && begS k l
noncomputable def mayS (p : Int) (l : List UInt8) : Bool := l.isEmpty || (List.range 25).any fun k => mayK p l k

theorem cut_shorter {l : List UInt8} (h : (10 : UInt8) ∈ l) : ((l.dropWhile (· != 10)).drop 1).length < l.length := by
  have h1 : (l.dropWhile (· != 10)).length ≤ l.length := (List.dropWhile_sublist _).length_le
  have h2 : 0 < l.length := List.length_pos_of_mem h
  rw [List.length_drop]
  omega

noncomputable def wordS (p : Int) (l : List UInt8) : Bool × Bool :=
  if p = 3 then (false, false)
  else if h : (10 : UInt8) ∈ l then wordS (afterK p (classK (decS (l.takeWhile (· != 10))).kind)) ((l.dropWhile (· != 10)).drop 1)
  else (mayS p l, l.isEmpty && decide (p ≠ 1))
termination_by l.length
decreasing_by exact cut_shorter h

theorem wordS_lost (l : List UInt8) : wordS 3 l = (false, false) := by rw [wordS, if_pos rfl]
theorem wordS_line {p : Int} {l : List UInt8} (hp : p ≠ 3) (h : (10 : UInt8) ∈ l) : wordS p l = wordS (afterK p (classK (decS (l.takeWhile (· != 10))).kind)) ((l.dropWhile (· != 10)).drop 1) := by
  rw [wordS, if_neg hp, dif_pos h]
theorem wordS_rest {p : Int} {l : List UInt8} (hp : p ≠ 3) (h : (10 : UInt8) ∉ l) : wordS p l = (mayS p l, l.isEmpty && decide (p ≠ 1)) := by
  rw [wordS, if_neg hp, dif_neg h]

theorem lf_bar : ∀ l : List UInt8, (10 : UInt8) ∈ l → l = l.takeWhile (· != 10) ++ 10 :: (l.dropWhile (· != 10)).drop 1
  | [], h => by cases h
  | b :: l, h => by
    rw [List.takeWhile_cons, List.dropWhile_cons]
    cases hb : (b != 10)
    · have : b = 10 := by simpa using hb
      subst this
      simp
    · have hb' : b ≠ 10 := by simpa using hb
      have := lf_bar l ((List.mem_cons.1 h).resolve_left (fun e => hb' e.symm))
      simp only [if_true, List.cons_append, List.cons.injEq, true_and]
      exact this
theorem lf_none : ∀ l : List UInt8, (10 : UInt8) ∉ l.takeWhile (· != 10)
  | [] => by simp
  | b :: l => by
    rw [List.takeWhile_cons]
    cases hb : (b != 10)
    · simp
    · have := lf_none l
      have hb' : b ≠ 10 := by simpa using hb
      simp only [if_true, List.mem_cons, not_or]
      exact ⟨fun e => hb' e.symm, this⟩
theorem bar_lf (a r : List UInt8) (h : (10 : UInt8) ∉ a) : (a ++ 10 :: r).takeWhile (· != 10) = a ∧ ((a ++ 10 :: r).dropWhile (· != 10)).drop 1 = r := by
  induction a with
  | nil => simp
  | cons b a ih =>
    have hb : (b != 10) = true := by simp; intro e; exact h (by simp [e])
    have := ih (fun hm => h (List.mem_cons_of_mem _ hm))
    simp [hb, this]
theorem wordS_at {p : Int} (hp : p ≠ 3) {a r : List UInt8} (ha : (10 : UInt8) ∉ a) : wordS p (a ++ 10 :: r) = wordS (afterK p (classK (decS a).kind)) r := by
  obtain ⟨e1, e2⟩ := bar_lf a r ha
  rw [wordS_line hp (by simp), e1, e2]

theorem mayS_pre {p : Int} {l q : List UInt8} (h : mayS p l = true) (hq : q <+: l) : mayS p q = true := by
  unfold mayS at h ⊢
  rw [Bool.or_eq_true] at h ⊢
  rcases h with h | h
  · rw [List.isEmpty_iff] at h
    subst h
    obtain rfl : q = [] := List.prefix_nil.1 hq
    exact .inl rfl
  · obtain ⟨k, hk, h⟩ := List.any_eq_true.1 h
    refine .inr (List.any_eq_true.2 ⟨k, hk, ?_⟩)
    unfold mayK at h ⊢
    rw [Bool.and_eq_true] at h ⊢
    exact ⟨h.1, begS_pre k l q h.2 hq⟩

/-- The kind of a line that is one. -/
theorem dec_kind (a : List UInt8) : (decS a).kind = 25 ∨ ∃ k : Nat, 1 ≤ k ∧ k ≤ 24 ∧ (decS a).kind = k ∧ ∃ e, readS k a = some e := by
  rcases enc_dec a with h | ⟨h, h1, h2⟩
  · exact .inl (by rw [h]; rfl)
  · rcases encS_cases (decS a) with h0 | ⟨k, k1, k2, k3, k4, k5⟩
    · rw [h0] at h; cases h
    · rw [h] at k5
      rw [← Option.some.inj k5] at k4
      exact .inr ⟨k, k1, k2, k3, _, k4⟩

theorem mayS_line {p : Int} {a q : List UInt8} (h : afterK p (classK (decS a).kind) ≠ 3) (hq : q <+: a) : mayS p q = true := by
  rcases dec_kind a with h0 | ⟨k, k1, k2, k3, e, k4⟩
  · rw [h0] at h
    exact absurd (after_none p) h
  · rw [k3] at h
    unfold mayS
    rw [Bool.or_eq_true]
    refine .inr (List.any_eq_true.2 ⟨k, by simp; omega, ?_⟩)
    unfold mayK
    rw [Bool.and_eq_true, decide_eq_true_eq]
    exact ⟨h, begS_pre k a q (begS_whole k1 k2 k4) hq⟩

theorem wordS_pre : ∀ (n : Nat) (p : Int) (l q : List UInt8), l.length ≤ n → (wordS p l).1 = true → q <+: l → (wordS p q).1 = true := by
  intro n
  induction n with
  | zero =>
    intro p l q hl h hq
    obtain rfl : l = [] := List.length_eq_zero_iff.1 (by omega)
    obtain rfl : q = [] := List.prefix_nil.1 hq
    exact h
  | succ n ih =>
    intro p l q hl h hq
    by_cases hp : p = 3
    · rw [hp, wordS_lost] at h; cases h
    by_cases hm : (10 : UInt8) ∈ l
    · have el := lf_bar l hm
      have hn := lf_none l
      obtain ⟨a, ha⟩ : ∃ a, l.takeWhile (· != 10) = a := ⟨_, rfl⟩
      obtain ⟨r, hr⟩ : ∃ r, (l.dropWhile (· != 10)).drop 1 = r := ⟨_, rfl⟩
      rw [ha] at hn
      rw [ha, hr] at el
      clear ha hr
      subst el
      rw [wordS_at hp hn] at h
      have hp' : afterK p (classK (decS a).kind) ≠ 3 := by
        intro e
        rw [e, wordS_lost] at h
        cases h
      have key : q <+: a → (wordS p q).1 = true := fun h1 => by
        rw [wordS_rest hp (fun hm => hn (h1.subset hm))]
        exact mayS_line hp' h1
      rcases append_prefix hq with h1 | ⟨q', rfl, hq'⟩
      · exact key h1
      · rcases List.prefix_cons_iff.1 hq' with rfl | ⟨q2, rfl, hq2⟩
        · exact key (by rw [List.append_nil]; exact List.prefix_refl _)
        · rw [wordS_at hp hn]
          refine ih _ r q2 ?_ h hq2
          simp at hl
          omega
    · rw [wordS_rest hp hm] at h
      rw [wordS_rest hp (fun h' => hm (hq.subset h'))]
      exact mayS_pre h hq

theorem wordS_both : ∀ (n : Nat) (p : Int) (l : List UInt8), l.length ≤ n → (wordS p l).2 = true → (wordS p l).1 = true := by
  intro n
  induction n with
  | zero =>
    intro p l hl h
    obtain rfl : l = [] := List.length_eq_zero_iff.1 (by omega)
    by_cases hp : p = 3
    · rw [hp, wordS_lost] at h; cases h
    · rw [wordS_rest hp (by simp)]; rfl
  | succ n ih =>
    intro p l hl h
    by_cases hp : p = 3
    · rw [hp, wordS_lost] at h; cases h
    by_cases hm : (10 : UInt8) ∈ l
    · rw [wordS_line hp hm] at h ⊢
      exact ih _ _ (by have := cut_shorter hm; omega) h
    · rw [wordS_rest hp hm] at h ⊢
      rw [Bool.and_eq_true] at h
      show mayS p l = true
      unfold mayS
      rw [h.1]
      rfl

theorem read_exit : readS 24 [37, 101, 120, 105, 116] = some (Ev.zero 24) := by
  unfold readS
  rw [if_pos (by decide)]
  rfl
theorem word_exit : wordS 0 [37, 101, 120, 105, 116, 10] = (true, true) := by
  have h := wordS_at (p := 0) (by decide) (a := [37, 101, 120, 105, 116]) (r := []) (by decide)
  rw [decS_of_read (by decide) (by decide) read_exit] at h
  rw [show [37, 101, 120, 105, 116, (10 : UInt8)] = [37, 101, 120, 105, 116] ++ 10 :: [] from rfl, h, show afterK 0 (classK (Ev.zero 24).kind) = 2 by decide, wordS_rest (by decide) (by simp)]
  rfl

end Go.Proofs.YtplolaondmeccaaGreatDoor
