/-
  Formats: what it is to be of a pattern's tokens; the walk's own way comes to the same.
-/
import Derived.Test.YtgoofifbifdgoaaGreatDoorFIs
namespace Go.Proofs.YtgoofifbifdgoaaGreatDoor
set_option linter.unusedVariables false

/-- Whether a text is of the tokens. -/
def anyF (p : List UInt8 → Bool) : List UInt8 → Bool
  | [] => p []
  | c :: r => p (c :: r) || anyF p r
def oneF (t : Tok) (p : List UInt8 → Bool) : List UInt8 → Bool
  | [] => false
  | c :: r => t.of c && p r
def mat : List Tok → List UInt8 → Bool
  | [], s => s.isEmpty
  | t :: ts, s => if t.many then anyF (mat ts) s else oneF t (mat ts) s

theorem any_iff (p : List UInt8 → Bool) (s : List UInt8) : anyF p s = true ↔ ∃ k, k ≤ s.length ∧ p (s.drop k) = true := by
  induction s with
  | nil =>
    refine ⟨fun h => ⟨0, Nat.le_refl _, h⟩, fun ⟨k, _, h⟩ => ?_⟩
    rw [List.drop_nil] at h
    exact h
  | cons c r ih =>
    simp only [anyF, Bool.or_eq_true, ih]
    constructor
    · rintro (h | ⟨k, hk, h⟩)
      · exact ⟨0, Nat.zero_le _, h⟩
      · exact ⟨k + 1, by simp only [List.length_cons]; omega, h⟩
    · rintro ⟨k, hk, h⟩
      cases k with
      | zero => exact .inl h
      | succ k => exact .inr ⟨k, by simp only [List.length_cons] at hk; omega, h⟩
theorem mat_star {t : Tok} (h : t.many = true) (ts : List Tok) (s : List UInt8) : mat (t :: ts) s = true ↔ ∃ k, k ≤ s.length ∧ mat ts (s.drop k) = true := by
  rw [mat, if_pos h, any_iff]
theorem mat_one {t : Tok} (h : t.many = false) (ts : List Tok) (c : UInt8) (r : List UInt8) : mat (t :: ts) (c :: r) = (t.of c && mat ts r) := by
  rw [mat, h]; rfl
theorem mat_one_nil {t : Tok} (h : t.many = false) (ts : List Tok) : mat (t :: ts) [] = false := by
  rw [mat, h]; rfl
theorem mat_nil_tail (ts : List Tok) : mat ts [] = tailF ts := by
  induction ts with
  | nil => rfl
  | cons t ts ih =>
    rw [mat]
    cases h : t.many with
    | true => rw [if_pos rfl]; show mat ts [] = _; rw [ih, tailF, tailF, List.all_cons, h, Bool.true_and]
    | false => rw [if_neg (by simp)]; show false = _; rw [tailF, List.all_cons, h, Bool.false_and]

theorem drop_at {α : Type} {l : List α} {i : Nat} {a : α} (h : l[i]? = some a) : l.drop i = a :: l.drop (i + 1) := by
  obtain ⟨h1, h2⟩ := List.getElem?_eq_some_iff.1 h
  rw [List.drop_eq_getElem_cons h1, h2]

/-- The state of the walk: the tokens from b up to a stand for the bytes from g up to i, and there is no star among them. -/
def Along (ts : List Tok) (s : List UInt8) (a b g i : Nat) : Prop :=
  b ≤ a ∧ a - b = i - g ∧ g ≤ i ∧ (∀ k, b ≤ k → k < a → ∃ t, ts[k]? = some t ∧ t.many = false) ∧ mat (ts.drop b) (s.drop g) = mat (ts.drop a) (s.drop i)
/-- Tokens without a star take one byte each. -/
theorem mat_past {ts : List Tok} : ∀ (m : Nat) {b : Nat} {s : List UInt8}, (∀ k, b ≤ k → k < b + m → ∃ t, ts[k]? = some t ∧ t.many = false) → mat (ts.drop b) s = true → m ≤ s.length ∧ mat (ts.drop (b + m)) (s.drop m) = true
  | 0, b, s, _, h => ⟨Nat.zero_le _, h⟩
  | m + 1, b, s, hk, h => by
    obtain ⟨t, ht, hm⟩ := hk b (Nat.le_refl _) (by omega)
    rw [drop_at ht] at h
    cases s with
    | nil => rw [mat_one_nil hm] at h; cases h
    | cons c r =>
      rw [mat_one hm, Bool.and_eq_true] at h
      obtain ⟨h1, h2⟩ := mat_past (ts := ts) m (b := b + 1) (s := r) (fun k h3 h4 => hk k (by omega) (by omega)) h.2
      refine ⟨by simp only [List.length_cons]; omega, ?_⟩
      have e : b + (m + 1) = b + 1 + m := by omega
      rw [e]
      exact h2
/-- The last star takes what is ahead of the byte g, or more. -/
def Starred (ts : List Tok) (s : List UInt8) (b g : Nat) : Prop :=
  if 0 < b then (mat ts s = true ↔ ∃ k, g ≤ k ∧ k ≤ s.length ∧ mat (ts.drop b) (s.drop k) = true) else g = 0

theorem star_shift {t : Tok} (h : t.many = true) (ts : List Tok) (s : List UInt8) {i : Nat} : mat (t :: ts) (s.drop i) = true ↔ ∃ k, i ≤ k ∧ (k ≤ s.length ∨ k = i) ∧ mat ts (s.drop k) = true := by
  rw [mat_star h]
  constructor
  · rintro ⟨k, hk, hm⟩
    rw [List.drop_drop] at hm
    rw [List.length_drop] at hk
    exact ⟨i + k, by omega, by omega, hm⟩
  · rintro ⟨k, h1, h2, hm⟩
    refine ⟨k - i, by rw [List.length_drop]; omega, ?_⟩
    rw [List.drop_drop]
    have e : i + (k - i) = k := by omega
    rw [e]
    exact hm

theorem isG_ok (ts : List Tok) (s : List UInt8) : ∀ (A B C a b g i : Nat), ts.length - b < A → s.length - g < B → s.length - i < C → a ≤ ts.length → i ≤ s.length → Along ts s a b g i → Starred ts s b g → ∃ f, isG f ts s a b g i = some (mat ts s) := by
  intro A
  induction A with
  | zero => intro B C a b g i h; omega
  | succ A ihA =>
  intro B
  induction B with
  | zero => intro C a b g i h h'; omega
  | succ B ihB =>
  intro C
  induction C with
  | zero => intro a b g i h h' h''; omega
  | succ C ihC =>
  intro a b g i hMA hMB hMC ha hi hA hS
  obtain ⟨hba, hlen, hgi, hno, heq⟩ := hA
  -- what the walk's place says of the whole
  have hback : mat (ts.drop b) (s.drop g) = false → 0 < b → (mat ts s = true ↔ ∃ k, g + 1 ≤ k ∧ k ≤ s.length ∧ mat (ts.drop b) (s.drop k) = true) := by
    intro hf hb
    unfold Starred at hS
    rw [if_pos hb] at hS
    rw [hS]
    constructor
    · rintro ⟨k, h1, h2, h3⟩
      refine ⟨k, ?_, h2, h3⟩
      rcases Nat.lt_or_ge g k with h | h
      · exact h
      · have e : k = g := by omega
        rw [e, hf] at h3
        cases h3
    · rintro ⟨k, h1, h2, h3⟩
      exact ⟨k, by omega, h2, h3⟩
  have hzero : ¬ 0 < b → mat ts s = mat (ts.drop b) (s.drop g) := by
    intro hb
    unfold Starred at hS
    rw [if_neg hb] at hS
    have e : b = 0 := by omega
    rw [e, hS]
    rfl
  by_cases his : i < s.length
  · obtain ⟨c, hc⟩ : ∃ c, s[i]? = some c := ⟨_, List.getElem?_eq_getElem his⟩
    have hsd := drop_at hc
    by_cases han : a < ts.length
    · obtain ⟨t, ht⟩ : ∃ t, ts[a]? = some t := ⟨_, List.getElem?_eq_getElem han⟩
      have htd := drop_at ht
      cases hm : t.many with
      | true =>
        have hS' : Starred ts s (a + 1) i := by
          unfold Starred
          rw [if_pos (Nat.succ_pos _)]
          have h2 : mat (ts.drop a) (s.drop i) = true ↔ ∃ k, i ≤ k ∧ k ≤ s.length ∧ mat (ts.drop (a + 1)) (s.drop k) = true := by
            rw [htd, star_shift hm]
            constructor
            · rintro ⟨k, h1, h2, h3⟩; exact ⟨k, h1, by omega, h3⟩
            · rintro ⟨k, h1, h2, h3⟩; exact ⟨k, h1, .inl h2, h3⟩
          rw [← h2]
          by_cases hb : 0 < b
          · have hS2 := hS
            unfold Starred at hS2
            rw [if_pos hb] at hS2
            rw [hS2]
            constructor
            · rintro ⟨k, h1, h3, h4⟩
              rw [h2]
              clear h2 hS2
              have h5 := mat_past (ts := ts) (a - b) (b := b) (s := s.drop k) (fun k h6 h7 => hno k h6 (by omega)) h4
              have e : b + (a - b) = a := by omega
              rw [e, List.drop_drop, List.length_drop] at h5
              obtain ⟨h6, h7⟩ := h5
              rw [htd, star_shift hm] at h7
              obtain ⟨j, j1, j2, j3⟩ := h7
              exact ⟨j, by omega, by omega, j3⟩
            · intro h
              exact ⟨g, Nat.le_refl _, by omega, heq.trans h⟩
          · rw [hzero hb, heq]
        have hA' : Along ts s (a + 1) (a + 1) i i := ⟨Nat.le_refl _, by omega, Nat.le_refl _, fun k h1 h2 => by omega, rfl⟩
        obtain ⟨f, hf⟩ := ihA (s.length + 1) (s.length + 1) (a + 1) (a + 1) i i (by omega) (by omega) (by omega) han hi hA' hS'
        refine ⟨f + 1, ?_⟩
        unfold isG
        rw [hc, ht]
        simp only
        rw [hm, if_pos rfl]
        exact hf
      | false =>
        cases ho : t.of c with
        | true =>
          have hA' : Along ts s (a + 1) b g (i + 1) := by
            refine ⟨by omega, by omega, by omega, fun k h1 h2 => ?_, ?_⟩
            · rcases Nat.lt_or_ge k a with h | h
              · exact hno k h1 h
              · have e : k = a := by omega
                rw [e]
                exact ⟨t, ht, hm⟩
            · rw [heq, htd, hsd, mat_one hm, ho, Bool.true_and]
          obtain ⟨f, hf⟩ := ihC (a + 1) b g (i + 1) hMA hMB (by omega) han his hA' hS
          refine ⟨f + 1, ?_⟩
          unfold isG
          rw [hc, ht]
          simp only
          rw [hm, if_neg (by simp), ho, if_pos rfl]
          exact hf
        | false =>
          have hf0 : mat (ts.drop b) (s.drop g) = false := by rw [heq, htd, hsd, mat_one hm, ho, Bool.false_and]
          by_cases hb : 0 < b
          · have hA' : Along ts s b b (g + 1) (g + 1) := ⟨Nat.le_refl _, by omega, Nat.le_refl _, fun k h1 h2 => by omega, rfl⟩
            have hS' : Starred ts s b (g + 1) := by
              unfold Starred
              rw [if_pos hb]
              exact hback hf0 hb
            obtain ⟨f, hf⟩ := ihB (s.length + 1) b b (g + 1) (g + 1) hMA (by omega) (by omega) (by omega) (by omega) hA' hS'
            refine ⟨f + 1, ?_⟩
            unfold isG
            rw [hc, ht]
            simp only
            rw [hm, if_neg (by simp), ho, if_neg (by simp), if_pos hb]
            exact hf
          · refine ⟨1, ?_⟩
            unfold isG
            rw [hc, ht]
            simp only
            rw [hm, if_neg (by simp), ho, if_neg (by simp), if_neg hb, hzero hb, hf0]
    · have hnone : ts[a]? = none := List.getElem?_eq_none (by omega)
      have hf0 : mat (ts.drop b) (s.drop g) = false := by
        rw [heq, List.drop_eq_nil_of_le (by omega), hsd]
        rfl
      by_cases hb : 0 < b
      · have hA' : Along ts s b b (g + 1) (g + 1) := ⟨Nat.le_refl _, by omega, Nat.le_refl _, fun k h1 h2 => by omega, rfl⟩
        have hS' : Starred ts s b (g + 1) := by
          unfold Starred
          rw [if_pos hb]
          exact hback hf0 hb
        obtain ⟨f, hf⟩ := ihB (s.length + 1) b b (g + 1) (g + 1) hMA (by omega) (by omega) (by omega) (by omega) hA' hS'
        refine ⟨f + 1, ?_⟩
        unfold isG
        rw [hc, hnone]
        simp only
        rw [if_pos hb]
        exact hf
      · refine ⟨1, ?_⟩
        unfold isG
        rw [hc, hnone]
        simp only
        rw [if_neg hb, hzero hb, hf0]
  · have hnone : s[i]? = none := List.getElem?_eq_none (by omega)
    have hi' : i = s.length := by omega
    have hnil : s.drop i = [] := by rw [hi', List.drop_length]
    refine ⟨1, ?_⟩
    unfold isG
    rw [hnone]
    simp only
    rw [← mat_nil_tail, ← hnil, ← heq]
    by_cases hb : 0 < b
    · have hS2 := hS
      unfold Starred at hS2
      rw [if_pos hb] at hS2
      congr 1
      rw [Bool.eq_iff_iff, hS2]
      constructor
      · intro h
        exact ⟨g, Nat.le_refl _, by omega, h⟩
      · rintro ⟨k, h1, h2, h3⟩
        have h5 := mat_past (ts := ts) (a - b) (b := b) (s := s.drop k) (fun k h6 h7 => hno k h6 (by omega)) h3
        have h6 := h5.1
        rw [List.length_drop] at h6
        have e : k = g := by omega
        rw [e] at h3
        exact h3
    · rw [hzero hb]

theorem isG_mat (ts : List Tok) (s : List UInt8) : ∃ f, isG f ts s 0 0 0 0 = some (mat ts s) :=
  isG_ok ts s (ts.length + 1) (s.length + 1) (s.length + 1) 0 0 0 0 (by omega) (by omega) (by omega) (Nat.zero_le _) (Nat.zero_le _) ⟨Nat.le_refl _, rfl, Nat.le_refl _, fun k h1 h2 => by omega, rfl⟩ (by unfold Starred; rw [if_neg (by omega)])
end Go.Proofs.YtgoofifbifdgoaaGreatDoor
