/-
  Formats: what it is to be of a pattern's tokens; the walk's own way comes to the same.
  Formats: the tokens of a pattern, and the document's pieces of it.
  Formats: the set with which a pattern begins.
  Formats: the token with which a pattern begins.
  Formats: all tokens of a pattern; Match.
  Formats: Match.
-/
import Derived.Test.YtlfcjcaofhcfnaaGreatDoorGJ
import Derived.Test.YtlfcjcaofhcfnaaGreatDoorShelf
import Derived.Test.YtlfcjcaofhcfnaaGreatDoorGB
import Derived.Lib.IndexLaws
import Derived.Lib.LastIndexByte
import Derived.Laws.ResultCell
import Derived.Laws.Rows
import Derived.WalkKit
namespace Go.Proofs.YtlfcjcaofhcfnaaGreatDoor
set_option linter.unusedVariables false


theorem any_iff (p : List UInt8 → Bool) (s : List UInt8) : anyF p s = true ↔ ∃ k, k ≤ s.length ∧ p (s.drop k) = true := by
  induction s with
  | nil =>
    refine ⟨fun h => ⟨0, Nat.le_refl _, h⟩, fun ⟨k, _, h⟩ => ?_⟩
    rw [List.drop_nil] at h
    exact h
  | cons c r ih =>
    simp only [anyF, Bool.or_eq_true, ih]
    constructor
    · rintro (h | ⟨k, hk, h⟩)
      · exact ⟨0, Nat.zero_le _, h⟩
      · exact ⟨k + 1, by simp only [List.length_cons]; omega, h⟩
    · rintro ⟨k, hk, h⟩
      cases k with
      | zero => exact .inl h
      | succ k => exact .inr ⟨k, by simp only [List.length_cons] at hk; omega, h⟩
theorem mat_star {t : Tok} (h : t.many = true) (ts : List Tok) (s : List UInt8) : mat (t :: ts) s = true ↔ ∃ k, k ≤ s.length ∧ mat ts (s.drop k) = true := by
  rw [mat, if_pos h, any_iff]
theorem mat_one {t : Tok} (h : t.many = false) (ts : List Tok) (c : UInt8) (r : List UInt8) : mat (t :: ts) (c :: r) = (t.of c && mat ts r) := by
  rw [mat, h]; rfl
theorem mat_one_nil {t : Tok} (h : t.many = false) (ts : List Tok) : mat (t :: ts) [] = false := by
  rw [mat, h]; rfl
theorem mat_nil_tail (ts : List Tok) : mat ts [] = tailF ts := by
  induction ts with
  | nil => rfl
  | cons t ts ih =>
    rw [mat]
    cases h : t.many with
    | true => rw [if_pos rfl]; show mat ts [] = _; rw [ih, tailF, tailF, List.all_cons, h, Bool.true_and]
    | false => rw [if_neg (by simp)]; show false = _; rw [tailF, List.all_cons, h, Bool.false_and]

theorem drop_at {α : Type} {l : List α} {i : Nat} {a : α} (h : l[i]? = some a) : l.drop i = a :: l.drop (i + 1) := by
  obtain ⟨h1, h2⟩ := List.getElem?_eq_some_iff.1 h
  rw [List.drop_eq_getElem_cons h1, h2]

/-- The state of the walk: the tokens from b up to a stand for the bytes from g up to i, and there is no star among them. -/
def Along (ts : List Tok) (s : List UInt8) (a b g i : Nat) : Prop :=
  b ≤ a ∧ a - b = i - g ∧ g ≤ i ∧ (∀ k, b ≤ k → k < a → ∃ t, ts[k]? = some t ∧ t.many = false) ∧ mat (ts.drop b) (s.drop g) = mat (ts.drop a) (s.drop i)
/-- Tokens without a star take one byte each. -/
theorem mat_past {ts : List Tok} : ∀ (m : Nat) {b : Nat} {s : List UInt8}, (∀ k, b ≤ k → k < b + m → ∃ t, ts[k]? = some t ∧ t.many = false) → mat (ts.drop b) s = true → m ≤ s.length ∧ mat (ts.drop (b + m)) (s.drop m) = true
  | 0, b, s, _, h => ⟨Nat.zero_le _, h⟩
  | m + 1, b, s, hk, h => by
    obtain ⟨t, ht, hm⟩ := hk b (Nat.le_refl _) (by omega)
    rw [drop_at ht] at h
    cases s with
    | nil => rw [mat_one_nil hm] at h; cases h
    | cons c r =>
      rw [mat_one hm, Bool.and_eq_true] at h
      obtain ⟨h1, h2⟩ := mat_past (ts := ts) m (b := b + 1) (s := r) (fun k h3 h4 => hk k (by omega) (by omega)) h.2
      refine ⟨by simp only [List.length_cons]; omega, ?_⟩
      have e : b + (m + 1) = b + 1 + m := by omega
      rw [e]
      exact h2
/-- The last star takes what is ahead of the byte g, or more. -/
def Starred (ts : List Tok) (s : List UInt8) (b g : Nat) : Prop :=
  if 0 < b then (mat ts s = true ↔ ∃ k, g ≤ k ∧ k ≤ s.length ∧ mat (ts.drop b) (s.drop k) = true) else g = 0

theorem star_shift {t : Tok} (h : t.many = true) (ts : List Tok) (s : List UInt8) {i : Nat} : mat (t :: ts) (s.drop i) = true ↔ ∃ k, i ≤ k ∧ (k ≤ s.length ∨ k = i) ∧ mat ts (s.drop k) = true := by
  rw [mat_star h]
  constructor
  · rintro ⟨k, hk, hm⟩
    rw [List.drop_drop] at hm
    rw [List.length_drop] at hk
    exact ⟨i + k, by omega, by omega, hm⟩
  · rintro ⟨k, h1, h2, hm⟩
    refine ⟨k - i, by rw [List.length_drop]; omega, ?_⟩
    rw [List.drop_drop]
    have e : i + (k - i) = k := by omega
    rw [e]
    exact hm

theorem isG_ok (ts : List Tok) (s : List UInt8) : ∀ (A B C a b g i : Nat), ts.length - b < A → s.length - g < B → s.length - i < C → a ≤ ts.length → i ≤ s.length → Along ts s a b g i → Starred ts s b g → ∃ f, isG f ts s a b g i = some (mat ts s) := by
  intro A
  induction A with
  | zero => intro B C a b g i h; omega
  | succ A ihA =>
  intro B
  induction B with
  | zero => intro C a b g i h h'; omega
  | succ B ihB =>
  intro C
  induction C with
  | zero => intro a b g i h h' h''; omega
  | succ C ihC =>
  intro a b g i hMA hMB hMC ha hi hA hS
  obtain ⟨hba, hlen, hgi, hno, heq⟩ := hA
  -- what the walk's place says of the whole
  have hback : mat (ts.drop b) (s.drop g) = false → 0 < b → (mat ts s = true ↔ ∃ k, g + 1 ≤ k ∧ k ≤ s.length ∧ mat (ts.drop b) (s.drop k) = true) := by
    intro hf hb
    unfold Starred at hS
    rw [if_pos hb] at hS
    rw [hS]
    constructor
    · rintro ⟨k, h1, h2, h3⟩
      refine ⟨k, ?_, h2, h3⟩
      rcases Nat.lt_or_ge g k with h | h
      · exact h
      · have e : k = g := by omega
        rw [e, hf] at h3
        cases h3
    · rintro ⟨k, h1, h2, h3⟩
      exact ⟨k, by omega, h2, h3⟩
  have hzero : ¬ 0 < b → mat ts s = mat (ts.drop b) (s.drop g) := by
    intro hb
    unfold Starred at hS
    rw [if_neg hb] at hS
    have e : b = 0 := by omega
    rw [e, hS]
    rfl
  by_cases his : i < s.length
  · obtain ⟨c, hc⟩ : ∃ c, s[i]? = some c := ⟨_, List.getElem?_eq_getElem his⟩
    have hsd := drop_at hc
    by_cases han : a < ts.length
    · obtain ⟨t, ht⟩ : ∃ t, ts[a]? = some t := ⟨_, List.getElem?_eq_getElem han⟩
      have htd := drop_at ht
      cases hm : t.many with
      | true =>
        have hS' : Starred ts s (a + 1) i := by
          unfold Starred
          rw [if_pos (Nat.succ_pos _)]
          have h2 : mat (ts.drop a) (s.drop i) = true ↔ ∃ k, i ≤ k ∧ k ≤ s.length ∧ mat (ts.drop (a + 1)) (s.drop k) = true := by
            rw [htd, star_shift hm]
            constructor
            · rintro ⟨k, h1, h2, h3⟩; exact ⟨k, h1, by omega, h3⟩
            · rintro ⟨k, h1, h2, h3⟩; exact ⟨k, h1, .inl h2, h3⟩
          rw [← h2]
          by_cases hb : 0 < b
          · have hS2 := hS
            unfold Starred at hS2
            rw [if_pos hb] at hS2
            rw [hS2]
            constructor
            · rintro ⟨k, h1, h3, h4⟩
              rw [h2]
              clear h2 hS2
              have h5 := mat_past (ts := ts) (a - b) (b := b) (s := s.drop k) (fun k h6 h7 => hno k h6 (by omega)) h4
              have e : b + (a - b) = a := by omega
              rw [e, List.drop_drop, List.length_drop] at h5
              obtain ⟨h6, h7⟩ := h5
              rw [htd, star_shift hm] at h7
              obtain ⟨j, j1, j2, j3⟩ := h7
              exact ⟨j, by omega, by omega, j3⟩
            · intro h
              exact ⟨g, Nat.le_refl _, by omega, heq.trans h⟩
          · rw [hzero hb, heq]
        have hA' : Along ts s (a + 1) (a + 1) i i := ⟨Nat.le_refl _, by omega, Nat.le_refl _, fun k h1 h2 => by omega, rfl⟩
        obtain ⟨f, hf⟩ := ihA (s.length + 1) (s.length + 1) (a + 1) (a + 1) i i (by omega) (by omega) (by omega) han hi hA' hS'
        refine ⟨f + 1, ?_⟩
        unfold isG
        rw [hc, ht]
        simp only
        rw [hm, if_pos rfl]
        exact hf
      | false =>
        cases ho : t.of c with
        | true =>
          have hA' : Along ts s (a + 1) b g (i + 1) := by
            refine ⟨by omega, by omega, by omega, fun k h1 h2 => ?_, ?_⟩
            · rcases Nat.lt_or_ge k a with h | h
              · exact hno k h1 h
              · have e : k = a := by omega
                rw [e]
                exact ⟨t, ht, hm⟩
            · rw [heq, htd, hsd, mat_one hm, ho, Bool.true_and]
          obtain ⟨f, hf⟩ := ihC (a + 1) b g (i + 1) hMA hMB (by omega) han his hA' hS
          refine ⟨f + 1, ?_⟩
          unfold isG
          rw [hc, ht]
          simp only
          rw [hm, if_neg (by simp), ho, if_pos rfl]
          exact hf
        | false =>
          have hf0 : mat (ts.drop b) (s.drop g) = false := by rw [heq, htd, hsd, mat_one hm, ho, Bool.false_and]
          by_cases hb : 0 < b
          · have hA' : Along ts s b b (g + 1) (g + 1) := ⟨Nat.le_refl _, by omega, Nat.le_refl _, fun k h1 h2 => by omega, rfl⟩
            have hS' : Starred ts s b (g + 1) := by
              unfold Starred
              rw [if_pos hb]
              exact hback hf0 hb
            obtain ⟨f, hf⟩ := ihB (s.length + 1) b b (g + 1) (g + 1) hMA (by omega) (by omega) (by omega) (by omega) hA' hS'
            refine ⟨f + 1, ?_⟩
            unfold isG
            rw [hc, ht]
            simp only
            rw [hm, if_neg (by simp), ho, if_neg (by simp), if_pos hb]
            exact hf
          · refine ⟨1, ?_⟩
            unfold isG
            rw [hc, ht]
            simp only
            rw [hm, if_neg (by simp), ho, if_neg (by simp), if_neg hb, hzero hb, hf0]
    · have hnone : ts[a]? = none := List.getElem?_eq_none (by omega)
      have hf0 : mat (ts.drop b) (s.drop g) = false := by
        rw [heq, List.drop_eq_nil_of_le (by omega), hsd]
        rfl
      by_cases hb : 0 < b
      · have hA' : Along ts s b b (g + 1) (g + 1) := ⟨Nat.le_refl _, by omega, Nat.le_refl _, fun k h1 h2 => by omega, rfl⟩
        have hS' : Starred ts s b (g + 1) := by
          unfold Starred
          rw [if_pos hb]
          exact hback hf0 hb
        obtain ⟨f, hf⟩ := ihB (s.length + 1) b b (g + 1) (g + 1) hMA (by omega) (by omega) (by omega) (by omega) hA' hS'
        refine ⟨f + 1, ?_⟩
        unfold isG
        rw [hc, hnone]
        simp only
        rw [if_pos hb]
        exact hf
      · refine ⟨1, ?_⟩
        unfold isG
        rw [hc, hnone]
        simp only
        rw [if_neg hb, hzero hb, hf0]
  · have hnone : s[i]? = none := List.getElem?_eq_none (by omega)
    have hi' : i = s.length := by omega
    have hnil : s.drop i = [] := by rw [hi', List.drop_length]
    refine ⟨1, ?_⟩
    unfold isG
    rw [hnone]
    simp only
    rw [← mat_nil_tail, ← hnil, ← heq]
    by_cases hb : 0 < b
    · have hS2 := hS
      unfold Starred at hS2
      rw [if_pos hb] at hS2
      congr 1
      rw [Bool.eq_iff_iff, hS2]
      constructor
      · intro h
        exact ⟨g, Nat.le_refl _, by omega, h⟩
      · rintro ⟨k, h1, h2, h3⟩
        have h5 := mat_past (ts := ts) (a - b) (b := b) (s := s.drop k) (fun k h6 h7 => hno k h6 (by omega)) h3
        have h6 := h5.1
        rw [List.length_drop] at h6
        have e : k = g := by omega
        rw [e] at h3
        exact h3
    · rw [hzero hb]

theorem isG_mat (ts : List Tok) (s : List UInt8) : ∃ f, isG f ts s 0 0 0 0 = some (mat ts s) :=
  isG_ok ts s (ts.length + 1) (s.length + 1) (s.length + 1) 0 0 0 0 (by omega) (by omega) (by omega) (Nat.zero_le _) (Nat.zero_le _) ⟨Nat.le_refl _, rfl, Nat.le_refl _, fun k h1 h2 => by omega, rfl⟩ (by unfold Starred; rw [if_neg (by omega)])
end Go.Proofs.YtlfcjcaofhcfnaaGreatDoor

namespace Go.Proofs.YtlfcjcaofhcfnaaGreatDoor
set_option linter.unusedVariables false

def csetF (l : List UInt8) (e : Int) : Tok × Nat :=
  if e ≤ (begN l : Int) then (⟨false, false, []⟩, 0) else (⟨false, notB l, (l.drop (begN l)).take (endN l - begN l)⟩, endN l + 1)
def tokF (l : List UInt8) (e : Int) : Tok × Nat := match l with
  | [] => (⟨false, false, []⟩, 1)
  | c :: r => if c.toNat = 42 then (⟨true, false, []⟩, 1) else if c.toNat = 63 then (⟨false, true, []⟩, 1) else if c.toNat = 92 ∧ r ≠ [] then (⟨false, false, r.take 1⟩, 2) else if c.toNat = 91 ∧ 0 < (csetF (c :: r) e).2 then csetF (c :: r) e else (⟨false, false, [c]⟩, 1)
def toksG : Nat → List UInt8 → Int → List Tok
  | 0, _, _ => []
  | f + 1, l, e => if l = [] then [] else (tokF l e).1 :: toksG f (l.drop (tokF l e).2) (e - ((tokF l e).2 : Int))
def lastE (l : List UInt8) : Int := Lib.lastIndexByte (str l) 93
def toksF (l : List UInt8) : List Tok := toksG l.length l (lastE l)

/-- e is the place of the last ] (below 0: there is none from here on). -/
structure LastOk (l : List UInt8) (e : Int) : Prop where
  lt : e < (l.length : Int)
  all : ∀ k : Nat, l[k]? = some 93 → (k : Int) ≤ e
  hit : 0 ≤ e → l[e.toNat]? = some 93
theorem byte_eq {c : UInt8} {n : Nat} (h : c.toNat = n) (hn : n < 256) : c = UInt8.ofNat n := by
  rw [← h]
  exact (UInt8.ofNat_toNat).symm
theorem data_at (l : List UInt8) {k : Nat} (h : k < l.length) : (str l).data[k]! = l[k] := by
  have e : (str l).data = l.toArray := rfl
  rw [e, getElem!_pos _ _ (by simpa using h)]
  simp
theorem last_ok (l : List UInt8) : LastOk l (lastE l) := by
  have hsz : (str l).size = l.length := rfl
  rcases Lib.lastIndexByte_spec (str l) 93 with ⟨h1, h2⟩ | ⟨i, h1, h2, h3, h4⟩
  · have e : lastE l = -1 := h1
    refine ⟨by rw [e]; omega, fun k hk => ?_, fun h => by rw [e] at h; omega⟩
    obtain ⟨hl, hk⟩ := List.getElem?_eq_some_iff.1 hk
    have := h2 k (by rw [hsz]; exact hl)
    rw [data_at l hl, hk] at this
    exact absurd rfl this
  · have e : lastE l = i := h2
    rw [hsz] at h1
    rw [data_at l h1] at h3
    refine ⟨by rw [e]; omega, fun k hk => ?_, fun _ => ?_⟩
    · obtain ⟨hl, hk⟩ := List.getElem?_eq_some_iff.1 hk
      rw [e]
      rcases Nat.lt_or_ge i k with h | h
      · have := h4 k h (by rw [hsz]; exact hl)
        rw [data_at l hl, hk] at this
        exact absurd rfl this
      · omega
    · rw [e]
      have e2 : ((i : Int)).toNat = i := rfl
      rw [e2, List.getElem?_eq_getElem h1]
      congr 1
      exact byte_eq (n := 93) (by omega) (by decide)
theorem LastOk.drop {l : List UInt8} {e : Int} (h : LastOk l e) {n : Nat} (hn : n ≤ l.length) : LastOk (l.drop n) (e - (n : Int)) := by
  refine ⟨by have := h.lt; rw [List.length_drop]; omega, fun k hk => ?_, fun h0 => ?_⟩
  · rw [List.getElem?_drop] at hk
    have := h.all _ hk
    omega
  · rw [List.getElem?_drop]
    have e1 : n + (e - (n : Int)).toNat = e.toNat := by omega
    rw [e1]
    exact h.hit (by omega)

theorem beg_le (l : List UInt8) : 1 ≤ begN l ∧ begN l ≤ 2 := by unfold begN; split <;> omega
/-- Where there is a ] behind the first member. -/
theorem set_end {l : List UInt8} {e : Int} (h : LastOk l e) (hb : (begN l : Int) < e) : 0 ≤ Lib.indexByte (l.drop (begN l + 1)) 93 ∧ endN l < l.length := by
  have hge := Lib.indexByte_ge (l.drop (begN l + 1)) 93
  have h93 := h.hit (by omega)
  have hbn := beg_le l
  have hne : Lib.indexByte (l.drop (begN l + 1)) 93 ≠ -1 := fun hn => by
    refine Lib.indexByte_none hn (e.toNat - (begN l + 1)) ?_
    rw [List.getElem?_drop]
    have e1 : begN l + 1 + (e.toNat - (begN l + 1)) = e.toNat := by omega
    rw [e1]
    exact h93
  obtain ⟨o, ho⟩ : ∃ o : Nat, Lib.indexByte (l.drop (begN l + 1)) 93 = o := ⟨(Lib.indexByte (l.drop (begN l + 1)) 93).toNat, by omega⟩
  refine ⟨by omega, ?_⟩
  have h2 := (List.getElem?_eq_some_iff.1 (Lib.indexByte_some ho).1).1
  unfold endN
  rw [ho]
  rw [List.length_drop] at h2
  have e2 : ((o : Int)).toNat = o := rfl
  rw [e2]
  omega
theorem set_le {l : List UInt8} {e : Int} (h : LastOk l e) : (csetF l e).2 ≤ l.length := by
  unfold csetF
  split
  · exact Nat.zero_le _
  · rename_i hb
    have := set_end h (by omega)
    simp only
    omega
theorem tok_len {l : List UInt8} {e : Int} (h : LastOk l e) (hl : l ≠ []) : 1 ≤ (tokF l e).2 ∧ (tokF l e).2 ≤ l.length := by
  cases l with
  | nil => exact absurd rfl hl
  | cons c r =>
    simp only [tokF]
    split
    · simp
    split
    · simp
    split
    · rename_i h1
      cases r with
      | nil => exact absurd rfl h1.2
      | cons d r => simp
    split
    · rename_i h1
      exact ⟨h1.2, set_le h⟩
    · simp
theorem tok_mem {l : List UInt8} {e : Int} : (tokF l e).1.mem.length ≤ l.length := by
  cases l with
  | nil => simp [tokF]
  | cons c r =>
    simp only [tokF]
    split
    · simp
    split
    · simp
    split
    · rw [List.length_take, List.length_cons]; omega
    split
    · unfold csetF
      split
      · simp
      · simp only [List.length_take, List.length_drop]; omega
    · simp
theorem toks_few : ∀ (f : Nat) (l : List UInt8) (e : Int), (toksG f l e).length ≤ f
  | 0, _, _ => Nat.le_refl _
  | f + 1, l, e => by
    unfold toksG
    split
    · simp
    · have := toks_few f (l.drop (tokF l e).2) (e - ((tokF l e).2 : Int))
      simp only [List.length_cons]
      omega

/-- The document's pieces: ranges are pairs of bytes. -/
def rangG : Nat → List UInt8 → List UInt8
  | 0, _ => []
  | _ + 1, [] => []
  | f + 1, c :: r => [c, (spanF (c :: r)).1] ++ rangG f ((c :: r).drop (spanF (c :: r)).2)
def rangF (l : List UInt8) : List UInt8 := rangG l.length l
def inF (b : UInt8) : List UInt8 → Bool
  | x :: y :: r => (decide (x.toNat ≤ b.toNat) && decide (b.toNat ≤ y.toNat)) || inF b r
  | _ => false
theorem rang_has : ∀ (f : Nat) (l : List UInt8) (b : UInt8), inF b (rangG f l) = hasG f l b
  | 0, _, _ => rfl
  | _ + 1, [], _ => rfl
  | f + 1, c :: r, b => by
    have h := rang_has f ((c :: r).drop (spanF (c :: r)).2) b
    simp only [rangG, hasG, List.cons_append, List.nil_append, inF, h]
theorem rang_of (t : Tok) (b : UInt8) : (inF b (rangF t.mem) != t.not) = t.of b := by
  unfold rangF Tok.of hasF
  rw [rang_has]
theorem rang_len : ∀ (f : Nat) (l : List UInt8), (rangG f l).length ≤ 2 * f
  | 0, _ => Nat.le_refl _
  | _ + 1, [] => by simp [rangG]
  | f + 1, c :: r => by
    have h := rang_len f ((c :: r).drop (spanF (c :: r)).2)
    simp only [rangG, List.length_append, List.length_cons, List.length_nil]
    omega
theorem rang_fuel : ∀ (f g : Nat) (l : List UInt8), l.length ≤ f → l.length ≤ g → rangG f l = rangG g l
  | 0, g, l, h1, h2 => by
    have e : l = [] := List.length_eq_zero_iff.1 (by omega)
    subst e
    cases g <;> rfl
  | f + 1, 0, l, h1, h2 => by
    have e : l = [] := List.length_eq_zero_iff.1 (by omega)
    subst e
    rfl
  | f + 1, g + 1, [], _, _ => rfl
  | f + 1, g + 1, c :: r, h1, h2 => by
    have hs := span_pos (c :: r)
    have hd : ((c :: r).drop (spanF (c :: r)).2).length ≤ r.length := by rw [List.length_drop, List.length_cons]; omega
    simp only [List.length_cons] at h1 h2
    simp only [rangG]
    rw [rang_fuel f g ((c :: r).drop (spanF (c :: r)).2) (by omega) (by omega)]

theorem set_both {l : List UInt8} {e : Int} (h : LastOk l e) : (0 < (csetF l e).2 ↔ 0 < (dsetF l).2) ∧ (0 < (csetF l e).2 → csetF l e = dsetF l) := by
  by_cases hb : e ≤ (begN l : Int)
  · have h0 : csetF l e = (⟨false, false, []⟩, 0) := by unfold csetF; rw [if_pos hb]
    have hn : Lib.indexByte (l.drop (begN l + 1)) 93 = -1 := by
      have hge := Lib.indexByte_ge (l.drop (begN l + 1)) 93
      rcases Decidable.em (Lib.indexByte (l.drop (begN l + 1)) 93 = -1) with h1 | h1
      · exact h1
      · exfalso
        obtain ⟨o, ho⟩ : ∃ o : Nat, Lib.indexByte (l.drop (begN l + 1)) 93 = o := ⟨(Lib.indexByte (l.drop (begN l + 1)) 93).toNat, by omega⟩
        have h2 := (Lib.indexByte_some ho).1
        rw [List.getElem?_drop] at h2
        have := h.all _ h2
        omega
    have h1 : dsetF l = (⟨false, notB l, []⟩, 0) := by unfold dsetF; rw [if_pos hn]
    rw [h0, h1]
    simp
  · have h0 : csetF l e = (⟨false, notB l, (l.drop (begN l)).take (endN l - begN l)⟩, endN l + 1) := by unfold csetF; rw [if_neg hb]
    have hn := (set_end h (by omega)).1
    have h1 : dsetF l = (⟨false, notB l, (l.drop (begN l)).take (endN l - begN l)⟩, endN l + 1) := by unfold dsetF; rw [if_neg (by omega)]
    rw [h0, h1]
    simp
theorem tok_both {l : List UInt8} {e : Int} (h : LastOk l e) : tokF l e = dtokF l := by
  cases l with
  | nil => rfl
  | cons c r =>
    obtain ⟨h1, h2⟩ := set_both h
    simp only [tokF, dtokF]
    split
    · rfl
    split
    · rfl
    split
    · rfl
    by_cases h3 : c.toNat = 91 ∧ 0 < (csetF (c :: r) e).2
    · rw [if_pos h3, if_pos ⟨h3.1, h1.1 h3.2⟩, h2 h3.2]
    · rw [if_neg h3, if_neg (fun h4 => h3 ⟨h4.1, h1.2 h4.2⟩)]
theorem toks_both : ∀ (f : Nat) (l : List UInt8) (e : Int), LastOk l e → toksG f l e = dtoksG f l
  | 0, _, _, _ => rfl
  | f + 1, l, e, h => by
    unfold toksG dtoksG
    by_cases h0 : l = []
    · rw [if_pos h0, if_pos h0]
    · rw [if_neg h0, if_neg h0, ← tok_both h, toks_both f _ _ (h.drop (tok_len h h0).2)]
theorem toks_doc (l : List UInt8) : toksF l = dtoksF l := toks_both _ _ _ (last_ok l)
end Go.Proofs.YtlfcjcaofhcfnaaGreatDoor

namespace Go.Proofs.YtlfcjcaofhcfnaaGreatDoor
open Go.RowKit
set_option linter.unusedVariables false
set_option maxRecDepth 20000

def tokV (t : Tok) : Value := .agg #[.bool t.many, .bool t.not, .string (str t.mem)]

theorem slice_mid (A : ByteArray) (a b : Nat) (x y : Int) (hx : x = (a : Int)) (hy : y = (b : Int)) (hab : a ≤ b) (h : b ≤ A.size) (W : World) : (Instr.slice 9 (.string A) (some (.int .i64 x)) (some (.int .i64 y)) none).run Tryz.prog W = .ok (.string (A.extract a b)) W := by
  subst hx hy
  simp [Instr.slice, go_sem, hab, h]
/-- Two results, the first of them a struct that lies in a block. -/
theorem ret_cell2 {P : Program} {fn : Func} {p u : Tmp} {ty : TypeId} (h : fn.results = #[.cell p ty, .tmp u]) {a : Act} {w : World} {R : Ending → World → Prop} {g : Nat} {t : TypeId} {cs : Array Value} {fr : Nat × Nat} {d : TypeDesc}
    (hp : a.tmps.getD p undef = .pointer (some ⟨g, 0, none⟩)) (hg : w.heap[g]? = some (.cells cs t fr)) (hu : P.underlying ty = some d) (hd : (match d with | .struct _ | .array _ _ => true | _ => false) = true) (hi : (P.info? ty).map (·.size) = some cs.size)
    (hdf : a.defers = []) (hR : R (.returned (.tuple #[.agg cs, a.tmps.getD u undef])) w) : bodyPost P fn R .ret a w := by
  refine bodyPost_ret ?_ hdf hR
  rw [results_cell_tmp h, hp]
  have h1 : (asAddr (.pointer (some ⟨g, 0, none⟩))).run P w = .ok ⟨g, 0, none⟩ w := rfl
  rw [h1]
  simp only [Result.andThen]
  rw [run_loadVar_row w g t ty cs fr d hg hu hd hi]

set_option maxHeartbeats 2000000 in
theorem nextSet_any (l : List UInt8) (hl : l.length ≤ 2147483647) (h0 : 1 ≤ l.length) (e : Int) (he : e < (l.length : Int)) (hk : (begN l : Int) < e → 0 ≤ Lib.indexByte (l.drop (begN l + 1)) 93 ∧ endN l < l.length) (w : World) :
    Calls Tryz.prog 124 #[.string (str l), .int .i64 e] w fun x w' => x = .returned (.tuple #[tokV (csetF l e).1, .int .i64 ((csetF l e).2 : Int)]) ∧ Below w.heap.size w w' := by
  have HP := hidK fun W => Tryz.strings_HasPrefix (str (l.drop 1)) (str [33]) W
  have HI := hidK fun W => Tryz.strings_IndexByte (str (l.drop (begN l + 1))) 93 W
  have hd1 := str_dropF l 1
  have hdb := str_dropF l (begN l + 1)
  have hmid := str_midF l (begN l) (endN l)
  have hzs : (str l).size = l.length := rfl
  have HS : Hid (csetF l e = if e ≤ (begN l : Int) then (⟨false, false, []⟩, 0) else (⟨false, notB l, (l.drop (begN l)).take (endN l - begN l)⟩, endN l + 1)) := rfl
  have hn : Lib.hasPrefix (str (l.drop 1)).data.toList (str [33]).data.toList = notB l := rfl
  have hi : (str (l.drop (begN l + 1))).data.toList = l.drop (begN l + 1) := rfl
  rw [hn] at HP
  rw [hi] at HI
  rw [hzs] at hd1 hdb
  obtain ⟨z, hz⟩ : ∃ z, str l = z := ⟨_, rfl⟩
  obtain ⟨y, hy⟩ : ∃ y, str (l.drop 1) = y := ⟨_, rfl⟩
  obtain ⟨m, hm⟩ : ∃ m, str ((l.drop (begN l)).take (endN l - begN l)) = m := ⟨_, rfl⟩
  obtain ⟨v, hv⟩ : ∃ v, str (l.drop (begN l + 1)) = v := ⟨_, rfl⟩
  rw [hz] at hd1 hdb hmid hzs ⊢
  rw [hy] at HP hd1
  rw [hm] at hmid
  rw [hv] at HI hdb
  have HM := hidK hm
  have HEn : Hid (endN l = begN l + 1 + (Lib.indexByte (l.drop (begN l + 1)) 93).toNat) := rfl
  obtain ⟨ix, hix⟩ : ∃ ix, Lib.indexByte (l.drop (begN l + 1)) 93 = ix := ⟨_, rfl⟩
  have hc93 : (93 : Int).toNat.toUInt8 = 93 := rfl
  rw [hc93] at HI
  rw [hix] at HI HEn hk
  have hbg : begN l = if notB l then 2 else 1 := rfl
  obtain ⟨n, hnn⟩ : ∃ n, l.length = n := ⟨_, rfl⟩
  rw [hnn] at hl h0 he hk hd1 hdb hzs
  obtain ⟨bg, hb⟩ : ∃ bg, begN l = bg := ⟨_, rfl⟩
  obtain ⟨en, hen⟩ : ∃ en, endN l = en := ⟨_, rfl⟩
  obtain ⟨q, hq⟩ : ∃ q, notB l = q := ⟨_, rfl⟩
  rw [hb, hen, hq] at HS
  rw [hb, hen] at HEn hmid hk
  rw [hb, hen] at HM
  rw [hb] at hdb hbg
  rw [hq] at HP hbg
  clear hn hi hz hy hm hv hix hnn hb hen hq hc93
  by_cases hle : e ≤ (bg : Int)
  · have HS2 : Hid (csetF l e = (⟨false, false, []⟩, 0)) := by have h := HS.out; rw [if_pos hle] at h; exact h
    clear HS HI hk HEn hmid hdb HM
    cases q with
    | true =>
      have hbg' : bg = 2 := hbg
      subst hbg'
      clear hbg
      go_enter Tryz.func124, Tryz.ntmps124
      go_wp2_with (go_at_call 146; refine (HP.out _).mono ?_; rintro x w1 ⟨rfl, rfl⟩)
      all_goals refine ret_cell2 rfl rfl (heap_alloc_new w _) Tryz.underlying120 rfl rfl rfl ?_
      all_goals exact ⟨by rw [HS2.out]; rfl, (Below.refl _ _).alloc (Nat.le_refl _) _⟩
    | false =>
      have hbg' : bg = 1 := hbg
      subst hbg'
      clear hbg
      go_enter Tryz.func124, Tryz.ntmps124
      go_wp2_with (go_at_call 146; refine (HP.out _).mono ?_; rintro x w1 ⟨rfl, rfl⟩)
      all_goals refine ret_cell2 rfl rfl (heap_alloc_new w _) Tryz.underlying120 rfl rfl rfl ?_
      all_goals exact ⟨by rw [HS2.out]; rfl, (Below.refl _ _).alloc (Nat.le_refl _) _⟩
  · have HS2 : Hid (csetF l e = (⟨false, q, (l.drop bg).take (en - bg)⟩, en + 1)) := by have h := HS.out; rw [if_neg hle] at h; exact h
    obtain ⟨hk1, hk2⟩ := hk (by omega)
    have hen : (bg : Int) + 1 + ix = (en : Int) := by have h := HEn.out; omega
    have HQ : Hid (str ((l.drop bg).take (en - bg)) = m) := HM.out
    clear HS hk HEn HM
    cases q with
    | true =>
      have hbg' : bg = 2 := hbg
      subst hbg'
      clear hbg
      have hen2 : (2 : Int) + 1 + ix = (en : Int) := hen
      clear hen
      obtain ⟨ixn, rfl⟩ : ∃ k : Nat, ix = (k : Int) := ⟨ix.toNat, by omega⟩
      have hen3 : en = 3 + ixn := by omega
      subst hen3
      clear hen2
      have hsl := fun W => slice_mid z 2 (3 + ixn) 2 (3 + (ixn : Int)) rfl (by omega) (by omega) (by omega) W
      rw [hmid] at hsl
      go_enter Tryz.func124, Tryz.ntmps124
      go_wp2_with (first | (go_at_call 146; refine (HP.out _).mono ?_; rintro x w1 ⟨rfl, rfl⟩) | (go_at_call 108; refine (HI.out _).mono ?_; rintro x w1 ⟨rfl, rfl⟩))
      all_goals refine ret_cell2 rfl rfl (heap_alloc_new w _) Tryz.underlying120 rfl rfl rfl ?_
      all_goals exact ⟨by rw [HS2.out]; simp only [tokV]; rw [HQ.out, show ((3 + ixn + 1 : Nat) : Int) = 3 + (ixn : Int) + 1 by omega]; rfl, (Below.refl _ _).alloc (Nat.le_refl _) _⟩
    | false =>
      have hbg' : bg = 1 := hbg
      subst hbg'
      clear hbg
      have hen2 : (1 : Int) + 1 + ix = (en : Int) := hen
      clear hen
      obtain ⟨ixn, rfl⟩ : ∃ k : Nat, ix = (k : Int) := ⟨ix.toNat, by omega⟩
      have hen3 : en = 2 + ixn := by omega
      subst hen3
      clear hen2
      have hsl := fun W => slice_mid z 1 (2 + ixn) 1 (2 + (ixn : Int)) rfl (by omega) (by omega) (by omega) W
      rw [hmid] at hsl
      go_enter Tryz.func124, Tryz.ntmps124
      go_wp2_with (first | (go_at_call 146; refine (HP.out _).mono ?_; rintro x w1 ⟨rfl, rfl⟩) | (go_at_call 108; refine (HI.out _).mono ?_; rintro x w1 ⟨rfl, rfl⟩))
      all_goals refine ret_cell2 rfl rfl (heap_alloc_new w _) Tryz.underlying120 rfl rfl rfl ?_
      all_goals exact ⟨by rw [HS2.out]; simp only [tokV]; rw [HQ.out, show ((2 + ixn + 1 : Nat) : Int) = 2 + (ixn : Int) + 1 by omega]; rfl, (Below.refl _ _).alloc (Nat.le_refl _) _⟩
end Go.Proofs.YtlfcjcaofhcfnaaGreatDoor

namespace Go.Proofs.YtlfcjcaofhcfnaaGreatDoor
open Go.RowKit
set_option linter.unusedVariables false
set_option maxRecDepth 20000

theorem str_byte (c : UInt8) (r : List UInt8) : (str (c :: r)).extract 0 1 = str [c] := by rw [str_takeF]; rfl
theorem tok_one {c : UInt8} {r : List UInt8} {e : Int} (h1 : ¬ c.toNat = 42) (h2 : ¬ c.toNat = 63) (h3 : ¬ (c.toNat = 92 ∧ r ≠ [])) (h4 : ¬ (c.toNat = 91 ∧ 0 < (csetF (c :: r) e).2)) : tokF (c :: r) e = (⟨false, false, [c]⟩, 1) := by
  simp only [tokF]
  rw [if_neg h1, if_neg h2, if_neg h3, if_neg h4]
theorem set_three {X : World} {b : Nat} {a0 a1 a2 : Value} {T : TypeId} (h : X.heap[b]? = some (.cells #[a0, a1, a2] T (0, 0))) (v0 v1 v2 : Value) : (((X.setCell ⟨b, 0, none⟩ v0).setCell ⟨b, 1, none⟩ v1).setCell ⟨b, 2, none⟩ v2).heap[b]? = some (.cells #[v0, v1, v2] T (0, 0)) :=
  heap_setCell_same _ b 2 _ _ _ (heap_setCell_same _ b 1 _ _ _ (heap_setCell_same X b 0 _ _ _ h))
theorem alloc_old {w1 : World} {b : Nat} {cs : Array Value} {T : TypeId} (h : w1.heap[b]? = some (.cells cs T (0, 0))) (o : Obj) : (w1.alloc o).heap[b]? = some (.cells cs T (0, 0)) := by
  rw [Below.heap_alloc _ _ _ (lt_of_block h)]
  exact h
set_option maxHeartbeats 4000000 in
theorem nextToken_any (l : List UInt8) (hl : l.length ≤ 2147483647) (hne : l ≠ []) (e : Int) (he : LastOk l e) (w : World) :
    Calls Tryz.prog 81 #[.string (str l), .int .i64 e] w fun x w' => x = .returned (.tuple #[tokV (tokF l e).1, .int .i64 ((tokF l e).2 : Int)]) ∧ Below w.heap.size w w' := by
  cases l with
  | nil => exact absurd rfl hne
  | cons c r =>
  have hlt := he.lt
  have HSet := hidK fun W => nextSet_any (c :: r) hl (by simp) e hlt (set_end he) W
  have hzs : (str (c :: r)).size = r.length + 1 := rfl
  have g0 : ∀ h : 0 < (str (c :: r)).size, (str (c :: r))[0] = c := fun h => str_getF _ 0 c rfl h
  have hone := str_byte c r
  have HOne : Hid (str [c] = str [c]) := rfl
  obtain ⟨z, hz⟩ : ∃ z, str (c :: r) = z := ⟨_, rfl⟩
  obtain ⟨y, hy⟩ : ∃ y, str [c] = y := ⟨_, rfl⟩
  have hmid := str_midF (c :: r) 1 2
  rw [hz] at HSet hzs g0 hone hmid ⊢
  rw [hy] at hone
  have HY := hidK hy
  have g0' := g0 (by omega)
  obtain ⟨n, hn⟩ : ∃ n, r.length = n := ⟨_, rfl⟩
  simp only [List.length_cons, hn] at hl hlt hzs
  have HN := hidK hn
  clear g0 hy hne hn HOne
  by_cases h42 : c.toNat = 42
  · have HT : Hid (tokF (c :: r) e = (⟨true, false, []⟩, 1)) := by show _ = _; simp only [tokF]; rw [if_pos h42]
    clear HSet hone hmid hz
    go_enter Tryz.func81, Tryz.ntmps81
    go_wp2_with fail
    all_goals refine ret_cell2 rfl rfl (heap_alloc_new w _) Tryz.underlying120 rfl rfl rfl ?_
    all_goals exact ⟨by rw [HT.out]; rfl, (Below.refl _ _).alloc (Nat.le_refl _) _⟩
  by_cases h63 : c.toNat = 63
  · have HT : Hid (tokF (c :: r) e = (⟨false, true, []⟩, 1)) := by show _ = _; simp only [tokF]; rw [if_neg h42, if_pos h63]
    clear HSet hone hmid hz
    go_enter Tryz.func81, Tryz.ntmps81
    go_wp2_with fail
    all_goals refine ret_cell2 rfl rfl (heap_alloc_new w _) Tryz.underlying120 rfl rfl rfl ?_
    all_goals exact ⟨by rw [HT.out]; rfl, (Below.refl _ _).alloc (Nat.le_refl _) _⟩
  by_cases h92 : c.toNat = 92
  · by_cases hr : 1 < n + 1
    · have hr' : r ≠ [] := fun h => by have h1 := HN.out; rw [h] at h1; simp at h1; omega
      have HT : Hid (tokF (c :: r) e = (⟨false, false, r.take 1⟩, 2)) := by show _ = _; simp only [tokF]; rw [if_neg h42, if_neg h63, if_pos ⟨h92, hr'⟩]
      obtain ⟨m, hm⟩ : ∃ m, str (r.take 1) = m := ⟨_, rfl⟩
      have hmid2 : z.extract 1 2 = m := by rw [hmid, ← hm]; rfl
      have HM := hidK hm
      clear HSet hone hmid hz hm hr'
      have hsl := fun W => slice_mid z 1 2 1 2 rfl rfl (by omega) (by omega) W
      rw [hmid2] at hsl
      go_enter Tryz.func81, Tryz.ntmps81
      go_wp2_with fail
      all_goals refine ret_cell2 rfl rfl (heap_alloc_new w _) Tryz.underlying120 rfl rfl rfl ?_
      all_goals exact ⟨by rw [HT.out]; simp only [tokV]; rw [HM.out]; rfl, (Below.refl _ _).alloc (Nat.le_refl _) _⟩
    · have hr' : r = [] := List.length_eq_zero_iff.1 (by rw [HN.out]; omega)
      have HT := hidK (tok_one (e := e) h42 h63 (fun h => h.2 hr') (fun h => by omega))
      clear HSet hmid hz hr'
      go_enter Tryz.func81, Tryz.ntmps81
      go_wp2_with fail
      all_goals refine ret_cell2 rfl rfl (heap_alloc_new w _) Tryz.underlying120 rfl rfl rfl ?_
      all_goals exact ⟨by rw [HT.out]; simp only [tokV]; rw [HY.out]; rfl, (Below.refl _ _).alloc (Nat.le_refl _) _⟩
  by_cases h91 : c.toNat = 91
  · obtain ⟨⟨t, k⟩, htk⟩ : ∃ p, csetF (c :: r) e = p := ⟨_, rfl⟩
    rw [htk] at HSet
    by_cases hk : 0 < k
    · have HT : Hid (tokF (c :: r) e = (t, k)) := by
        show _ = _
        simp only [tokF]
        rw [if_neg h42, if_neg h63, if_neg (fun h => h92 h.1), htk, if_pos ⟨h91, hk⟩]
      have hkl : k ≤ n + 1 := by have h := set_le he; rw [htk] at h; simp only [List.length_cons, HN.out] at h; exact h
      simp only [tokV] at HSet
      obtain ⟨zm, hzm⟩ : ∃ zm, str t.mem = zm := ⟨_, rfl⟩
      rw [hzm] at HSet
      have HZ := hidK hzm
      clear hone hmid hz htk hzm
      go_enter Tryz.func81, Tryz.ntmps81
      go_wp2_with fail
      refine (HSet.out _).mono ?_
      rintro x w1 ⟨rfl, hb1⟩
      have hbk := (hb1.block w.heap.size (by simp)).trans (heap_alloc_new w _)
      have HBk := hidK hbk
      have HB1 := hidK hb1
      have q0 : ∀ o, (w1.alloc o).cell? ⟨w.heap.size, 0, none⟩ = some (.bool false) := (fun o => cell_atT (alloc_old hbk o) 0)
      have q1 : ∀ o, (w1.alloc o).cell? ⟨w.heap.size, 1, none⟩ = some (.bool false) := (fun o => cell_atT (alloc_old hbk o) 1)
      have q2 : ∀ o, (w1.alloc o).cell? ⟨w.heap.size, 2, none⟩ = some (.string ⟨#[]⟩) := (fun o => cell_atT (alloc_old hbk o) 2)
      have q3 : ∀ o j, (w1.alloc o).frozen? ⟨w.heap.size, j, none⟩ = false := (fun o j => free_atT (alloc_old hbk o) j)
      clear hbk hb1
      go_wp2_with fail
      all_goals refine ret_cell2 rfl rfl (set_three (alloc_old HBk.out _) _ _ _) Tryz.underlying120 rfl rfl rfl ?_
      all_goals exact ⟨by rw [HT.out]; simp only [tokV]; rw [HZ.out]; rfl, by
        have h1 : Below w.heap.size w w1 := ((Below.refl _ w).alloc (Nat.le_refl _) _).trans (HB1.out.mono (by simp))
        exact (((h1.alloc h1.size _).setCell (Nat.le_refl _) _).setCell (Nat.le_refl _) _).setCell (Nat.le_refl _) _⟩
    · have hk0 : k = 0 := by omega
      subst hk0
      have HT := hidK (tok_one (e := e) h42 h63 (fun h => h92 h.1) (fun h => by have h2 := h.2; rw [htk] at h2; exact absurd h2 (by simp)))
      simp only [tokV] at HSet
      obtain ⟨zm, hzm⟩ : ∃ zm, str t.mem = zm := ⟨_, rfl⟩
      rw [hzm] at HSet
      clear hmid hz htk hzm
      go_enter Tryz.func81, Tryz.ntmps81
      go_wp2_with fail
      refine (HSet.out _).mono ?_
      rintro x w1 ⟨rfl, hb1⟩
      have hbk := (hb1.block w.heap.size (by simp)).trans (heap_alloc_new w _)
      have HBk := hidK hbk
      have HB1 := hidK hb1
      have q0 : ∀ o, (w1.alloc o).cell? ⟨w.heap.size, 0, none⟩ = some (.bool false) := (fun o => cell_atT (alloc_old hbk o) 0)
      have q1 : ∀ o, (w1.alloc o).cell? ⟨w.heap.size, 1, none⟩ = some (.bool false) := (fun o => cell_atT (alloc_old hbk o) 1)
      have q2 : ∀ o, (w1.alloc o).cell? ⟨w.heap.size, 2, none⟩ = some (.string ⟨#[]⟩) := (fun o => cell_atT (alloc_old hbk o) 2)
      have q3 : ∀ o j, (w1.alloc o).frozen? ⟨w.heap.size, j, none⟩ = false := (fun o j => free_atT (alloc_old hbk o) j)
      clear hbk hb1
      go_wp2_with fail
      all_goals refine ret_cell2 rfl rfl (set_three (alloc_old HBk.out _) _ _ _) Tryz.underlying120 rfl rfl rfl ?_
      all_goals exact ⟨by rw [HT.out]; simp only [tokV]; rw [HY.out]; rfl, by
        have h1 : Below w.heap.size w w1 := ((Below.refl _ w).alloc (Nat.le_refl _) _).trans (HB1.out.mono (by simp))
        exact (((h1.alloc h1.size _).setCell (Nat.le_refl _) _).setCell (Nat.le_refl _) _).setCell (Nat.le_refl _) _⟩
  · have HT := hidK (tok_one (r := r) (e := e) h42 h63 (fun h => h92 h.1) (fun h => h91 h.1))
    clear HSet hmid hz
    go_enter Tryz.func81, Tryz.ntmps81
    go_wp2_with fail
    all_goals refine ret_cell2 rfl rfl (heap_alloc_new w _) Tryz.underlying120 rfl rfl rfl ?_
    all_goals exact ⟨by rw [HT.out]; simp only [tokV]; rw [HY.out]; rfl, (Below.refl _ _).alloc (Nat.le_refl _) _⟩
end Go.Proofs.YtlfcjcaofhcfnaaGreatDoor

namespace Go.Proofs.YtlfcjcaofhcfnaaGreatDoor
open Go.RowKit
set_option linter.unusedVariables false
set_option maxRecDepth 20000

def tokCs (t : Tok) : List Value := [.bool t.many, .bool t.not, .string (str t.mem)]
def toksV (ts : List Tok) : List Value := ts.flatMap tokCs
theorem toks_snoc (ts : List Tok) (t : Tok) : toksV (ts ++ [t]) = toksV ts ++ tokCs t := by simp [toksV]
theorem infoTok : (Tryz.prog.info? 120).map (fun i => (i.zero, i.size, i.bytes)) = some (some (.agg #[.bool false, .bool false, .string ⟨#[]⟩]), 3, 24) := by kernel_rfl
theorem underToks : Tryz.prog.underlying 80 = some (.slice 120) := by kernel_rfl
/-- A list of tokens of one's own. -/
abbrev Tokens (w w' : World) (v : Value) (ts : List Tok) : Prop := Mine w w' 120 3 v ts.length (toksV ts)
theorem toks_at : ∀ (ts : List Tok) (i : Nat) (t : Tok), ts[i]? = some t → (toksV ts)[i * 3]? = some (.bool t.many) ∧ (toksV ts)[i * 3 + 1]? = some (.bool t.not) ∧ (toksV ts)[i * 3 + 2]? = some (.string (str t.mem))
  | [], i, t, h => by simp at h
  | u :: ts, 0, t, h => by
    cases h
    exact ⟨rfl, rfl, rfl⟩
  | u :: ts, i + 1, t, h => by
    have ih := toks_at ts i t h
    have e : toksV (u :: ts) = tokCs u ++ toksV ts := rfl
    have e1 : (i + 1) * 3 = (tokCs u).length + i * 3 := by show _ = 3 + _; omega
    rw [e, e1]
    refine ⟨?_, ?_, ?_⟩
    · rw [List.getElem?_append_right (Nat.le_add_right _ _), Nat.add_sub_cancel_left]; exact ih.1
    · rw [Nat.add_assoc, List.getElem?_append_right (Nat.le_add_right _ _), Nat.add_sub_cancel_left]; exact ih.2.1
    · rw [Nat.add_assoc, List.getElem?_append_right (Nat.le_add_right _ _), Nat.add_sub_cancel_left]; exact ih.2.2
theorem Mine.toks {w W : World} {v : Value} {ts : List Tok} (h : Tokens w W v ts) (hm : ∀ t ∈ ts, t.mem.length ≤ 4611686018427387904) (hn : ts.length ≤ 4611686018427387904) : TokIn W v ts := by
  obtain ⟨ad, cap, e, h1, h2, h3, h4⟩ := h.row.shape
  refine ⟨ad, cap, e, hn, fun i t ht => ?_⟩
  have hi := (List.getElem?_eq_some_iff.1 ht).1
  refine ⟨hm t (List.mem_of_getElem? ht), ?_⟩
  cases ad with
  | none =>
    have := (h3 rfl).1
    omega
  | some a =>
    obtain ⟨g, o, rfl, _, h5, h6⟩ := h4 a rfl
    obtain ⟨t0, t1, t2⟩ := toks_at ts i t ht
    exact ⟨g, o, rfl, (h6 W rfl).1 _ _ t0, (h6 W rfl).1 _ _ t1, (h6 W rfl).1 _ _ t2⟩

structure TokS (l : List UInt8) (n : Nat) (E : Int) (k : Nat) (ts R : List Tok) : Prop where
  all : ∃ f, n - k ≤ f ∧ ts ++ toksG f (l.drop k) (E - (k : Int)) = R
  ok : LastOk (l.drop k) (E - (k : Int))
theorem TokS.step {l : List UInt8} {n k : Nat} {E : Int} {ts R : List Tok} (h : TokS l n E k ts R) (hn : l.length = n) (hk : k < n) : TokS l n E (k + (tokF (l.drop k) (E - (k : Int))).2) (ts ++ [(tokF (l.drop k) (E - (k : Int))).1]) R := by
  obtain ⟨f, hf, he⟩ := h.all
  have hne : l.drop k ≠ [] := fun e => by have := congrArg List.length e; rw [List.length_drop] at this; simp at this; omega
  obtain ⟨h1, h2⟩ := tok_len h.ok hne
  obtain ⟨⟨t, p⟩, hp⟩ : ∃ q, tokF (l.drop k) (E - (k : Int)) = q := ⟨_, rfl⟩
  have h3 := h.ok.drop h2
  rw [hp] at h1 h2 h3 ⊢
  simp only at h1 h2 h3 ⊢
  have e : E - (k : Int) - (p : Int) = E - ((k + p : Nat) : Int) := by omega
  rw [e, List.drop_drop] at h3
  obtain ⟨f', rfl⟩ : ∃ f', f = f' + 1 := ⟨f - 1, by omega⟩
  refine ⟨⟨f', by omega, ?_⟩, h3⟩
  unfold toksG at he
  rw [if_neg hne, hp] at he
  simp only at he
  rw [List.drop_drop, e] at he
  rw [← he, List.append_assoc]
  rfl
theorem TokS.done {l : List UInt8} {n k : Nat} {E : Int} {ts R : List Tok} (h : TokS l n E k ts R) (hn : l.length = n) (hk : n ≤ k) : ts = R := by
  obtain ⟨f, hf, he⟩ := h.all
  rw [← he, List.drop_eq_nil_of_le (by omega)]
  cases f <;> simp [toksG]
theorem TokS.few {l : List UInt8} {n k : Nat} {E : Int} {ts R : List Tok} (h : TokS l n E k ts R) : ts.length ≤ R.length := by
  obtain ⟨f, hf, he⟩ := h.all
  rw [← he, List.length_append]
  omega

set_option maxHeartbeats 4000000 in
theorem tokens_any (l : List UInt8) (hl : l.length ≤ 2147483647) (w : World) : Calls Tryz.prog 29 #[.string (str l)] w fun e w' => ∃ v, e = .returned v ∧ Tokens w w' v (toksF l) := by
  have HL := hidK fun W => Tryz.strings_LastIndexByte (str l) 93 (by rw [str_size]; omega) W
  have HT : Hid (∀ (k : Nat) (e : Int) W, l.drop k ≠ [] → LastOk (l.drop k) e → Calls Tryz.prog 81 #[.string (str (l.drop k)), .int .i64 e] W fun x w' => x = .returned (.tuple #[tokV (tokF (l.drop k) e).1, .int .i64 ((tokF (l.drop k) e).2 : Int)]) ∧ Below W.heap.size W w') :=
    fun k e W h1 h2 => nextToken_any (l.drop k) (by rw [List.length_drop]; omega) h1 e h2 W
  have HD : Hid (∀ k, (str l).extract k (str l).size = str (l.drop k)) := str_dropF l
  obtain ⟨z, hz⟩ : ∃ z, str l = z := ⟨_, rfl⟩
  have hs : z.size = l.length := by rw [← hz]; rfl
  obtain ⟨R, hR⟩ : ∃ R, toksF l = R := ⟨_, rfl⟩
  have hE : Lib.lastIndexByte (str l) 93 = lastE l := rfl
  rw [hE] at HL
  have hEl := (last_ok l).lt
  have hEg : -1 ≤ lastE l := by
    rcases Lib.lastIndexByte_spec (str l) 93 with ⟨h1, _⟩ | ⟨i, _, h2, _⟩
    · rw [← hE, h1]; omega
    · rw [← hE, h2]; omega
  have HR : Hid (TokS l l.length (lastE l) 0 [] R) := ⟨⟨l.length, by omega, by rw [← hR]; unfold toksF; simp⟩, by simpa using last_ok l⟩
  have HRl : Hid (R.length ≤ l.length) := by rw [← hR]; exact toks_few _ _ _
  obtain ⟨E, hEE⟩ : ∃ E, lastE l = E := ⟨_, rfl⟩
  rw [hz, hR]
  rw [hz] at HD HL
  rw [hEE] at HL HR hEl hEg
  obtain ⟨n, hn⟩ : ∃ n, l.length = n := ⟨_, rfl⟩
  rw [hn] at hs hl HR HRl hEl
  have HN : Hid (l.length = n) := hn
  clear hz hR hn hE hEE
  go_enter Tryz.func29, Tryz.ntmps29
  go_wp2_with (go_at_call 80; refine (HL.out _).mono ?_; rintro x w1 ⟨rfl, rfl⟩)
  go_loopw [3, 5] (fun s3 s5 wx => ∃ (k : Nat) (ts : List Tok), k ≤ n ∧ s5 = .int .i64 (k : Int) ∧ Hid (TokS l n E k ts R) ∧ Hid (Tokens w1 wx s3 ts)) (fun _ v _ => n - (intOf v).toNat)
  case atStart => exact ⟨0, [], Nat.zero_le _, rfl, HR.out, Mine.nil (Below.refl _ _)⟩
  case round =>
    obtain ⟨k, ts, hk, rfl, HS, HM⟩ := hrel
    obtain ⟨sp, hsp⟩ : ∃ sp, u3 = sp := ⟨_, rfl⟩
    rw [hsp] at HM ⊢
    clear hsp
    by_cases hkn : k < n
    · have hne : l.drop k ≠ [] := fun e => by
        have := congrArg List.length e
        rw [List.length_drop, HN.out] at this
        simp at this
        omega
      have HTk := hidK fun W => HT.out k (E - (k : Int)) W hne HS.out.ok
      have HS2 := hidK (HS.out.step HN.out hkn)
      obtain ⟨hp1, hp2⟩ := tok_len HS.out.ok hne
      rw [List.length_drop, HN.out] at hp2
      obtain ⟨⟨t, p⟩, hp⟩ : ∃ q, tokF (l.drop k) (E - (k : Int)) = q := ⟨_, rfl⟩
      rw [hp] at HTk HS2 hp1 hp2
      simp only [tokV] at HTk HS2 hp1 hp2
      have hdx := HD.out k
      rw [hs] at hdx
      obtain ⟨y, hy⟩ : ∃ y, str (l.drop k) = y := ⟨_, rfl⟩
      obtain ⟨zm, hzm⟩ : ∃ zm, str t.mem = zm := ⟨_, rfl⟩
      obtain ⟨tm, htm⟩ : ∃ tm, t.many = tm := ⟨_, rfl⟩
      obtain ⟨tn, htn⟩ : ∃ tn, t.not = tn := ⟨_, rfl⟩
      rw [hy] at HTk hdx
      rw [hzm, htm, htn] at HTk
      have HV : Hid (tokCs t = [.bool tm, .bool tn, .string zm]) := by show _ = _; unfold tokCs; rw [hzm, htm, htn]
      have hfew := HS.out.few
      have hfe := HRl.out
      clear hne hp hy hzm htm htn HS
      go_wp2_with fail
      refine (HTk.out _).mono ?_
      rintro x w2 ⟨rfl, hb2⟩
      have HM2 := hidK (HM.out.more hb2)
      clear HM hb2
      go_wp2_with (refine wpList_append_row ((w2.alloc (.cells #[.bool tm, .bool tn, .string zm] 120)).alloc (.cells #[.bool tm, .bool tn, .string zm] 120)) rfl _ _ 80 80 rfl underToks infoTok rfl (v := sp) (by simp [Act.eval]) (u := .slice (some ⟨w2.heap.size + 1, 0, none⟩) 1 1) (by simp [Act.eval]) (HM2.out.row.below (heap_two w2 _ _).2.2.2) (Src.block underToks _ _ [.bool tm, .bool tn, .string zm] _ 3 (heap_two w2 _ _).2.1 rfl rfl) ?x1 ?x2 ?x3)
      case x1 => omega
      case x2 => unfold maxLen; omega
      case x3 =>
        intro v7 w7 hr7 hg7
        have HM7 := hidK ((HM2.out.grown (heap_two w2 _ _).2.2.2 hr7.out hg7.out).cast (n' := (ts ++ [t]).length) (xs' := toksV (ts ++ [t])) (by simp) (by rw [toks_snoc, HV.out]))
        clear hr7 hg7 HM2 HV
        go_wp2_with fail
        go_roundw
        case rel => exact ⟨k + p, ts ++ [t], by omega, by go_num, HS2.out, HM7.out⟩
        case measure => simp [intOf]; omega
    · obtain rfl : k = n := by omega
      have HQ := hidK (HS.out.done HN.out (Nat.le_refl _))
      go_wp2_with fail
      all_goals go_ret
      all_goals exact ⟨_, rfl, by rw [← HQ.out]; exact HM.out⟩
end Go.Proofs.YtlfcjcaofhcfnaaGreatDoor

namespace Go.Proofs.YtlfcjcaofhcfnaaGreatDoor
open Go.RowKit
set_option linter.unusedVariables false
set_option maxRecDepth 20000

theorem toks_mems : ∀ (f : Nat) (l : List UInt8) (e : Int), ∀ t ∈ toksG f l e, t.mem.length ≤ l.length
  | 0, l, e, t, h => by simp [toksG] at h
  | f + 1, l, e, t, h => by
    unfold toksG at h
    split at h
    · simp at h
    · rcases List.mem_cons.1 h with h | h
      · rw [h]; exact tok_mem
      · have := toks_mems f _ _ t h
        rw [List.length_drop] at this
        omega
theorem match_any (p s : List UInt8) (hp : p.length ≤ 2147483647) (hs : s.length ≤ 4611686018427387904) (w : World) : Calls Tryz.prog 13 #[.string (str p), .string (str s)] w fun e w' => e = .returned (.bool (mat (dtoksF p) s)) ∧ Below w.heap.size w w' := by
  have HT := hidK fun W => tokens_any p hp W
  have HI : Hid (∀ (W W' : World) (v : Value), Tokens W W' v (toksF p) → Calls Tryz.prog 28 #[v, .string (str s)] W' fun e w' => e = .returned (.bool (mat (dtoksF p) s)) ∧ Below W'.heap.size W' w') := by
    intro W W' v h
    obtain ⟨f, hf⟩ := isG_mat (toksF p) s
    rw [← toks_doc]
    refine isOf_any (h.toks (fun t ht => ?_) ?_) s hs f _ hf
    · have := toks_mems _ _ _ t ht
      omega
    · have : (toksF p).length ≤ p.length := toks_few _ _ _
      omega
  obtain ⟨z, hz⟩ : ∃ z, str p = z := ⟨_, rfl⟩
  obtain ⟨y, hy⟩ : ∃ y, str s = y := ⟨_, rfl⟩
  rw [hz] at HT ⊢
  rw [hy] at HI ⊢
  obtain ⟨b, hb⟩ : ∃ b, mat (dtoksF p) s = b := ⟨_, rfl⟩
  rw [hb] at HI ⊢
  clear hb hz hy
  go_enter Tryz.func13, Tryz.ntmps13
  go_wp2_with fail
  refine (HT.out _).mono ?_
  rintro e w1 ⟨v, rfl, h1⟩
  have HI1 := hidK (HI.out _ _ _ h1)
  have HB1 := hidK h1.below
  clear h1
  go_wp2_with fail
  refine HI1.out.mono ?_
  rintro e w2 ⟨rfl, h2⟩
  have HB2 := hidK (HB1.out.trans (h2.mono HB1.out.size))
  clear h2
  go_wp2_with fail
  all_goals go_ret
  all_goals exact ⟨rfl, HB2.out⟩
end Go.Proofs.YtlfcjcaofhcfnaaGreatDoor
