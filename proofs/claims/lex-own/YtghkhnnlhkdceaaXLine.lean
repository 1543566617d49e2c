/-
  Lines of commands: how a line is read: words, commands (lists alone).
-/
import Derived.Test.YtghkhnnlhkdceaaXPiece
namespace Go.Proofs.Ytghkhnnlhkdceaa
open Go.RowKit
set_option linter.unusedVariables false
set_option maxRecDepth 20000

theorem single_len : ∀ (r a t : List UInt8), singleF r = some (a, t) → t.length < r.length
  | [], a, t, h => by cases h
  | c :: r, a, t, h => by
    unfold singleF at h
    split at h
    · cases h; simp
    · cases hs : singleF r with
      | none => rw [hs] at h; cases h
      | some x =>
        rw [hs] at h
        obtain ⟨x1, x2⟩ := x
        cases h
        have := single_len r x1 _ hs
        simp
        omega
theorem double_len : ∀ (k : Nat) (r a t : List UInt8), r.length ≤ k → doubleF r = some (a, t) → t.length < r.length
  | k, [], a, t, hk, h => by rw [double_nil] at h; cases h
  | 0, c :: r, a, t, hk, h => by simp at hk
  | k + 1, c :: r, a, t, hk, h => by
    simp only [List.length_cons] at hk
    by_cases h34 : c.toNat = 34
    · rw [double_quote h34] at h; cases h; simp
    · by_cases h92 : c.toNat = 92
      · rw [double_back h92] at h
        cases r with
        | nil => cases h
        | cons d u =>
          unfold escD at h
          simp only [] at h
          have h1 := esc_one d u
          cases hs : doubleF ((d :: u).drop (escF (d :: u)).2) with
          | none => rw [hs] at h; cases h
          | some x =>
            rw [hs] at h
            obtain ⟨x1, x2⟩ := x
            cases h
            have hlen : ((d :: u).drop (escF (d :: u)).2).length = (d :: u).length - (escF (d :: u)).2 := List.length_drop
            have := double_len k _ x1 _ (by rw [hlen]; omega) hs
            rw [hlen] at this
            simp only [List.length_cons] at this ⊢
            omega
      · rw [double_other h34 h92] at h
        cases hs : doubleF r with
        | none => rw [hs] at h; cases h
        | some x =>
          rw [hs] at h
          obtain ⟨x1, x2⟩ := x
          cases h
          have := double_len k r x1 _ (by omega) hs
          simp
          omega
theorem piece_len {c : UInt8} {r a t : List UInt8} (h : pieceF c r = some (a, t)) : t.length < r.length := by
  unfold pieceF at h
  split at h
  · exact single_len r a t h
  · split at h
    · exact double_len _ r a t (Nat.le_refl _) h
    · cases r with
      | nil => cases h
      | cons d u => cases h; simp

def blankB (c : UInt8) : Bool := decide (c.toNat = 32 ∨ c.toNat = 9)
def endB (c : UInt8) : Bool := blankB c || decide (c.toNat = 59)
def quoteB (c : UInt8) : Bool := decide (c.toNat = 39 ∨ c.toNat = 34 ∨ c.toNat = 92)
def ontoW (l : List UInt8) : Sum (List UInt8) (List UInt8 × List UInt8) → Sum (List UInt8) (List UInt8 × List UInt8)
  | .inl f => .inl f
  | .inr x => .inr (l ++ x.1, x.2)
/-- The word with which a text begins, and what is left; or where it fails. -/
def wordF (r : List UInt8) : Sum (List UInt8) (List UInt8 × List UInt8) :=
  match r with
  | [] => .inr ([], [])
  | c :: t => if endB c = true then .inr ([], c :: t) else if quoteB c = true then (match h : pieceF c t with
      | none => .inl (c :: t)
      | some x => ontoW x.1 (wordF x.2)) else ontoW [c] (wordF t)
termination_by r.length
decreasing_by
  · have := piece_len (a := x.1) (t := x.2) h
    simp
    omega
  · simp
theorem word_nil : wordF [] = .inr ([], []) := by rw [wordF.eq_def]
theorem word_eq (c : UInt8) (t : List UInt8) : wordF (c :: t) = if endB c = true then .inr ([], c :: t) else if quoteB c = true then (match pieceF c t with
      | none => .inl (c :: t)
      | some x => ontoW x.1 (wordF x.2)) else ontoW [c] (wordF t) := by
  rw [wordF.eq_def]
  show (if endB c = true then _ else if quoteB c = true then _ else _) = _
  split
  · rfl
  · split
    · split <;> rename_i h <;> rw [h]
    · rfl
theorem word_end {c : UInt8} {t : List UInt8} (h : endB c = true) : wordF (c :: t) = .inr ([], c :: t) := by rw [word_eq, if_pos h]
theorem word_bad {c : UInt8} {t : List UInt8} (h : endB c = false) (h2 : quoteB c = true) (h3 : pieceF c t = none) : wordF (c :: t) = .inl (c :: t) := by rw [word_eq, if_neg (by rw [h]; decide), if_pos h2, h3]
theorem word_piece {c : UInt8} {t a u : List UInt8} (h : endB c = false) (h2 : quoteB c = true) (h3 : pieceF c t = some (a, u)) : wordF (c :: t) = ontoW a (wordF u) := by rw [word_eq, if_neg (by rw [h]; decide), if_pos h2, h3]
theorem word_other {c : UInt8} {t : List UInt8} (h : endB c = false) (h2 : quoteB c = false) : wordF (c :: t) = ontoW [c] (wordF t) := by rw [word_eq, if_neg (by rw [h]; decide), if_neg (by rw [h2]; decide)]
theorem word_len : ∀ (k : Nat) (r w u : List UInt8), r.length ≤ k → wordF r = .inr (w, u) → u.length ≤ r.length
  | k, [], w, u, hk, h => by rw [word_nil] at h; cases h; simp
  | 0, c :: t, w, u, hk, h => by simp at hk
  | k + 1, c :: t, w, u, hk, h => by
    simp only [List.length_cons] at hk
    rw [word_eq] at h
    split at h
    · cases h; simp
    · split at h
      · cases hp : pieceF c t with
        | none => rw [hp] at h; cases h
        | some x =>
          rw [hp] at h
          obtain ⟨x1, x2⟩ := x
          have h1 := piece_len hp
          simp only [] at h
          cases hw : wordF x2 with
          | inl f => rw [hw] at h; cases h
          | inr y =>
            rw [hw] at h
            obtain ⟨y1, y2⟩ := y
            cases h
            have := word_len k x2 y1 _ (by omega) hw
            simp
            omega
      · cases hw : wordF t with
        | inl f => rw [hw] at h; cases h
        | inr y =>
          rw [hw] at h
          obtain ⟨y1, y2⟩ := y
          cases h
          have := word_len k t y1 _ (by omega) hw
          simp
          omega
theorem word_short {c : UInt8} {t w u : List UInt8} (h : endB c = false) (hw : wordF (c :: t) = .inr (w, u)) : u.length < (c :: t).length := by
  rw [word_eq, if_neg (by rw [h]; decide)] at hw
  split at hw
  · cases hp : pieceF c t with
    | none => rw [hp] at hw; cases hw
    | some x =>
      rw [hp] at hw
      obtain ⟨x1, x2⟩ := x
      have h1 := piece_len hp
      simp only [] at hw
      cases hv : wordF x2 with
      | inl f => rw [hv] at hw; cases hw
      | inr y =>
        rw [hv] at hw
        obtain ⟨y1, y2⟩ := y
        cases hw
        have := word_len _ x2 y1 _ (Nat.le_refl _) hv
        simp
        omega
  · cases hv : wordF t with
    | inl f => rw [hv] at hw; cases hw
    | inr y =>
      rw [hv] at hw
      obtain ⟨y1, y2⟩ := y
      cases hw
      have := word_len _ t y1 _ (Nat.le_refl _) hv
      simp
      omega

def remB (c : UInt8) (t : List UInt8) : Bool := decide (c.toNat = 35) && !(t.head? == some 123)
/-- A line's commands; or where it fails. -/
def lineF (r : List UInt8) (now : List (List UInt8)) (all : List (List (List UInt8))) : Sum (List UInt8) (List (List (List UInt8))) :=
  match r with
  | [] => .inr (moreC now all)
  | c :: t => if hb : blankB c = true then lineF t now all else if h59 : c.toNat = 59 then lineF t [] (moreC now all) else if remB c t = true then .inr (moreC now all) else
      match h : wordF (c :: t) with
      | .inl f => .inl f
      | .inr x => lineF x.2 (now ++ [x.1]) all
termination_by r.length
decreasing_by
  · simp
  · simp
  · exact word_short (c := c) (t := t) (w := x.1) (u := x.2) (by unfold endB; simp [hb, h59]) h
def lineW (r l : List UInt8) (now : List (List UInt8)) (all : List (List (List UInt8))) : Sum (List UInt8) (List (List (List UInt8))) := match ontoW l (wordF r) with
  | .inl f => .inl f
  | .inr x => lineF x.2 (now ++ [x.1]) all
theorem line_nil (now : List (List UInt8)) (all : List (List (List UInt8))) : lineF [] now all = .inr (moreC now all) := by rw [lineF.eq_def]
theorem ontoW_nil (x : Sum (List UInt8) (List UInt8 × List UInt8)) : ontoW [] x = x := by cases x <;> rfl
theorem ontoW_ontoW (l a : List UInt8) (x : Sum (List UInt8) (List UInt8 × List UInt8)) : ontoW l (ontoW a x) = ontoW (l ++ a) x := by
  cases x with
  | inl f => rfl
  | inr y => simp [ontoW]
theorem line_eq (c : UInt8) (t : List UInt8) (now : List (List UInt8)) (all : List (List (List UInt8))) : lineF (c :: t) now all = if blankB c = true then lineF t now all else if c.toNat = 59 then lineF t [] (moreC now all) else if remB c t = true then .inr (moreC now all) else lineW (c :: t) [] now all := by
  rw [lineF.eq_def]
  show (dite (blankB c = true) _ _) = _
  split
  · rfl
  · split
    · rfl
    · split
      · rfl
      · unfold lineW
        rw [ontoW_nil]
        split <;> rename_i h <;> rw [h]
theorem line_blank {c : UInt8} {t : List UInt8} {now : List (List UInt8)} {all : List (List (List UInt8))} (h : blankB c = true) : lineF (c :: t) now all = lineF t now all := by rw [line_eq, if_pos h]
theorem line_semi {c : UInt8} {t : List UInt8} {now : List (List UInt8)} {all : List (List (List UInt8))} (h : c.toNat = 59) : lineF (c :: t) now all = lineF t [] (moreC now all) := by rw [line_eq, if_neg (by unfold blankB; simp [h]), if_pos h]
theorem line_rem {c : UInt8} {t : List UInt8} {now : List (List UInt8)} {all : List (List (List UInt8))} (h : remB c t = true) (h2 : c.toNat = 35) : lineF (c :: t) now all = .inr (moreC now all) := by rw [line_eq, if_neg (by unfold blankB; simp [h2]), if_neg (by omega), if_pos h]
theorem line_word {c : UInt8} {t : List UInt8} {now : List (List UInt8)} {all : List (List (List UInt8))} (h : endB c = false) (h2 : remB c t = false) : lineF (c :: t) now all = lineW (c :: t) [] now all := by
  unfold endB at h
  simp only [Bool.or_eq_false_iff, decide_eq_false_iff_not] at h
  rw [line_eq, if_neg (by rw [h.1]; decide), if_neg h.2, if_neg (by rw [h2]; decide)]
theorem lineW_nil (l : List UInt8) (now : List (List UInt8)) (all : List (List (List UInt8))) : lineW [] l now all = lineF [] (now ++ [l]) all := by unfold lineW; rw [word_nil]; simp [ontoW]
theorem lineW_end {c : UInt8} {t l : List UInt8} {now : List (List UInt8)} {all : List (List (List UInt8))} (h : endB c = true) : lineW (c :: t) l now all = lineF (c :: t) (now ++ [l]) all := by unfold lineW; rw [word_end h]; simp [ontoW]
theorem lineW_bad {c : UInt8} {t l : List UInt8} {now : List (List UInt8)} {all : List (List (List UInt8))} (h : endB c = false) (h2 : quoteB c = true) (h3 : pieceF c t = none) : lineW (c :: t) l now all = .inl (c :: t) := by unfold lineW; rw [word_bad h h2 h3]; rfl
theorem lineW_piece {c : UInt8} {t l a u : List UInt8} {now : List (List UInt8)} {all : List (List (List UInt8))} (h : endB c = false) (h2 : quoteB c = true) (h3 : pieceF c t = some (a, u)) : lineW (c :: t) l now all = lineW u (l ++ a) now all := by unfold lineW; rw [word_piece h h2 h3, ontoW_ontoW]
theorem lineW_other {c : UInt8} {t l : List UInt8} {now : List (List UInt8)} {all : List (List (List UInt8))} (h : endB c = false) (h2 : quoteB c = false) : lineW (c :: t) l now all = lineW t (l ++ [c]) now all := by unfold lineW; rw [word_other h h2, ontoW_ontoW]

end Go.Proofs.Ytghkhnnlhkdceaa
