/-
  Lines of commands: two lines with a semicolon between (lists alone).
-/
import Derived.Test.YtghkhnnlhkdceaaXBlankP
namespace Go.Proofs.Ytghkhnnlhkdceaa
open Go.RowKit
set_option linter.unusedVariables false
set_option maxRecDepth 20000

theorem single_none : ∀ (r y : List UInt8), singleF r = none → (∀ c ∈ y, c.toNat ≠ 39) → singleF (r ++ y) = none
  | [], y, h, hy => by
    show singleF y = none
    clear h
    induction y with
    | nil => rfl
    | cons c t ih =>
      unfold singleF
      rw [if_neg (hy c List.mem_cons_self), ih fun d hd => hy d (List.mem_cons_of_mem _ hd)]
      rfl
  | c :: r, y, h, hy => by
    unfold singleF at h
    show singleF (c :: (r ++ y)) = none
    unfold singleF
    split at h
    · cases h
    · rename_i hc
      rw [if_neg hc]
      cases hs : singleF r with
      | some x => rw [hs] at h; cases h
      | none => rw [single_none r y hs hy]; rfl
theorem double_none (r y : List UInt8) (h : doubleF r = none) (hy : ∀ c ∈ y, c.toNat ≠ 34) : doubleF (r ++ y) = none := by
  cases hd : doubleF (r ++ y) with
  | none => rfl
  | some z =>
    exfalso
    obtain ⟨a, u⟩ := z
    obtain ⟨x, ex, hx⟩ := double_ext _ _ _ _ (Nat.le_refl _) hd
    by_cases hl : x.length + 1 ≤ r.length
    · have e1 : r = x ++ [34] ++ r.drop (x.length + 1) := by
        have h2 := congrArg (List.take r.length) ex
        rw [List.take_left' rfl] at h2
        have h3 : (x ++ [34]).length ≤ r.length := by simpa using hl
        rw [List.take_append, List.take_of_length_le h3] at h2
        have h4 : r.drop (x.length + 1) = u.take (r.length - (x ++ [34]).length) := by
          conv => lhs; rw [h2]
          rw [List.drop_left' (by simp)]
        rw [h4]
        exact h2
      rw [e1, hx] at h
      cases h
    · have h34 : (34 : UInt8) ∈ y := by
        have h2 : (r ++ y)[x.length]? = some 34 := by
          rw [ex, List.append_assoc, List.getElem?_append_right (Nat.le_refl _)]
          simp
        rw [List.getElem?_append_right (by omega)] at h2
        exact List.mem_of_getElem? h2
      exact hy 34 h34 rfl
theorem word_fail2 : ∀ (k : Nat) (r f : List UInt8), r.length ≤ k → wordF r = .inl f → ∃ x w, r = x ++ f ∧ (∀ z, wordF (x ++ z) = ontoW w (wordF z)) ∧ ∃ c t, f = c :: t ∧ endB c = false ∧ quoteB c = true ∧ pieceF c t = none
  | k, [], f, hk, h => by rw [word_nil] at h; cases h
  | 0, c :: t, f, hk, h => by simp at hk
  | k + 1, c :: t, f, hk, h => by
    simp only [List.length_cons] at hk
    cases hE : endB c with
    | true => rw [word_end hE] at h; cases h
    | false =>
      cases hQ : quoteB c with
      | true =>
        cases hp : pieceF c t with
        | none =>
          rw [word_bad hE hQ hp] at h
          cases h
          exact ⟨[], [], rfl, fun z => (ontoW_nil _).symm, c, t, rfl, hE, hQ, hp⟩
        | some z =>
          obtain ⟨a, v⟩ := z
          rw [word_piece hE hQ hp] at h
          have hl := piece_len hp
          cases hw : wordF v with
          | inr z => rw [hw] at h; cases h
          | inl g =>
            rw [hw] at h
            cases h
            obtain ⟨x, w, ex, hx, hf⟩ := word_fail2 k v _ (by omega) hw
            obtain ⟨x0, e0, hx0⟩ := piece_ext hp
            refine ⟨c :: (x0 ++ x), a ++ w, by rw [e0, ex]; simp [List.append_assoc], fun z => ?_, hf⟩
            show wordF (c :: (x0 ++ x ++ z)) = _
            rw [word_piece hE hQ (by rw [List.append_assoc]; exact hx0 (x ++ z)), hx z, ontoW_ontoW]
      | false =>
        rw [word_other hE hQ] at h
        cases hw : wordF t with
        | inr z => rw [hw] at h; cases h
        | inl g =>
          rw [hw] at h
          cases h
          obtain ⟨x, w, ex, hx, hf⟩ := word_fail2 k t _ (by omega) hw
          refine ⟨c :: x, c :: w, by rw [ex]; rfl, fun z => ?_, hf⟩
          show wordF (c :: (x ++ z)) = _
          rw [word_other hE hQ, hx z, ontoW_ontoW]
          rfl
theorem word_endw (y : List UInt8) (hy : EndsW y) (l : List UInt8) (hl : l.all (fun c => !endB c && !quoteB c) = true) : wordF (l ++ y) = .inr (l, y) := by
  induction l with
  | nil =>
    rcases hy with rfl | ⟨c, t, rfl, hc⟩
    · exact word_nil
    · exact word_end hc
  | cons c l ih =>
    rw [List.all_cons, Bool.and_eq_true, Bool.and_eq_true] at hl
    show wordF (c :: (l ++ y)) = _
    rw [word_other (by simpa using hl.1.1) (by simpa using hl.1.2), ih hl.2]
    rfl
theorem more_snoc (now : List (List UInt8)) (x : List UInt8) (all : List (List (List UInt8))) : moreC (now ++ [x]) all = all ++ [now ++ [x]] := by
  unfold moreC
  rw [if_neg (by simp)]

def endW : List UInt8 := [101, 110, 100]
def endW2 : List UInt8 := [101, 110, 100, 50]
/-- What a line is that ends with a plain word. -/
theorem line_two : ∀ (k : Nat) (a : List UInt8) (now : List (List UInt8)) (all l : List (List (List UInt8))), a.length ≤ k → lineF (a ++ 32 :: endW) now all = .inr l →
    lineF (a ++ 32 :: endW2) now all = .inr l ∨ (∃ now' all' w, l = all' ++ [now' ++ [w ++ 32 :: endW]]) ∨ (∃ now' all', l = all' ++ [now' ++ [endW]] ∧ ∀ y, lineF (a ++ 32 :: endW ++ 59 :: y) now all = lineF y [] l)
  | k, [], now, all, l, hk, h => by
    right; right
    have h1 : lineF ([] ++ 32 :: endW) now all = .inr (moreC (now ++ [endW]) all) := by
      show lineF (32 :: 101 :: [110, 100]) now all = _
      rw [line_blank (by decide), line_word (by decide) (by decide)]
      unfold lineW
      rw [ontoW_nil, show (101 :: [110, 100] : List UInt8) = endW ++ [] from rfl, word_endw [] (.inl rfl) endW (by decide)]
      exact line_nil _ _
    rw [h1, more_snoc] at h
    cases h
    refine ⟨now, all, rfl, fun y => ?_⟩
    show lineF (32 :: 101 :: (110 :: 100 :: 59 :: y)) now all = _
    rw [line_blank (by decide), line_word (by decide) (by unfold remB; rw [decide_eq_false (by decide)]; rfl)]
    unfold lineW
    rw [ontoW_nil, show (101 :: 110 :: 100 :: 59 :: y : List UInt8) = endW ++ (59 :: y) from rfl, word_endw (59 :: y) (.inr ⟨59, y, rfl, by decide⟩) endW (by decide)]
    show lineF (59 :: y) (now ++ [endW]) all = _
    rw [line_semi (by decide), more_snoc]
  | 0, c :: t, now, all, l, hk, h => by simp at hk
  | k + 1, c :: t, now, all, l, hk, h => by
    simp only [List.length_cons] at hk
    have h' : lineF (c :: (t ++ 32 :: endW)) now all = .inr l := h
    show lineF (c :: (t ++ 32 :: endW2)) now all = _ ∨ _ ∨ (∃ now' all', _ ∧ ∀ y, lineF (c :: (t ++ 32 :: endW ++ 59 :: y)) now all = _)
    cases hB : blankB c with
    | true =>
      rw [line_blank hB] at h' ⊢
      rcases line_two k t now all l (by omega) h' with h1 | h1 | ⟨n', a', h1, h2⟩
      · exact .inl h1
      · exact .inr (.inl h1)
      · exact .inr (.inr ⟨n', a', h1, fun y => by rw [line_blank hB]; exact h2 y⟩)
    | false =>
      by_cases h59 : c.toNat = 59
      · rw [line_semi h59] at h' ⊢
        rcases line_two k t _ _ l (by omega) h' with h1 | h1 | ⟨n', a', h1, h2⟩
        · exact .inl h1
        · exact .inr (.inl h1)
        · exact .inr (.inr ⟨n', a', h1, fun y => by rw [line_semi h59]; exact h2 y⟩)
      · have hE : endB c = false := by unfold endB; rw [hB, decide_eq_false h59]; rfl
        have hrm : ∀ z, remB c (t ++ 32 :: z) = remB c (t ++ [32]) := fun z => by
          unfold remB
          cases t with
          | nil => rfl
          | cons a b => rfl
        rw [line_eq, if_neg (by rw [hB]; decide), if_neg h59, hrm] at h'
        cases hr : remB c (t ++ [32]) with
        | true =>
          rw [hr, if_pos rfl] at h'
          left
          rw [line_eq, if_neg (by rw [hB]; decide), if_neg h59, hrm, hr, if_pos rfl]
          exact h'
        | false =>
          rw [hr, if_neg (by decide)] at h'
          unfold lineW at h'
          rw [ontoW_nil] at h'
          have hgo : ∀ z w u, remB c (t ++ z) = false → wordF (c :: (t ++ z)) = .inr (w, u) → lineF (c :: (t ++ z)) now all = lineF u (now ++ [w]) all := fun z w u h1 h2 => by
            rw [line_word hE h1]
            unfold lineW
            rw [ontoW_nil, h2]
          cases hw : wordF (c :: t) with
          | inr z =>
            obtain ⟨w, u⟩ := z
            have hs := word_short hE hw
            simp only [List.length_cons] at hs
            obtain ⟨hEu, x0, e0, hx0⟩ := word_ext _ _ _ _ (Nat.le_refl _) hw
            have hcat : ∀ z, EndsW z → wordF (c :: (t ++ z)) = .inr (w, u ++ z) := fun z hz => by
              have e1 : c :: (t ++ z) = x0 ++ (u ++ z) := by rw [← List.append_assoc, ← e0]; rfl
              rw [e1]
              refine hx0 _ ?_
              rcases hEu with rfl | ⟨d, v, rfl, hd⟩
              · exact hz
              · exact .inr ⟨d, v ++ z, rfl, hd⟩
            have hsp : ∀ z, EndsW (32 :: z) := fun z => .inr ⟨32, z, rfl, by decide⟩
            rw [hcat _ (hsp _)] at h'
            rw [hgo _ _ _ (by rw [hrm]; exact hr) (hcat _ (hsp _))]
            rcases line_two k u (now ++ [w]) all l (by omega) h' with h1 | h1 | ⟨n', a', h1, h2⟩
            · exact .inl h1
            · exact .inr (.inl h1)
            · refine .inr (.inr ⟨n', a', h1, fun y => ?_⟩)
              have e2 : t ++ 32 :: endW ++ 59 :: y = t ++ (32 :: (endW ++ 59 :: y)) := by rw [List.append_assoc]; rfl
              rw [e2, hgo _ _ _ (by rw [hrm]; exact hr) (hcat _ (hsp _)), ← h2 y]
              congr 1
              rw [List.append_assoc]
              rfl
          | inl f =>
            obtain ⟨x, w, ex, hx, d, r, rfl, hdE, hdQ, hdp⟩ := word_fail2 _ _ _ (Nat.le_refl _) hw
            have e1 : c :: (t ++ 32 :: endW) = x ++ (d :: (r ++ 32 :: endW)) := by
              show (c :: t) ++ 32 :: endW = _
              rw [ex, List.append_assoc]
              rfl
            rw [e1, hx] at h'
            have hno : pieceF d (r ++ 32 :: endW) = none → False := fun hn => by
              rw [word_bad hdE hdQ hn] at h'
              cases h'
            unfold pieceF at hdp hno
            split at hdp
            · rename_i h39
              exact (hno (by rw [if_pos h39]; exact single_none _ _ hdp (by decide))).elim
            · rename_i h39
              split at hdp
              · rename_i h34
                exact (hno (by rw [if_neg h39, if_pos h34]; exact double_none _ _ hdp (by decide))).elim
              · rename_i h34
                cases r with
                | cons _ _ => cases hdp
                | nil =>
                  right; left
                  have hpc : pieceF d ([] ++ 32 :: endW) = some ([32], endW) := by unfold pieceF; rw [if_neg h39, if_neg h34]; rfl
                  rw [word_piece hdE hdQ hpc, show endW = endW ++ [] from rfl, word_endw [] (.inl rfl) endW (by decide)] at h'
                  have h2 : lineF [] (now ++ [w ++ ([32] ++ endW)]) all = .inr l := h'
                  rw [line_nil, more_snoc] at h2
                  cases h2
                  exact ⟨now, all, w, rfl⟩
/-- What is there stays ahead. -/
theorem line_all (l : List (List (List UInt8))) : ∀ (k : Nat) (r : List UInt8) (now : List (List UInt8)) (all m : List (List (List UInt8))), r.length ≤ k → lineF r now all = .inr m → lineF r now (l ++ all) = .inr (l ++ m)
  | k, [], now, all, m, hk, h => by
    rw [line_nil] at h ⊢
    cases h
    unfold moreC
    split
    · rfl
    · rw [List.append_assoc]
  | 0, c :: t, now, all, m, hk, h => by simp at hk
  | k + 1, c :: t, now, all, m, hk, h => by
    simp only [List.length_cons] at hk
    have hm : ∀ n, moreC n (l ++ all) = l ++ moreC n all := fun n => by
      unfold moreC
      split
      · rfl
      · rw [List.append_assoc]
    cases hB : blankB c with
    | true =>
      rw [line_blank hB] at h ⊢
      exact line_all l k t now all m (by omega) h
    | false =>
      by_cases h59 : c.toNat = 59
      · rw [line_semi h59] at h ⊢
        rw [hm]
        exact line_all l k t _ _ m (by omega) h
      · have hE : endB c = false := by unfold endB; rw [hB, decide_eq_false h59]; rfl
        rw [line_eq, if_neg (by rw [hB]; decide), if_neg h59] at h ⊢
        split at h
        · rename_i hr
          rw [if_pos hr, hm]
          cases h
          rfl
        · rename_i hr
          rw [if_neg hr]
          unfold lineW at h ⊢
          rw [ontoW_nil] at h ⊢
          cases hw : wordF (c :: t) with
          | inl g => rw [hw] at h; cases h
          | inr z =>
            obtain ⟨w, u⟩ := z
            rw [hw] at h
            simp only [] at h ⊢
            have hs := word_short hE hw
            simp only [List.length_cons] at hs
            exact line_all l k u _ _ m (by omega) h

end Go.Proofs.Ytghkhnnlhkdceaa
