/-
  Lines of commands: what stands behind a piece, a word, changes nothing in it (lists alone).
-/
import Derived.Test.YtghkhnnlhkdceaaXLine
namespace Go.Proofs.Ytghkhnnlhkdceaa
open Go.RowKit
set_option linter.unusedVariables false
set_option maxRecDepth 20000

theorem single_ext : ∀ (r a u : List UInt8), singleF r = some (a, u) → ∃ x, r = x ++ u ∧ ∀ y, singleF (x ++ y) = some (a, y)
  | [], a, u, h => by cases h
  | c :: r, a, u, h => by
    unfold singleF at h
    split at h
    · rename_i h39
      cases h
      exact ⟨[c], rfl, fun y => by show singleF (c :: y) = _; unfold singleF; rw [if_pos h39]⟩
    · rename_i h39
      cases hs : singleF r with
      | none => rw [hs] at h; cases h
      | some z =>
        rw [hs] at h
        obtain ⟨z1, z2⟩ := z
        cases h
        obtain ⟨x, e, hx⟩ := single_ext r z1 _ hs
        refine ⟨c :: x, by rw [e]; rfl, fun y => ?_⟩
        show singleF (c :: (x ++ y)) = _
        unfold singleF
        rw [if_neg h39, hx y]
        rfl
/-- An escape ahead of a closing quote does not see what is behind it. -/
theorem esc_ext (p y : List UInt8) (d : UInt8) : escF (d :: p ++ [34] ++ y) = escF (d :: p ++ [34]) := by
  have ho : octF (d :: p ++ [34] ++ y) = octF (d :: p ++ [34]) := by
    by_cases h3 : 3 ≤ (d :: p ++ [34]).length
    · have ht : (d :: p ++ [34] ++ y).take 3 = (d :: p ++ [34]).take 3 := List.take_append_of_le_length h3
      unfold octF
      rw [ht]
      have h4 : 3 ≤ (d :: p ++ [34] ++ y).length := by rw [List.length_append]; omega
      simp only [h3, h4, true_and]
    · have hp : p = [] := by
        cases p with
        | nil => rfl
        | cons a b => simp at h3
      subst hp
      have e1 : octF ([d] ++ [34]) = none := by
        unfold octF
        rw [if_neg (by rintro ⟨h, _⟩; simp at h)]
      have e2 : octF ([d] ++ [34] ++ y) = none := by
        unfold octF
        rw [if_neg]
        rintro ⟨hl, ha, _⟩
        cases y with
        | nil => simp at hl
        | cons z y =>
          have := List.all_eq_true.1 ha 34 (by simp)
          revert this
          decide
      show octF ([d] ++ [34] ++ y) = octF ([d] ++ [34])
      rw [e1, e2]
  unfold escF
  rw [ho]
  cases octF (d :: p ++ [34]) <;> rfl
theorem double_ext : ∀ (k : Nat) (r a u : List UInt8), r.length ≤ k → doubleF r = some (a, u) → ∃ x, r = x ++ [34] ++ u ∧ ∀ y, doubleF (x ++ [34] ++ y) = some (a, y)
  | k, [], a, u, hk, h => by rw [double_nil] at h; cases h
  | 0, c :: r, a, u, hk, h => by simp at hk
  | k + 1, c :: r, a, u, hk, h => by
    simp only [List.length_cons] at hk
    by_cases h34 : c.toNat = 34
    · rw [double_quote h34] at h
      cases h
      have hc : c = 34 := UInt8.toNat_inj.1 h34
      subst hc
      exact ⟨[], rfl, fun y => double_quote rfl⟩
    · by_cases h92 : c.toNat = 92
      · rw [double_back h92] at h
        cases r with
        | nil => cases h
        | cons d v =>
          unfold escD at h
          simp only [] at h
          have h1 := esc_one d v
          obtain ⟨e1, e2, he⟩ : ∃ e1 e2, escF (d :: v) = (e1, e2) := ⟨_, _, rfl⟩
          rw [he] at h h1
          simp only [] at h h1
          cases hs : doubleF ((d :: v).drop e2) with
          | none => rw [hs] at h; cases h
          | some z =>
            rw [hs] at h
            obtain ⟨z1, z2⟩ := z
            cases h
            obtain ⟨x, ex, hx⟩ := double_ext k _ z1 _ (by rw [List.length_drop]; simp only [List.length_cons] at hk h1 ⊢; omega) hs
            obtain ⟨m, hm⟩ : ∃ m, e2 = m + 1 := ⟨e2 - 1, by omega⟩
            subst hm
            have ev : v = v.take m ++ (x ++ [34] ++ z2) := by
              rw [← ex]
              exact (List.take_append_drop m v).symm
            have htl : (v.take m).length = m := by rw [List.length_take]; simp only [List.length_cons] at h1; omega
            have hesc : ∀ y, escF (d :: (v.take m ++ x) ++ [34] ++ y) = (e1, m + 1) := fun y => by
              rw [esc_ext, ← he]
              have := esc_ext (v.take m ++ x) z2 d
              rw [← this]
              congr 1
              show d :: (v.take m ++ x) ++ [34] ++ z2 = d :: v
              have e9 : d :: v = d :: (v.take m ++ (x ++ [34] ++ z2)) := by rw [← ev]
              rw [e9]
              simp [List.append_assoc]
            refine ⟨c :: d :: (v.take m ++ x), ?_, fun y => ?_⟩
            · have e9 : c :: d :: v = c :: d :: (v.take m ++ (x ++ [34] ++ z2)) := by rw [← ev]
              rw [e9]
              simp [List.append_assoc]
            · show doubleF (c :: (d :: (v.take m ++ x) ++ [34] ++ y)) = _
              rw [double_back h92]
              show (doubleF ((d :: (v.take m ++ x) ++ [34] ++ y).drop (escF (d :: (v.take m ++ x) ++ [34] ++ y)).2)).map _ = _
              have hd : (d :: (v.take m ++ x) ++ [34] ++ y).drop (m + 1) = x ++ [34] ++ y := by
                show (v.take m ++ x ++ [34] ++ y).drop m = _
                rw [List.append_assoc, List.append_assoc, List.drop_append_of_le_length (by omega), List.drop_of_length_le (by omega)]
                simp
              rw [hesc y, hd, hx y]
              show some ((escF (d :: (v.take m ++ x) ++ [34] ++ y)).1 :: z1, y) = _
              rw [hesc y]
      · rw [double_other h34 h92] at h
        cases hs : doubleF r with
        | none => rw [hs] at h; cases h
        | some z =>
          rw [hs] at h
          obtain ⟨z1, z2⟩ := z
          cases h
          obtain ⟨x, ex, hx⟩ := double_ext k r z1 _ (by omega) hs
          refine ⟨c :: x, by rw [ex]; rfl, fun y => ?_⟩
          show doubleF (c :: (x ++ [34] ++ y)) = _
          rw [double_other h34 h92, hx y]
          rfl
theorem piece_ext {c : UInt8} {r a u : List UInt8} (h : pieceF c r = some (a, u)) : ∃ x, r = x ++ u ∧ ∀ y, pieceF c (x ++ y) = some (a, y) := by
  unfold pieceF at h
  split at h
  · rename_i h39
    obtain ⟨x, e, hx⟩ := single_ext r a u h
    exact ⟨x, e, fun y => by unfold pieceF; rw [if_pos h39]; exact hx y⟩
  · rename_i h39
    split at h
    · rename_i h34
      obtain ⟨x, e, hx⟩ := double_ext _ r a u (Nat.le_refl _) h
      exact ⟨x ++ [34], e, fun y => by unfold pieceF; rw [if_neg h39, if_pos h34]; exact hx y⟩
    · rename_i h34
      cases r with
      | nil => cases h
      | cons d t =>
        cases h
        exact ⟨[d], rfl, fun y => by unfold pieceF; rw [if_neg h39, if_neg h34]; rfl⟩

/-- What is left behind a word begins with what ends a word. -/
def EndsW (y : List UInt8) : Prop := y = [] ∨ ∃ c t, y = c :: t ∧ endB c = true
theorem word_ext : ∀ (k : Nat) (r w u : List UInt8), r.length ≤ k → wordF r = .inr (w, u) → EndsW u ∧ ∃ x, r = x ++ u ∧ ∀ y, EndsW y → wordF (x ++ y) = .inr (w, y)
  | k, [], w, u, hk, h => by
    rw [word_nil] at h
    cases h
    refine ⟨.inl rfl, [], rfl, fun y hy => ?_⟩
    rcases hy with rfl | ⟨c, t, rfl, hc⟩
    · exact word_nil
    · exact word_end hc
  | 0, c :: t, w, u, hk, h => by simp at hk
  | k + 1, c :: t, w, u, hk, h => by
    simp only [List.length_cons] at hk
    cases hE : endB c with
    | true =>
      rw [word_end hE] at h
      cases h
      refine ⟨.inr ⟨c, t, rfl, hE⟩, [], rfl, fun y hy => ?_⟩
      rcases hy with rfl | ⟨c, t, rfl, hc⟩
      · exact word_nil
      · exact word_end hc
    | false =>
      cases hQ : quoteB c with
      | true =>
        cases hp : pieceF c t with
        | none => rw [word_bad hE hQ hp] at h; cases h
        | some z =>
          obtain ⟨a, v⟩ := z
          rw [word_piece hE hQ hp] at h
          have hl := piece_len hp
          cases hw : wordF v with
          | inl f => rw [hw] at h; cases h
          | inr z =>
            obtain ⟨z1, z2⟩ := z
            rw [hw] at h
            cases h
            obtain ⟨h1, x, ex, hx⟩ := word_ext k v z1 _ (by omega) hw
            obtain ⟨x0, e0, hx0⟩ := piece_ext hp
            refine ⟨h1, c :: (x0 ++ x), by rw [e0, ex]; simp [List.append_assoc], fun y hy => ?_⟩
            show wordF (c :: (x0 ++ x ++ y)) = _
            rw [word_piece hE hQ (by rw [List.append_assoc]; exact hx0 (x ++ y)), hx y hy]
            rfl
      | false =>
        rw [word_other hE hQ] at h
        cases hw : wordF t with
        | inl f => rw [hw] at h; cases h
        | inr z =>
          obtain ⟨z1, z2⟩ := z
          rw [hw] at h
          cases h
          obtain ⟨h1, x, ex, hx⟩ := word_ext k t z1 _ (by omega) hw
          refine ⟨h1, c :: x, by rw [ex]; rfl, fun y hy => ?_⟩
          show wordF (c :: (x ++ y)) = _
          rw [word_other hE hQ, hx y hy]
          rfl
theorem word_fail : ∀ (k : Nat) (r f : List UInt8), r.length ≤ k → wordF r = .inl f → ∃ x w, r = x ++ f ∧ wordF x = .inr (w, []) ∧ ∃ c t, f = c :: t ∧ quoteB c = true
  | k, [], f, hk, h => by rw [word_nil] at h; cases h
  | 0, c :: t, f, hk, h => by simp at hk
  | k + 1, c :: t, f, hk, h => by
    simp only [List.length_cons] at hk
    cases hE : endB c with
    | true => rw [word_end hE] at h; cases h
    | false =>
      cases hQ : quoteB c with
      | true =>
        cases hp : pieceF c t with
        | none =>
          rw [word_bad hE hQ hp] at h
          cases h
          exact ⟨[], [], rfl, word_nil, c, t, rfl, hQ⟩
        | some z =>
          obtain ⟨a, v⟩ := z
          rw [word_piece hE hQ hp] at h
          have hl := piece_len hp
          cases hw : wordF v with
          | inr z => rw [hw] at h; cases h
          | inl g =>
            rw [hw] at h
            cases h
            obtain ⟨x, w, ex, hx, hf⟩ := word_fail k v _ (by omega) hw
            obtain ⟨x0, e0, hx0⟩ := piece_ext hp
            refine ⟨c :: (x0 ++ x), a ++ w, by rw [e0, ex]; simp [List.append_assoc], ?_, hf⟩
            rw [word_piece hE hQ (hx0 x), hx]
            rfl
      | false =>
        rw [word_other hE hQ] at h
        cases hw : wordF t with
        | inr z => rw [hw] at h; cases h
        | inl g =>
          rw [hw] at h
          cases h
          obtain ⟨x, w, ex, hx, hf⟩ := word_fail k t _ (by omega) hw
          refine ⟨c :: x, c :: w, by rw [ex]; rfl, ?_, hf⟩
          rw [word_other hE hQ, hx]
          rfl
/-- Where a line fails: a quote or a backslash stands there, and what is ahead of it is read. -/
theorem line_fail : ∀ (k : Nat) (r f : List UInt8) (now : List (List UInt8)) (all : List (List (List UInt8))), r.length ≤ k → lineF r now all = .inl f → ∃ x, r = x ++ f ∧ (∃ c t, f = c :: t ∧ quoteB c = true) ∧ ∀ now all, ∃ cs, lineF x now all = .inr cs
  | k, [], f, now, all, hk, h => by rw [line_nil] at h; cases h
  | 0, c :: t, f, now, all, hk, h => by simp at hk
  | k + 1, c :: t, f, now, all, hk, h => by
    simp only [List.length_cons] at hk
    cases hB : blankB c with
    | true =>
      rw [line_blank hB] at h
      obtain ⟨x, ex, hf, hx⟩ := line_fail k t f now all (by omega) h
      refine ⟨c :: x, by rw [ex]; rfl, hf, fun now all => ?_⟩
      rw [line_blank hB]
      exact hx now all
    | false =>
      by_cases h59 : c.toNat = 59
      · rw [line_semi h59] at h
        obtain ⟨x, ex, hf, hx⟩ := line_fail k t f _ _ (by omega) h
        refine ⟨c :: x, by rw [ex]; rfl, hf, fun now all => ?_⟩
        rw [line_semi h59]
        exact hx _ _
      · have hE : endB c = false := by unfold endB; rw [hB, decide_eq_false h59]; rfl
        have hany : ∀ x w y, wordF (c :: x) = .inr (w, y) → (∀ now all, ∃ cs, lineF y now all = .inr cs) → ∀ now all, ∃ cs, lineF (c :: x) now all = .inr cs := fun x w y hw hy now all => by
          rw [line_eq, if_neg (by rw [hB]; decide), if_neg h59]
          split
          · exact ⟨_, rfl⟩
          · unfold lineW
            rw [hw]
            exact hy _ _
        have hnil : ∀ now all, ∃ cs, lineF ([] : List UInt8) now all = .inr cs := fun now all => ⟨_, line_nil _ _⟩
        rw [line_eq, if_neg (by rw [hB]; decide), if_neg h59] at h
        split at h
        · cases h
        · unfold lineW at h
          rw [ontoW_nil] at h
          cases hw : wordF (c :: t) with
          | inl g =>
            rw [hw] at h
            cases h
            obtain ⟨x, w, ex, hx, hf⟩ := word_fail _ _ _ (Nat.le_refl _) hw
            refine ⟨x, ex, hf, ?_⟩
            cases x with
            | nil => exact hnil
            | cons c' x' =>
              have : c' = c := by
                rw [List.cons_append] at ex
                exact (List.cons.inj ex).1.symm
              subst this
              exact hany x' w [] hx hnil
          | inr z =>
            obtain ⟨w, u⟩ := z
            rw [hw] at h
            simp only [] at h
            have hs := word_short hE hw
            simp only [List.length_cons] at hs
            obtain ⟨x, ex, hf, hx⟩ := line_fail k u f _ _ (by omega) h
            obtain ⟨hEu, x0, e0, hx0⟩ := word_ext _ _ _ _ (Nat.le_refl _) hw
            have hEx : EndsW x := by
              cases x with
              | nil => exact .inl rfl
              | cons a b =>
                rcases hEu with e | ⟨c', t', e, hc'⟩
                · rw [e] at ex; cases ex
                · rw [e] at ex
                  cases ex
                  exact .inr ⟨_, _, rfl, hc'⟩
            refine ⟨x0 ++ x, by rw [e0, ex, List.append_assoc], hf, ?_⟩
            have hwx := hx0 x hEx
            cases x0 with
            | nil =>
              exfalso
              have e1 : u = c :: t := e0.symm
              rw [e1] at hs
              simp at hs
            | cons c' x' =>
              have : c' = c := by
                rw [List.cons_append] at e0
                exact (List.cons.inj e0).1.symm
              subst this
              exact hany (x' ++ x) w x hwx hx

end Go.Proofs.Ytghkhnnlhkdceaa
