/-
  Lines of commands: blanks, empty commands, a remark behind (lists alone).
-/
import Derived.Test.YtghkhnnlhkdceaaXExt
import Derived.Test.YtghkhnnlhkdceaaXSure
namespace Go.Proofs.Ytghkhnnlhkdceaa
open Go.RowKit
set_option linter.unusedVariables false
set_option maxRecDepth 20000

/-- What changes nothing behind a line. -/
def Idle (y : List UInt8) : Prop := EndsW y ∧ ∀ now all, lineF y now all = .inr (moreC now all)
theorem line_behind {y : List UInt8} (hy : Idle y) : ∀ (k : Nat) (r : List UInt8) (now : List (List UInt8)) (all : List (List (List UInt8))) (cs : List (List (List UInt8))), r.length ≤ k → lineF r now all = .inr cs → lineF (r ++ y) now all = .inr cs
  | k, [], now, all, cs, hk, h => by
    rw [line_nil] at h
    cases h
    exact hy.2 now all
  | 0, c :: t, now, all, cs, hk, h => by simp at hk
  | k + 1, c :: t, now, all, cs, hk, h => by
    simp only [List.length_cons] at hk
    show lineF (c :: (t ++ y)) now all = _
    cases hB : blankB c with
    | true =>
      rw [line_blank hB] at h ⊢
      exact line_behind hy k t now all cs (by omega) h
    | false =>
      by_cases h59 : c.toNat = 59
      · rw [line_semi h59] at h ⊢
        exact line_behind hy k t _ _ cs (by omega) h
      · have hE : endB c = false := by unfold endB; rw [hB, decide_eq_false h59]; rfl
        have hrem : remB c (t ++ y) = remB c t := by
          unfold remB
          cases t with
          | cons a b => rfl
          | nil =>
            rcases hy.1 with rfl | ⟨d, z, rfl, hd⟩
            · rfl
            · have : ((d :: z).head? == some 123) = false := by
                have hd' : d ≠ 123 := fun e => by rw [e] at hd; exact absurd hd (by decide)
                simpa using hd'
              show (decide (c.toNat = 35) && !((d :: z).head? == some 123)) = _
              rw [this]
              rfl
        rw [line_eq, if_neg (by rw [hB]; decide), if_neg h59] at h ⊢
        rw [hrem]
        split at h
        · rename_i hr
          rw [if_pos hr]
          exact h
        · rename_i hr
          rw [if_neg hr]
          unfold lineW at h ⊢
          rw [ontoW_nil] at h ⊢
          cases hw : wordF (c :: t) with
          | inl g => rw [hw] at h; cases h
          | inr z =>
            obtain ⟨w, u⟩ := z
            rw [hw] at h
            simp only [] at h
            have hs := word_short hE hw
            simp only [List.length_cons] at hs
            obtain ⟨hEu, x0, e0, hx0⟩ := word_ext _ _ _ _ (Nat.le_refl _) hw
            have hEx : EndsW (u ++ y) := by
              rcases hEu with rfl | ⟨d, z, rfl, hd⟩
              · exact hy.1
              · exact .inr ⟨d, z ++ y, rfl, hd⟩
            have e1 : c :: (t ++ y) = x0 ++ (u ++ y) := by rw [← List.append_assoc, ← e0]; rfl
            rw [e1, hx0 _ hEx]
            exact line_behind hy k u _ _ cs (by omega) h
theorem line_ends : ∀ (y : List UInt8) (now : List (List UInt8)) (all : List (List (List UInt8))), y.all endB = true → lineF y now all = .inr (moreC now all)
  | [], now, all, h => line_nil now all
  | c :: t, now, all, h => by
    rw [List.all_cons, Bool.and_eq_true] at h
    cases hB : blankB c with
    | true => rw [line_blank hB]; exact line_ends t now all h.2
    | false =>
      have h59 : c.toNat = 59 := by
        have := h.1
        unfold endB at this
        rw [hB, Bool.false_or] at this
        exact of_decide_eq_true this
      rw [line_semi h59, line_ends t _ _ h.2]
      rfl
theorem idle_ends (y : List UInt8) (h : y.all endB = true) : Idle y := by
  refine ⟨?_, fun now all => line_ends y now all h⟩
  cases y with
  | nil => exact .inl rfl
  | cons c t =>
    rw [List.all_cons, Bool.and_eq_true] at h
    exact .inr ⟨c, t, rfl, h.1⟩
theorem idle_remark (t : List UInt8) (h : t.head? ≠ some 123) : Idle (32 :: 35 :: t) := by
  refine ⟨.inr ⟨32, _, rfl, by decide⟩, fun now all => ?_⟩
  rw [line_blank (by decide), line_rem (by unfold remB; simpa using h) (by decide)]
theorem line_ahead (r : List UInt8) : ∀ (y : List UInt8), y.all endB = true → lineF (y ++ r) [] [] = lineF r [] []
  | [], h => rfl
  | c :: t, h => by
    rw [List.all_cons, Bool.and_eq_true] at h
    show lineF (c :: (t ++ r)) [] [] = _
    cases hB : blankB c with
    | true => rw [line_blank hB]; exact line_ahead r t h.2
    | false =>
      have h59 : c.toNat = 59 := by
        have := h.1
        unfold endB at this
        rw [hB, Bool.false_or] at this
        exact of_decide_eq_true this
      rw [line_semi h59]
      exact line_ahead r t h.2

theorem cmds_ok {L : List UInt8} {cs : List (List (List UInt8))} {p : Nat} (h : cmdsF L = (cs, p, 0)) : L.length ≤ 8192 ∧ p = 0 ∧ lineF L [] [] = .inr cs ∧ ¬ (16 < cs.length ∨ 64 < wcount cs) := by
  unfold cmdsF at h
  split at h
  · simp at h
  · rename_i h8
    cases hl : lineF L [] [] with
    | inl f => rw [hl] at h; simp at h
    | inr ds =>
      rw [hl] at h
      simp only [] at h
      split at h
      · simp at h
      · rename_i hb
        simp only [Prod.mk.injEq] at h
        obtain ⟨rfl, h2, _⟩ := h
        exact ⟨by omega, h2.symm, rfl, hb⟩
theorem cmds_of {L : List UInt8} {cs : List (List (List UInt8))} (h8 : L.length ≤ 8192) (hl : lineF L [] [] = .inr cs) (hb : ¬ (16 < cs.length ∨ 64 < wcount cs)) : cmdsF L = (cs, 0, 0) := by
  unfold cmdsF
  rw [if_neg (by omega), hl]
  simp only []
  rw [if_neg hb]
theorem cmds_ahead {L y : List UInt8} {cs : List (List (List UInt8))} {p : Nat} (h : cmdsF L = (cs, p, 0)) (hy : y.all endB = true) (h8 : (y ++ L).length ≤ 8192) : cmdsF (y ++ L) = (cs, 0, 0) := by
  obtain ⟨_, _, h3, h4⟩ := cmds_ok h
  exact cmds_of h8 (by rw [line_ahead L y hy]; exact h3) h4
theorem cmds_behind {L y : List UInt8} {cs : List (List (List UInt8))} {p : Nat} (h : cmdsF L = (cs, p, 0)) (hy : Idle y) (h8 : (L ++ y).length ≤ 8192) : cmdsF (L ++ y) = (cs, 0, 0) := by
  obtain ⟨_, _, h3, h4⟩ := cmds_ok h
  exact cmds_of h8 (line_behind hy _ L [] [] cs (Nat.le_refl _) h3) h4
theorem wcount_mem : ∀ (cs : List (List (List UInt8))) (c : List (List UInt8)), c ∈ cs → c.length ≤ wcount cs := by
  intro cs
  induction cs with
  | nil => intro c h; cases h
  | cons d cs ih =>
    intro c h
    rcases List.mem_cons.1 h with rfl | h
    · simp [wcount]
    · have := ih c h
      simp [wcount] at this ⊢
      omega
theorem cmds_small {L : List UInt8} {cs : List (List (List UInt8))} {p : Nat} (h : cmdsF L = (cs, p, 0)) : SmallC cs := by
  obtain ⟨_, _, _, h4⟩ := cmds_ok h
  refine ⟨by omega, fun c hc => ?_⟩
  have := wcount_mem cs c hc
  omega

end Go.Proofs.Ytghkhnnlhkdceaa
