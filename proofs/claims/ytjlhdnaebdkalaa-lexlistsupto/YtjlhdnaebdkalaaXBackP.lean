/-
  Lines of commands: what is quoted is read as it was (lists alone).
-/
import Derived.Test.YtjlhdnaebdkalaaXSure
namespace Go.Proofs.Ytjlhdnaebdkalaa
open Go.RowKit
set_option linter.unusedVariables false
set_option maxRecDepth 20000

theorem esc_self (c : UInt8) (r : List UInt8) (h : c.toNat = 34 ∨ c.toNat = 92) : escF (c :: r) = (c, 1) := by
  have ho : octF (c :: r) = none := by
    unfold octF
    rw [if_neg]
    rintro ⟨_, ha, _⟩
    have := List.all_eq_true.1 ha c (by simp)
    unfold octD at this
    have := of_decide_eq_true this
    omega
  unfold escF
  rw [ho]
  show (escV c, 1) = (c, 1)
  unfold escV
  rw [if_neg (by omega), if_neg (by omega), if_neg (by omega), if_neg (by omega)]
theorem esc_low (c : UInt8) (r : List UInt8) (h : c.toNat < 32) : escF (48 :: UInt8.ofNat (48 + c.toNat / 8) :: UInt8.ofNat (48 + c.toNat % 8) :: r) = (c, 3) := by
  have t1 : (UInt8.ofNat (48 + c.toNat / 8)).toNat = 48 + c.toNat / 8 := by rw [UInt8.toNat_ofNat']; omega
  have t2 : (UInt8.ofNat (48 + c.toNat % 8)).toNat = 48 + c.toNat % 8 := by rw [UInt8.toNat_ofNat']; omega
  have hv : valF [48, UInt8.ofNat (48 + c.toNat / 8), UInt8.ofNat (48 + c.toNat % 8)] = c.toNat := by
    show ((0 * 8 + ((48 : UInt8).toNat - 48)) * 8 + ((UInt8.ofNat (48 + c.toNat / 8)).toNat - 48)) * 8 + ((UInt8.ofNat (48 + c.toNat % 8)).toNat - 48) = _
    rw [t1, t2]
    have : (48 : UInt8).toNat = 48 := rfl
    omega
  have ho : octF (48 :: UInt8.ofNat (48 + c.toNat / 8) :: UInt8.ofNat (48 + c.toNat % 8) :: r) = some c := by
    unfold octF
    rw [show (48 :: UInt8.ofNat (48 + c.toNat / 8) :: UInt8.ofNat (48 + c.toNat % 8) :: r).take 3 = [48, UInt8.ofNat (48 + c.toNat / 8), UInt8.ofNat (48 + c.toNat % 8)] from rfl, hv]
    rw [if_pos]
    · congr 1
      exact UInt8.toNat_inj.1 (by rw [UInt8.toNat_ofNat']; omega)
    · refine ⟨by simp, ?_, by omega⟩
      rw [List.all_cons, List.all_cons, List.all_cons, List.all_nil]
      have o1 : octD 48 = true := by decide
      have o2 : octD (UInt8.ofNat (48 + c.toNat / 8)) = true := by unfold octD; rw [t1]; exact decide_eq_true (by omega)
      have o3 : octD (UInt8.ofNat (48 + c.toNat % 8)) = true := by unfold octD; rw [t2]; exact decide_eq_true (by omega)
      rw [o1, o2, o3]
      rfl
  unfold escF
  rw [ho]
theorem double_quotes (y : List UInt8) : ∀ (l : List UInt8), doubleF (quotesF l ++ [34] ++ y) = some (l, y)
  | [] => double_quote rfl
  | c :: l => by
    have ih := double_quotes y l
    have e : quotesF (c :: l) = q1 c ++ quotesF l := rfl
    rw [e, List.append_assoc, List.append_assoc, ← List.append_assoc (quotesF l)]
    unfold q1
    split
    · rename_i h
      show doubleF (92 :: c :: (quotesF l ++ [34] ++ y)) = _
      rw [double_back rfl]
      show (doubleF ((c :: (quotesF l ++ [34] ++ y)).drop (escF (c :: (quotesF l ++ [34] ++ y))).2)).map (fun x => ((escF (c :: (quotesF l ++ [34] ++ y))).1 :: x.1, x.2)) = _
      rw [esc_self c _ h]
      show (doubleF (quotesF l ++ [34] ++ y)).map (fun x => (c :: x.1, x.2)) = _
      rw [ih]
      rfl
    · rename_i h
      split
      · rename_i h32
        show doubleF (92 :: 48 :: UInt8.ofNat (48 + c.toNat / 8) :: UInt8.ofNat (48 + c.toNat % 8) :: (quotesF l ++ [34] ++ y)) = _
        rw [double_back rfl]
        show (doubleF ((48 :: UInt8.ofNat (48 + c.toNat / 8) :: UInt8.ofNat (48 + c.toNat % 8) :: (quotesF l ++ [34] ++ y)).drop (escF (48 :: UInt8.ofNat (48 + c.toNat / 8) :: UInt8.ofNat (48 + c.toNat % 8) :: (quotesF l ++ [34] ++ y))).2)).map (fun x => ((escF (48 :: UInt8.ofNat (48 + c.toNat / 8) :: UInt8.ofNat (48 + c.toNat % 8) :: (quotesF l ++ [34] ++ y))).1 :: x.1, x.2)) = _
        rw [esc_low c _ h32]
        show (doubleF (quotesF l ++ [34] ++ y)).map (fun x => (c :: x.1, x.2)) = _
        rw [ih]
        rfl
      · rename_i h32
        show doubleF (c :: (quotesF l ++ [34] ++ y)) = _
        rw [double_other (fun e => h (.inl e)) (fun e => h (.inr e)), ih]
        rfl
theorem plain_not {c : UInt8} (h : plainB c = true) : endB c = false ∧ quoteB c = false ∧ c.toNat ≠ 35 := by
  have hk : ∀ n : Fin 256, plainB (UInt8.ofNat n.val) = true → endB (UInt8.ofNat n.val) = false ∧ quoteB (UInt8.ofNat n.val) = false ∧ (UInt8.ofNat n.val).toNat ≠ 35 := by decide +kernel
  have hc : UInt8.ofNat c.toNat = c := by simp
  have := hk ⟨c.toNat, UInt8.toNat_lt c⟩
  simp only [] at this
  rw [hc] at this
  exact this h
theorem word_plain (y : List UInt8) (hy : wordF y = .inr ([], y)) : ∀ (l : List UInt8), l.all plainB = true → wordF (l ++ y) = .inr (l, y)
  | [], _ => hy
  | c :: l, h => by
    rw [List.all_cons, Bool.and_eq_true] at h
    obtain ⟨h1, h2, _⟩ := plain_not h.1
    show wordF (c :: (l ++ y)) = _
    rw [word_other h1 h2, word_plain y hy l h.2]
    rfl
/-- A quoted word, and what may stand behind it. -/
theorem line_quoted (l y : List UInt8) (now : List (List UInt8)) (all : List (List (List UInt8))) (hy : wordF y = .inr ([], y)) : lineF (quoteF l ++ y) now all = lineF y (now ++ [l]) all := by
  unfold quoteF
  split
  · rename_i hp
    unfold isPlainF at hp
    rw [Bool.and_eq_true] at hp
    cases l with
    | nil => exact absurd hp.2 (by decide)
    | cons c t =>
      have hc : plainB c = true := by
        have := hp.1
        rw [List.all_cons, Bool.and_eq_true] at this
        exact this.1
      obtain ⟨h1, h2, h3⟩ := plain_not hc
      show lineF (c :: (t ++ y)) now all = _
      rw [line_word h1 (by unfold remB; rw [decide_eq_false h3]; rfl)]
      unfold lineW
      rw [ontoW_nil, show c :: (t ++ y) = (c :: t) ++ y from rfl, word_plain y hy (c :: t) hp.1]
  · rw [show [34] ++ quotesF l ++ [34] ++ y = 34 :: (quotesF l ++ [34] ++ y) by simp [List.append_assoc]]
    rw [line_word (by decide) (by unfold remB; rw [decide_eq_false (by decide)]; rfl), lineW_piece (a := l) (u := y) (by decide) (by decide) (by
      unfold pieceF
      rw [if_neg (by decide), if_pos (by decide)]
      exact double_quotes y l)]
    unfold lineW
    rw [hy]
    show lineF y (now ++ [[] ++ l ++ []]) all = _
    simp
theorem cmds_quote (l : List UInt8) (h : (quoteF l).length ≤ 8192) : cmdsF (quoteF l) = ([[l]], 0, 0) := by
  have hl := line_quoted l [] [] [] word_nil
  rw [List.append_nil, line_nil] at hl
  unfold cmdsF
  rw [if_neg (by omega), hl]
  rfl

end Go.Proofs.Ytjlhdnaebdkalaa
