/-
  Lines of commands: lists of words written as a line, and read (lists alone).
-/
import Derived.Test.YtjlhdnaebdkalaaXBackP
import Derived.Test.YtjlhdnaebdkalaaXBlankP
namespace Go.Proofs.Ytjlhdnaebdkalaa
open Go.RowKit
set_option linter.unusedVariables false
set_option maxRecDepth 20000

def tailW : List (List UInt8) → List UInt8
  | [] => []
  | w :: ws => 32 :: (quoteF w ++ tailW ws)
def cmdL : List (List UInt8) → List UInt8
  | [] => []
  | w :: ws => quoteF w ++ tailW ws
def tailC : List (List (List UInt8)) → List UInt8
  | [] => []
  | c :: cs => 59 :: (cmdL c ++ tailC cs)
/-- The line that is written of lists of words. -/
def linesF : List (List (List UInt8)) → List UInt8
  | [] => []
  | c :: cs => cmdL c ++ tailC cs
theorem tailW_snoc (w : List UInt8) : ∀ (ws : List (List UInt8)), tailW (ws ++ [w]) = tailW ws ++ 32 :: quoteF w
  | [] => by simp [tailW]
  | v :: ws => by
    show 32 :: (quoteF v ++ tailW (ws ++ [w])) = _
    rw [tailW_snoc w ws]
    simp [tailW]
theorem cmdL_one (w : List UInt8) : cmdL [w] = quoteF w := by simp [cmdL, tailW]
theorem cmdL_snoc (w v : List UInt8) (ws : List (List UInt8)) : cmdL (v :: ws ++ [w]) = cmdL (v :: ws) ++ [32] ++ quoteF w := by
  show quoteF v ++ tailW (ws ++ [w]) = _
  rw [tailW_snoc]
  simp [cmdL]
theorem tailC_snoc (c : List (List UInt8)) : ∀ (cs : List (List (List UInt8))), tailC (cs ++ [c]) = tailC cs ++ 59 :: cmdL c
  | [] => by simp [tailC]
  | d :: cs => by
    show 59 :: (cmdL d ++ tailC (cs ++ [c])) = _
    rw [tailC_snoc c cs]
    simp [tailC]
theorem linesF_one (c : List (List UInt8)) : linesF [c] = cmdL c := by simp [linesF, tailC]
theorem linesF_snoc (c d : List (List UInt8)) (cs : List (List (List UInt8))) : linesF (d :: cs ++ [c]) = linesF (d :: cs) ++ [59] ++ cmdL c := by
  show cmdL d ++ tailC (cs ++ [c]) = _
  rw [tailC_snoc]
  simp [linesF]
theorem ends_word {y : List UInt8} (hy : EndsW y) : wordF y = .inr ([], y) := by
  rcases hy with rfl | ⟨c, t, rfl, hc⟩
  · exact word_nil
  · exact word_end hc
theorem line_tailW (y : List UInt8) (hy : EndsW y) (all : List (List (List UInt8))) : ∀ (ws now : List (List UInt8)), EndsW (tailW ws ++ y) ∧ lineF (tailW ws ++ y) now all = lineF y (now ++ ws) all
  | [], now => ⟨hy, by rw [List.append_nil]; rfl⟩
  | w :: ws, now => by
    refine ⟨.inr ⟨32, _, rfl, by decide⟩, ?_⟩
    show lineF (32 :: (quoteF w ++ tailW ws ++ y)) now all = _
    obtain ⟨h1, h2⟩ := line_tailW y hy all ws (now ++ [w])
    rw [line_blank (by decide), List.append_assoc, line_quoted w _ now all (ends_word h1), h2]
    simp
theorem line_cmdL (y : List UInt8) (hy : EndsW y) (c now : List (List UInt8)) (all : List (List (List UInt8))) : lineF (cmdL c ++ y) now all = lineF y (now ++ c) all := by
  cases c with
  | nil => rw [List.append_nil]; rfl
  | cons w ws =>
    obtain ⟨h1, h2⟩ := line_tailW y hy all ws (now ++ [w])
    show lineF (quoteF w ++ tailW ws ++ y) now all = _
    rw [List.append_assoc, line_quoted w _ now all (ends_word h1), h2]
    simp
theorem line_tailC : ∀ (cs : List (List (List UInt8))) (now : List (List UInt8)) (all : List (List (List UInt8))), (∀ c ∈ cs, c ≠ []) → now ≠ [] → EndsW (tailC cs) ∧ lineF (tailC cs) now all = .inr (all ++ now :: cs)
  | [], now, all, h, hn => ⟨.inl rfl, by show lineF [] now all = _; rw [line_nil]; unfold moreC; rw [if_neg hn]⟩
  | c :: cs, now, all, h, hn => by
    refine ⟨.inr ⟨59, _, rfl, by decide⟩, ?_⟩
    have ih := fun now all hn => line_tailC cs now all (fun c hc => h c (List.mem_cons_of_mem _ hc)) hn
    have hc := h c List.mem_cons_self
    show lineF (59 :: (cmdL c ++ tailC cs)) now all = _
    rw [line_semi (by decide), line_cmdL _ (ih c all hc).1, List.nil_append, (ih c _ hc).2]
    unfold moreC
    rw [if_neg hn]
    simp
theorem line_lines (cs : List (List (List UInt8))) (h : ∀ c ∈ cs, c ≠ []) : lineF (linesF cs) [] [] = .inr cs := by
  cases cs with
  | nil => exact line_nil [] []
  | cons c cs =>
    have hc := h c List.mem_cons_self
    have ih := fun all => line_tailC cs c all (fun c hc => h c (List.mem_cons_of_mem _ hc)) hc
    show lineF (cmdL c ++ tailC cs) [] [] = _
    rw [line_cmdL _ (ih []).1, List.nil_append, (ih []).2]
    rfl
theorem cmds_lines (cs : List (List (List UInt8))) (h : ∀ c ∈ cs, c ≠ []) : cmdsF (linesF cs) = if 8192 < (linesF cs).length then ([], 0, 2) else if 16 < cs.length ∨ 64 < wcount cs then ([], 0, 91) else (cs, 0, 0) := by
  unfold cmdsF
  rw [line_lines cs h]

end Go.Proofs.Ytjlhdnaebdkalaa
