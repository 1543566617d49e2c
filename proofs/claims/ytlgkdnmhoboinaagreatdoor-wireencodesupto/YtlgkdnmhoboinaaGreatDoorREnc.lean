/-
  The document's Encode.
-/
import Derived.Test.YtlgkdnmhoboinaaGreatDoorRRowB
namespace Go.Proofs.YtlgkdnmhoboinaaGreatDoor
open Go.RowKit
set_option linter.unusedVariables false
set_option maxRecDepth 20000

theorem parts24 : (partsOf (chs 24)).toList = [120] := by rw [Lib.toList_data]; rfl

theorem row_any (k : Nat) (h1 : 1 ≤ k) (h2 : k ≤ 24) (h4 : k ≠ 4) (ev : Ev) (hk : ev.kind = k) (hf : ev.Fits) (w : World) :
    Calls Tryz.prog 31 #[.agg ev.vals, .agg #[.int .i64 k, .string (str (wordOf k)), .string (partsOf (chs k))]] w (EncPost (encS ev) w) := by
  obtain ⟨e1, e2⟩ := enc_row k h1 h2 h4 ev hk
  have hcs : ∀ c ∈ chs k, c ≠ .qc := by
    rcases (show k = 1 ∨ k = 2 ∨ k = 3 ∨ k = 5 ∨ k = 6 ∨ k = 7 ∨ k = 8 ∨ k = 9 ∨ k = 10 ∨ k = 11 ∨ k = 12 ∨ k = 13 ∨ k = 14 ∨ k = 15 ∨ k = 16 ∨ k = 17 ∨ k = 18 ∨ k = 19 ∨ k = 20 ∨ k = 21 ∨ k = 22 ∨ k = 23 ∨ k = 24 by omega) with rfl | rfl | rfl | rfl | rfl | rfl | rfl | rfl | rfl | rfl | rfl | rfl | rfl | rfl | rfl | rfl | rfl | rfl | rfl | rfl | rfl | rfl | rfl
    all_goals decide
  have hln : (chs k).length ≤ 6 := by
    rcases (show k = 1 ∨ k = 2 ∨ k = 3 ∨ k = 5 ∨ k = 6 ∨ k = 7 ∨ k = 8 ∨ k = 9 ∨ k = 10 ∨ k = 11 ∨ k = 12 ∨ k = 13 ∨ k = 14 ∨ k = 15 ∨ k = 16 ∨ k = 17 ∨ k = 18 ∨ k = 19 ∨ k = 20 ∨ k = 21 ∨ k = 22 ∨ k = 23 ∨ k = 24 by omega) with rfl | rfl | rfl | rfl | rfl | rfl | rfl | rfl | rfl | rfl | rfl | rfl | rfl | rfl | rfl | rfl | rfl | rfl | rfl | rfl | rfl | rfl | rfl
    all_goals decide
  have hwd : (str (wordOf k)).size ≤ 30 := by
    rcases (show k = 1 ∨ k = 2 ∨ k = 3 ∨ k = 5 ∨ k = 6 ∨ k = 7 ∨ k = 8 ∨ k = 9 ∨ k = 10 ∨ k = 11 ∨ k = 12 ∨ k = 13 ∨ k = 14 ∨ k = 15 ∨ k = 16 ∨ k = 17 ∨ k = 18 ∨ k = 19 ∨ k = 20 ∨ k = 21 ∨ k = 22 ∨ k = 23 ∨ k = 24 by omega) with rfl | rfl | rfl | rfl | rfl | rfl | rfl | rfl | rfl | rfl | rfl | rfl | rfl | rfl | rfl | rfl | rfl | rfl | rfl | rfl | rfl | rfl | rfl
    all_goals decide
  have hkeep : ∀ W, Calls Tryz.prog 48 #[.agg ev.vals, .string (partsOf (chs k))] W fun e w' => e = .returned (.agg (keepC (chs k) ev (Ev.zero k)).vals) ∧ Below W.heap.size W w' := fun W => by
    have := keeps_any ev (chs k) hcs (by omega) W
    rw [hk] at this
    exact this
  by_cases hkk : keepC (chs k) ev (Ev.zero k) = ev
  · rw [hkk] at hkeep
    have hE := e1 hkk
    have hEq : ∀ W : World, (Op.equalIn 10000 28 (.agg ev.vals) (.agg ev.vals)).run Tryz.prog W = .ok true W := fun W => by
      have := eqEv ev ev W
      rw [(evEq_iff ev ev).2 rfl] at this
      exact this
    have hpart : ∀ c : Ch, c ∈ chs k → ∀ W, Calls Tryz.prog 49 #[.agg ev.vals, .int .u8 (c.byte.toNat : Int)] W (PartPost (c.T ev) W) := fun c hc W => part_any c (hcs c hc) ev hf W
    by_cases h24 : k = 24
    · subst h24
      by_cases h0 : ev.text.size = 0
      · have hr : encS ev = some (wordOf 24) := by rw [hE]; exact if_pos ⟨rfl, h0⟩
        exact row_short _ _ _ ev w hkeep hEq parts24 (by rw [empty_text h0, Lib.toList_data]) _ (wordOf 24) hr rfl
      · have hr : encS ev = (putsC (chs 24) ev).map (wordOf 24 ++ ·) := by rw [hE]; exact if_neg (fun h => h0 h.2)
        refine row_loop _ _ _ ev w hkeep hEq (.inr ⟨parts24, toList_neN h0⟩) (chs 24) _ hln rfl (partsOf_size _) (index_part _) hpart (fun c t h => T_len c ev hf t h) (wordOf 24) rfl hwd _ (fun acc h => ?_) (fun h => ?_)
        · rw [hr, h]; rfl
        · rw [hr, h]; rfl
    · have hr : encS ev = (putsC (chs k) ev).map (wordOf k ++ ·) := by rw [hE]; exact if_neg (fun h => h24 h.1)
      have hx : ((partsOf (chs k)).toList == [120]) = false := by
        rw [Lib.toList_data, show (partsOf (chs k)).data.toList = (chs k).map Ch.byte from str_data _]
        rcases (show k = 1 ∨ k = 2 ∨ k = 3 ∨ k = 5 ∨ k = 6 ∨ k = 7 ∨ k = 8 ∨ k = 9 ∨ k = 10 ∨ k = 11 ∨ k = 12 ∨ k = 13 ∨ k = 14 ∨ k = 15 ∨ k = 16 ∨ k = 17 ∨ k = 18 ∨ k = 19 ∨ k = 20 ∨ k = 21 ∨ k = 22 ∨ k = 23 by omega) with rfl | rfl | rfl | rfl | rfl | rfl | rfl | rfl | rfl | rfl | rfl | rfl | rfl | rfl | rfl | rfl | rfl | rfl | rfl | rfl | rfl | rfl
        all_goals decide
      refine row_loop _ _ _ ev w hkeep hEq (.inl hx) (chs k) _ hln rfl (partsOf_size _) (index_part _) hpart (fun c t h => T_len c ev hf t h) (wordOf k) rfl hwd _ (fun acc h => ?_) (fun h => ?_)
      · rw [hr, h]; rfl
      · rw [hr, h]; rfl
  · rw [e2 hkk]
    refine row_bad _ _ _ ev (keepC (chs k) ev (Ev.zero k)) w hkeep (fun W => ?_)
    have := eqEv ev (keepC (chs k) ev (Ev.zero k)) W
    rw [Bool.eq_false_iff.2 (fun h => hkk ((evEq_iff _ _).1 h).symm)] at this
    exact this

end Go.Proofs.YtlgkdnmhoboinaaGreatDoor
