/-
  Keys: what is told are keys; what is held is an end of what came.
-/
import Derived.Test.YtghepjjfdaecgaaDoorKSure
namespace Go.Proofs.YtghepjjfdaecgaaDoor
open Go.RowKit
set_option linter.unusedVariables false
set_option maxRecDepth 100000

/-- A key, or none. -/
def keyOk (k : Int × Int) : Prop := k.1 = 0 ∨ validB k.1 k.2 = true
theorem lone_ok : ∀ b : Fin 128, validB (loneF b.val).1 (loneF b.val).2 = true ∧ validB (loneF b.val).1 ((loneF b.val).2 + 2) = true := by decide
theorem take0_ok (b : UInt8) : keyOk (take0 b).2 := by
  unfold take0
  split
  · exact .inl rfl
  · split
    · rename_i h
      exact .inr (lone_ok ⟨b.toNat, h⟩).1
    · split <;> exact .inl rfl
theorem chr_ok {c m : Int} (h : chrB c = true) (hm : m = 0 ∨ m = 2) : validB c m = true := by
  have h1 : 33 ≤ c ∧ c ≤ 126 ∨ 160 ≤ c ∧ c ≤ 1114111 ∧ (c < 55296 ∨ 57343 < c) := by simpa [chrB] using h
  unfold validB
  rw [if_neg (by omega), if_neg (by simp [oneB]; omega), if_neg (by omega), if_neg (by simp [spcB]; omega), h]
  rcases hm with e | e <;> subst e <;> rfl
theorem chF_ok (h : List UInt8) (b : UInt8) : keyOk (chF h b).2 := by
  unfold chF
  simp only []
  split
  · split
    · exact take0_ok b
    · simp only []
      split
      · exact .inl rfl
      · rename_i q
        exact .inr (chr_ok (by simpa using fun e => q (.inr e)) (behind_mods _))
  · exact .inl rfl
theorem find_lt {p : Sp → Bool} : ∀ {l : List Sp} {i k : Nat}, findT p l i = some k → k < i + l.length
  | [], _, _, h => by cases h
  | a :: r, i, k, h => by
    unfold findT at h
    split at h
    · cases h; simp
    · have := find_lt h
      simp only [List.length_cons]; omega
theorem spc_ok {k : Nat} (hk : k < 22) {m : Int} (h0 : 0 ≤ m) (h7 : m ≤ 7) : validB (16777217 + (k : Int)) m = true := by
  unfold validB
  rw [if_neg (by omega), if_neg (by simp [oneB]; omega), if_neg (by omega), if_pos (by simp [spcB]; omega)]
  simp [h0, h7]
theorem inShift_ok (l : List UInt8) : keyOk (inShiftF l) := by
  unfold inShiftF
  split
  · rename_i i hi
    exact .inr (spc_ok (by have := find_lt hi; rw [spT_len] at this; omega) (Int.le_refl 0) (show (0 : Int) ≤ 7 by decide))
  · exact .inl rfl
theorem after_ok {nu la : List UInt8} {md : Bool} {m : Int} (h0 : 0 ≤ m) (h7 : m ≤ 7) : keyOk (afterF nu la md m) := by
  unfold afterF
  split
  · rename_i i hi
    exact .inr (spc_ok (by have := find_lt hi; rw [spT_len] at this; omega) h0 h7)
  · exact .inl rfl
theorem inSeq_ok (nu la : List UInt8) : keyOk (inSeqF nu la) := by
  by_cases hn : nu = [] ∧ la = [90]
  · obtain ⟨rfl, rfl⟩ := hn
    exact .inr rfl
  · cases h1 : (cutF nu).2.2 with
    | true =>
      by_cases h2 : modsF (cutF nu).2.1 = 0
      · rw [seq_bad hn h1 h2]; exact .inl rfl
      · rw [seq_mod hn h1 h2]
        have := mods_range (cutF nu).2.1
        exact after_ok this.1 this.2
    | false => rw [seq_plain hn h1]; exact after_ok (by decide) (by decide)
theorem take_ok (h : List UInt8) (b : UInt8) : keyOk (takeF h b).2 := by
  by_cases h0 : h = []
  · subst h0; exact take0_ok b
  · by_cases h1 : h.take 2 = [27, 91]
    · rw [takeF_seq h1]
      unfold seqT
      split
      · exact take0_ok b
      · split
        · split <;> exact .inl rfl
        · exact inSeq_ok _ _
    · by_cases h2 : h.take 2 = [27, 79]
      · rw [takeF_shift h2]; exact inShift_ok _
      · by_cases h3 : h = [27]
        · subst h3
          have e : takeF [27] b = if b = 91 ∨ b = 79 then ([27, b], (0, 0)) else if b.toNat < 128 then ([], mods2 (loneF b.toNat)) else chF [27] b := rfl
          rw [e]
          split
          · exact .inl rfl
          · split
            · rename_i q
              exact .inr (lone_ok ⟨b.toNat, q⟩).2
            · exact chF_ok _ _
        · rw [takeF_chr h0 h1 h2 h3]; exact chF_ok _ _
theorem feed_ok : ∀ (t h : List UInt8), ∀ k ∈ (feedF h t).2, validB k.1 k.2 = true
  | [], h, k, hk => by cases hk
  | b :: t, h, k, hk => by
    rw [feed_cons] at hk
    simp only at hk
    split at hk
    · exact feed_ok t _ k hk
    · rename_i q
      rcases List.mem_cons.1 hk with e | e
      · rw [e]
        rcases take_ok h b with e2 | e2
        · exact absurd e2 q
        · exact e2
      · exact feed_ok t _ k e
/-- What is held is an end of what was held and came. -/
theorem take0_end (b : UInt8) : (take0 b).1 <:+ [b] := by
  unfold take0
  split
  · rename_i h; subst h; exact List.suffix_refl _
  · split
    · exact List.nil_suffix
    · split
      · exact List.nil_suffix
      · exact List.suffix_refl _
theorem chF_end (h : List UInt8) (b : UInt8) : (chF h b).1 <:+ h ++ [b] := by
  unfold chF
  simp only []
  split
  · split
    · exact (take0_end b).trans (List.suffix_append _ _)
    · exact List.nil_suffix
  · exact List.suffix_refl _
theorem take_end (h : List UInt8) (b : UInt8) : (takeF h b).1 <:+ h ++ [b] := by
  by_cases h0 : h = []
  · subst h0; exact take0_end b
  · by_cases h1 : h.take 2 = [27, 91]
    · rw [takeF_seq h1]
      unfold seqT
      split
      · exact (take0_end b).trans (List.suffix_append _ _)
      · split
        · split
          · exact List.nil_suffix
          · exact List.suffix_refl _
        · exact List.nil_suffix
    · by_cases h2 : h.take 2 = [27, 79]
      · rw [takeF_shift h2]; exact List.nil_suffix
      · by_cases h3 : h = [27]
        · subst h3
          have e : takeF [27] b = if b = 91 ∨ b = 79 then ([27, b], (0, 0)) else if b.toNat < 128 then ([], mods2 (loneF b.toNat)) else chF [27] b := rfl
          rw [e]
          split
          · exact List.suffix_refl _
          · split
            · exact List.nil_suffix
            · exact chF_end _ _
        · rw [takeF_chr h0 h1 h2 h3]; exact chF_end _ _
theorem feed_end : ∀ (t h : List UInt8), (feedF h t).1 <:+ h ++ t
  | [], h => by simp [feedF]
  | b :: t, h => by
    rw [feed_cons]
    refine (feed_end t (takeF h b).1).trans ?_
    obtain ⟨p, hp⟩ := take_end h b
    refine ⟨p, ?_⟩
    rw [← List.append_assoc, hp]
    simp
end Go.Proofs.YtghepjjfdaecgaaDoor
