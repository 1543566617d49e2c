/-
  Lines of commands: remarked; a line of any length.
-/
import Derived.Test.YtghkhnnlhkdceaaXRefD
import Derived.Test.YtghkhnnlhkdceaaXSome
import Derived.Test.YtghkhnnlhkdceaaXTwoP
namespace Go.Proofs.Ytghkhnnlhkdceaa
open Go.RowKit
set_option linter.unusedVariables false
set_option maxRecDepth 100000

theorem beq_bytes {X Y : ByteArray} (h : (X == Y) = true) : X = Y := by
  cases X
  cases Y
  congr 1
  exact eq_of_beq (show (_ == _) = true from h)
theorem app_dataT (a b : ByteArray) : (a ++ b).data.toList = a.data.toList ++ b.data.toList := by rw [ByteArray.data_append, Array.toList_append]
theorem cmds_smT (L : List UInt8) : SmallC (cmdsF L).1 := by
  unfold cmdsF
  split
  · exact ⟨by simp, by simp⟩
  · split
    · exact ⟨by simp, by simp⟩
    · rename_i cs hl
      split
      · exact ⟨by simp, by simp⟩
      · rename_i hb
        refine ⟨show cs.length ≤ 2000000 by omega, fun c hc => ?_⟩
        have := wcount_mem cs c hc
        omega

theorem commands_all (s : ByteArray) (w : World) : Calls Try.prog 5 #[.string s] w (CmdA w (cmdsF s.data.toList)) := by
  by_cases h8 : s.size ≤ 8192
  · exact commands_any s w (by omega)
  · have hsl : s.data.toList.length = s.size := size_data s
    have HR : Hid (cmdsF s.data.toList = ([], 0, 2)) := by show _ = _; unfold cmdsF; rw [if_pos (by omega)]
    rw [HR.out]
    have d8 : decide ((8192 : Int) < (s.size : Int)) = true := decide_eq_true (by omega)
    clear hsl
    go_enter Try.func5, Try.ntmps5
    go_wp2
    exact bodyPost_ret (v := .tuple #[.slice none 0 0, .int .i64 0, .int .i64 2]) (by simp [results, Try.results5, go_sem]) rfl ⟨_, rfl, cmdsAt_nil _ _ (Nat.le_refl _), Below.refl _ _⟩

theorem line_ne : ∀ (k : Nat) (r : List UInt8) (now : List (List UInt8)) (all m : List (List (List UInt8))), r.length ≤ k → (∀ c ∈ all, c ≠ []) → lineF r now all = .inr m → ∀ c ∈ m, c ≠ []
  | k, [], now, all, m, hk, ha, h => by
    rw [line_nil] at h
    cases h
    unfold moreC
    split
    · exact ha
    · rename_i hn
      intro c hc
      rcases List.mem_append.1 hc with h | h
      · exact ha c h
      · rw [List.mem_singleton.1 h]; exact hn
  | 0, c :: t, now, all, m, hk, ha, h => by simp at hk
  | k + 1, c :: t, now, all, m, hk, ha, h => by
    simp only [List.length_cons] at hk
    have hm : ∀ n, ∀ c ∈ moreC n all, c ≠ [] := fun n => by
      unfold moreC
      split
      · exact ha
      · rename_i hn
        intro c hc
        rcases List.mem_append.1 hc with h | h
        · exact ha c h
        · rw [List.mem_singleton.1 h]; exact hn
    cases hB : blankB c with
    | true =>
      rw [line_blank hB] at h
      exact line_ne k t now all m (by omega) ha h
    | false =>
      by_cases h59 : c.toNat = 59
      · rw [line_semi h59] at h
        exact line_ne k t _ _ m (by omega) (hm _) h
      · have hE : endB c = false := by unfold endB; rw [hB, decide_eq_false h59]; rfl
        rw [line_eq, if_neg (by rw [hB]; decide), if_neg h59] at h
        split at h
        · cases h
          exact hm _
        · unfold lineW at h
          rw [ontoW_nil] at h
          cases hw : wordF (c :: t) with
          | inl g => rw [hw] at h; cases h
          | inr z =>
            obtain ⟨w, u⟩ := z
            rw [hw] at h
            have hs := word_short hE hw
            simp only [List.length_cons] at hs
            exact line_ne k u _ _ m (by omega) ha h
theorem cmds_ne {L : List UInt8} {cs : List (List (List UInt8))} {p : Nat} (h : cmdsF L = (cs, p, 0)) : ∀ c ∈ cs, c ≠ [] := line_ne _ L [] [] cs (Nat.le_refl _) (by simp) (cmds_ok h).2.2.1
/-- The line in two parts. -/
theorem cmds_two {A B : List UInt8} {l m : List (List (List UInt8))} {p q : Nat} (h1 : cmdsF (A ++ 32 :: endW) = (l, p, 0)) (h2 : cmdsF B = (m, q, 0)) (hlen : A.length + B.length ≤ 8000) (hl : ∃ l' c', l = l' ++ [c' ++ [endW]]) (hb : ¬ (16 < (l ++ m).length ∨ 64 < wcount (l ++ m))) (hr : (cmdsF (A ++ 32 :: endW)).1 ≠ (cmdsF (A ++ 32 :: endW2)).1) : cmdsF (A ++ 32 :: endW ++ 59 :: B) = (l ++ m, 0, 0) := by
  obtain ⟨_, _, k3, k4⟩ := cmds_ok h1
  obtain ⟨_, _, j3, j4⟩ := cmds_ok h2
  have e4 : (32 :: endW).length = 4 := rfl
  have e5 : (32 :: endW2).length = 5 := rfl
  rcases line_two _ A [] [] l (Nat.le_refl _) k3 with h | ⟨n', a', w, h⟩ | ⟨n', a', h, hy⟩
  · exfalso
    apply hr
    rw [h1, cmds_of (by rw [List.length_append]; omega) h k4]
  · exfalso
    obtain ⟨l', c', e⟩ := hl
    rw [e] at h
    have h5 := List.append_inj_right' h (by simp)
    have h6 : c' ++ [endW] = n' ++ [w ++ 32 :: endW] := by simpa using h5
    have h7 := List.append_inj_right' h6 (by simp)
    have h8 : endW = w ++ 32 :: endW := by simpa using h7
    have h9 := congrArg List.length h8
    rw [List.length_append, e4] at h9
    have : endW.length = 3 := rfl
    omega
  · refine cmds_of (by rw [List.length_append, List.length_append, e4, List.length_cons]; omega) ?_ hb
    rw [hy B]
    have := line_all l _ B [] [] m (Nat.le_refl _) j3
    rw [List.append_nil] at this
    exact this

end Go.Proofs.Ytghkhnnlhkdceaa
