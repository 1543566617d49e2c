/-
  Lines of commands: remarked; a line of any length.
-/
import Derived.Test.YtjlhdnaebdkalabXRefD
import Derived.Test.YtjlhdnaebdkalabXSome
import Derived.Test.YtjlhdnaebdkalabXTwoP
namespace Go.Proofs.Ytjlhdnaebdkalab
open Go.RowKit
set_option linter.unusedVariables false
set_option maxRecDepth 100000

theorem beq_bytes {X Y : ByteArray} (h : (X == Y) = true) : X = Y := by
  cases X
  cases Y
  congr 1
  exact eq_of_beq (show (_ == _) = true from h)
theorem app_dataT (a b : ByteArray) : (a ++ b).data.toList = a.data.toList ++ b.data.toList := by rw [ByteArray.data_append, Array.toList_append]
theorem cmds_smT (L : List UInt8) : SmallC (cmdsF L).1 := by
  unfold cmdsF
  split
  · exact ⟨by simp, by simp⟩
  · split
    · exact ⟨by simp, by simp⟩
    · rename_i cs hl
      split
      · exact ⟨by simp, by simp⟩
      · rename_i hb
        refine ⟨show cs.length ≤ 1000000 by omega, fun c hc => ?_⟩
        have := wcount_mem cs c hc
        omega

theorem commands_all (s : ByteArray) (w : World) : Calls Try.prog 6 #[.string s] w (CmdA w (cmdsF s.data.toList)) := by
  by_cases h8 : s.size ≤ 8192
  · exact commands_any s w (by omega)
  · have hsl : s.data.toList.length = s.size := size_data s
    have HR : Hid (cmdsF s.data.toList = ([], 0, 2)) := by show _ = _; unfold cmdsF; rw [if_pos (by omega)]
    rw [HR.out]
    have d8 : decide ((8192 : Int) < (s.size : Int)) = true := decide_eq_true (by omega)
    clear hsl
    go_enter Try.func6, Try.ntmps6
    go_wp2
    exact bodyPost_ret (v := .tuple #[.slice none 0 0, .int .i64 0, .int .i64 2]) (by simp [results, Try.results6, go_sem]) rfl ⟨_, rfl, cmdsAt_nil _ _ (Nat.le_refl _), Below.refl _ _⟩

theorem remarked_any (a : ByteArray) (w : World) (ha : a.size ≤ 8000) : Calls Try.prog 9 #[.string a] w fun e w' => ∃ b, e = .returned (.bool b) ∧ ((cmdsF (a.data.toList ++ 32 :: endW)).1 = (cmdsF (a.data.toList ++ 32 :: endW2)).1 → b = true) ∧ Below w.heap.size w w' := by
  have z1 : (a ++ (⟨#[32, 101, 110, 100]⟩ : ByteArray)).data.toList = a.data.toList ++ 32 :: endW := app_dataT _ _
  have z2 : (a ++ (⟨#[32, 101, 110, 100, 50]⟩ : ByteArray)).data.toList = a.data.toList ++ 32 :: endW2 := app_dataT _ _
  have n1 : (a ++ (⟨#[32, 101, 110, 100]⟩ : ByteArray)).size = a.size + 4 := by rw [ByteArray.size_append]; rfl
  have n2 : (a ++ (⟨#[32, 101, 110, 100, 50]⟩ : ByteArray)).size = a.size + 5 := by rw [ByteArray.size_append]; rfl
  have m1 := cmds_smT (a.data.toList ++ 32 :: endW)
  have m2 := cmds_smT (a.data.toList ++ 32 :: endW2)
  obtain ⟨c1, p1, e1, h1⟩ : ∃ x y z, cmdsF (a.data.toList ++ 32 :: endW) = (x, y, z) := ⟨_, _, _, rfl⟩
  obtain ⟨c2, p2, e2, h2⟩ : ∃ x y z, cmdsF (a.data.toList ++ 32 :: endW2) = (x, y, z) := ⟨_, _, _, rfl⟩
  rw [h1] at m1
  rw [h2] at m2
  rw [h1, h2]
  simp only []
  simp only [] at m1 m2
  have HC1 : Hid (∀ W, Calls Try.prog 5 #[.string (a ++ (⟨#[32, 101, 110, 100]⟩ : ByteArray))] W fun x w' => ∃ v, x = .returned (.tuple #[v, .int .i64 (p1 : Int), .int .i64 (e1 : Int)]) ∧ SeeC w' v c1 ∧ Below W.heap.size W w') := fun W => by
    have h := commandsR_any (a ++ (⟨#[32, 101, 110, 100]⟩ : ByteArray)) W (by omega)
    rw [z1, h1] at h
    exact h.mono fun x w' ⟨v, e1, e2, e3⟩ => ⟨v, e1, e2.see, e3⟩
  have HC2 : Hid (∀ W, Calls Try.prog 5 #[.string (a ++ (⟨#[32, 101, 110, 100, 50]⟩ : ByteArray))] W fun x w' => ∃ v, x = .returned (.tuple #[v, .int .i64 (p2 : Int), .int .i64 (e2 : Int)]) ∧ SeeC w' v c2 ∧ Below W.heap.size W w') := fun W => by
    have h := commandsR_any (a ++ (⟨#[32, 101, 110, 100, 50]⟩ : ByteArray)) W (by omega)
    rw [z2, h2] at h
    exact h.mono fun x w' ⟨v, e1, e2, e3⟩ => ⟨v, e1, e2.see, e3⟩
  have HSm : Hid (∀ v u X, SeeC X v c1 → SeeC X u c2 → Calls Try.prog 7 #[v, u] X fun e w' => (∃ b, e = .returned (.bool b) ∧ (c1 = c2 → b = true)) ∧ Below X.heap.size X w') := fun v u X h1 h2 => by
    by_cases he : c1 = c2
    · subst he
      exact (same_true v u c1 X h1 h2 m1).mono fun e w' h => ⟨⟨true, h.1, fun _ => rfl⟩, h.2⟩
    · exact (same_some v u c1 c2 X h1 h2 m1 m2).mono fun e w' ⟨⟨b, h1⟩, h2⟩ => ⟨⟨b, h1, fun h => absurd h he⟩, h2⟩
  clear h1 h2 m1 m2 z1 z2 n1 n2
  obtain ⟨PP, hPP⟩ : ∃ P : Prop, (c1 = c2) = P := ⟨_, rfl⟩
  rw [hPP] at HSm ⊢
  clear hPP
  go_enter Try.func9, Try.ntmps9
  go_wp2_with fail
  refine (HC1.out _).mono ?_
  rintro e w1 ⟨v1, rfl, hv1, hb1⟩
  have HV : Hid (SeeC w1 v1 c1) := hv1
  have HB1 : Hid (Below w.heap.size w w1) := hb1
  clear hv1 hb1
  go_wp2_with fail
  refine (HC2.out _).mono ?_
  rintro e w2 ⟨v2, rfl, hv2, hb2⟩
  have HU : Hid (SeeC w2 v2 c2) := hv2
  have HV2 : Hid (SeeC w2 v1 c1) := HV.out.below hb2
  have HB2 : Hid (Below w.heap.size w w2) := HB1.out.trans (hb2.mono HB1.out.size)
  clear hv2 hb2
  go_wp2_with fail
  refine (HSm.out _ _ _ HV2.out HU.out).mono ?_
  rintro e w3 ⟨⟨b, rfl, hbt⟩, hb3⟩
  have HBt : Hid (PP → b = true) := hbt
  have HB3 : Hid (Below w.heap.size w w3) := HB2.out.trans (hb3.mono HB2.out.size)
  clear hb3 hbt
  go_wp2
  go_ret
  exact ⟨b, rfl, HBt.out, HB3.out⟩

theorem line_ne : ∀ (k : Nat) (r : List UInt8) (now : List (List UInt8)) (all m : List (List (List UInt8))), r.length ≤ k → (∀ c ∈ all, c ≠ []) → lineF r now all = .inr m → ∀ c ∈ m, c ≠ []
  | k, [], now, all, m, hk, ha, h => by
    rw [line_nil] at h
    cases h
    unfold moreC
    split
    · exact ha
    · rename_i hn
      intro c hc
      rcases List.mem_append.1 hc with h | h
      · exact ha c h
      · rw [List.mem_singleton.1 h]; exact hn
  | 0, c :: t, now, all, m, hk, ha, h => by simp at hk
  | k + 1, c :: t, now, all, m, hk, ha, h => by
    simp only [List.length_cons] at hk
    have hm : ∀ n, ∀ c ∈ moreC n all, c ≠ [] := fun n => by
      unfold moreC
      split
      · exact ha
      · rename_i hn
        intro c hc
        rcases List.mem_append.1 hc with h | h
        · exact ha c h
        · rw [List.mem_singleton.1 h]; exact hn
    cases hB : blankB c with
    | true =>
      rw [line_blank hB] at h
      exact line_ne k t now all m (by omega) ha h
    | false =>
      by_cases h59 : c.toNat = 59
      · rw [line_semi h59] at h
        exact line_ne k t _ _ m (by omega) (hm _) h
      · have hE : endB c = false := by unfold endB; rw [hB, decide_eq_false h59]; rfl
        rw [line_eq, if_neg (by rw [hB]; decide), if_neg h59] at h
        split at h
        · cases h
          exact hm _
        · unfold lineW at h
          rw [ontoW_nil] at h
          cases hw : wordF (c :: t) with
          | inl g => rw [hw] at h; cases h
          | inr z =>
            obtain ⟨w, u⟩ := z
            rw [hw] at h
            have hs := word_short hE hw
            simp only [List.length_cons] at hs
            exact line_ne k u _ _ m (by omega) ha h
theorem cmds_ne {L : List UInt8} {cs : List (List (List UInt8))} {p : Nat} (h : cmdsF L = (cs, p, 0)) : ∀ c ∈ cs, c ≠ [] := line_ne _ L [] [] cs (Nat.le_refl _) (by simp) (cmds_ok h).2.2.1
/-- The line in two parts. -/
theorem cmds_two {A B : List UInt8} {l m : List (List (List UInt8))} {p q : Nat} (h1 : cmdsF (A ++ 32 :: endW) = (l, p, 0)) (h2 : cmdsF B = (m, q, 0)) (hlen : A.length + B.length ≤ 8000) (hl : ∃ l' c', l = l' ++ [c' ++ [endW]]) (hb : ¬ (16 < (l ++ m).length ∨ 64 < wcount (l ++ m))) (hr : (cmdsF (A ++ 32 :: endW)).1 ≠ (cmdsF (A ++ 32 :: endW2)).1) : cmdsF (A ++ 32 :: endW ++ 59 :: B) = (l ++ m, 0, 0) := by
  obtain ⟨_, _, k3, k4⟩ := cmds_ok h1
  obtain ⟨_, _, j3, j4⟩ := cmds_ok h2
  have e4 : (32 :: endW).length = 4 := rfl
  have e5 : (32 :: endW2).length = 5 := rfl
  rcases line_two _ A [] [] l (Nat.le_refl _) k3 with h | ⟨n', a', w, h⟩ | ⟨n', a', h, hy⟩
  · exfalso
    apply hr
    rw [h1, cmds_of (by rw [List.length_append]; omega) h k4]
  · exfalso
    obtain ⟨l', c', e⟩ := hl
    rw [e] at h
    have h5 := List.append_inj_right' h (by simp)
    have h6 : c' ++ [endW] = n' ++ [w ++ 32 :: endW] := by simpa using h5
    have h7 := List.append_inj_right' h6 (by simp)
    have h8 : endW = w ++ 32 :: endW := by simpa using h7
    have h9 := congrArg List.length h8
    rw [List.length_append, e4] at h9
    have : endW.length = 3 := rfl
    omega
  · refine cmds_of (by rw [List.length_append, List.length_append, e4, List.length_cons]; omega) ?_ hb
    rw [hy B]
    have := line_all l _ B [] [] m (Nat.le_refl _) j3
    rw [List.append_nil] at this
    exact this

end Go.Proofs.Ytjlhdnaebdkalab
