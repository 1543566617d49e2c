/-
  Lines of commands: the law of places.
-/
import Derived.Test.YtjlhdnaebdkalaaXExt
import Derived.Test.YtjlhdnaebdkalaaXSure
namespace Go.Proofs.Ytjlhdnaebdkalaa
open Go.RowKit
set_option linter.unusedVariables false
set_option maxRecDepth 100000

theorem cmds_err (L : List UInt8) : ((cmdsF L).2.2 ≠ 90 → (cmdsF L).2.1 = 0 ∧ ((cmdsF L).2.2 = 0 ∨ (cmdsF L).1 = [])) := by
  intro h
  unfold cmdsF at h ⊢
  split
  · exact ⟨rfl, .inr rfl⟩
  · rename_i h8
    rw [if_neg h8] at h
    cases hl : lineF L [] [] with
    | inl f => rw [hl] at h; exact absurd rfl h
    | inr cs =>
      simp only []
      split
      · exact ⟨rfl, .inr rfl⟩
      · exact ⟨rfl, .inl rfl⟩
theorem cmds_place (L : List UInt8) (h : (cmdsF L).2.2 = 90) : (cmdsF L).1 = [] ∧ (cmdsF L).2.1 < L.length ∧ L.length ≤ 8192 ∧ (∃ c, L[(cmdsF L).2.1]? = some c ∧ quoteB c = true) ∧ (cmdsF (L.take (cmdsF L).2.1)).2.2 ≠ 90 := by
  unfold cmdsF at h
  split at h
  · exact absurd h (by show ¬ ((2 : Nat) = 90); decide)
  · rename_i h8
    cases hl : lineF L [] [] with
    | inr cs =>
      rw [hl] at h
      simp only [] at h
      split at h
      · exact absurd h (by show ¬ ((91 : Nat) = 90); decide)
      · exact absurd h (by show ¬ ((0 : Nat) = 90); decide)
    | inl f =>
      have hc : cmdsF L = ([], L.length - f.length, 90) := by unfold cmdsF; rw [if_neg h8, hl]
      obtain ⟨x, ex, ⟨c, t, ef, hq⟩, hx⟩ := line_fail _ L f [] [] (Nat.le_refl _) hl
      have hlen : L.length = x.length + f.length := by rw [ex, List.length_append]
      have hf1 : 1 ≤ f.length := by rw [ef]; simp
      rw [hc]
      simp only []
      have hpl : L.length - f.length = x.length := by omega
      rw [hpl]
      refine ⟨by trivial, by omega, by omega, ⟨c, ?_, hq⟩, ?_⟩
      · rw [ex, ef]; simp
      · have htk : L.take x.length = x := by rw [ex]; simp
        rw [htk]
        obtain ⟨cs, hcs⟩ := hx [] []
        unfold cmdsF
        rw [if_neg (by omega), hcs]
        simp only []
        split
        · show ¬ ((91 : Nat) = 90); decide
        · show ¬ ((0 : Nat) = 90); decide

set_option maxHeartbeats 2000000 in
theorem places_walk (s : ByteArray) (w : World) (hs : s.size ≤ 140737488355328) : Calls Try.prog 5 #[.string s] w fun x w' => x = .returned (.bool true) ∧ Below w.heap.size w w' := by
  obtain ⟨cs, pl, er, hR⟩ : ∃ cs pl er, cmdsF s.data.toList = (cs, pl, er) := ⟨_, _, _, rfl⟩
  have HC : Hid (Calls Try.prog 11 #[.string s] w fun e w' => ∃ v, e = .returned (.tuple #[v, .int .i64 (pl : Int), .int .i64 (er : Int)]) ∧ CmdsAt w' w.heap.size v cs ∧ Below w.heap.size w w') := by
    have h := commands_any s w hs
    rw [hR] at h
    exact h
  have HSu : Hid (∀ W, Calls Try.prog 12 #[] W fun e w' => e = .returned (.bool true) ∧ Below W.heap.size W w') := sure_true
  have h1 := cmds_err s.data.toList
  have h2 := cmds_place s.data.toList
  rw [hR] at h1 h2
  simp only [] at h1 h2
  rw [size_data] at h2
  clear hR
  by_cases h90 : er = 90
  · subst h90
    obtain ⟨hcs, hpl, h8, ⟨c, hc, hq⟩, hne⟩ := h2 rfl
    subst hcs
    clear h1 h2
    obtain ⟨cs2, pl2, er2, hR2⟩ : ∃ c2 p2 e2, cmdsF (s.data.toList.take pl) = (c2, p2, e2) := ⟨_, _, _, rfl⟩
    have HC2 : Hid (∀ W, Calls Try.prog 11 #[.string (s.extract 0 pl)] W fun e w' => ∃ v, e = .returned (.tuple #[v, .int .i64 (pl2 : Int), .int .i64 (er2 : Int)]) ∧ Below W.heap.size W w') := fun W => by
      have h := commands_any (s.extract 0 pl) W (by rw [ByteArray.size_extract]; omega)
      rw [show (s.extract 0 pl).data.toList = s.data.toList.take pl by rw [Lib.extract_data]; simp, hR2] at h
      exact h.mono fun e w' ⟨v, e1, e2, e3⟩ => ⟨v, e1, e3⟩
    rw [hR2] at hne
    simp only [] at hne
    have e90 : ((er2 : Int) != 90) = true := by
      have : (er2 : Int) ≠ 90 := by omega
      simpa using this
    have hcs : s[pl] = c := by
      have h3 : s.data.toList[pl]? = some s[pl] := by simp [hpl]; rfl
      rw [h3] at hc
      exact Option.some.inj hc
    obtain ⟨k, hk⟩ : ∃ k, c.toNat = k := ⟨_, rfl⟩
    have hsk : (s[pl].toNat : Int) = (k : Int) := by rw [hcs, hk]
    have hkq : k = 39 ∨ k = 34 ∨ k = 92 := by
      unfold quoteB at hq
      rw [hk] at hq
      exact of_decide_eq_true hq
    clear hR2 hne hc hq hcs hk
    go_enter Try.func5, Try.ntmps5
    go_wp2_with fail
    refine HC.out.mono ?_
    rintro e w1 ⟨v, rfl, hv, hb1⟩
    obtain ⟨a1, k1, rfl, _⟩ := hv.see
    have HB1 : Hid (Below w.heap.size w w1) := hb1
    clear hv hb1 HC
    rcases hkq with rfl | rfl | rfl
    all_goals (
      go_wp2_with fail
      refine (HC2.out _).mono ?_
      rintro e w2 ⟨v2, rfl, hb2⟩
      have HB2 : Hid (Below w.heap.size w w2) := HB1.out.trans (hb2.mono HB1.out.size)
      clear hb2
      go_wp2
      go_ret
      exact ⟨rfl, HB2.out⟩)
  · obtain ⟨hpl, hor⟩ := h1 h90
    subst hpl
    have e90 : ((er : Int) != 90) = true := by
      have : (er : Int) ≠ 90 := by omega
      simpa using this
    clear h2 h1
    go_enter Try.func5, Try.ntmps5
    go_wp2_with fail
    refine HC.out.mono ?_
    rintro e w1 ⟨v, rfl, hv, hb1⟩
    obtain ⟨a1, k1, rfl, _⟩ := hv.see
    have HB1 : Hid (Below w.heap.size w w1) := hb1
    clear hv hb1 HC
    by_cases h0 : er = 0
    · subst h0
      go_wp2_with fail
      refine (HSu.out _).mono ?_
      rintro e w2 ⟨rfl, hb2⟩
      have HB2 : Hid (Below w.heap.size w w2) := HB1.out.trans (hb2.mono HB1.out.size)
      clear hb2
      go_wp2
      go_ret
      exact ⟨rfl, HB2.out⟩
    · have hcs : cs = [] := hor.resolve_left h0
      subst hcs
      have e0 : ((er : Int) == 0) = false := by
        have : (er : Int) ≠ 0 := by omega
        simpa using this
      go_wp2_with fail
      refine (HSu.out _).mono ?_
      rintro e w2 ⟨rfl, hb2⟩
      have HB2 : Hid (Below w.heap.size w w2) := HB1.out.trans (hb2.mono HB1.out.size)
      clear hb2
      go_wp2
      go_ret
      exact ⟨rfl, HB2.out⟩

end Go.Proofs.Ytjlhdnaebdkalaa
