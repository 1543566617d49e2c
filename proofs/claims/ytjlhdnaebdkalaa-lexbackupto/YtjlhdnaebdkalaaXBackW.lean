/-
  Lines of commands: the law of Quote and Commands.
-/
import Derived.Test.YtjlhdnaebdkalaaXBackP
import Derived.Test.YtjlhdnaebdkalaaXQuoteP
namespace Go.Proofs.Ytjlhdnaebdkalaa
open Go.RowKit
set_option linter.unusedVariables false
set_option maxRecDepth 100000

set_option maxHeartbeats 2000000 in
theorem back_walk (s : ByteArray) (w : World) (hs : s.size ≤ 1000000000) : Calls Try.prog 6 #[.string s] w fun x w' => x = .returned (.bool true) ∧ Below w.heap.size w w' := by
  obtain ⟨q, hq⟩ : ∃ q, quoteF s.data.toList = q := ⟨_, rfl⟩
  have hql : q.length ≤ 4 * s.size + 2 := by
    have h1 := (quotes_length s.data.toList).2
    have h2 := size_data s
    rw [← hq]
    unfold quoteF
    split
    · omega
    · rw [List.length_append, List.length_append]; simp only [List.length_singleton]; omega
  have HQ : Hid (Calls Try.prog 9 #[.string s] w fun e w' => e = .returned (.string (str q)) ∧ Below w.heap.size w w') := by
    have h := quote_any s w hs
    rw [hq] at h
    exact h
  have hqs : (str q).size = q.length := str_size q
  have HSu : Hid (∀ W, Calls Try.prog 12 #[] W fun e w' => e = .returned (.bool true) ∧ Below W.heap.size W w') := sure_true
  by_cases h8 : 8192 < q.length
  · have HC : Hid (∀ W, Calls Try.prog 11 #[.string (str q)] W fun e w' => ∃ v, e = .returned (.tuple #[v, .int .i64 0, .int .i64 2]) ∧ Below W.heap.size W w') := fun W => by
      have h := commands_any (str q) W (by rw [hqs]; omega)
      rw [str_data, show cmdsF q = ([], 0, 2) by unfold cmdsF; rw [if_pos h8]] at h
      exact h.mono fun e w' ⟨v, e1, e2, e3⟩ => ⟨v, e1, e3⟩
    obtain ⟨Q, hQ⟩ : ∃ Q, str q = Q := ⟨_, rfl⟩
    rw [hQ] at HQ HC hqs
    have d8 : decide ((8192 : Int) < (Q.size : Int)) = true := decide_eq_true (by omega)
    clear hq hql hQ
    go_enter Try.func6, Try.ntmps6
    go_wp2_with fail
    refine HQ.out.mono ?_
    rintro e w1 ⟨rfl, hb1⟩
    go_wp2_with fail
    refine (HC.out _).mono ?_
    rintro e w2 ⟨v, rfl, hb2⟩
    go_wp2_with fail
    refine (HSu.out _).mono ?_
    rintro e w3 ⟨rfl, hb3⟩
    have HB : Hid (Below w.heap.size w w3) := (hb1.trans (hb2.mono hb1.size)).trans (hb3.mono (Nat.le_trans hb1.size hb2.size))
    clear hb1 hb2 hb3
    go_wp2
    go_ret
    exact ⟨rfl, HB.out⟩
  · have HC : Hid (∀ W, Calls Try.prog 11 #[.string (str q)] W fun e w' => ∃ v, e = .returned (.tuple #[v, .int .i64 0, .int .i64 0]) ∧ SeeC w' v [[s.data.toList]] ∧ Below W.heap.size W w') := fun W => by
      have h := commands_any (str q) W (by rw [hqs]; omega)
      have hcq : cmdsF q = ([[s.data.toList]], 0, 0) := by
        rw [← hq]
        exact cmds_quote _ (by rw [hq]; omega)
      rw [str_data, hcq] at h
      exact h.mono fun e w' ⟨v, e1, e2, e3⟩ => ⟨v, e1, e2.see, e3⟩
    obtain ⟨Q, hQ⟩ : ∃ Q, str q = Q := ⟨_, rfl⟩
    rw [hQ] at HQ HC hqs
    have d8 : decide ((8192 : Int) < (Q.size : Int)) = false := decide_eq_false (by omega)
    clear hq hql hQ
    go_enter Try.func6, Try.ntmps6
    go_wp2_with fail
    refine HQ.out.mono ?_
    rintro e w1 ⟨rfl, hb1⟩
    go_wp2_with fail
    refine (HC.out _).mono ?_
    rintro e w2 ⟨v, rfl, hv, hb2⟩
    have HB2 : Hid (Below w.heap.size w w2) := hb1.trans (hb2.mono hb1.size)
    have hX : ∀ (A C : Array Value), A = #[.string s] → C = #[.slice (some ⟨w2.heap.size, 0, none⟩) 1 1] → Below w2.heap.size w2 ((w2.alloc (.cells A 9)).alloc (.cells C 24)) ∧ SeeC ((w2.alloc (.cells A 9)).alloc (.cells C 24)) (.slice (some ⟨w2.heap.size + 1, 0, none⟩) 1 1) [[s.data.toList]] := by
      intro A C hA hC
      have b1 : Below w2.heap.size w2 ((w2.alloc (.cells A 9)).alloc (.cells C 24)) := ((Below.refl _ _).alloc (Nat.le_refl _) _).alloc (by simp) _
      have s1 : (w2.alloc (.cells A 9)).heap.size = w2.heap.size + 1 := by simp
      have p0 : ((w2.alloc (.cells A 9)).alloc (.cells C 24)).heap[w2.heap.size]? = some (.cells A 9 (0, 0)) := (Below.heap_alloc _ _ _ (by omega)).trans (new_at _ _)
      have p1 : ((w2.alloc (.cells A 9)).alloc (.cells C 24)).heap[w2.heap.size + 1]? = some (.cells C 24 (0, 0)) := by
        have h := new_at (w2.alloc (.cells A 9)) (.cells C 24)
        rw [s1] at h
        exact h
      refine ⟨b1, see_cmds [[s.data.toList]] [.slice (some ⟨w2.heap.size, 0, none⟩) 1 1] (by rw [p1, hC]) fun i c hc => ?_⟩
      match i, hc with
      | 0, hc =>
        cases hc
        exact ⟨_, rfl, see_one [s.data.toList] A (by rw [hA]; rfl) p0⟩
    obtain ⟨hbX, hsX⟩ := hX _ _ rfl rfl
    have HSm := same_true v _ [[s.data.toList]] _ (hv.below hbX) hsX ⟨by simp, by simp⟩
    have HSa : Hid (Calls Try.prog 13 #[v, .slice (some ⟨w2.heap.size + 1, 0, none⟩) 1 1] ((w2.alloc (.cells #[.string s] 9)).alloc (.cells #[.slice (some ⟨w2.heap.size, 0, none⟩) 1 1] 24)) fun e w' => e = .returned (.bool true) ∧ Below w.heap.size w w') := HSm.mono fun e w' h => ⟨h.1, (HB2.out.trans (hbX.mono HB2.out.size)).trans (h.2.mono (Nat.le_trans HB2.out.size hbX.size))⟩
    clear hX hbX hsX HSm hv hb1 hb2
    go_wp2_with fail
    refine HSa.out.mono ?_
    rintro e w3 ⟨rfl, hb3⟩
    go_wp2
    go_ret
    exact ⟨rfl, hb3⟩

end Go.Proofs.Ytjlhdnaebdkalaa
