/-
  The walk of the document's UnescapeBody.
-/
import Derived.Test.YtlgkdnmhoboinaaGreatDoorRefU
import Derived.WalkKit
set_option maxRecDepth 20000
namespace Go.Proofs.YtlgkdnmhoboinaaGreatDoor
open Go.RowKit
set_option linter.unusedVariables false

theorem rank0 {l t : List UInt8} (h : esc t = l) : t.length ≤ l.length := by rw [← h]; exact (esc_length t).1
theorem ret_pair {a b : ByteArray} {n : Int} (h : a = b) : Ending.returned (.tuple #[.string a, .int .i64 n]) = .returned (.tuple #[.string b, .int .i64 n]) := by rw [h]

theorem take4 (s : ByteArray) (h : 4 ≤ s.size) (q : List UInt8) (he : ((s.extract 0 4).toList == (str q).toList) = true) (hq : code 37 = q) : s.data.toList = code 37 ++ s.data.toList.drop 4 := by
  have e := eq_of_beq he
  rw [str_toList, Lib.toList_data, Lib.extract_data] at e
  rw [hq, ← e]
  simp
theorem take4' (s : ByteArray) (q : List UInt8) (he : ((s.extract 0 4).toList == (str q).toList) = false) (hq : code 37 = q) (r : List UInt8) : s.data.toList ≠ code 37 ++ r := by
  intro e
  rw [beq_eq_false_iff_ne] at he
  apply he
  rw [str_toList, Lib.toList_data, Lib.extract_data, ← hq, e]
  rfl

set_option maxHeartbeats 4000000 in
theorem refUnescapeBody_any (s : ByteArray) (w : World) (hs : s.size ≤ 1048576) :
    Calls Tryz.prog 33 #[.string s] w fun e w' =>
      ((∃ t, e = .returned (.tuple #[.string (str t), .int .i64 0]) ∧ escB t = s.data.toList) ∨ (e = .returned (.tuple #[.string ⟨#[]⟩, .int .i64 10]) ∧ ∀ t, escB t ≠ s.data.toList)) ∧ Below w.heap.size w w' := by
  obtain ⟨q, HQ⟩ := hid_ex (code 37)
  have hz : (str q).size = 4 := by rw [← HQ.out]; rfl
  by_cases h4 : 4 ≤ s.size
  · by_cases hq : ((s.extract 0 4).toList == (str q).toList) = true
    · have HS : Hid (s.data.toList = code 37 ++ s.data.toList.drop 4) := take4 s h4 q hq HQ.out
      have hx : (s.extract 4 s.size).size ≤ 1048576 := by simp; omega
      have i4 : (4 : Int) ≤ (s.size : Int) := by omega
      go_enter Tryz.func33, Tryz.ntmps33
      go_wp2_with (go_at_call 46; refine (three_own 37 _).mono ?_; rintro e w1 ⟨v1, rfl, hown1, hb1⟩; have hc1 := (hown1.as HQ.out).text (P := Tryz.prog) 42 9 5 Tryz.underlying42 Tryz.underlying5 Tryz.underlying9)
      refine (refUnescape_any _ _ hx).mono ?_
      rw [extract_drop]
      rintro e w2 ⟨h, hb2⟩
      have HB : Hid (Below w.heap.size w w2) := hb1.trans (hb2.mono hb1.size)
      rcases h with ⟨t, rfl, ht⟩ | ⟨rfl, hno⟩
      · have HT : Hid (escB (37 :: t) = s.data.toList) := by
          show code 37 ++ esc t = _
          rw [ht]; exact HS.out.symm
        have hl := rank0 ht
        rw [List.length_drop, size_data] at hl
        have hz2 : (str t).size ≤ 1048576 := by rw [str_size]; omega
        clear ht hl hb2 hb1 hown1 hc1
        go_wp2
        all_goals go_ret2
        exact ⟨.inl ⟨37 :: t, ret_pair rfl, HT.out⟩, HB.out⟩
      · have HN : Hid (∀ t, escB t ≠ s.data.toList) := fun t e => by
          rw [HS.out] at e
          obtain ⟨r, rfl, e2⟩ := escB_code e
          exact hno r e2
        clear hno hb2 hb1 hown1 hc1
        go_wp2
        all_goals go_ret2
        exact ⟨.inr ⟨rfl, HN.out⟩, HB.out⟩
    · have hq' : ((s.extract 0 4).toList == (str q).toList) = false := by simpa using hq
      have HC : Hid (∀ r, s.data.toList ≠ code 37 ++ r) := take4' s q hq' HQ.out
      have i4 : (4 : Int) ≤ (s.size : Int) := by omega
      have hp : 0 < s.size := by omega
      clear hq
      by_cases h37 : s[0].toNat = 37
      · have HN : Hid (∀ t, escB t ≠ s.data.toList) := fun t e => by
          rw [head_cons s hp, UInt8.toNat_inj.1 (show s[0].toNat = (37 : UInt8).toNat from h37)] at e
          exact escB_ne37 _ _ e
        go_enter Tryz.func33, Tryz.ntmps33
        go_wp2_with (go_at_call 46; refine (three_own 37 _).mono ?_; rintro e w1 ⟨v1, rfl, hown1, hb1⟩; have hc1 := (hown1.as HQ.out).text (P := Tryz.prog) 42 9 5 Tryz.underlying42 Tryz.underlying5 Tryz.underlying9)
        all_goals go_ret2
        exact ⟨.inr ⟨rfl, HN.out⟩, hb1⟩
      · have H37 : Hid (∀ r, s.data.toList ≠ 37 :: r) := head_not hp h37
        have h37' : ((s[0].toNat : Int) == 37) = false := by rw [beq_eq_false_iff_ne]; omega
        clear h37
        go_enter Tryz.func33, Tryz.ntmps33
        go_wp2_with (go_at_call 46; refine (three_own 37 _).mono ?_; rintro e w1 ⟨v1, rfl, hown1, hb1⟩; have hc1 := (hown1.as HQ.out).text (P := Tryz.prog) 42 9 5 Tryz.underlying42 Tryz.underlying5 Tryz.underlying9)
        refine (refUnescape_any _ _ hs).mono ?_
        rintro e w2 ⟨h, hb2⟩
        have HB : Hid (Below w.heap.size w w2) := hb1.trans (hb2.mono hb1.size)
        rcases h with ⟨t, rfl, ht⟩ | ⟨rfl, hno⟩
        · have HT : Hid (escB t = s.data.toList) := escB_of H37.out ht
          clear ht hb2 hb1 hown1 hc1
          go_wp2
          go_ret2
          exact ⟨.inl ⟨t, rfl, HT.out⟩, HB.out⟩
        · have HN : Hid (∀ t, escB t ≠ s.data.toList) := fun t e => hno t (esc_of HC.out e)
          clear hno hb2 hb1 hown1 hc1
          go_wp2
          go_ret2
          exact ⟨.inr ⟨rfl, HN.out⟩, HB.out⟩
  · have HC : Hid (∀ r, s.data.toList ≠ code 37 ++ r) := fun r e => by
      have := congrArg List.length e
      rw [List.length_append, size_data, code_length] at this
      omega
    by_cases h0 : s.size = 0
    · have H37 : Hid (∀ r, s.data.toList ≠ 37 :: r) := fun r e => by rw [← Lib.toList_data, empty_of s h0] at e; cases e
      go_enter Tryz.func33, Tryz.ntmps33
      go_wp2_with (go_at_call 46; refine (three_own 37 _).mono ?_; rintro e w1 ⟨v1, rfl, hown1, hb1⟩; have hc1 := (hown1.as HQ.out).text (P := Tryz.prog) 42 9 5 Tryz.underlying42 Tryz.underlying5 Tryz.underlying9)
      refine (refUnescape_any _ _ hs).mono ?_
      rintro e w2 ⟨h, hb2⟩
      have HB : Hid (Below w.heap.size w w2) := hb1.trans (hb2.mono hb1.size)
      rcases h with ⟨t, rfl, ht⟩ | ⟨rfl, hno⟩
      · have HT : Hid (escB t = s.data.toList) := escB_of H37.out ht
        clear ht hb2 hb1 hown1 hc1
        go_wp2
        go_ret2
        exact ⟨.inl ⟨t, rfl, HT.out⟩, HB.out⟩
      · have HN : Hid (∀ t, escB t ≠ s.data.toList) := fun t e => hno t (esc_of HC.out e)
        clear hno hb2 hb1 hown1 hc1
        go_wp2
        go_ret2
        exact ⟨.inr ⟨rfl, HN.out⟩, HB.out⟩
    · have hp : 0 < s.size := by omega
      by_cases h37 : s[0].toNat = 37
      · have HN : Hid (∀ t, escB t ≠ s.data.toList) := fun t e => by
          rw [head_cons s hp, UInt8.toNat_inj.1 (show s[0].toNat = (37 : UInt8).toNat from h37)] at e
          exact escB_ne37 _ _ e
        go_enter Tryz.func33, Tryz.ntmps33
        go_wp2_with (go_at_call 46; refine (three_own 37 _).mono ?_; rintro e w1 ⟨v1, rfl, hown1, hb1⟩; have hc1 := (hown1.as HQ.out).text (P := Tryz.prog) 42 9 5 Tryz.underlying42 Tryz.underlying5 Tryz.underlying9)
        all_goals go_ret2
        exact ⟨.inr ⟨rfl, HN.out⟩, hb1⟩
      · have H37 : Hid (∀ r, s.data.toList ≠ 37 :: r) := head_not hp h37
        have h37' : ((s[0].toNat : Int) == 37) = false := by rw [beq_eq_false_iff_ne]; omega
        clear h37
        go_enter Tryz.func33, Tryz.ntmps33
        go_wp2_with (go_at_call 46; refine (three_own 37 _).mono ?_; rintro e w1 ⟨v1, rfl, hown1, hb1⟩; have hc1 := (hown1.as HQ.out).text (P := Tryz.prog) 42 9 5 Tryz.underlying42 Tryz.underlying5 Tryz.underlying9)
        refine (refUnescape_any _ _ hs).mono ?_
        rintro e w2 ⟨h, hb2⟩
        have HB : Hid (Below w.heap.size w w2) := hb1.trans (hb2.mono hb1.size)
        rcases h with ⟨t, rfl, ht⟩ | ⟨rfl, hno⟩
        · have HT : Hid (escB t = s.data.toList) := escB_of H37.out ht
          clear ht hb2 hb1 hown1 hc1
          go_wp2
          go_ret2
          exact ⟨.inl ⟨t, rfl, HT.out⟩, HB.out⟩
        · have HN : Hid (∀ t, escB t ≠ s.data.toList) := fun t e => hno t (esc_of HC.out e)
          clear hno hb2 hb1 hown1 hc1
          go_wp2
          go_ret2
          exact ⟨.inr ⟨rfl, HN.out⟩, HB.out⟩
end Go.Proofs.YtlgkdnmhoboinaaGreatDoor
