/-
  Formats: the bytes ahead of the first number sign; prefixes; numbers of one to four digits.
-/
import Derived.Test.YtgoofifbifdgoaaGreatDoorFVal
namespace Go.Proofs.YtgoofifbifdgoaaGreatDoor
open Go.RowKit
set_option linter.unusedVariables false
set_option maxRecDepth 20000

theorem plain_index (l : List UInt8) : (0 ≤ Lib.indexByte l 35 → Lib.indexByte l 35 = (plainF l : Int)) ∧ (¬ 0 ≤ Lib.indexByte l 35 → plainF l = l.length) := by
  induction l with
  | nil => exact ⟨fun h => absurd h (by decide), fun _ => rfl⟩
  | cons c l ih =>
    have hge := Lib.indexByte_ge l 35
    by_cases hc : c = 35
    · subst hc
      have e1 : Lib.indexByte (35 :: l) 35 = 0 := by simp [Lib.indexByte]
      have e2 : plainF (35 :: l) = 0 := by simp [plainF]
      rw [e1, e2]
      exact ⟨fun _ => rfl, fun h => absurd (Int.le_refl 0) h⟩
    · have hn : c.toNat ≠ 35 := fun e => hc (UInt8.toNat_inj.1 e)
      have e2 : plainF (c :: l) = plainF l + 1 := by simp [plainF, hn]
      have e1 : Lib.indexByte (c :: l) 35 = if Lib.indexByte l 35 < 0 then -1 else Lib.indexByte l 35 + 1 := by
        rw [Lib.indexByte]
        simp only [beq_iff_eq, hc, if_false]
        by_cases h : Lib.indexByte l 35 = -1
        · rw [if_pos h, if_pos (by omega)]
        · rw [if_neg h, if_neg (by omega)]
      rw [e1, e2]
      split
      · rename_i h
        exact ⟨fun h2 => absurd h2 (by decide), fun _ => by rw [ih.2 (by omega)]; rfl⟩
      · rename_i h
        exact ⟨fun _ => by rw [ih.1 (by omega)]; rfl, fun h2 => by omega⟩
theorem plain_le (l : List UInt8) : plainF l ≤ l.length := by
  unfold plainF
  exact (List.takeWhile_sublist _).length_le

set_option maxHeartbeats 1000000 in
theorem plainBytes_any (l : List UInt8) (w : World) : Calls Tryz.prog 75 #[.string (str l)] w fun e w' => e = .returned (.int .i64 (plainF l : Int)) ∧ w = w' := by
  have hI := Tryz.strings_IndexByte (str l) 35 w
  have e : ((35 : Int).toNat).toUInt8 = 35 := by decide
  rw [e, str_data] at hI
  obtain ⟨p1, p2⟩ := plain_index l
  have hge := Lib.indexByte_ge l 35
  have hs : (str l).size = l.length := rfl
  obtain ⟨i, hi⟩ : ∃ i, Lib.indexByte l 35 = i := ⟨_, rfl⟩
  rw [hi] at hI p1 p2 hge
  have HI := hidK hI
  obtain ⟨z, hz⟩ : ∃ z, str l = z := ⟨_, rfl⟩
  rw [hz] at HI hs ⊢
  clear hI hi e hz
  by_cases h0 : 0 ≤ i
  · have e1 := p1 h0
    obtain ⟨n, hn⟩ : ∃ n, plainF l = n := ⟨_, rfl⟩
    rw [hn] at e1 ⊢
    subst e1
    clear p1 p2 hn hs
    go_enter Tryz.func75, Tryz.ntmps75
    go_wp2_with (go_at_call 88; refine HI.out.mono ?_; rintro x w1 ⟨rfl, rfl⟩)
    all_goals go_ret
    all_goals exact ⟨rfl, rfl⟩
  · rw [p2 h0, ← hs]
    clear p1 p2 hs
    go_enter Tryz.func75, Tryz.ntmps75
    go_wp2_with (go_at_call 88; refine HI.out.mono ?_; rintro x w1 ⟨rfl, rfl⟩)
    all_goals go_ret
    all_goals exact ⟨rfl, rfl⟩

theorem hasPrefix_one (l : List UInt8) (c : UInt8) : Lib.hasPrefix l [c] = (headF c l).2 := by
  cases l with
  | nil => rfl
  | cons d r =>
    simp only [Lib.hasPrefix, headF]
    by_cases h : d = c
    · subst h; simp
    · rw [if_neg h]
      simp [List.isPrefixOf]
      exact fun e => h e.symm
set_option maxHeartbeats 1000000 in
theorem liteCutPrefix_any (l : List UInt8) (c : UInt8) (hl : l.length ≤ 2147483647) (w : World) : Calls Tryz.prog 123 #[.string (str l), .string (str [c])] w fun e w' => e = .returned (.tuple #[.string (str (headF c l).1), .bool (headF c l).2]) ∧ w = w' := by
  have hP := Tryz.stringslite_HasPrefix (str l) (str [c]) w
  rw [str_data, str_data, hasPrefix_one] at hP
  have hD := str_dropF l 1
  have hs1 : (str [c]).size = 1 := rfl
  have hs : (str l).size = l.length := rfl
  obtain ⟨z, hz⟩ : ∃ z, str l = z := ⟨_, rfl⟩
  obtain ⟨y, hy⟩ : ∃ y, str [c] = y := ⟨_, rfl⟩
  cases l with
  | nil =>
    have e : headF c [] = ([], false) := rfl
    rw [e] at hP ⊢
    simp only at hP ⊢
    rw [hz, hy] at hP ⊢
    have HP := hidK hP
    clear hP hD hs1 hs hz hy
    go_enter Tryz.func123, Tryz.ntmps123
    go_wp2_with (go_at_call 121; refine HP.out.mono ?_; rintro x w1 ⟨rfl, rfl⟩)
    all_goals go_ret2
    all_goals exact ⟨rfl, rfl⟩
  | cons d r =>
    by_cases h : d = c
    · have e : headF c (d :: r) = (r, true) := by simp [headF, h]
      rw [e] at hP ⊢
      simp only at hP ⊢
      have hD' : (str (d :: r)).extract 1 (str (d :: r)).size = str r := hD
      have hs' : (str (d :: r)).size = r.length + 1 := rfl
      have hl' : r.length + 1 ≤ 2147483647 := hl
      obtain ⟨x, hx⟩ : ∃ x, str r = x := ⟨_, rfl⟩
      rw [hz] at hD' hs'
      rw [hz, hy] at hP
      rw [hz, hy, hx]
      rw [hy] at hs1
      rw [hx, hs'] at hD'
      have HP := hidK hP
      clear hP hD hs hz hy e h hx hl
      go_enter Tryz.func123, Tryz.ntmps123
      go_wp2_with (go_at_call 121; refine HP.out.mono ?_; rintro x w1 ⟨rfl, rfl⟩)
      all_goals go_ret2
      all_goals exact ⟨rfl, rfl⟩
    · have e : headF c (d :: r) = (d :: r, false) := by simp [headF, h]
      rw [e] at hP ⊢
      simp only at hP ⊢
      rw [hz, hy] at hP ⊢
      have HP := hidK hP
      clear hP hD hs1 hs hz hy e h
      go_enter Tryz.func123, Tryz.ntmps123
      go_wp2_with (go_at_call 121; refine HP.out.mono ?_; rintro x w1 ⟨rfl, rfl⟩)
      all_goals go_ret2
      all_goals exact ⟨rfl, rfl⟩
theorem cutPrefix_any (l : List UInt8) (c : UInt8) (hl : l.length ≤ 2147483647) (w : World) : Calls Tryz.prog 90 #[.string (str l), .string (str [c])] w fun e w' => e = .returned (.tuple #[.string (str (headF c l).1), .bool (headF c l).2]) ∧ w = w' := by
  have HP := hidK (liteCutPrefix_any l c hl w)
  go_enter Tryz.func90, Tryz.ntmps90
  go_wp2_with (go_at_call 123; refine HP.out.mono ?_; rintro x w1 ⟨rfl, rfl⟩)
  all_goals go_ret2
  all_goals exact ⟨rfl, rfl⟩

end Go.Proofs.YtgoofifbifdgoaaGreatDoor
