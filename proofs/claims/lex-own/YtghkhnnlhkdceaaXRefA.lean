/-
  Lines of commands: the document's blank, octal, escape.
-/
import Derived.Test.YtghkhnnlhkdceaaXLine
namespace Go.Proofs.Ytghkhnnlhkdceaa
open Go.RowKit
set_option linter.unusedVariables false
set_option maxRecDepth 100000

theorem blankR_any (c : UInt8) (w : World) : Calls Try.prog 8 #[.int .u8 c.toNat] w fun e w' => e = .returned (.bool (blankB c)) ∧ w = w' := by
  obtain ⟨k, hk⟩ : ∃ k, c.toNat = k := ⟨_, rfl⟩
  have HB : Hid (blankB c = decide (k = 32 ∨ k = 9)) := by show _ = _; unfold blankB; rw [hk]
  rw [HB.out, hk]
  clear hk
  by_cases h32 : k = 32
  · subst h32
    go_enter Try.func8, Try.ntmps8
    go_wp2
    go_ret
    exact ⟨rfl, rfl⟩
  · have e32 : ((k : Int) == 32) = false := by
      have : (k : Int) ≠ 32 := by omega
      simpa using this
    by_cases h9 : k = 9
    · subst h9
      go_enter Try.func8, Try.ntmps8
      go_wp2
      go_ret
      exact ⟨rfl, rfl⟩
    · have e9 : ((k : Int) == 9) = false := by
        have : (k : Int) ≠ 9 := by omega
        simpa using this
      have HF : Hid (decide (k = 32 ∨ k = 9) = false) := decide_eq_false (by omega)
      rw [HF.out]
      go_enter Try.func8, Try.ntmps8
      go_wp2
      go_ret
      exact ⟨rfl, rfl⟩

theorem drop_take (s : ByteArray) (p k : Nat) (h : p + k < s.size) : (s.data.toList.drop p).take (k + 1) = (s.data.toList.drop p).take k ++ [s[p + k]] := by
  have hk : k < (s.data.toList.drop p).length := by rw [List.length_drop, size_data]; omega
  rw [List.take_succ_eq_append_getElem hk, List.getElem_drop]
  rfl

set_option maxHeartbeats 2000000 in
theorem octalR_any (s : ByteArray) (p : Nat) (w : World) (hp : p ≤ s.size) (hs : s.size ≤ 8192) : Calls Try.prog 26 #[.string s, .int .i64 p] w fun e w' => (∃ x, e = .returned (.tuple #[.int .u8 x, .bool (octF (s.data.toList.drop p)).isSome]) ∧ ∀ v, octF (s.data.toList.drop p) = some v → x = (v.toNat : Int)) ∧ w = w' := by
  have hsl : (s.data.toList.drop p).length = s.size - p := by rw [List.length_drop, size_data]
  have hw3 : IntKind.i64.wrap ((p : Int) + 3) = (p : Int) + 3 := by rw [IntKind.wrap_i64]; omega
  by_cases h3 : s.size < p + 3
  · have HO : Hid (octF (s.data.toList.drop p) = none) := by show _ = _; unfold octF; rw [if_neg (by omega)]
    rw [HO.out]
    have d3 : decide ((s.size : Int) < (p : Int) + 3) = true := decide_eq_true (by omega)
    clear hsl
    go_enter Try.func26, Try.ntmps26
    go_wp2
    go_ret2
    exact ⟨⟨_, rfl, fun v h => by cases h⟩, rfl⟩
  · have d3 : decide ((s.size : Int) < (p : Int) + 3) = false := decide_eq_false (by omega)
    have HL : Hid ((s.data.toList.drop p).length = s.size - p) := hsl
    clear hsl
    go_enter Try.func26, Try.ntmps26
    go_wp2
    go_loopw [6, 7] (fun v i wr => ∃ k : Nat, k ≤ 3 ∧ i = .int .i64 ((p + k : Nat) : Int) ∧ v = .int .i64 (valF ((s.data.toList.drop p).take k)) ∧ Hid (((s.data.toList.drop p).take k).all octD = true) ∧ w = wr) (fun _ i _ => p + 3 - (intOf i).toNat)
    case atStart => exact ⟨0, Nat.zero_le _, rfl, rfl, (show ((s.data.toList.drop p).take 0).all octD = true by simp), rfl⟩
    case round =>
      obtain ⟨k, hk, rfl, rfl, HA, rfl⟩ := hrel
      have hval := val_le _ HA.out
      have hlen : ((s.data.toList.drop p).take k).length = k := by rw [List.length_take, HL.out]; omega
      rw [hlen] at hval
      have hv512 : valF ((s.data.toList.drop p).take k) < 512 := Nat.lt_of_lt_of_le hval (Nat.le_trans (Nat.pow_le_pow_right (by decide) hk) (by decide))
      obtain ⟨V, hV⟩ : ∃ V, valF ((s.data.toList.drop p).take k) = V := ⟨_, rfl⟩
      have HV : Hid (valF ((s.data.toList.drop p).take k) = V) := hV
      rw [hV] at hv512 ⊢
      obtain ⟨i, hi⟩ : ∃ i, p + k = i := ⟨_, rfl⟩
      have HI : Hid (p + k = i) := hi
      rw [hi]
      clear hV hval hlen
      by_cases hlt : k < 3
      · have hks : i < s.size := by omega
        have HT : Hid ((s.data.toList.drop p).take (k + 1) = (s.data.toList.drop p).take k ++ [s[i]]) := by
          have h := drop_take s p k (by omega)
          simp only [hi] at h
          exact h
        obtain ⟨c, hc⟩ : ∃ c, s[i] = c := ⟨_, rfl⟩
        have HC : Hid (s[i] = c) := hc
        rw [hc] at HT
        have hcn := UInt8.toNat_lt c
        obtain ⟨m, hm⟩ : ∃ m, c.toNat = m := ⟨_, rfl⟩
        have HM : Hid (c.toNat = m) := hm
        have hsm : (s[i].toNat : Int) = (m : Int) := by rw [hc, hm]
        rw [hm] at hcn
        have dk : decide ((i : Int) < (p : Int) + 3) = true := decide_eq_true (by omega)
        clear hc hm
        by_cases hd : 48 ≤ m ∧ m ≤ 55
        · have HA2 : Hid (((s.data.toList.drop p).take (k + 1)).all octD = true) := by
            show _ = _
            rw [HT.out, List.all_append, HA.out]
            simp [octD, HM.out, hd]
          have HV2 : Hid (valF ((s.data.toList.drop p).take (k + 1)) = V * 8 + (m - 48)) := by
            show _ = _
            rw [HT.out, valF_snoc, HV.out, HM.out]
          have d48 : decide ((m : Int) < 48) = false := decide_eq_false (by omega)
          have d55 : decide ((55 : Int) < (m : Int)) = false := decide_eq_false (by omega)
          have e1 : IntKind.u8.wrap ((m : Int) - 48) = (m : Int) - 48 := by rw [IntKind.wrap_u8]; omega
          have e2 : IntKind.i64.wrap (8 * (V : Int)) = 8 * (V : Int) := by rw [IntKind.wrap_i64]; omega
          have e3 : IntKind.i64.wrap ((m : Int) - 48) = (m : Int) - 48 := by rw [IntKind.wrap_i64]; omega
          have e4 : IntKind.i64.wrap (8 * (V : Int) + ((m : Int) - 48)) = 8 * (V : Int) + ((m : Int) - 48) := by rw [IntKind.wrap_i64]; omega
          have e5 : IntKind.i64.wrap ((i : Int) + 1) = (i : Int) + 1 := by rw [IntKind.wrap_i64]; omega
          clear hi
          go_wp2
          go_roundw
          case rel => exact ⟨k + 1, by omega, by have := HI.out; congr 1; omega, by rw [HV2.out]; congr 1; omega, HA2, by first | exact trivial | rfl⟩
          case measure => (have := HI.out; simp [intOf]; omega)
        · have HO : Hid (octF (s.data.toList.drop p) = none) := by
            show _ = _
            unfold octF
            rw [if_neg]
            rintro ⟨_, h, _⟩
            have hm2 : s[i] ∈ (s.data.toList.drop p).take 3 := by
              rw [List.mem_iff_getElem?]
              refine ⟨k, ?_⟩
              rw [List.getElem?_take_of_lt hlt, List.getElem?_drop, hi]
              simp [hks]
              rfl
            have := List.all_eq_true.1 h _ hm2
            rw [HC.out] at this
            unfold octD at this
            have := of_decide_eq_true this
            rw [HM.out] at this
            exact hd this
          have d : decide ((m : Int) < 48) = true ∨ (decide ((m : Int) < 48) = false ∧ decide ((55 : Int) < (m : Int)) = true) := by
            by_cases e : (m : Int) < 48
            · exact .inl (decide_eq_true e)
            · exact .inr ⟨decide_eq_false e, decide_eq_true (by omega)⟩
          clear hi
          rcases d with d48 | ⟨d48, d55⟩
          all_goals (
            go_wp2
            go_ret2
            exact ⟨⟨_, by rw [HO.out]; rfl, fun v h => by rw [HO.out] at h; cases h⟩, rfl⟩)
      · have hk3 : k = 3 := by omega
        subst hk3
        have dk : decide ((i : Int) < (p : Int) + 3) = false := decide_eq_false (by omega)
        have hm256 : (V : Int).tmod 256 = (V : Int) % 256 := Int.tmod_eq_emod_of_nonneg (by omega)
        have hw : IntKind.u8.wrap ((V : Int) % 256) = (V : Int) % 256 := by rw [IntKind.wrap_u8]; omega
        clear hi
        by_cases h255 : V < 256
        · have HO : Hid (octF (s.data.toList.drop p) = some (UInt8.ofNat V)) := by
            show _ = _
            unfold octF
            rw [if_pos ⟨by rw [HL.out]; omega, HA.out, by rw [HV.out]; omega⟩, HV.out]
          have d255 : decide ((V : Int) < 256) = true := decide_eq_true (by omega)
          go_wp2
          go_ret2
          refine ⟨⟨_, by rw [HO.out]; rfl, fun v h => ?_⟩, rfl⟩
          rw [HO.out] at h
          cases h
          rw [UInt8.toNat_ofNat']
          omega
        · have HO : Hid (octF (s.data.toList.drop p) = none) := by
            show _ = _
            unfold octF
            rw [if_neg]
            rintro ⟨_, _, h⟩
            rw [HV.out] at h
            omega
          have d255 : decide ((V : Int) < 256) = false := decide_eq_false (by omega)
          go_wp2
          go_ret2
          exact ⟨⟨_, by rw [HO.out]; rfl, fun v h => by rw [HO.out] at h; cases h⟩, rfl⟩

set_option maxHeartbeats 1000000 in
theorem escapeR_any (s : ByteArray) (p : Nat) (w : World) (hp : p < s.size) (hs : s.size ≤ 8192) : Calls Try.prog 20 #[.string s, .int .i64 p] w fun e w' => e = .returned (.tuple #[.int .u8 ((escF (s.data.toList.drop p)).1.toNat : Int), .int .i64 ((escF (s.data.toList.drop p)).2 : Int)]) ∧ w = w' := by
  have HO : Hid (Calls Try.prog 26 #[.string s, .int .i64 p] w fun e w' => (∃ x, e = .returned (.tuple #[.int .u8 x, .bool (octF (s.data.toList.drop p)).isSome]) ∧ ∀ v, octF (s.data.toList.drop p) = some v → x = (v.toNat : Int)) ∧ w = w') := octalR_any s p w (by omega) hs
  cases ho : octF (s.data.toList.drop p) with
  | some v =>
    have HE : Hid (escF (s.data.toList.drop p) = (v, 3)) := by show _ = _; unfold escF; rw [ho]
    rw [HE.out]
    rw [ho] at HO
    clear ho
    go_enter Try.func20, Try.ntmps20
    go_wp2_with fail
    refine HO.out.mono ?_
    rintro e w1 ⟨⟨x, rfl, hx⟩, rfl⟩
    have hx2 := hx v rfl
    subst hx2
    clear hx
    go_wp2
    go_ret2
    exact ⟨rfl, rfl⟩
  | none =>
    obtain ⟨c, hc⟩ : ∃ c, s[p] = c := ⟨_, rfl⟩
    have HE : Hid (escF (s.data.toList.drop p) = (escV c, 1)) := by
      show _ = _
      unfold escF
      rw [ho, drop_at s p hp, hc]
    rw [HE.out]
    rw [ho] at HO
    obtain ⟨m, hm⟩ : ∃ m, c.toNat = m := ⟨_, rfl⟩
    have hsm : (s[p].toNat : Int) = (m : Int) := by rw [hc, hm]
    have HV : Hid (((escV c).toNat : Int) = if m = 110 then 10 else if m = 116 then 9 else if m = 114 then 13 else if m = 101 then 27 else (m : Int)) := by
      show _ = _
      unfold escV
      rw [hm]
      split
      · rfl
      · split
        · rfl
        · split
          · rfl
          · split
            · rfl
            · rw [hm]
    clear ho hc
    go_enter Try.func20, Try.ntmps20
    go_wp2_with fail
    refine HO.out.mono ?_
    rintro e w1 ⟨⟨x, rfl, hx⟩, rfl⟩
    clear hx
    have hcase : m = 110 ∨ m = 116 ∨ m = 114 ∨ m = 101 ∨ (¬ m = 110 ∧ ¬ m = 116 ∧ ¬ m = 114 ∧ ¬ m = 101) := by omega
    rcases hcase with rfl | rfl | rfl | rfl | ⟨k1, k2, k3, k4⟩
    · go_wp2
      go_ret2
      exact ⟨by rw [HV.out]; rfl, rfl⟩
    · go_wp2
      go_ret2
      exact ⟨by rw [HV.out]; rfl, rfl⟩
    · go_wp2
      go_ret2
      exact ⟨by rw [HV.out]; rfl, rfl⟩
    · go_wp2
      go_ret2
      exact ⟨by rw [HV.out]; rfl, rfl⟩
    · rw [if_neg k1, if_neg k2, if_neg k3, if_neg k4] at HV
      have e1 : ((m : Int) == 110) = false := by
        have : (m : Int) ≠ 110 := by omega
        simpa using this
      have e2 : ((m : Int) == 116) = false := by
        have : (m : Int) ≠ 116 := by omega
        simpa using this
      have e3 : ((m : Int) == 114) = false := by
        have : (m : Int) ≠ 114 := by omega
        simpa using this
      have e4 : ((m : Int) == 101) = false := by
        have : (m : Int) ≠ 101 := by omega
        simpa using this
      go_wp2
      go_ret2
      exact ⟨by rw [HV.out]; rfl, rfl⟩

end Go.Proofs.Ytghkhnnlhkdceaa
