/-
  Lines of commands: what a backslash in double quotes means.
-/
import Derived.Test.YtghkhnnlhkdceaaXStep
namespace Go.Proofs.Ytghkhnnlhkdceaa
open Go.RowKit
set_option linter.unusedVariables false
set_option maxRecDepth 100000

def octD (c : UInt8) : Bool := decide (48 ≤ c.toNat ∧ c.toNat ≤ 55)
def valF (l : List UInt8) : Nat := l.foldl (fun v c => v * 8 + (c.toNat - 48)) 0
theorem valF_snoc (l : List UInt8) (c : UInt8) : valF (l ++ [c]) = valF l * 8 + (c.toNat - 48) := by simp [valF]
def octF (r : List UInt8) : Option UInt8 := if 3 ≤ r.length ∧ (r.take 3).all octD = true ∧ valF (r.take 3) ≤ 255 then some (UInt8.ofNat (valF (r.take 3))) else none
def escV (c : UInt8) : UInt8 := if c.toNat = 110 then 10 else if c.toNat = 116 then 9 else if c.toNat = 114 then 13 else if c.toNat = 101 then 27 else c
def escF (r : List UInt8) : UInt8 × Nat := match octF r with
  | some v => (v, 3)
  | none => match r with
    | c :: _ => (escV c, 1)
    | [] => (0, 1)

theorem val_fold : ∀ (l : List UInt8) (v n : Nat), v < 8 ^ n → l.all octD = true → l.foldl (fun v c => v * 8 + (c.toNat - 48)) v < 8 ^ (n + l.length)
  | [], v, n, hv, _ => by simpa using hv
  | c :: l, v, n, hv, h => by
    rw [List.all_cons, Bool.and_eq_true] at h
    have h3 : 48 ≤ c.toNat ∧ c.toNat ≤ 55 := of_decide_eq_true h.1
    have h4 : v * 8 + (c.toNat - 48) < 8 ^ (n + 1) := by rw [Nat.pow_succ]; omega
    have := val_fold l _ (n + 1) h4 h.2
    rw [List.foldl_cons, List.length_cons, show n + (l.length + 1) = n + 1 + l.length by omega]
    exact this
theorem val_le (l : List UInt8) (h : l.all octD = true) : valF l < 8 ^ l.length := by
  have := val_fold l 0 0 (by decide) h
  rwa [Nat.zero_add] at this

set_option maxHeartbeats 2000000 in
theorem octalByte_any (s : ByteArray) (w : World) : Calls Try.prog 30 #[.string s] w fun e w' => (∃ x, e = .returned (.tuple #[.int .u8 x, .bool (octF s.data.toList).isSome]) ∧ ∀ v, octF s.data.toList = some v → x = (v.toNat : Int)) ∧ w = w' := by
  have hsl : s.data.toList.length = s.size := size_data s
  by_cases h3 : s.size < 3
  · have HO : Hid (octF s.data.toList = none) := by show _ = _; unfold octF; rw [if_neg (by omega)]
    rw [HO.out]
    have d3 : decide ((s.size : Int) < 3) = true := decide_eq_true (by omega)
    clear hsl
    go_enter Try.func30, Try.ntmps30
    go_wp2
    go_ret2
    exact ⟨⟨_, rfl, fun v h => by cases h⟩, rfl⟩
  · have d3 : decide ((s.size : Int) < 3) = false := decide_eq_false (by omega)
    have HL : Hid (s.data.toList.length = s.size) := hsl
    clear hsl
    go_enter Try.func30, Try.ntmps30
    go_wp2
    go_loopw [4, 5] (fun v i wr => ∃ k : Nat, k ≤ 3 ∧ i = .int .i64 k ∧ v = .int .i64 (valF (s.data.toList.take k)) ∧ Hid ((s.data.toList.take k).all octD = true) ∧ w = wr) (fun _ i _ => 3 - (intOf i).toNat)
    case atStart => exact ⟨0, Nat.zero_le _, rfl, rfl, (show (s.data.toList.take 0).all octD = true by simp), rfl⟩
    case round =>
      obtain ⟨k, hk, rfl, rfl, HA, rfl⟩ := hrel
      have hval := val_le _ HA.out
      have hlen : (s.data.toList.take k).length = k := by rw [List.length_take, HL.out]; omega
      rw [hlen] at hval
      have hv512 : valF (s.data.toList.take k) < 512 := Nat.lt_of_lt_of_le hval (Nat.le_trans (Nat.pow_le_pow_right (by decide) hk) (by decide))
      obtain ⟨V, hV⟩ : ∃ V, valF (s.data.toList.take k) = V := ⟨_, rfl⟩
      have HV : Hid (valF (s.data.toList.take k) = V) := hV
      rw [hV] at hv512 ⊢
      clear hV hval hlen
      by_cases hlt : k < 3
      · have hks : k < s.size := by omega
        have HT : Hid (s.data.toList.take (k + 1) = s.data.toList.take k ++ [s[k]]) := take_snocX s k hks
        obtain ⟨c, hc⟩ : ∃ c, s[k] = c := ⟨_, rfl⟩
        have HC : Hid (s[k] = c) := hc
        rw [hc] at HT
        have hcn := UInt8.toNat_lt c
        obtain ⟨m, hm⟩ : ∃ m, c.toNat = m := ⟨_, rfl⟩
        have HM : Hid (c.toNat = m) := hm
        have hsm : (s[k].toNat : Int) = (m : Int) := by rw [hc, hm]
        rw [hm] at hcn
        clear hc hm
        have dk : decide ((k : Int) < 3) = true := decide_eq_true (by omega)
        by_cases hd : 48 ≤ m ∧ m ≤ 55
        · have HA2 : Hid ((s.data.toList.take (k + 1)).all octD = true) := by
            show _ = _
            rw [HT.out, List.all_append, HA.out]
            simp [octD, HM.out, hd]
          have HV2 : Hid (valF (s.data.toList.take (k + 1)) = V * 8 + (m - 48)) := by
            show _ = _
            rw [HT.out, valF_snoc, HV.out, HM.out]
          have d48 : decide ((m : Int) < 48) = false := by
            have : ¬ (m : Int) < 48 := by omega
            simpa using this
          have d55 : decide ((55 : Int) < (m : Int)) = false := by
            have : ¬ (55 : Int) < (m : Int) := by omega
            simpa using this
          have e1 : IntKind.u8.wrap ((m : Int) - 48) = (m : Int) - 48 := by rw [IntKind.wrap_u8]; omega
          have e2 : IntKind.i64.wrap ((V : Int) * 8) = (V : Int) * 8 := by rw [IntKind.wrap_i64]; omega
          have e3 : IntKind.i64.wrap ((m : Int) - 48) = (m : Int) - 48 := by rw [IntKind.wrap_i64]; omega
          have e4 : IntKind.i64.wrap ((V : Int) * 8 + ((m : Int) - 48)) = (V : Int) * 8 + ((m : Int) - 48) := by rw [IntKind.wrap_i64]; omega
          go_wp2
          go_roundw
          case rel => exact ⟨k + 1, by omega, by go_num, by rw [HV2.out]; congr 1; omega, HA2, by first | exact trivial | rfl⟩
          case measure => simp [intOf]; omega
        · have HO : Hid (octF s.data.toList = none) := by
            show _ = _
            unfold octF
            rw [if_neg]
            rintro ⟨_, h, _⟩
            have hm2 : s[k] ∈ s.data.toList.take 3 := by
              rw [List.mem_iff_getElem?]
              refine ⟨k, ?_⟩
              rw [List.getElem?_take_of_lt hlt]
              simp [hks]
              rfl
            have := List.all_eq_true.1 h _ hm2
            rw [HC.out] at this
            unfold octD at this
            have := of_decide_eq_true this
            rw [HM.out] at this
            exact hd this
          have d : decide ((m : Int) < 48) = true ∨ (decide ((m : Int) < 48) = false ∧ decide ((55 : Int) < (m : Int)) = true) := by
            by_cases e : (m : Int) < 48
            · exact .inl (by simpa using e)
            · refine .inr ⟨by simpa using e, ?_⟩
              have : (55 : Int) < (m : Int) := by omega
              simpa using this
          rcases d with d48 | ⟨d48, d55⟩
          all_goals (
            go_wp2
            go_ret2
            exact ⟨⟨_, by rw [HO.out]; rfl, fun v h => by rw [HO.out] at h; cases h⟩, rfl⟩)
      · have hk3 : k = 3 := by omega
        subst hk3
        have hw : IntKind.u8.wrap (V : Int) = (V : Int) % 256 := IntKind.wrap_u8 _
        by_cases h255 : V ≤ 255
        · have HO : Hid (octF s.data.toList = some (UInt8.ofNat V)) := by
            show _ = _
            unfold octF
            rw [if_pos ⟨by rw [HL.out]; omega, HA.out, by rw [HV.out]; exact h255⟩, HV.out]
          have d255 : decide ((V : Int) ≤ 255) = true := by
            have : (V : Int) ≤ 255 := by omega
            simpa using this
          go_wp2
          go_ret2
          refine ⟨⟨_, by rw [HO.out]; rfl, fun v h => ?_⟩, rfl⟩
          rw [HO.out] at h
          cases h
          rw [UInt8.toNat_ofNat']
          omega
        · have HO : Hid (octF s.data.toList = none) := by
            show _ = _
            unfold octF
            rw [if_neg]
            rintro ⟨_, _, h⟩
            rw [HV.out] at h
            exact h255 h
          have d255 : decide ((V : Int) ≤ 255) = false := by
            have : ¬ (V : Int) ≤ 255 := by omega
            simpa using this
          go_wp2
          go_ret2
          exact ⟨⟨_, by rw [HO.out]; rfl, fun v h => by rw [HO.out] at h; cases h⟩, rfl⟩

set_option maxHeartbeats 1000000 in
theorem escaped_any (s : ByteArray) (w : World) (h0 : 0 < s.size) : Calls Try.prog 28 #[.string s] w fun e w' => e = .returned (.tuple #[.int .u8 ((escF s.data.toList).1.toNat : Int), .int .i64 ((escF s.data.toList).2 : Int)]) ∧ w = w' := by
  have HO : Hid (Calls Try.prog 30 #[.string s] w fun e w' => (∃ x, e = .returned (.tuple #[.int .u8 x, .bool (octF s.data.toList).isSome]) ∧ ∀ v, octF s.data.toList = some v → x = (v.toNat : Int)) ∧ w = w') := octalByte_any s w
  cases ho : octF s.data.toList with
  | some v =>
    have HE : Hid (escF s.data.toList = (v, 3)) := by show _ = _; unfold escF; rw [ho]
    rw [HE.out]
    rw [ho] at HO
    clear ho
    go_enter Try.func28, Try.ntmps28
    go_wp2_with fail
    refine HO.out.mono ?_
    rintro e w1 ⟨⟨x, rfl, hx⟩, rfl⟩
    have hx2 := hx v rfl
    subst hx2
    clear hx
    go_wp2
    go_ret2
    exact ⟨rfl, rfl⟩
  | none =>
    obtain ⟨c, hc⟩ : ∃ c, s[0] = c := ⟨_, rfl⟩
    have HE : Hid (escF s.data.toList = (escV c, 1)) := by
      show _ = _
      unfold escF
      rw [ho]
      cases hh : s.data.toList with
      | nil =>
        have h9 := size_data s
        rw [hh] at h9
        change 0 = s.size at h9
        omega
      | cons a r =>
        have : a = c := by
          rw [← hc]
          have h1 : s.data.toList[0]? = some s[0] := by simp [h0]; rfl
          rw [hh] at h1
          simpa using h1
        rw [this]
    rw [HE.out]
    rw [ho] at HO
    obtain ⟨m, hm⟩ : ∃ m, c.toNat = m := ⟨_, rfl⟩
    have hsm : (s[0].toNat : Int) = (m : Int) := by rw [hc, hm]
    have HV : Hid (((escV c).toNat : Int) = if m = 110 then 10 else if m = 116 then 9 else if m = 114 then 13 else if m = 101 then 27 else (m : Int)) := by
      show _ = _
      unfold escV
      rw [hm]
      split
      · rfl
      · split
        · rfl
        · split
          · rfl
          · split
            · rfl
            · rw [hm]
    clear ho hc
    go_enter Try.func28, Try.ntmps28
    go_wp2_with fail
    refine HO.out.mono ?_
    rintro e w1 ⟨⟨x, rfl, hx⟩, rfl⟩
    clear hx
    have hcase : m = 110 ∨ m = 116 ∨ m = 114 ∨ m = 101 ∨ (¬ m = 110 ∧ ¬ m = 116 ∧ ¬ m = 114 ∧ ¬ m = 101) := by omega
    rcases hcase with rfl | rfl | rfl | rfl | ⟨k1, k2, k3, k4⟩
    · go_wp2
      go_ret2
      exact ⟨by rw [HV.out]; rfl, rfl⟩
    · go_wp2
      go_ret2
      exact ⟨by rw [HV.out]; rfl, rfl⟩
    · go_wp2
      go_ret2
      exact ⟨by rw [HV.out]; rfl, rfl⟩
    · go_wp2
      go_ret2
      exact ⟨by rw [HV.out]; rfl, rfl⟩
    · rw [if_neg k1, if_neg k2, if_neg k3, if_neg k4] at HV
      have e1 : ((m : Int) == 110) = false := by
        have : (m : Int) ≠ 110 := by omega
        simpa using this
      have e2 : ((m : Int) == 116) = false := by
        have : (m : Int) ≠ 116 := by omega
        simpa using this
      have e3 : ((m : Int) == 114) = false := by
        have : (m : Int) ≠ 114 := by omega
        simpa using this
      have e4 : ((m : Int) == 101) = false := by
        have : (m : Int) ≠ 101 := by omega
        simpa using this
      go_wp2
      go_ret2
      exact ⟨by rw [HV.out]; rfl, rfl⟩

end Go.Proofs.Ytghkhnnlhkdceaa
