/-
  Formats: texts behind one another.
  Formats: the document's small functions.
  Formats: the document's identifiers; where a place ends; a text cut at its commas.
-/
import Derived.Test.YtlfcjcaofhcfnaaGreatDoorGB
import Derived.Test.YtlfcjcaofhcfnaaGreatDoorGD
import Derived.Test.YtlfcjcaofhcfnaaGreatDoorGQ
import Derived.Test.YtlfcjcaofhcfnaaGreatDoorGE
namespace Go.Proofs.YtlfcjcaofhcfnaaGreatDoor
set_option linter.unusedVariables false

theorem str_cat (a b : List UInt8) : str a ++ str b = str (a ++ b) := by
  apply ByteArray.ext
  rw [ByteArray.data_append]
  apply Array.ext'
  rw [Array.toList_append]
  rfl

end Go.Proofs.YtlfcjcaofhcfnaaGreatDoor

namespace Go.Proofs.YtlfcjcaofhcfnaaGreatDoor
open Go.RowKit
set_option linter.unusedVariables false
set_option maxRecDepth 100000

set_option maxHeartbeats 1000000 in
theorem shortR_any (c : UInt8) (w : World) : Calls Tryz.prog 24 #[.int .u8 (c.toNat : Int)] w fun e w' => e = .returned (.string (str (shortF c))) ∧ w = w' := by
  obtain ⟨y, hy⟩ : ∃ y, str (shortF c) = y := ⟨_, rfl⟩
  rw [hy]
  unfold shortF at hy
  by_cases h1 : c.toNat = 83
  · rw [if_pos h1] at hy
    subst hy
    go_enter Tryz.func24, Tryz.ntmps24
    go_wp2_with fail
    all_goals go_ret
    all_goals exact ⟨rfl, rfl⟩
  rw [if_neg h1] at hy
  by_cases h2 : c.toNat = 87
  · rw [if_pos h2] at hy
    subst hy
    go_enter Tryz.func24, Tryz.ntmps24
    go_wp2_with fail
    all_goals go_ret
    all_goals exact ⟨rfl, rfl⟩
  rw [if_neg h2] at hy
  by_cases h3 : c.toNat = 73
  · rw [if_pos h3] at hy
    subst hy
    go_enter Tryz.func24, Tryz.ntmps24
    go_wp2_with fail
    all_goals go_ret
    all_goals exact ⟨rfl, rfl⟩
  rw [if_neg h3] at hy
  by_cases h4 : c.toNat = 80
  · rw [if_pos h4] at hy
    subst hy
    go_enter Tryz.func24, Tryz.ntmps24
    go_wp2_with fail
    all_goals go_ret
    all_goals exact ⟨rfl, rfl⟩
  rw [if_neg h4] at hy
  by_cases h5 : c.toNat = 68
  · rw [if_pos h5] at hy
    subst hy
    go_enter Tryz.func24, Tryz.ntmps24
    go_wp2_with fail
    all_goals go_ret
    all_goals exact ⟨rfl, rfl⟩
  rw [if_neg h5] at hy
  by_cases h6 : c.toNat = 70
  · rw [if_pos h6] at hy
    subst hy
    go_enter Tryz.func24, Tryz.ntmps24
    go_wp2_with fail
    all_goals go_ret
    all_goals exact ⟨rfl, rfl⟩
  rw [if_neg h6] at hy
  subst hy
  go_enter Tryz.func24, Tryz.ntmps24
  go_wp2_with fail
  all_goals go_ret
  all_goals exact ⟨rfl, rfl⟩

theorem val_find : ∀ (vs : Vars) (name : List UInt8) (k : Nat) (p : List UInt8 × List UInt8), (∀ (j : Nat) (q : List UInt8 × List UInt8), j < k → vs[j]? = some q → q.1 ≠ name) → vs[k]? = some p → p.1 = name → valF vs name = p.2
  | [], name, k, p, h, hp, e => by simp at hp
  | q :: vs, name, 0, p, h, hp, e => by
    simp at hp
    subst hp
    unfold valF
    rw [List.find?_cons_of_pos (by simpa using e)]
    rfl
  | q :: vs, name, k + 1, p, h, hp, e => by
    have h0 := h 0 q (by omega) rfl
    have h1 := val_find vs name k p (fun j r hj hr => h (j + 1) r (by omega) (by simpa using hr)) (by simpa using hp) e
    unfold valF at h1 ⊢
    rw [List.find?_cons_of_neg (by simpa using h0)]
    exact h1
theorem val_gone {vs : Vars} {name : List UInt8} (h : ∀ (j : Nat) (q : List UInt8 × List UInt8), vs[j]? = some q → q.1 ≠ name) : valF vs name = [] := by
  unfold valF
  rw [List.find?_eq_none.2]
  · rfl
  · intro p hp
    obtain ⟨i, hi, e⟩ := List.getElem_of_mem hp
    rw [decide_eq_true_eq]
    exact h i p (by rw [List.getElem?_eq_getElem hi, e])
set_option maxHeartbeats 2000000 in
theorem valueR_any {w : World} {sv : Value} {vs : Vars} (hv : VarsIn w sv vs) (name : List UInt8) : Calls Tryz.prog 27 #[sv, .string (str name)] w fun e w' => e = .returned (.string (str (valF vs name))) ∧ Below w.heap.size w w' := by
  have HV := hidK hv
  obtain ⟨ad, cap, rfl, hl, -⟩ := hv
  obtain ⟨n, hn⟩ : ∃ n, vs.length = n := ⟨_, rfl⟩
  have HN := hidK hn
  rw [hn] at hl ⊢
  have hyl : (str name).toList = name := str_toList name
  obtain ⟨y, hy⟩ : ∃ y, str name = y := ⟨_, rfl⟩
  rw [hy] at hyl ⊢
  obtain ⟨R, hR⟩ : ∃ R, valF vs name = R := ⟨_, rfl⟩
  have HR := hidK hR
  rw [hR]
  clear hn hy hR
  go_enter Tryz.func27, Tryz.ntmps27
  go_wp2_with fail
  go_loopw [5] (fun s5 wx => ∃ (k : Nat), k ≤ n ∧ s5 = .int .i64 (k : Int) ∧ Hid (∀ (j : Nat) (q : List UInt8 × List UInt8), j < k → vs[j]? = some q → q.1 ≠ name) ∧ Hid (Below w.heap.size w wx)) (fun v _ => n - (intOf v).toNat)
  case atStart => exact ⟨0, Nat.zero_le _, rfl, fun j q hj => absurd hj (Nat.not_lt_zero _), Below.refl _ _⟩
  case round =>
    obtain ⟨k, hk, rfl, HJ, HB⟩ := hrel
    by_cases hkn : k < n
    · obtain ⟨⟨nm, vl⟩, hp⟩ : ∃ p, vs[k]? = some p := ⟨_, List.getElem?_eq_getElem (by rw [HN.out]; exact hkn)⟩
      obtain ⟨ad', cap', e, _, h2⟩ := HV.out.below HB.out
      cases e
      obtain ⟨g, o, rfl, _, q0, q1⟩ := h2 k _ hp
      simp only at q0 q1
      have HP := hidK hp
      have hml : (str nm).toList = nm := str_toList nm
      obtain ⟨m, hm⟩ : ∃ m, str nm = m := ⟨_, rfl⟩
      rw [hm] at q0 hml
      clear hp h2 hm
      by_cases he : nm = name
      · have h3 : m.toList = y.toList := by rw [hml, hyl, he]
        have HR2 := hidK (show R = vl by rw [← HR.out]; exact val_find vs name k _ HJ.out HP.out he)
        have q2 : wr.drew.cell? ⟨g, o + k * 2 + 1, none⟩ = some (.string (str vl)) := q1
        clear hml hyl he HJ
        go_wp2_with fail
        all_goals go_ret
        all_goals exact ⟨by rw [HR2.out]; rfl, HB.out⟩
      · have h3 : (m.toList == y.toList) = false := by rw [hml, hyl]; exact beq_eq_false_iff_ne.2 he
        have HJ2 : Hid (∀ (j : Nat) (q : List UInt8 × List UInt8), j < k + 1 → vs[j]? = some q → q.1 ≠ name) := fun j q hj hq => by
          rcases Nat.lt_or_ge j k with h | h
          · exact HJ.out j q h hq
          · obtain rfl : j = k := by omega
            have e : some q = some (nm, vl) := hq.symm.trans HP.out
            cases e
            exact he
        clear hml hyl he HJ
        go_wp2_with fail
        exact ⟨⟨k + 1, by omega, by go_num, HJ2.out, HB.out⟩, by simp [intOf]; omega⟩
    · obtain rfl : k = n := by omega
      have HR2 : Hid (R = []) := by
        rw [← HR.out]
        exact val_gone fun j q hq => HJ.out j q (by have := (List.getElem?_eq_some_iff.1 hq).1; have := HN.out; omega) hq
      clear HJ
      go_wp2_with fail
      all_goals go_ret
      all_goals exact ⟨by rw [HR2.out]; rfl, HB.out⟩
def colonI (l : List UInt8) : Int := match colonF l with | some k => (k : Int) | none => -1
theorem colon_find {l : List UInt8} {i : Nat} {c : UInt8} (h : ∀ (j : Nat) (d : UInt8), j < i → l[j]? = some d → d.toNat ≠ 58) (hc : l[i]? = some c) (h58 : c.toNat = 58) : colonF l = some i := by
  unfold colonF
  rw [List.findIdx?_eq_some_iff_getElem]
  obtain ⟨hi, e⟩ := List.getElem?_eq_some_iff.1 hc
  exact ⟨hi, by simpa [e] using h58, fun j hj => by simpa using h j _ hj (List.getElem?_eq_getElem (by omega))⟩
theorem colon_gone {l : List UInt8} (h : ∀ (j : Nat) (d : UInt8), l[j]? = some d → d.toNat ≠ 58) : colonF l = none := by
  unfold colonF
  rw [List.findIdx?_eq_none_iff]
  intro c hc
  obtain ⟨i, hi, e⟩ := List.getElem_of_mem hc
  exact decide_eq_false (h i c (by rw [List.getElem?_eq_getElem hi, e]))
set_option maxHeartbeats 1000000 in
theorem colonR_any (l : List UInt8) (hl : l.length ≤ 2147483647) (w : World) : Calls Tryz.prog 76 #[.string (str l)] w fun e w' => e = .returned (.int .i64 (colonI l)) ∧ w = w' := by
  have hs : (str l).size = l.length := rfl
  have HG : Hid (∀ (i : Nat) (c : UInt8), l[i]? = some c → ∀ h : i < (str l).size, (str l)[i] = c) := fun i c hc h => str_getF l i c hc h
  obtain ⟨z, hz⟩ : ∃ z, str l = z := ⟨_, rfl⟩
  rw [hz] at hs HG ⊢
  obtain ⟨n, hn⟩ : ∃ n, l.length = n := ⟨_, rfl⟩
  have HN := hidK hn
  rw [hn] at hs hl
  obtain ⟨R, hR⟩ : ∃ R, colonI l = R := ⟨_, rfl⟩
  have HR := hidK hR
  rw [hR]
  clear hz hn hR
  go_enter Tryz.func76, Tryz.ntmps76
  go_wp2_with fail
  go_loopw [3] (fun s3 wx => ∃ (i : Nat), i ≤ n ∧ s3 = .int .i64 (i : Int) ∧ Hid (∀ (j : Nat) (d : UInt8), j < i → l[j]? = some d → d.toNat ≠ 58) ∧ wx = w) (fun v _ => n - (intOf v).toNat)
  case atStart => exact ⟨0, Nat.zero_le _, rfl, fun j d hj => absurd hj (Nat.not_lt_zero _), rfl⟩
  case round =>
    obtain ⟨i, hi, rfl, HJ, rfl⟩ := hrel
    by_cases hin : i < n
    · obtain ⟨c, hc⟩ : ∃ c, l[i]? = some c := ⟨_, List.getElem?_eq_getElem (by rw [HN.out]; exact hin)⟩
      have g0 := HG.out i c hc (by omega)
      have HC := hidK hc
      clear hc
      by_cases h58 : c.toNat = 58
      · have HR2 := hidK (show R = (i : Int) by rw [← HR.out]; unfold colonI; rw [colon_find HJ.out HC.out h58])
        clear HJ
        go_wp2_with fail
        all_goals go_ret
        all_goals exact ⟨by rw [HR2.out]; rfl, rfl⟩
      · have HJ2 : Hid (∀ (j : Nat) (d : UInt8), j < i + 1 → l[j]? = some d → d.toNat ≠ 58) := fun j d hj hd => by
          rcases Nat.lt_or_ge j i with h | h
          · exact HJ.out j d h hd
          · obtain rfl : j = i := by omega
            have e : some d = some c := hd.symm.trans HC.out
            cases e
            exact h58
        clear HJ
        go_wp2_with fail
        exact ⟨⟨i + 1, by omega, by go_num, HJ2.out, by first | rfl | trivial⟩, by simp [intOf]; omega⟩
    · obtain rfl : i = n := by omega
      have HR2 := hidK (show R = -1 by
        rw [← HR.out]
        unfold colonI
        rw [colon_gone fun j d hd => HJ.out j d (by have := (List.getElem?_eq_some_iff.1 hd).1; have := HN.out; omega) hd])
      clear HJ
      go_wp2_with fail
      all_goals go_ret
      all_goals exact ⟨by rw [HR2.out]; rfl, rfl⟩

/-- What stands together at a place of a text. -/
theorem drop_two {l : List UInt8} {i : Nat} {c : UInt8} (hc : l[i]? = some c) : l.drop i = c :: l.drop (i + 1) := by
  obtain ⟨h1, h2⟩ := List.getElem?_eq_some_iff.1 hc
  rw [List.drop_eq_getElem_cons h1, h2]
set_option maxHeartbeats 2000000 in
theorem passedR_any (l : List UInt8) (hl : l.length ≤ 2147483647) (i : Nat) (hi : i < l.length) (w : World) : Calls Tryz.prog 74 #[.string (str l), .int .i64 (i : Int)] w fun e w' => e = .returned (.tuple #[.int .i64 ((passF (l.drop i)).1 : Int), .bool (decide ((passF (l.drop i)).2 = 1))]) ∧ w = w' := by
  have hs : (str l).size = l.length := rfl
  have HG : Hid (∀ (i : Nat) (c : UInt8), l[i]? = some c → ∀ h : i < (str l).size, (str l)[i] = c) := fun i c hc h => str_getF l i c hc h
  obtain ⟨c, hc⟩ : ∃ c, l[i]? = some c := ⟨_, List.getElem?_eq_getElem hi⟩
  have hdr := drop_two hc
  obtain ⟨P, hP⟩ : ∃ P, passF (l.drop i) = P := ⟨_, rfl⟩
  obtain ⟨z, hz⟩ : ∃ z, str l = z := ⟨_, rfl⟩
  rw [hz] at hs HG ⊢
  obtain ⟨n, hn⟩ : ∃ n, l.length = n := ⟨_, rfl⟩
  rw [hn] at hs hl hi
  have hzi : i < z.size := by omega
  have g0 := HG.out i c hc hzi
  by_cases hin : i + 1 < n
  · obtain ⟨d, hd⟩ : ∃ d, l[i + 1]? = some d := ⟨_, List.getElem?_eq_getElem (by rw [hn]; exact hin)⟩
    have hzj : i + 1 < z.size := by omega
    have g1 := HG.out (i + 1) d hd hzj
    rw [drop_two hd] at hdr
    have hin2 : (i : Int) + 1 < (n : Int) := by omega
    have hP2 := hP
    rw [hdr] at hP2
    simp only [passF] at hP2
    rw [hP]
    clear hP hdr hc hd hz hn HG
    by_cases h35 : c.toNat = 35
    · have h125 : ¬ c.toNat = 125 := by omega
      rw [if_neg h125, if_pos h35] at hP2
      by_cases d1 : d.toNat = 123
      · rw [if_pos d1] at hP2
        subst hP2
        go_enter Tryz.func74, Tryz.ntmps74
        go_wp2_with fail
        all_goals go_ret2
        all_goals exact ⟨rfl, rfl⟩
      · rw [if_neg d1] at hP2
        by_cases d2 : d.toNat = 35 ∨ d.toNat = 44 ∨ d.toNat = 125
        · rw [if_pos d2] at hP2
          subst hP2
          rcases d2 with d2 | d2 | d2
          all_goals (
            go_enter Tryz.func74, Tryz.ntmps74
            go_wp2_with fail
            all_goals go_ret2
            all_goals exact ⟨rfl, rfl⟩)
        · rw [if_neg d2] at hP2
          subst hP2
          have e1 : ¬ d.toNat = 35 := fun h => d2 (.inl h)
          have e2 : ¬ d.toNat = 44 := fun h => d2 (.inr (.inl h))
          have e3 : ¬ d.toNat = 125 := fun h => d2 (.inr (.inr h))
          clear d2
          go_enter Tryz.func74, Tryz.ntmps74
          go_wp2_with fail
          all_goals go_ret2
          all_goals exact ⟨rfl, rfl⟩
    · have hPP : P.1 = 1 ∧ decide (P.2 = 1) = false := by
        rw [← hP2]
        split
        · exact ⟨rfl, rfl⟩
        · first | exact ⟨rfl, rfl⟩ | (rw [if_neg h35]; exact ⟨rfl, rfl⟩)
      obtain ⟨p1, p2⟩ := hPP
      rw [p1, p2]
      clear hP2 p1 p2
      go_enter Tryz.func74, Tryz.ntmps74
      go_wp2_with fail
      all_goals go_ret2
      all_goals exact ⟨rfl, rfl⟩
  · have hin2 : ¬ (i : Int) + 1 < (n : Int) := by omega
    have hnil : l.drop (i + 1) = [] := List.drop_eq_nil_of_le (by omega)
    rw [hnil] at hdr
    have hPP : P.1 = 1 ∧ decide (P.2 = 1) = false := by
      rw [← hP, hdr]
      simp only [passF]
      split <;> exact ⟨rfl, rfl⟩
    rw [hP]
    obtain ⟨p1, p2⟩ := hPP
    rw [p1, p2]
    clear hP hdr hc hz hn HG hnil p1 p2
    by_cases h35 : c.toNat = 35
    · go_enter Tryz.func74, Tryz.ntmps74
      go_wp2_with fail
      all_goals go_ret2
      all_goals exact ⟨rfl, rfl⟩
    · go_enter Tryz.func74, Tryz.ntmps74
      go_wp2_with fail
      all_goals go_ret2
      all_goals exact ⟨rfl, rfl⟩

end Go.Proofs.YtlfcjcaofhcfnaaGreatDoor

namespace Go.Proofs.YtlfcjcaofhcfnaaGreatDoor
open Go.RowKit
set_option linter.unusedVariables false
set_option maxRecDepth 100000

def identB (i : Nat) (c : UInt8) : Bool := smallB c || (decide (i ≠ 0) && innerB c)
theorem ident_all (l : List UInt8) : identF l = (decide (1 ≤ l.length) && decide (l.length ≤ 32) && (List.range l.length).all fun i => identB i (l[i]?.getD 0)) := by
  cases l with
  | nil => rfl
  | cons c r =>
    rw [Bool.eq_iff_iff]
    simp only [identF, Bool.and_eq_true, decide_eq_true_eq, List.all_eq_true, List.mem_range, List.length_cons]
    constructor
    · rintro ⟨⟨h1, h2⟩, h3⟩
      refine ⟨⟨by omega, h1⟩, fun i hi => ?_⟩
      cases i with
      | zero => simp [identB, h2]
      | succ i =>
        have hm : (r[i]?.getD 0) ∈ r := by
          rw [List.getElem?_eq_getElem (by omega)]
          exact List.getElem_mem _
        have := h3 _ hm
        simp [identB, this]
    · rintro ⟨⟨_, h1⟩, h2⟩
      refine ⟨⟨h1, ?_⟩, fun d hd => ?_⟩
      · have := h2 0 (by omega)
        simpa [identB] using this
      · obtain ⟨i, hi, e⟩ := List.getElem_of_mem hd
        have := h2 (i + 1) (by omega)
        simp only [List.getElem?_cons_succ, List.getElem?_eq_getElem hi, Option.getD_some, e] at this
        unfold identB at this
        rw [Bool.or_eq_true, Bool.and_eq_true] at this
        rcases this with h | ⟨_, h⟩
        · unfold innerB
          rw [h]
          simp
        · exact h
set_option maxHeartbeats 2000000 in
theorem identR_any (l : List UInt8) (hl : l.length ≤ 2147483647) (w : World) : Calls Tryz.prog 78 #[.string (str l)] w fun e w' => e = .returned (.bool (identF l)) ∧ w = w' := by
  have hs : (str l).size = l.length := rfl
  have HG : Hid (∀ (i : Nat) (c : UInt8), l[i]? = some c → ∀ h : i < (str l).size, (str l)[i] = c) := fun i c hc h => str_getF l i c hc h
  have HA := hidK (ident_all l)
  obtain ⟨z, hz⟩ : ∃ z, str l = z := ⟨_, rfl⟩
  rw [hz] at hs HG ⊢
  obtain ⟨n, hn⟩ : ∃ n, l.length = n := ⟨_, rfl⟩
  have HN := hidK hn
  rw [hn] at hs hl HA
  obtain ⟨R, hR⟩ : ∃ R, identF l = R := ⟨_, rfl⟩
  rw [hR] at HA ⊢
  clear hz hn hR
  go_enter Tryz.func78, Tryz.ntmps78
  go_wp2_with fail
  go_loopw [3] (fun s3 wx => ∃ (i : Nat), i ≤ n ∧ s3 = .int .i64 (i : Int) ∧ Hid (∀ j, j < i → identB j (l[j]?.getD 0) = true) ∧ wx = w) (fun v _ => n - (intOf v).toNat)
  case atStart => exact ⟨0, Nat.zero_le _, rfl, fun j hj => absurd hj (Nat.not_lt_zero _), rfl⟩
  case round =>
    obtain ⟨i, hi, rfl, HJ, rfl⟩ := hrel
    by_cases hin : i < n
    · obtain ⟨c, hc⟩ : ∃ c, l[i]? = some c := ⟨_, List.getElem?_eq_getElem (by rw [HN.out]; exact hin)⟩
      have hzi : i < z.size := by omega
      have g0 := HG.out i c hc hzi
      have HC := hidK hc
      clear hc
      cases hb : identB i c with
      | true =>
        have HJ2 : Hid (∀ j, j < i + 1 → identB j (l[j]?.getD 0) = true) := fun j hj => by
          rcases Nat.lt_or_ge j i with h | h
          · exact HJ.out j h
          · obtain rfl : j = i := by omega
            rw [HC.out]
            exact hb
        have hb2 : (97 ≤ c.toNat ∧ c.toNat ≤ 122) ∨ (i ≠ 0 ∧ (48 ≤ c.toNat ∧ c.toNat ≤ 57 ∨ c.toNat = 95)) := by
          unfold identB innerB smallB digitB at hb
          simp at hb
          omega
        have HB2 := hidK hb2
        clear HJ hb hb2
        go_wp2_with fail
        all_goals first
          | exact ⟨⟨i + 1, by omega, by go_num, HJ2.out, by first | rfl | trivial⟩, by simp [intOf]; omega⟩
          | (exfalso; have h := HB2.out; omega)
          | (exfalso; have h := HB2.out; simp only [beq_iff_eq, bne_iff_ne, ne_eq] at *; omega)
      | false =>
        have HR2 : Hid (R = false) := by
          have h := HA.out
          cases R with
          | false => rfl
          | true =>
            have h2 := h.symm
            rw [Bool.and_eq_true, List.all_eq_true] at h2
            have h3 := h2.2 i (List.mem_range.2 hin)
            rw [HC.out] at h3
            exact absurd (hb.symm.trans h3) (by decide)
        have hb2 : ¬ ((97 ≤ c.toNat ∧ c.toNat ≤ 122) ∨ (i ≠ 0 ∧ (48 ≤ c.toNat ∧ c.toNat ≤ 57 ∨ c.toNat = 95))) := by
          unfold identB innerB smallB digitB at hb
          simp at hb
          omega
        have HB2 := hidK hb2
        clear HJ hb hb2
        go_wp2_with fail
        all_goals first
          | (go_ret; exact ⟨by rw [HR2.out]; rfl, rfl⟩)
          | (exfalso; have h := HB2.out; omega)
          | (exfalso; have h := HB2.out; simp only [Bool.not_eq_false', decide_eq_true_eq, bne_eq_false_iff_eq, beq_eq_false_iff_ne] at *; omega)
    · obtain rfl : i = n := by omega
      have HR2 := hidK (show R = (decide (1 ≤ i) && decide (i ≤ 32)) by
        have h := HA.out
        rw [h, List.all_eq_true.2 (fun j hj => HJ.out j (List.mem_range.1 hj)), Bool.and_true])
      clear HJ
      by_cases h1 : 1 ≤ i
      · by_cases h2 : i ≤ 32
        · have k1 : (1 : Int) ≤ (i : Int) := by omega
          have k2 : (i : Int) ≤ 32 := by omega
          have HR3 := hidK (show R = true by rw [HR2.out]; simp [h1, h2])
          go_wp2_with fail
          all_goals go_ret
          all_goals exact ⟨by rw [HR3.out]; rfl, rfl⟩
        · have k1 : (1 : Int) ≤ (i : Int) := by omega
          have k2 : ¬ (i : Int) ≤ 32 := by omega
          have HR3 := hidK (show R = false by rw [HR2.out]; simp [h2])
          go_wp2_with fail
          all_goals go_ret
          all_goals exact ⟨by rw [HR3.out]; rfl, rfl⟩
      · have k1 : ¬ (1 : Int) ≤ (i : Int) := by omega
        have HR3 := hidK (show R = false by rw [HR2.out]; simp [h1])
        go_wp2_with fail
        all_goals go_ret
        all_goals exact ⟨by rw [HR3.out]; rfl, rfl⟩

/-- Where a place ends. -/
def endI (from_ : Nat) : Option Nat → Int
  | some k => ((from_ + k : Nat) : Int)
  | none => -1
theorem pass_brace {l : List UInt8} {c : UInt8} (hc : l.head? = some c) : (passF l).2 = -1 ↔ c.toNat = 125 := by
  match l, hc with
  | [d], hc =>
    simp at hc
    subst hc
    simp only [passF]
    split
    · simp_all
    · simp_all
  | d :: e :: r, hc =>
    simp at hc
    subst hc
    simp only [passF]
    split
    · simp_all
    · split
      · split
        · simp_all
        · split <;> simp_all
      · simp_all
theorem pass_one {l : List UInt8} (h : (passF l).2 = -1) : (passF l).1 = 1 := by
  match l with
  | [] => rfl
  | [d] => simp only [passF]; split <;> rfl
  | d :: e :: r =>
    simp only [passF] at h ⊢
    split
    · rfl
    · rename_i h1
      rw [if_neg h1] at h
      split
      · rename_i h2
        rw [if_pos h2] at h
        split
        · rename_i h3
          rw [if_pos h3] at h
          simp at h
        · rename_i h3
          rw [if_neg h3] at h
          split
          · rename_i h4
            rw [if_pos h4] at h
            simp at h
          · rfl
      · rfl
set_option maxHeartbeats 4000000 in
theorem endR_any (l : List UInt8) (hl : l.length ≤ 2147483647) (k0 : Nat) (hk0 : k0 ≤ l.length) (w : World) : Calls Tryz.prog 25 #[.string (str l), .int .i64 (k0 : Int)] w fun e w' => e = .returned (.int .i64 (endI k0 (insideF (l.drop k0)))) ∧ w = w' := by
  have hs : (str l).size = l.length := rfl
  have HG : Hid (∀ (i : Nat) (c : UInt8), l[i]? = some c → ∀ h : i < (str l).size, (str l)[i] = c) := fun i c hc h => str_getF l i c hc h
  have HPa := hidK fun (i : Nat) (hi : i < l.length) W => passedR_any l hl i hi W
  obtain ⟨z, hz⟩ : ∃ z, str l = z := ⟨_, rfl⟩
  rw [hz] at hs HG HPa ⊢
  obtain ⟨n, hn⟩ : ∃ n, l.length = n := ⟨_, rfl⟩
  have HN := hidK hn
  rw [hn] at hs hl hk0 HPa
  obtain ⟨Q, hQ⟩ : ∃ Q, insideF (l.drop k0) = Q := ⟨_, rfl⟩
  have HQ : Hid (insG (n - k0) (l.drop k0) 1 0 = Q) := by
    rw [← hQ]
    show _ = insG (l.drop k0).length (l.drop k0) 1 0
    rw [List.length_drop, hn]
  rw [hQ]
  clear hz hn hQ
  go_enter Tryz.func25, Tryz.ntmps25
  go_wp2_with fail
  go_loopw [5, 6] (fun s5 s6 wx => ∃ (i d f : Nat), k0 ≤ i ∧ i ≤ n ∧ 1 ≤ d ∧ d ≤ n + 1 ∧ s5 = .int .i64 (d : Int) ∧ s6 = .int .i64 (i : Int) ∧ Hid (n - i ≤ f ∧ d + (n - i) ≤ n + 1 + (n - i) ∧ d ≤ i - k0 + 1) ∧ Hid (insG f (l.drop i) (d : Int) (i - k0) = Q) ∧ wx = w) (fun _ v _ => n - (intOf v).toNat)
  case atStart => exact ⟨k0, 1, n - k0, Nat.le_refl _, hk0, Nat.le_refl _, by omega, rfl, rfl, ⟨Nat.le_refl _, by omega, by omega⟩, by rw [Nat.sub_self]; exact HQ.out, rfl⟩
  case round =>
    obtain ⟨i, d, f, hki, hi, hd1, hdn, rfl, rfl, HF, HI, rfl⟩ := hrel
    by_cases hin : i < n
    · obtain ⟨c, hc⟩ : ∃ c, l[i]? = some c := ⟨_, List.getElem?_eq_getElem (by rw [HN.out]; exact hin)⟩
      have hzi : i < z.size := by omega
      have g0 := HG.out i c hc hzi
      have HP := hidK (HPa.out i hin)
      have hdr := drop_two hc
      have hne : l.drop i ≠ [] := by rw [hdr]; simp
      have hpp := pass_pos (l.drop i)
      have hpl := pass_le hne
      have hps := pass_small (l.drop i)
      have hbr := pass_brace (l := l.drop i) (c := c) (by rw [hdr]; rfl)
      have hone := fun h => pass_one (l := l.drop i) h
      obtain ⟨f', rfl⟩ : ∃ f', f = f' + 1 := ⟨f - 1, by have := HF.out; omega⟩
      have hI := HI.out
      unfold insG at hI
      rw [if_neg hne, List.drop_drop] at hI
      rw [List.length_drop, HN.out] at hpl
      obtain ⟨P, hP⟩ : ∃ P, passF (l.drop i) = P := ⟨_, rfl⟩
      rw [hP] at HP hpp hpl hps hbr hone hI
      obtain ⟨a, b⟩ := P
      simp only at HP hpp hpl hps hbr hone hI
      have HI2 := hidK hI
      have HBr := hidK hbr
      have HOne := hidK hone
      clear hc hdr hne hI hP hbr hone HI
      have hb3 : b = 1 ∨ b = 0 ∨ b = -1 := by omega
      rcases hb3 with rfl | rfl | rfl
      · have hc125 : ¬ c.toNat = 125 := fun h => by have := HBr.out.2 h; omega
        have HI3 : Hid (insG f' (l.drop (i + a)) ((d + 1 : Nat) : Int) (i + a - k0) = Q) := by
          have h := HI2.out
          rw [if_neg (by omega), show i - k0 + a = i + a - k0 by omega] at h
          exact h
        clear HI2 HBr HOne
        go_wp2_with fail
        refine (HP.out _).mono ?_
        rintro e w2 ⟨rfl, rfl⟩
        go_wp2_with fail
        all_goals (
          go_roundw
          case rel => exact ⟨i + a, d + 1, f', by omega, by omega, by omega, by have := HF.out; omega, by go_num, by go_num, by have := HF.out; exact ⟨by omega, by omega, by omega⟩, HI3.out, by first | rfl | trivial⟩
          case measure => simp [intOf]; omega)
      · have hc125 : ¬ c.toNat = 125 := fun h => by have := HBr.out.2 h; omega
        have HI3 : Hid (insG f' (l.drop (i + a)) (d : Int) (i + a - k0) = Q) := by
          have h := HI2.out
          rw [if_neg (by omega), show i - k0 + a = i + a - k0 by omega, Int.add_zero] at h
          exact h
        clear HI2 HBr HOne
        go_wp2_with fail
        refine (HP.out _).mono ?_
        rintro e w2 ⟨rfl, rfl⟩
        go_wp2_with fail
        all_goals (
          go_roundw
          case rel => exact ⟨i + a, d, f', by omega, by omega, by omega, by omega, by go_num, by go_num, by have := HF.out; exact ⟨by omega, by omega, by omega⟩, HI3.out, by first | rfl | trivial⟩
          case measure => simp [intOf]; omega)
      · have hc125 : c.toNat = 125 := HBr.out.1 rfl
        have ha1 : a = 1 := HOne.out rfl
        subst ha1
        by_cases hd : d = 1
        · subst hd
          have HQ2 : Hid (endI k0 Q = (i : Int)) := by
            have h := HI2.out
            rw [if_pos (by decide)] at h
            rw [← h]
            show ((k0 + (i - k0) : Nat) : Int) = (i : Int)
            omega
          clear HI2 HBr HOne
          go_wp2_with fail
          refine (HP.out _).mono ?_
          rintro e w2 ⟨rfl, rfl⟩
          go_wp2_with fail
          all_goals go_ret
          all_goals exact ⟨by rw [HQ2.out]; rfl, rfl⟩
        · obtain ⟨d', rfl⟩ : ∃ d', d = d' + 2 := ⟨d - 2, by omega⟩
          have HI3 : Hid (insG f' (l.drop (i + 1)) ((d' + 1 : Nat) : Int) (i + 1 - k0) = Q) := by
            have h := HI2.out
            rw [if_neg (by omega), show i - k0 + 1 = i + 1 - k0 by omega, show ((d' + 2 : Nat) : Int) + -1 = ((d' + 1 : Nat) : Int) by omega] at h
            exact h
          clear HI2 HBr HOne hd
          go_wp2_with fail
          refine (HP.out _).mono ?_
          rintro e w2 ⟨rfl, rfl⟩
          go_wp2_with fail
          all_goals (
            go_roundw
            case rel => exact ⟨i + 1, d' + 1, f', by omega, by omega, by omega, by omega, by go_num, by go_num, by have := HF.out; exact ⟨by omega, by omega, by omega⟩, HI3.out, by first | rfl | trivial⟩
            case measure => simp [intOf]; omega)
    · obtain rfl : i = n := by omega
      have HQ2 : Hid (endI k0 Q = -1) := by
        have h := HI.out
        rw [List.drop_eq_nil_of_le (by rw [HN.out]; exact Nat.le_refl _)] at h
        have e : insG f [] (d : Int) (i - k0) = none := by
          cases f with
          | zero => rfl
          | succ f => unfold insG; rw [if_pos rfl]
        rw [e] at h
        rw [← h]
        rfl
      clear HI
      go_wp2_with fail
      all_goals go_ret
      all_goals exact ⟨by rw [HQ2.out]; rfl, rfl⟩

end Go.Proofs.YtlfcjcaofhcfnaaGreatDoor
