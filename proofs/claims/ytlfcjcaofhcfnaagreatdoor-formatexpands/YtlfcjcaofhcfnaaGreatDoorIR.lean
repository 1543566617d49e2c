/-
  Formats: the other heads, as the document says them.
  Formats: the other heads, as the document says them.
  Formats: the other heads, as the document says them.
  Formats: every head, as the document says it.
  Formats: a place, as the document says it.
-/
import Derived.Test.YtlfcjcaofhcfnaaGreatDoorIQ
import Derived.Test.YtlfcjcaofhcfnaaGreatDoorIO
import Derived.Test.YtlfcjcaofhcfnaaGreatDoorIK
import Derived.Test.YtlfcjcaofhcfnaaGreatDoorIC
import Derived.Test.YtlfcjcaofhcfnaaGreatDoorIB
namespace Go.Proofs.YtlfcjcaofhcfnaaGreatDoor
open Go.RowKit
set_option linter.unusedVariables false
set_option maxRecDepth 100000

set_option maxHeartbeats 8000000 in
theorem headedR_lit {vs : Vars} {sv : Value} {r : Nat} {D : Int} (hD : 0 ≤ D ∧ D ≤ 15) (hS : SayR vs sv r (D + 1)) (nm : List UInt8) (hnm : nm.length ≤ 1048576) (k1 : decide (nm ∈ cmpL) = false) (k2 : decide (nm ∈ sumL) = false) (k3 : (nm == [109]) = false) (k4 : (nm == [124, 124]) = false) (k5 : (nm == [38, 38]) = false) (k6 : (nm == [108]) = true) (k7 : (nm == [33]) = false)
    (rest : List UInt8) (hl : rest.length ≤ 1048576) (w : World) (hE : RE w sv vs) : Calls Tryz.prog 77 #[.string (str nm), .string (str rest), sv, .int .i64 D] w fun e w' => e = ansF (resF (some (.ok rest))) ∧ Below w.heap.size w w' := by
  have HCm := hidK fun W => compares_any W
  have HSu := hidK fun W => sumsL_any W
  have HI1 := hidK fun W v (h : strAt W v cmpL) => isInR_any nm (by omega) cmpL (by decide) W v h
  have HI2 := hidK fun W v (h : strAt W v sumL) => isInR_any nm (by omega) sumL (by decide) W v h
  rw [k1] at HI1
  rw [k2] at HI2
  have z3 : ((str nm).toList == [109]) = false := by rw [str_toList]; exact k3
  have y3 : ¬ (str nm).toList = [109] := by rw [str_toList]; exact beq_eq_false_iff_ne.1 k3
  have z4 : ((str nm).toList == [124, 124]) = false := by rw [str_toList]; exact k4
  have y4 : ¬ (str nm).toList = [124, 124] := by rw [str_toList]; exact beq_eq_false_iff_ne.1 k4
  have z5 : ((str nm).toList == [38, 38]) = false := by rw [str_toList]; exact k5
  have y5 : ¬ (str nm).toList = [38, 38] := by rw [str_toList]; exact beq_eq_false_iff_ne.1 k5
  have z6 : ((str nm).toList == [108]) = true := by rw [str_toList]; exact k6
  have y6 : (str nm).toList = [108] := by rw [str_toList]; exact beq_iff_eq.1 k6
  have z7 : ((str nm).toList == [33]) = false := by rw [str_toList]; exact k7
  have y7 : ¬ (str nm).toList = [33] := by rw [str_toList]; exact beq_eq_false_iff_ne.1 k7
  have HE := hidK hE
  have HO := hidK fun W (h : RE W sv vs) => operandR_any hD hS rest hl W h
  obtain ⟨R, hR⟩ : ∃ R, turnsF nm = some R := turns_told _
  have HTu := hidK fun W => turnsR_any nm (by omega) R hR W
  have HTR := hidK hR
  obtain ⟨z, hz⟩ : ∃ z, str nm = z := ⟨_, rfl⟩
  rw [hz] at HI1 HI2 HTu z3 y3 z4 y4 z5 y5 z6 y6 z7 y7 ⊢
  obtain ⟨q, hq⟩ : ∃ q, str rest = q := ⟨_, rfl⟩
  rw [hq] at HO ⊢
  have HQ := hidK hq
  clear hS hE hz hq k1 k2 k3 k4 k5 k6 k7 hl hnm
  go_enter Tryz.func77, Tryz.ntmps77
  go_wp2_with fail
  refine (HCm.out _).mono ?_
  rintro e w1 ⟨v1, rfl, hv1, hb1⟩
  have HV1 := hidK hv1
  have HB1 := hidK hb1
  clear hv1 hb1
  go_wp2_with fail
  refine (HI1.out _ _ HV1.out).mono ?_
  rintro e w1' ⟨rfl, rfl⟩
  go_wp2_with fail
  refine (HSu.out _).mono ?_
  rintro e w2 ⟨v2, rfl, hv2, hb2⟩
  have HV2 := hidK hv2
  have HB2 := hidK (HB1.out.trans (hb2.mono HB1.out.size))
  clear hv2 hb2
  go_wp2_with fail
  refine (HI2.out _ _ HV2.out).mono ?_
  rintro e w2' ⟨rfl, rfl⟩
  go_wp2_with fail
  all_goals go_ret2
  all_goals exact ⟨by show _ = Ending.returned (.tuple #[.string (str rest), .int .i64 0]); rw [HQ.out]; rfl, HB2.out⟩

end Go.Proofs.YtlfcjcaofhcfnaaGreatDoor

namespace Go.Proofs.YtlfcjcaofhcfnaaGreatDoor
open Go.RowKit
set_option linter.unusedVariables false
set_option maxRecDepth 100000

set_option maxHeartbeats 8000000 in
theorem headedR_not {vs : Vars} {sv : Value} {r : Nat} {D : Int} (hD : 0 ≤ D ∧ D ≤ 15) (hS : SayR vs sv r (D + 1)) (nm : List UInt8) (hnm : nm.length ≤ 1048576) (k1 : decide (nm ∈ cmpL) = false) (k2 : decide (nm ∈ sumL) = false) (k3 : (nm == [109]) = false) (k4 : (nm == [124, 124]) = false) (k5 : (nm == [38, 38]) = false) (k6 : (nm == [108]) = false) (k7 : (nm == [33]) = true)
    (rest : List UInt8) (hl : rest.length ≤ 1048576) (w : World) (hE : RE w sv vs) : Calls Tryz.prog 77 #[.string (str nm), .string (str rest), sv, .int .i64 D] w fun e w' => e = ansF (resF (notF (operandF (sayF vs r) vs rest))) ∧ Below w.heap.size w w' := by
  have HCm := hidK fun W => compares_any W
  have HSu := hidK fun W => sumsL_any W
  have HI1 := hidK fun W v (h : strAt W v cmpL) => isInR_any nm (by omega) cmpL (by decide) W v h
  have HI2 := hidK fun W v (h : strAt W v sumL) => isInR_any nm (by omega) sumL (by decide) W v h
  rw [k1] at HI1
  rw [k2] at HI2
  have z3 : ((str nm).toList == [109]) = false := by rw [str_toList]; exact k3
  have y3 : ¬ (str nm).toList = [109] := by rw [str_toList]; exact beq_eq_false_iff_ne.1 k3
  have z4 : ((str nm).toList == [124, 124]) = false := by rw [str_toList]; exact k4
  have y4 : ¬ (str nm).toList = [124, 124] := by rw [str_toList]; exact beq_eq_false_iff_ne.1 k4
  have z5 : ((str nm).toList == [38, 38]) = false := by rw [str_toList]; exact k5
  have y5 : ¬ (str nm).toList = [38, 38] := by rw [str_toList]; exact beq_eq_false_iff_ne.1 k5
  have z6 : ((str nm).toList == [108]) = false := by rw [str_toList]; exact k6
  have y6 : ¬ (str nm).toList = [108] := by rw [str_toList]; exact beq_eq_false_iff_ne.1 k6
  have z7 : ((str nm).toList == [33]) = true := by rw [str_toList]; exact k7
  have y7 : (str nm).toList = [33] := by rw [str_toList]; exact beq_iff_eq.1 k7
  have HE := hidK hE
  have HO := hidK fun W (h : RE W sv vs) => operandR_any hD hS rest hl W h
  obtain ⟨R, hR⟩ : ∃ R, turnsF nm = some R := turns_told _
  have HTu := hidK fun W => turnsR_any nm (by omega) R hR W
  have HTR := hidK hR
  obtain ⟨z, hz⟩ : ∃ z, str nm = z := ⟨_, rfl⟩
  rw [hz] at HI1 HI2 HTu z3 y3 z4 y4 z5 y5 z6 y6 z7 y7 ⊢
  obtain ⟨q, hq⟩ : ∃ q, str rest = q := ⟨_, rfl⟩
  rw [hq] at HO ⊢
  have HQ := hidK hq
  clear hS hE hz hq k1 k2 k3 k4 k5 k6 k7 hl hnm
  go_enter Tryz.func77, Tryz.ntmps77
  go_wp2_with fail
  refine (HCm.out _).mono ?_
  rintro e w1 ⟨v1, rfl, hv1, hb1⟩
  have HV1 := hidK hv1
  have HB1 := hidK hb1
  clear hv1 hb1
  go_wp2_with fail
  refine (HI1.out _ _ HV1.out).mono ?_
  rintro e w1' ⟨rfl, rfl⟩
  go_wp2_with fail
  refine (HSu.out _).mono ?_
  rintro e w2 ⟨v2, rfl, hv2, hb2⟩
  have HV2 := hidK hv2
  have HB2 := hidK (HB1.out.trans (hb2.mono HB1.out.size))
  clear hv2 hb2
  go_wp2_with fail
  refine (HI2.out _ _ HV2.out).mono ?_
  rintro e w2' ⟨rfl, rfl⟩
  go_wp2_with fail
  refine (HTu.out _).mono ?_
  rintro e w3 ⟨v, rfl, hv⟩
  obtain ⟨ad, cap, rfl, hat⟩ := hv.trns
  have HB3 := hidK (HB2.out.trans (hv.below.mono HB2.out.size))
  have HE3 := hidK (HE.out.below HB3.out)
  have HC := hidK hat
  have hmx : (R.getD []).length ≤ 9223372036854775807 := by have := hv.row.len; unfold maxLen at this; omega
  clear hat hv HE HI1 HI2 HCm HSu HV1 HV2 HB1 HB2 HTu
  obtain ⟨n, hn⟩ : ∃ n, (R.getD []).length = n := ⟨_, rfl⟩
  rw [hn] at hmx ⊢
  clear hn HC
  obtain ⟨t, hx⟩ : ∃ x, operandF (sayF vs r) vs rest = some x := operand_told (fun l => say_told vs r l) vs rest
  have HF := hidK (HO.out w3 HE3.out)
  rw [hx] at HF
  cases t with
  | error m =>
    have hm : ¬ m = 0 := bad_operand (bad_say vs r) vs rest m hx
    have HR : Hid (resF (notF (operandF (sayF vs r) vs rest)) = .error m) := by show _ = _; rw [hx]; rfl
    clear hx
    go_wp2_with fail
    refine HF.out.mono ?_
    rintro e w5 ⟨rfl, hb5⟩
    have HB5 := hidK (HB3.out.trans (hb5.mono HB3.out.size))
    clear hb5
    simp only [resF, Option.getD_some, ansF]
    go_wp2_with fail
    all_goals go_ret2
    all_goals exact ⟨by rw [HR.out]; rfl, HB5.out⟩
  | ok s =>
    have HT := hidK fun W => truthR_any s W
    have HY := hidK fun W => yesR_any (!truthF s) W
    obtain ⟨zs, hzs⟩ : ∃ z, str s = z := ⟨_, rfl⟩
    have HF2 : Hid (Calls Tryz.prog 113 #[.string q, sv, .int .i64 D] w3 fun e w' => e = .returned (.tuple #[.string zs, .int .i64 0]) ∧ Below w3.heap.size w3 w') := HF.out.mono fun e w' ⟨h1, h2⟩ => ⟨by rw [h1, ← hzs]; rfl, h2⟩
    rw [hzs] at HT
    obtain ⟨yy, hyy⟩ : ∃ z, str (yesF (!truthF s)) = z := ⟨_, rfl⟩
    rw [hyy] at HY
    have HA : Hid (ansF (resF (notF (operandF (sayF vs r) vs rest))) = .returned (.tuple #[.string yy, .int .i64 0])) := by show _ = _; rw [hx, ← hyy]; rfl
    obtain ⟨tb, htb⟩ : ∃ tb, truthF s = tb := ⟨_, rfl⟩
    rw [htb] at HT HY
    clear hzs hyy htb HF hx
    go_wp2_with fail
    refine HF2.out.mono ?_
    rintro e w5 ⟨rfl, hb5⟩
    have HB5 := hidK (HB3.out.trans (hb5.mono HB3.out.size))
    clear hb5
    go_wp2_with fail
    refine (HT.out _).mono ?_
    rintro e w6 ⟨rfl, rfl⟩
    go_wp2_with fail
    refine (HY.out _).mono ?_
    rintro e w6 ⟨rfl, rfl⟩
    go_wp2_with fail
    all_goals go_ret2
    all_goals exact ⟨by rw [HA.out]; rfl, HB5.out⟩

end Go.Proofs.YtlfcjcaofhcfnaaGreatDoor

namespace Go.Proofs.YtlfcjcaofhcfnaaGreatDoor
open Go.RowKit
set_option linter.unusedVariables false
set_option maxRecDepth 100000

structure TdI (ts : List Turn) (k : Nat) (s : List UInt8) (A : Except Int (List UInt8)) : Prop where
  all : turnedF (ts.drop k) s = some A
  len : s.length ≤ 2147483647
theorem TdI.step {ts : List Turn} {k : Nat} {s : List UInt8} {A : Except Int (List UInt8)} (h : TdI ts k s A) {t : Turn} (ht : ts[k]? = some t) (hf : t.fits) (hs : ¬ 1024 < (docTurn t s).length) : TdI ts (k + 1) (docTurn t s) A := by
  have h1 := h.all
  obtain ⟨e1, e2⟩ := turned_far hf (l := s)
  have hs2 : ¬ 1024 < (t.of s).length := fun h => hs (e1.1 h)
  rw [drop_twoL ht] at h1
  simp only [turnedF, if_neg hs2] at h1
  refine ⟨?_, by omega⟩
  rw [e2 hs2]
  exact h1
theorem TdI.stop {ts : List Turn} {k : Nat} {s : List UInt8} {A : Except Int (List UInt8)} (h : TdI ts k s A) {t : Turn} (ht : ts[k]? = some t) (hf : t.fits) (hs : 1024 < (docTurn t s).length) : A = .error 2 := by
  have h1 := h.all
  obtain ⟨e1, e2⟩ := turned_far hf (l := s)
  rw [drop_twoL ht] at h1
  simp only [turnedF, if_pos (e1.2 hs)] at h1
  exact (Option.some.inj h1).symm
theorem TdI.done {ts : List Turn} {k : Nat} {s : List UInt8} {A : Except Int (List UInt8)} (h : TdI ts k s A) (hk : ts.length ≤ k) : A = .ok s := by
  have h1 := h.all
  rw [List.drop_eq_nil_of_le hk] at h1
  exact (Option.some.inj h1).symm
set_option maxHeartbeats 8000000 in
theorem headedR_turn {vs : Vars} {sv : Value} {r : Nat} {D : Int} (hD : 0 ≤ D ∧ D ≤ 15) (hS : SayR vs sv r (D + 1)) (nm : List UInt8) (hnm : nm.length ≤ 1048576) (k1 : decide (nm ∈ cmpL) = false) (k2 : decide (nm ∈ sumL) = false) (k3 : (nm == [109]) = false) (k4 : (nm == [124, 124]) = false) (k5 : (nm == [38, 38]) = false) (k6 : (nm == [108]) = false) (k7 : (nm == [33]) = false)
    (rest : List UInt8) (hl : rest.length ≤ 1048576) (w : World) (hE : RE w sv vs) : Calls Tryz.prog 77 #[.string (str nm), .string (str rest), sv, .int .i64 D] w fun e w' => e = ansF (resF (match turnsF nm with | none => none | some none => some (.error 100) | some (some ts) => (operandF (sayF vs r) vs rest).then (turnedF ts))) ∧ Below w.heap.size w w' := by
  have HCm := hidK fun W => compares_any W
  have HSu := hidK fun W => sumsL_any W
  have HI1 := hidK fun W v (h : strAt W v cmpL) => isInR_any nm (by omega) cmpL (by decide) W v h
  have HI2 := hidK fun W v (h : strAt W v sumL) => isInR_any nm (by omega) sumL (by decide) W v h
  rw [k1] at HI1
  rw [k2] at HI2
  have z3 : ((str nm).toList == [109]) = false := by rw [str_toList]; exact k3
  have y3 : ¬ (str nm).toList = [109] := by rw [str_toList]; exact beq_eq_false_iff_ne.1 k3
  have z4 : ((str nm).toList == [124, 124]) = false := by rw [str_toList]; exact k4
  have y4 : ¬ (str nm).toList = [124, 124] := by rw [str_toList]; exact beq_eq_false_iff_ne.1 k4
  have z5 : ((str nm).toList == [38, 38]) = false := by rw [str_toList]; exact k5
  have y5 : ¬ (str nm).toList = [38, 38] := by rw [str_toList]; exact beq_eq_false_iff_ne.1 k5
  have z6 : ((str nm).toList == [108]) = false := by rw [str_toList]; exact k6
  have y6 : ¬ (str nm).toList = [108] := by rw [str_toList]; exact beq_eq_false_iff_ne.1 k6
  have z7 : ((str nm).toList == [33]) = false := by rw [str_toList]; exact k7
  have y7 : ¬ (str nm).toList = [33] := by rw [str_toList]; exact beq_eq_false_iff_ne.1 k7
  have HE := hidK hE
  have HO := hidK fun W (h : RE W sv vs) => operandR_any hD hS rest hl W h
  obtain ⟨R, hR⟩ : ∃ R, turnsF nm = some R := turns_told _
  have HTu := hidK fun W => turnsR_any nm (by omega) R hR W
  have HTR := hidK hR
  have HFi : Hid (∀ ts, R = some ts → (∀ t ∈ ts, t.fits) ∧ ts.length = (splitG 59 [] nm).length) := fun ts e => turns_fits hnm (by rw [← e]; exact hR)
  have HNe : Hid (0 < (splitG 59 [] nm).length) := by
    show 0 < _
    obtain ⟨h, t, e, _⟩ := split_ahead 59 [] nm []
    rw [e]
    simp
  rw [hR]
  obtain ⟨z, hz⟩ : ∃ z, str nm = z := ⟨_, rfl⟩
  rw [hz] at HI1 HI2 HTu z3 y3 z4 y4 z5 y5 z6 y6 z7 y7 ⊢
  obtain ⟨q, hq⟩ : ∃ q, str rest = q := ⟨_, rfl⟩
  rw [hq] at HO ⊢
  have HQ := hidK hq
  clear hS hE hz hq k1 k2 k3 k4 k5 k6 k7 hl hnm
  go_enter Tryz.func77, Tryz.ntmps77
  go_wp2_with fail
  refine (HCm.out _).mono ?_
  rintro e w1 ⟨v1, rfl, hv1, hb1⟩
  have HV1 := hidK hv1
  have HB1 := hidK hb1
  clear hv1 hb1
  go_wp2_with fail
  refine (HI1.out _ _ HV1.out).mono ?_
  rintro e w1' ⟨rfl, rfl⟩
  go_wp2_with fail
  refine (HSu.out _).mono ?_
  rintro e w2 ⟨v2, rfl, hv2, hb2⟩
  have HV2 := hidK hv2
  have HB2 := hidK (HB1.out.trans (hb2.mono HB1.out.size))
  clear hv2 hb2
  go_wp2_with fail
  refine (HI2.out _ _ HV2.out).mono ?_
  rintro e w2' ⟨rfl, rfl⟩
  go_wp2_with fail
  refine (HTu.out _).mono ?_
  rintro e w3 ⟨v, rfl, hv⟩
  obtain ⟨ad, cap, rfl, hat⟩ := hv.trns
  have HB3 := hidK (HB2.out.trans (hv.below.mono HB2.out.size))
  have HE3 := hidK (HE.out.below HB3.out)
  have HC := hidK hat
  have hmx : (R.getD []).length ≤ 9223372036854775807 := by have := hv.row.len; unfold maxLen at this; omega
  clear hat hv HE HI1 HI2 HCm HSu HV1 HV2 HB1 HB2 HTu
  cases R with
  | none =>
    clear HC HO
    have e0 : ((none : Option (List Turn)).getD []).length = 0 := rfl
    rw [e0]
    go_wp2_with fail
    all_goals go_ret2
    all_goals exact ⟨rfl, HB3.out⟩
  | some ts =>
    obtain ⟨HFt, hlen⟩ := HFi.out ts rfl
    have HFt := hidK HFt
    have hpos := HNe.out
    rw [← hlen] at hpos
    have e0 : ((some ts : Option (List Turn)).getD []) = ts := rfl
    rw [e0] at HC hmx ⊢
    obtain ⟨n, hn⟩ : ∃ n, ts.length = n := ⟨_, rfl⟩
    rw [hn] at hmx hpos ⊢
    have HN := hidK hn
    clear hn hlen e0 HFi HNe
    have hn0 : ¬ (n : Int) = 0 := by omega
    obtain ⟨t, hx⟩ : ∃ x, operandF (sayF vs r) vs rest = some x := operand_told (fun l => say_told vs r l) vs rest
    have HF := hidK (HO.out w3 HE3.out)
    rw [hx] at HF
    cases t with
    | error m =>
      have hm : ¬ m = 0 := bad_operand (bad_say vs r) vs rest m hx
      have HR : Hid (resF ((operandF (sayF vs r) vs rest).then (turnedF ts)) = .error m) := by show _ = _; rw [hx]; rfl
      clear hx
      go_wp2_with fail
      refine HF.out.mono ?_
      rintro e w5 ⟨rfl, hb5⟩
      have HB5 := hidK (HB3.out.trans (hb5.mono HB3.out.size))
      clear hb5
      simp only [resF, Option.getD_some, ansF]
      go_wp2_with fail
      all_goals go_ret2
      all_goals exact ⟨by show _ = ansF (resF ((operandF (sayF vs r) vs rest).then (turnedF ts))); rw [HR.out]; rfl, HB5.out⟩
    | ok s =>
      have hsl : s.length ≤ 2147483647 := operand_short' HE3.out.short rest s hx
      obtain ⟨A, hA⟩ : ∃ A, turnedF ts s = some A := turned_told ts s
      have HI0 : Hid (TdI ts 0 s A) := ⟨hA, hsl⟩
      have HR : Hid (resF ((operandF (sayF vs r) vs rest).then (turnedF ts)) = A) := by show _ = _; rw [hx]; show (turnedF ts s).getD _ = _; rw [hA]; rfl
      have HF2 : Hid (Calls Tryz.prog 113 #[.string q, sv, .int .i64 D] w3 fun e w' => e = .returned (.tuple #[.string (str s), .int .i64 0]) ∧ Below w3.heap.size w3 w') := HF.out.mono fun e w' ⟨h1, h2⟩ => ⟨h1, h2⟩
      clear HF hx hA hsl
      obtain ⟨zs, hzs⟩ : ∃ z, str s = z := ⟨_, rfl⟩
      rw [hzs] at HF2
      have HZ := hidK hzs
      clear hzs
      go_wp2_with fail
      refine HF2.out.mono ?_
      rintro e w5 ⟨rfl, hb5⟩
      have HB5 := hidK hb5
      have HBw := hidK (HB3.out.trans (hb5.mono HB3.out.size))
      have HN5 := hidK (HE3.out.below hb5).num
      clear hb5 HF2
      go_wp2_with fail
      go_loopw [18, 20] (fun s18 s20 wx => ∃ (k : Nat) (x : List UInt8), k ≤ n ∧ s20 = .int .i64 (k : Int) ∧ s18 = .string (str x) ∧ Hid (TdI ts k x A) ∧ Hid (Below w5.heap.size w5 wx)) (fun _ v _ => n - (intOf v).toNat)
      case atStart => exact ⟨0, s, Nat.zero_le _, rfl, by rw [HZ.out], HI0.out, Below.refl _ _⟩
      case round =>
        obtain ⟨k, x, hk, rfl, rfl, HI, HBx⟩ := hrel
        by_cases hkn : k < n
        · obtain ⟨t, ht⟩ : ∃ t, ts[k]? = some t := ⟨_, List.getElem?_eq_getElem (by rw [HN.out]; exact hkn)⟩
          have hfit := HFt.out t (List.mem_of_getElem? ht)
          have hbx3 : Below w3.heap.size w3 wr := HB5.out.trans (HBx.out.mono HB5.out.size)
          obtain ⟨g, o, rfl, hc⟩ := HC.out wr hbx3 k t ht
          have HTd := hidK (turnedR_any t hfit x HI.out.len wr (HN5.out.below HBx.out))
          obtain ⟨a, b, c, d, hv, hcs⟩ := turn_four t
          rw [hv] at HTd
          rw [hcs] at hc
          have q0 : wr.cell? ⟨g, o + k * 4, none⟩ = some (.int .u8 a) := hc 0 _ rfl
          have q1 : wr.cell? ⟨g, o + k * 4 + 1, none⟩ = some (.int .i64 b) := hc 1 _ rfl
          have q2 : wr.cell? ⟨g, o + k * 4 + 2, none⟩ = some (.string c) := hc 2 _ rfl
          have q3 : wr.cell? ⟨g, o + k * 4 + 3, none⟩ = some (.string d) := hc 3 _ rfl
          have hsz : (str (docTurn t x)).size = (docTurn t x).length := rfl
          obtain ⟨y, hy⟩ : ∃ y, docTurn t x = y := ⟨_, rfl⟩
          obtain ⟨zy, hzy⟩ : ∃ z, str y = z := ⟨_, rfl⟩
          obtain ⟨zx, hzx⟩ : ∃ z, str x = z := ⟨_, rfl⟩
          rw [hy, hzy, hzx] at HTd
          rw [hy, hzy] at hsz
          rw [hzx]
          have HZy := hidK hzy
          by_cases hbig : 1024 < y.length
          · have HQ := hidK (HI.out.stop ht hfit (by rw [hy]; exact hbig))
            clear hc hv hcs hy hzy hzx ht hfit hbx3 HI
            go_wp2_with fail
            refine HTd.out.mono ?_
            rintro e w6 ⟨rfl, hb6⟩
            have HB6 := hidK (HBw.out.trans ((HBx.out.trans (hb6.mono HBx.out.size)).mono HBw.out.size))
            clear hb6
            go_wp2_with fail
            all_goals go_ret2
            all_goals exact ⟨by show _ = ansF (resF ((operandF (sayF vs r) vs rest).then (turnedF ts))); rw [HR.out, HQ.out]; rfl, HB6.out⟩
          · have HI2 := hidK (HI.out.step ht hfit (by rw [hy]; exact hbig))
            rw [hy] at HI2
            clear hc hv hcs hy hzy hzx ht hfit hbx3 HI
            go_wp2_with fail
            refine HTd.out.mono ?_
            rintro e w6 ⟨rfl, hb6⟩
            have HB6 := hidK (HBx.out.trans (hb6.mono HBx.out.size))
            clear hb6
            go_wp2_with fail
            all_goals (
              go_roundw
              case rel => exact ⟨k + 1, y, by omega, by go_num, by rw [HZy.out], HI2.out, HB6.out⟩
              case measure => simp [intOf]; omega)
        · obtain rfl : k = n := by omega
          have HQ := hidK (HI.out.done (by rw [HN.out]; exact Nat.le_refl _))
          go_wp2_with fail
          all_goals go_ret2
          all_goals exact ⟨by show _ = ansF (resF ((operandF (sayF vs r) vs rest).then (turnedF ts))); rw [HR.out, HQ.out]; rfl, HBw.out.trans (HBx.out.mono HBw.out.size)⟩

end Go.Proofs.YtlfcjcaofhcfnaaGreatDoor

namespace Go.Proofs.YtlfcjcaofhcfnaaGreatDoor
open Go.RowKit
set_option linter.unusedVariables false
set_option maxRecDepth 100000

theorem two_texts {ans : List UInt8 → List UInt8 → Except Int (List UInt8)} {q : List UInt8 → List UInt8 → Bool} (h : ∀ s t, ans s t = .ok (yesF (q s t))) (r : Option (Except Int (List UInt8 × List UInt8))) : twoA ans r = resF (textsF q r) := by
  cases r with
  | none => rfl
  | some x =>
    cases x with
    | error k => rfl
    | ok p =>
      obtain ⟨s, t⟩ := p
      exact h s t
theorem two_numbers {ans : List UInt8 → List UInt8 → Except Int (List UInt8)} {op : Int → Int → Option Int} (h : ∀ s t, ans s t = numR op s t) (r : Option (Except Int (List UInt8 × List UInt8))) : twoA ans r = resF (numbersF op r) := by
  cases r with
  | none => rfl
  | some x =>
    cases x with
    | error k => rfl
    | ok p =>
      obtain ⟨s, t⟩ := p
      show ans s t = _
      rw [h]
      simp only [numR, numbersF]
      cases wholeF s with
      | none => rfl
      | some a =>
        cases wholeF t with
        | none => rfl
        | some b =>
          show opR (op a b) = resF (match op a b with | none => some (.error 100) | some n => some (.ok (Lib.itoa n)))
          cases op a b <;> rfl
theorem hd_mem {nm : List UInt8} {hd : Hd} (h : hdOf nm = some hd) : (nm, hd) ∈ hdL := by
  unfold hdOf at h
  obtain ⟨p, h1, rfl⟩ := Option.map_eq_some_iff.1 h
  have h2 := List.find?_some h1
  have h3 := List.mem_of_find?_eq_some h1
  have h4 : p.1 = nm := by simpa using h2
  rw [← h4]
  exact h3
theorem hd_not {nm : List UInt8} (h : hdOf nm = none) : ∀ p ∈ hdL, nm ≠ p.1 := by
  intro p hp e
  unfold hdOf at h
  have h1 := Option.map_eq_none_iff.1 h
  have h2 := List.find?_eq_none.1 h1 p hp
  simp at h2
  exact h2 e.symm
theorem headedR_any {vs : Vars} {sv : Value} {r : Nat} {D : Int} (hD : 0 ≤ D ∧ D ≤ 15) (hS : SayR vs sv r (D + 1)) (nm : List UInt8) (hnm : nm.length ≤ 1048576) (rest : List UInt8) (hl : rest.length ≤ 1048576) (hbal0 : ∀ hd, hdOf nm = some hd → balF rest = true) (w : World) (hE : RE w sv vs) : Calls Tryz.prog 77 #[.string (str nm), .string (str rest), sv, .int .i64 D] w fun e w' => e = ansF (resF (headedF (sayF vs r) vs nm rest)) ∧ Below w.heap.size w w' := by
  have t1 : ∀ l, ∃ x, sayF vs r l = some x := say_told vs r
  have t2 : ∀ l, ∃ x, operandF (sayF vs r) vs l = some x := operand_told (fun l => say_told vs r l) vs
  have b1 : ∀ l k, sayF vs r l = some (.error k) → k ≠ 0 := fun l k h => bad_say vs r l k h
  have b2 : ∀ l k, operandF (sayF vs r) vs l = some (.error k) → k ≠ 0 := fun l k h => bad_operand (bad_say vs r) vs l k h
  have l1 : ∀ l s, sayF vs r l = some (.ok s) → s.length ≤ 2147483647 := say_short'
  have l2 : ∀ l s, operandF (sayF vs r) vs l = some (.ok s) → s.length ≤ 2147483647 := operand_short' hE.short
  have s1 := hS
  have s2 : ∀ (l : List UInt8) (w : World), RE w sv vs → l.length ≤ 1048576 → Calls Tryz.prog 113 #[.string (str l), sv, .int .i64 D] w fun e w' => e = ansF (resF (operandF (sayF vs r) vs l)) ∧ Below w.heap.size w w' := fun l W h h2 => operandR_any hD hS l h2 W h
  unfold headedF
  cases hh : hdOf nm with
  | some hd =>
    have hm := hd_mem hh
    have hbal := hbal0 hd hh
    clear hbal0
    simp only [hdL, List.mem_cons, List.not_mem_nil, or_false, Prod.mk.injEq] at hm
    clear hh
    show Calls _ _ _ _ fun e w' => e = ansF (resF (hd.run (sayF vs r) vs rest)) ∧ _
    rcases hm with ⟨rfl, rfl⟩ | ⟨rfl, rfl⟩ | ⟨rfl, rfl⟩ | ⟨rfl, rfl⟩ | ⟨rfl, rfl⟩ | ⟨rfl, rfl⟩ | ⟨rfl, rfl⟩ | ⟨rfl, rfl⟩ | ⟨rfl, rfl⟩ | ⟨rfl, rfl⟩ | ⟨rfl, rfl⟩ | ⟨rfl, rfl⟩ | ⟨rfl, rfl⟩ | ⟨rfl, rfl⟩ | ⟨rfl, rfl⟩ | ⟨rfl, rfl⟩ | ⟨rfl, rfl⟩ | ⟨rfl, rfl⟩ | ⟨rfl, rfl⟩
    · refine (headedR_cmp hD _ hnm (by decide) (by decide) (by decide) (by decide) _ t1 b1 l1 s1 (bothR .eq) (fun a b W _ _ _ => bothR_eq a b W) rest hl hbal w hE).mono fun e w' ⟨h1, h2⟩ => ⟨h1.trans (congrArg ansF (two_texts (fun _ _ => rfl) _)), h2⟩
    · refine (headedR_cmp hD _ hnm (by decide) (by decide) (by decide) (by decide) _ t1 b1 l1 s1 (bothR .ne) (fun a b W _ _ _ => bothR_ne a b W) rest hl hbal w hE).mono fun e w' ⟨h1, h2⟩ => ⟨h1.trans (congrArg ansF (two_texts (fun _ _ => rfl) _)), h2⟩
    · refine (headedR_cmp hD _ hnm (by decide) (by decide) (by decide) (by decide) _ t1 b1 l1 s1 (bothR .lt) (fun a b W _ _ _ => bothR_lt a b W) rest hl hbal w hE).mono fun e w' ⟨h1, h2⟩ => ⟨h1.trans (congrArg ansF (two_texts (fun _ _ => rfl) _)), h2⟩
    · refine (headedR_cmp hD _ hnm (by decide) (by decide) (by decide) (by decide) _ t1 b1 l1 s1 (bothR .gt) (fun a b W _ _ _ => bothR_gt a b W) rest hl hbal w hE).mono fun e w' ⟨h1, h2⟩ => ⟨h1.trans (congrArg ansF (two_texts (fun _ _ => rfl) _)), h2⟩
    · refine (headedR_cmp hD _ hnm (by decide) (by decide) (by decide) (by decide) _ t1 b1 l1 s1 (bothR .le) (fun a b W _ _ _ => bothR_le a b W) rest hl hbal w hE).mono fun e w' ⟨h1, h2⟩ => ⟨h1.trans (congrArg ansF (two_texts (fun _ _ => rfl) _)), h2⟩
    · refine (headedR_cmp hD _ hnm (by decide) (by decide) (by decide) (by decide) _ t1 b1 l1 s1 (bothR .ge) (fun a b W _ _ _ => bothR_ge a b W) rest hl hbal w hE).mono fun e w' ⟨h1, h2⟩ => ⟨h1.trans (congrArg ansF (two_texts (fun _ _ => rfl) _)), h2⟩
    · refine (headedR_mt hD _ hnm (by decide) (by decide) (by decide) (by decide) (by decide) _ t1 b1 l1 s1 (bothR .mt) (fun a b W ha hb _ => bothR_mt a b ha hb W) rest hl hbal w hE).mono fun e w' ⟨h1, h2⟩ => ⟨h1.trans (congrArg ansF (two_texts (fun _ _ => rfl) _)), h2⟩
    · refine (headedR_or hD _ hnm (by decide) (by decide) (by decide) (by decide) _ t2 b2 l2 s2 (bothR .or) (fun a b W _ _ _ => bothR_or a b W) rest hl hbal w hE).mono fun e w' ⟨h1, h2⟩ => ⟨h1.trans (congrArg ansF (two_texts (fun _ _ => rfl) _)), h2⟩
    · refine (headedR_an hD _ hnm (by decide) (by decide) (by decide) (by decide) (by decide) _ t2 b2 l2 s2 (bothR .an) (fun a b W _ _ _ => bothR_an a b W) rest hl hbal w hE).mono fun e w' ⟨h1, h2⟩ => ⟨h1.trans (congrArg ansF (two_texts (fun _ _ => rfl) _)), h2⟩
    · refine (headedR_sum hD _ hnm (by decide) (by decide) (by decide) _ t2 b2 l2 s2 (bothR .sm) (fun a b W ha hb hn => bothR_sm a b ha hb W hn) rest hl hbal w hE).mono fun e w' ⟨h1, h2⟩ => ⟨h1.trans (congrArg ansF (two_numbers (fun _ _ => rfl) _)), h2⟩
    · refine (headedR_sum hD _ hnm (by decide) (by decide) (by decide) _ t2 b2 l2 s2 (bothR .df) (fun a b W ha hb hn => bothR_df a b ha hb W hn) rest hl hbal w hE).mono fun e w' ⟨h1, h2⟩ => ⟨h1.trans (congrArg ansF (two_numbers (fun _ _ => rfl) _)), h2⟩
    · refine (headedR_sum hD _ hnm (by decide) (by decide) (by decide) _ t2 b2 l2 s2 (bothR .pr) (fun a b W ha hb hn => bothR_pr a b ha hb W hn) rest hl hbal w hE).mono fun e w' ⟨h1, h2⟩ => ⟨h1.trans (congrArg ansF (two_numbers (fun _ _ => rfl) _)), h2⟩
    · refine (headedR_sum hD _ hnm (by decide) (by decide) (by decide) _ t2 b2 l2 s2 (bothR .qt) (fun a b W ha hb hn => bothR_qt a b ha hb W hn) rest hl hbal w hE).mono fun e w' ⟨h1, h2⟩ => ⟨h1.trans (congrArg ansF (two_numbers (fun _ _ => rfl) _)), h2⟩
    · refine (headedR_sum hD _ hnm (by decide) (by decide) (by decide) _ t2 b2 l2 s2 (bothR .rm) (fun a b W ha hb hn => bothR_rm a b ha hb W hn) rest hl hbal w hE).mono fun e w' ⟨h1, h2⟩ => ⟨h1.trans (congrArg ansF (two_numbers (fun _ _ => rfl) _)), h2⟩
    · refine (headedR_sum hD _ hnm (by decide) (by decide) (by decide) _ t2 b2 l2 s2 (bothR .eqn) (fun a b W ha hb hn => bothR_eqn a b ha hb W hn) rest hl hbal w hE).mono fun e w' ⟨h1, h2⟩ => ⟨h1.trans (congrArg ansF (two_numbers (fun _ _ => rfl) _)), h2⟩
    · refine (headedR_sum hD _ hnm (by decide) (by decide) (by decide) _ t2 b2 l2 s2 (bothR .ltn) (fun a b W ha hb hn => bothR_ltn a b ha hb W hn) rest hl hbal w hE).mono fun e w' ⟨h1, h2⟩ => ⟨h1.trans (congrArg ansF (two_numbers (fun _ _ => rfl) _)), h2⟩
    · refine (headedR_sum hD _ hnm (by decide) (by decide) (by decide) _ t2 b2 l2 s2 (bothR .gtn) (fun a b W ha hb hn => bothR_gtn a b ha hb W hn) rest hl hbal w hE).mono fun e w' ⟨h1, h2⟩ => ⟨h1.trans (congrArg ansF (two_numbers (fun _ _ => rfl) _)), h2⟩
    · refine (headedR_not hD hS _ hnm (by decide) (by decide) (by decide) (by decide) (by decide) (by decide) (by decide) rest hl w hE).mono fun e w' ⟨h1, h2⟩ => ⟨h1, h2⟩
    · refine (headedR_lit hD hS _ hnm (by decide) (by decide) (by decide) (by decide) (by decide) (by decide) (by decide) rest hl w hE).mono fun e w' ⟨h1, h2⟩ => ⟨h1, h2⟩
  | none =>
    have hm := hd_not hh
    have ne : ∀ x : List UInt8, x ∈ headNames → nm ≠ x := fun x hx e => by
      rw [← hd_names] at hx
      obtain ⟨p, hp, rfl⟩ := List.mem_map.1 hx
      exact hm p hp e
    have nb : ∀ x : List UInt8, x ∈ headNames → (nm == x) = false := fun x hx => beq_eq_false_iff_ne.2 (ne x hx)
    have n1 : decide (nm ∈ cmpL) = false := decide_eq_false fun h => ne nm (by
      have : ∀ x ∈ cmpL, x ∈ headNames := by decide
      exact this nm h) rfl
    have n2 : decide (nm ∈ sumL) = false := decide_eq_false fun h => ne nm (by
      have : ∀ x ∈ sumL, x ∈ headNames := by decide
      exact this nm h) rfl
    exact headedR_turn hD hS nm hnm n1 n2 (nb _ (by decide)) (nb _ (by decide)) (nb _ (by decide)) (nb _ (by decide)) (nb _ (by decide)) rest hl w hE

end Go.Proofs.YtlfcjcaofhcfnaaGreatDoor

namespace Go.Proofs.YtlfcjcaofhcfnaaGreatDoor
open Go.RowKit
set_option linter.unusedVariables false
set_option maxRecDepth 100000

/-- What is left when it is no choice. -/
def leafP (sub : List UInt8 → Res) (vs : Vars) (l : List UInt8) : Res := match colonF l with
  | some k => headedF sub vs (l.take k) (l.drop (k + 1))
  | none => if identF l then some (.ok (valF vs l)) else some (.error 100)
set_option maxHeartbeats 4000000 in
theorem placeR_ask {vs : Vars} {sv : Value} {r : Nat} {D : Int} (hD : 0 ≤ D ∧ D ≤ 15) (hS : SayR vs sv r (D + 1)) (rest : List UInt8) (hl : rest.length + 1 ≤ 1048576) (hbal : balF (63 :: rest) = true) (w : World) (hE : RE w sv vs) : Calls Tryz.prog 26 #[.string (str (63 :: rest)), sv, .int .i64 D] w fun e w' => e = ansF (resF (choiceF (sayF vs r) vs rest)) ∧ Below w.heap.size w w' := by
  have HC := hidK (choiceR_any hD hS rest (by omega) (bal_next (by decide) hbal) w hE)
  have HG : ∀ h : 0 < (str (63 :: rest)).size, (str (63 :: rest))[0] = 63 := fun h => str_getF _ 0 63 rfl h
  have hx1 : (str (63 :: rest)).extract 1 (str (63 :: rest)).size = str rest := str_dropF (63 :: rest) 1
  have hs : (str (63 :: rest)).size = rest.length + 1 := rfl
  have k6 : ¬ (str (63 :: rest)).toList = [] := by rw [str_toList]; simp
  have k7 : (str (63 :: rest)).toList.isEmpty = false := by rw [str_toList]; rfl
  rw [hs] at hx1
  obtain ⟨z, hz⟩ : ∃ z, str (63 :: rest) = z := ⟨_, rfl⟩
  rw [hz] at HG hx1 hs k6 k7 ⊢
  obtain ⟨q, hq⟩ : ∃ q, str rest = q := ⟨_, rfl⟩
  rw [hq] at hx1 HC
  obtain ⟨A, hA⟩ : ∃ A, resF (choiceF (sayF vs r) vs rest) = A := ⟨_, rfl⟩
  rw [hA, ans_two] at HC ⊢
  obtain ⟨u, hu⟩ : ∃ u, str (txtF A) = u := ⟨_, rfl⟩
  obtain ⟨c, hc⟩ : ∃ c, codF A = c := ⟨_, rfl⟩
  rw [hu, hc] at HC ⊢
  have hz0 : 0 < z.size := by omega
  have g0 := HG hz0
  obtain ⟨n, hn⟩ : ∃ n, rest.length = n := ⟨_, rfl⟩
  rw [hn] at hx1 hs hl
  clear hz hq hA hu hc HG hS hE hbal hn
  go_enter Tryz.func26, Tryz.ntmps26
  go_wp2_with fail
  refine HC.out.mono ?_
  rintro e w1 ⟨rfl, hb⟩
  have HB := hidK hb
  clear hb
  go_wp2_with fail
  all_goals go_ret2
  all_goals exact ⟨rfl, HB.out⟩
theorem sliceF_from (A : ByteArray) (a : Nat) (h : a + 1 ≤ A.size) (W : World) : (Instr.slice 9 (.string A) (some (.int .i64 ((a : Int) + 1))) none none).run Tryz.prog W = .ok (.string (A.extract (a + 1) A.size)) W := by
  simp only [Instr.slice]
  go_simp
  intro hc
  have := hc (by omega)
  omega
set_option maxHeartbeats 4000000 in
theorem placeR_leaf {vs : Vars} {sv : Value} {r : Nat} {D : Int} (hD : 0 ≤ D ∧ D ≤ 15) (hS : SayR vs sv r (D + 1)) (l : List UInt8) (hl : l.length ≤ 1048576) (hbal : balF l = true) (hq : ∀ rest, l ≠ 63 :: rest) (w : World) (hE : RE w sv vs) : Calls Tryz.prog 26 #[.string (str l), sv, .int .i64 D] w fun e w' => e = ansF (resF (leafP (sayF vs r) vs l)) ∧ Below w.heap.size w w' := by
  have HCo := hidK fun W => colonR_any l (by omega) W
  have HI := hidK fun W => identR_any l (by omega) W
  have HV := hidK (valueR_any hE.vars l)
  have hs : (str l).size = l.length := rfl
  have HD : Hid (∀ k, (str l).extract k (str l).size = str (l.drop k)) := str_dropF l
  have HT : Hid (∀ k, (str l).extract 0 k = str (l.take k)) := str_takeF l
  have hfirst : (l = [] ∧ (str l).toList = [] ∧ (str l).toList.isEmpty = true) ∨ (0 < (str l).size ∧ ¬ (str l).toList = [] ∧ (str l).toList.isEmpty = false ∧ ∃ c : UInt8, ¬ (c.toNat : Int) = 63 ∧ ∀ h : 0 < (str l).size, (str l)[0] = c) := by
    cases l with
    | nil => exact .inl ⟨rfl, str_toList _, by rw [str_toList]; rfl⟩
    | cons c t => exact .inr ⟨Nat.zero_lt_succ _, by rw [str_toList]; simp, by rw [str_toList]; rfl, c, fun e => hq t (by
        have : c = 63 := UInt8.toNat_inj.1 (by have : c.toNat = 63 := by omega
                                               rw [this]; rfl)
        rw [this]), fun h => str_getF _ 0 c rfl h⟩
  have HH := hidK fun (k : Nat) (hk : colonF l = some k) (W : World) (hb : Below w.heap.size w W) => (headedR_any hD hS (l.take k) (by rw [List.length_take]; omega) (l.drop (k + 1)) (by rw [List.length_drop]; omega) (fun hd hh => bal_head hk (hd_some hh) hbal) W (hE.below hb)).mono (R' := fun e w' => e = ansF (resF (headedF (sayF vs r) vs (l.take k) (l.drop (k + 1)))) ∧ Below w.heap.size w w') fun e w' ⟨h1, h2⟩ => ⟨h1, hb.trans (h2.mono hb.size)⟩
  have hcl : ∀ k, colonF l = some k → k < l.length := fun k hk => by
    unfold colonF at hk
    exact (List.findIdx?_eq_some_iff_getElem.1 hk).1
  obtain ⟨z, hz⟩ : ∃ z, str l = z := ⟨_, rfl⟩
  rw [hz] at HCo HI HV hs HD HT hfirst ⊢
  clear hz hS hE hbal hq
  cases hco : colonF l with
  | some k =>
    have hkl := hcl k hco
    have hne : l ≠ [] := fun e => by rw [e] at hkl; simp at hkl
    have HF := hidK fun W hb => HH.out k hco W hb
    have HR : Hid (leafP (sayF vs r) vs l = headedF (sayF vs r) vs (l.take k) (l.drop (k + 1))) := by show _ = _; unfold leafP; rw [hco]
    have e1 := HT.out k
    have e2 := HD.out (k + 1)
    rw [hs] at e2
    obtain ⟨p, hp⟩ : ∃ p, str (l.take k) = p := ⟨_, rfl⟩
    obtain ⟨q, hq⟩ : ∃ q, str (l.drop (k + 1)) = q := ⟨_, rfl⟩
    rw [hp] at e1 HF
    rw [hq] at e2 HF
    obtain ⟨A, hA⟩ : ∃ A, resF (headedF (sayF vs r) vs (l.take k) (l.drop (k + 1))) = A := ⟨_, rfl⟩
    rw [hA, ans_two] at HF
    obtain ⟨u, hu⟩ : ∃ u, str (txtF A) = u := ⟨_, rfl⟩
    obtain ⟨c, hc⟩ : ∃ c, codF A = c := ⟨_, rfl⟩
    rw [hu, hc] at HF
    have HA : Hid (ansF (resF (leafP (sayF vs r) vs l)) = .returned (.tuple #[.string u, .int .i64 c])) := by show _ = _; rw [HR.out, hA, ans_two, hu, hc]
    have ec : colonI l = (k : Int) := by unfold colonI; rw [hco]
    rw [ec] at HCo
    clear ec
    obtain ⟨n, hn⟩ : ∃ n, l.length = n := ⟨_, rfl⟩
    rw [hn] at hs hl hkl e2
    clear hp hq hA hu hc hn hcl HH HI HV hco HD HT
    rcases hfirst with ⟨hl0, f1, f2⟩ | ⟨f0, f1, f2, c0, f3, f4⟩
    · exact absurd hl0 hne
    · have g0 := f4 f0
      have hsl := fun W => sliceF_from z k (by omega) W
      rw [hs, e2] at hsl
      have hb0 : (0 : Int) ≤ (k : Int) + 1 := by omega
      have hw : IntKind.i64.wrap ((k : Int) + 1) = (k : Int) + 1 := by simp only [IntKind.wrap, IntKind.bits, IntKind.signed]; simp; omega
      have hb1 : ¬ ((n : Int) < (k : Int) + 1) := by omega
      have hb2 : ¬ ((n : Int) < (k : Int)) := by omega
      clear f4
      go_enter Tryz.func26, Tryz.ntmps26
      go_wp2_with fail
      refine (HCo.out _).mono ?_
      rintro e w1 ⟨rfl, rfl⟩
      go_wp2_with fail
      go_region_with (go_at_call 77; refine (HF.out _ (by repeat (first | exact Below.refl _ _ | apply Below.drew))).mono ?_; rintro e w1 ⟨rfl, hb1⟩)
      all_goals go_wp2_with fail
      all_goals go_ret2
      all_goals exact ⟨by rw [HA.out]; rfl, by first | exact hb1 | exact hb1.drew⟩
  | none =>
    have ec : colonI l = -1 := by unfold colonI; rw [hco]
    rw [ec] at HCo
    clear ec
    have HR : Hid (leafP (sayF vs r) vs l = if identF l then some (.ok (valF vs l)) else some (.error 100)) := by show _ = _; unfold leafP; rw [hco]
    obtain ⟨y, hy⟩ : ∃ y, str (valF vs l) = y := ⟨_, rfl⟩
    rw [hy] at HV
    have HA1 : Hid (identF l = true → ansF (resF (leafP (sayF vs r) vs l)) = .returned (.tuple #[.string y, .int .i64 0])) := fun hi => by rw [HR.out, if_pos hi, ← hy]; rfl
    have HA2 : Hid (identF l = false → ansF (resF (leafP (sayF vs r) vs l)) = .returned (.tuple #[.string ⟨#[]⟩, .int .i64 100])) := fun hi => by rw [HR.out, if_neg (by rw [hi]; decide)]; rfl
    obtain ⟨n, hn⟩ : ∃ n, l.length = n := ⟨_, rfl⟩
    rw [hn] at hs hl
    clear hy hn hcl HH hco HD HT HR
    cases hi : identF l with
    | true =>
      rw [hi] at HI
      have HA := hidK (HA1.out hi)
      rcases hfirst with ⟨rfl, f1, f2⟩ | ⟨f0, f1, f2, c0, f3, f4⟩
      · cases hi
      · have g0 := f4 f0
        clear f4 hi
        go_enter Tryz.func26, Tryz.ntmps26
        go_wp2_with fail
        refine (HCo.out _).mono ?_
        rintro e w1 ⟨rfl, rfl⟩
        go_wp2_with fail
        refine (HI.out _).mono ?_
        rintro e w1 ⟨rfl, rfl⟩
        go_wp2_with fail
        refine HV.out.mono ?_
        rintro e w1 ⟨rfl, hb⟩
        have HB := hidK hb
        clear hb
        go_wp2_with fail
        all_goals go_ret2
        all_goals exact ⟨by rw [HA.out]; rfl, HB.out⟩
    | false =>
      rw [hi] at HI
      have HA := hidK (HA2.out hi)
      clear hi HA1 HA2
      rcases hfirst with ⟨hl0, f1, f2⟩ | ⟨f0, f1, f2, c0, f3, f4⟩
      · clear hl0
        go_enter Tryz.func26, Tryz.ntmps26
        go_wp2_with fail
        refine (HCo.out _).mono ?_
        rintro e w1 ⟨rfl, rfl⟩
        go_wp2_with fail
        refine (HI.out _).mono ?_
        rintro e w1 ⟨rfl, rfl⟩
        go_wp2_with fail
        all_goals go_ret2
        all_goals exact ⟨by rw [HA.out]; rfl, Below.refl _ _⟩
      · have g0 := f4 f0
        clear f4
        go_enter Tryz.func26, Tryz.ntmps26
        go_wp2_with fail
        refine (HCo.out _).mono ?_
        rintro e w1 ⟨rfl, rfl⟩
        go_wp2_with fail
        refine (HI.out _).mono ?_
        rintro e w1 ⟨rfl, rfl⟩
        go_wp2_with fail
        all_goals go_ret2
        all_goals exact ⟨by rw [HA.out]; rfl, Below.refl _ _⟩
theorem placeR_any {vs : Vars} {sv : Value} {r : Nat} {D : Int} (hD : 0 ≤ D ∧ D ≤ 15) (hS : SayR vs sv r (D + 1)) (l : List UInt8) (hl : l.length ≤ 1048576) (hbal : balF l = true) (w : World) (hE : RE w sv vs) : Calls Tryz.prog 26 #[.string (str l), sv, .int .i64 D] w fun e w' => e = ansF (resF (placeF (sayF vs r) vs l)) ∧ Below w.heap.size w w' := by
  by_cases hq : ∃ rest, l = 63 :: rest
  · obtain ⟨rest, rfl⟩ := hq
    exact placeR_ask hD hS rest hl hbal w hE
  · have hq2 : ∀ rest, l ≠ 63 :: rest := fun rest e => hq ⟨rest, e⟩
    have e : placeF (sayF vs r) vs l = leafP (sayF vs r) vs l := by
      unfold placeF leafP
      split
      · rename_i rest
        exact absurd rfl (hq2 rest)
      · rfl
    rw [e]
    exact placeR_leaf hD hS l hl hbal hq2 w hE

end Go.Proofs.YtlfcjcaofhcfnaaGreatDoor
