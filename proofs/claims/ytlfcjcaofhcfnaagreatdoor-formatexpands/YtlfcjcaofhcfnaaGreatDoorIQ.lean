/-
  Formats: what two parts say (pure).
  Formats: a head with two parts, as the document says it.
  Formats: a head with two parts, as the document says it.
  Formats: a head with two parts, as the document says it.
  Formats: a head with two parts, as the document says it.
  Formats: a head with two parts, as the document says it.
-/
import Derived.Test.YtlfcjcaofhcfnaaGreatDoorIL
import Derived.Test.YtlfcjcaofhcfnaaGreatDoorIO
import Derived.Test.YtlfcjcaofhcfnaaGreatDoorIP
namespace Go.Proofs.YtlfcjcaofhcfnaaGreatDoor
open Go.RowKit
set_option linter.unusedVariables false
set_option maxRecDepth 100000

def twoA (ans : List UInt8 → List UInt8 → Except Int (List UInt8)) : Option (Except Int (List UInt8 × List UInt8)) → Except Int (List UInt8)
  | none => .error 0
  | some (.error k) => .error k
  | some (.ok (s, t)) => ans s t
/-- How far the two parts have come: the block of their texts. -/
def HL (w3 wx : World) (sub : List UInt8 → Res) (a b : List UInt8) (k : Nat) : Prop := Below w3.heap.size w3 wx ∧ ∃ (x y : List UInt8) (T : TypeId), wx.heap[w3.heap.size]? = some (.cells #[.string (str x), .string (str y)] T (0, 0)) ∧ (1 ≤ k → sub a = some (.ok x)) ∧ (2 ≤ k → sub b = some (.ok y))

end Go.Proofs.YtlfcjcaofhcfnaaGreatDoor

namespace Go.Proofs.YtlfcjcaofhcfnaaGreatDoor
open Go.RowKit
set_option linter.unusedVariables false
set_option maxRecDepth 100000

set_option maxHeartbeats 8000000 in
theorem headedR_cmp {vs : Vars} {sv : Value} {D : Int} (hD : 0 ≤ D ∧ D ≤ 15) (nm : List UInt8) (hnm : nm.length ≤ 1048576) (k1 : decide (nm ∈ cmpL) = true) (k2 : decide (nm ∈ sumL) = false) (k4 : (nm == [124, 124]) = false) (k5 : (nm == [38, 38]) = false) (sub : List UInt8 → Res) (hT : ∀ l, ∃ x, sub l = some x) (hB : ∀ l k, sub l = some (.error k) → k ≠ 0) (hLen : ∀ l s, sub l = some (.ok s) → s.length ≤ 2147483647)
    (hS : ∀ (l : List UInt8) (w : World), RE w sv vs → l.length ≤ 1048576 → Calls Tryz.prog 12 #[.string (str l), sv, .int .i64 (D + 1)] w fun e w' => e = ansF (resF (sub l)) ∧ Below w.heap.size w w')
    (ans : List UInt8 → List UInt8 → Except Int (List UInt8)) (hA : ∀ (a b : List UInt8) (w : World), a.length ≤ 2147483647 → b.length ≤ 2147483647 → NEnv w → Calls Tryz.prog 118 #[.string (str nm), .string (str a), .string (str b)] w fun e w' => e = ansF (ans a b) ∧ Below w.heap.size w w')
    (rest : List UInt8) (hl : rest.length ≤ 1048576) (hbal : balF rest = true) (w : World) (hE : RE w sv vs) : Calls Tryz.prog 77 #[.string (str nm), .string (str rest), sv, .int .i64 D] w fun e w' => e = ansF (twoA ans (bothF sub rest)) ∧ Below w.heap.size w w' := by
  have HCm := hidK fun W => compares_any W
  have HSu := hidK fun W => sumsL_any W
  have HI1 := hidK fun W v (h : strAt W v cmpL) => isInR_any nm (by omega) cmpL (by decide) W v h
  have HI2 := hidK fun W v (h : strAt W v sumL) => isInR_any nm (by omega) sumL (by decide) W v h
  rw [k1] at HI1
  rw [k2] at HI2
  have z4 : ((str nm).toList == [124, 124]) = false := by rw [str_toList]; exact k4
  have y4 : ¬ (str nm).toList = [124, 124] := by rw [str_toList]; exact beq_eq_false_iff_ne.1 k4
  have z5 : ((str nm).toList == [38, 38]) = false := by rw [str_toList]; exact k5
  have y5 : ¬ (str nm).toList = [38, 38] := by rw [str_toList]; exact beq_eq_false_iff_ne.1 k5
  have HP := hidK fun W => partsR_any rest (by omega) hbal W
  have HSh : Hid (∀ q ∈ cutF rest, q.length ≤ 1048576) := fun q hq => Nat.le_trans (cutF_short hq) hl
  have HT := hidK hT
  have HBd := hidK hB
  have HLn := hidK hLen
  have HS := hidK hS
  have HA := hidK hA
  have HE := hidK hE
  have hbe : bothF sub rest = twoF sub (cutF rest) := rfl
  rw [hbe]
  obtain ⟨ps, hps⟩ : ∃ ps, cutF rest = ps := ⟨_, rfl⟩
  rw [hps] at HP HSh ⊢
  obtain ⟨z, hz⟩ : ∃ z, str nm = z := ⟨_, rfl⟩
  rw [hz] at HI1 HI2 HA z4 y4 z5 y5 ⊢
  obtain ⟨q, hq⟩ : ∃ q, str rest = q := ⟨_, rfl⟩
  rw [hq] at HP ⊢
  clear hT hB hLen hS hA hE hbe hps hz hq k1 k2 k4 k5 hl hbal hnm
  go_enter Tryz.func77, Tryz.ntmps77
  go_wp2_with fail
  refine (HCm.out _).mono ?_
  rintro e w1 ⟨v1, rfl, hv1, hb1⟩
  have HV1 := hidK hv1
  have HB1 := hidK hb1
  clear hv1 hb1
  go_wp2_with fail
  refine (HI1.out _ _ HV1.out).mono ?_
  rintro e w1' ⟨rfl, rfl⟩
  go_wp2_with fail
  refine (HSu.out _).mono ?_
  rintro e w2 ⟨v2, rfl, hv2, hb2⟩
  have HV2 := hidK hv2
  have HB2 := hidK (HB1.out.trans (hb2.mono HB1.out.size))
  clear hv2 hb2
  go_wp2_with fail
  refine (HI2.out _ _ HV2.out).mono ?_
  rintro e w2' ⟨rfl, rfl⟩
  go_wp2_with fail
  refine (HP.out _).mono ?_
  rintro e w3 ⟨v, rfl, hv⟩
  obtain ⟨ad, cap, rfl, hat⟩ := hv.at
  have HB3 := hidK (HB2.out.trans (hv.below.mono HB2.out.size))
  have HE3 := hidK (HE.out.below HB3.out)
  have HC := hidK hat
  have hmx : ps.length ≤ 9223372036854775807 := by have := hv.row.len; unfold maxLen at this; omega
  clear hat hv HP HE HI1 HI2 HCm HSu HV1 HV2 HB1 HB2
  by_cases hsh : ps.length = 2
  · obtain ⟨a, b, rfl⟩ : ∃ a b, ps = [a, b] := by
      match ps, hsh with
      | [a, b], _ => exact ⟨a, b, rfl⟩
    obtain ⟨g, o, rfl, _⟩ := HC.out w3 (Below.refl _ _) 0 a rfl
    have HAt : Hid (∀ W', Below w3.heap.size w3 W' → ∀ i l, [a, b][i]? = some l → W'.cell? ⟨g, o + i, none⟩ = some (.string (str l))) := fun W' hW i l hi => by
      obtain ⟨g', o', e, h⟩ := HC.out W' hW i l hi
      cases e
      exact h
    clear HC hsh hmx
    have hn2 : [a, b].length = 2 := rfl
    rw [hn2]
    go_wp2_with fail
    go_loopw [14] (fun s14 wx => ∃ (k : Nat), k ≤ 2 ∧ s14 = .int .i64 (k : Int) ∧ Hid (HL w3 wx sub a b k)) (fun v _ => 2 - (intOf v).toNat)
    case atStart => exact ⟨0, Nat.zero_le _, rfl, ⟨(Below.refl _ _).alloc (Nat.le_refl _) _, [], [], _, heap_alloc_new w3 _, fun h => by omega, fun h => by omega⟩⟩
    case round =>
      obtain ⟨k, hk, rfl, HI⟩ := hrel
      obtain ⟨hbr, x, y, T, hblk, h1, h2⟩ := HI.out
      have HBr := hidK hbr
      have HEr := hidK (HE3.out.below hbr)
      have HH1 := hidK h1
      have HH2 := hidK h2
      have hlt : w3.heap.size < wr.heap.size := (Array.getElem?_eq_some_iff.1 hblk).1
      have HK := hidK hblk
      clear hbr hblk h1 h2 HI
      rcases (show k = 0 ∨ k = 1 ∨ k = 2 by omega) with rfl | rfl | rfl
      · obtain ⟨t, hx⟩ := HT.out a
        have HF := hidK (HS.out a wr HEr.out (HSh.out a (by simp)))
        rw [hx] at HF
        have qa := HAt.out wr HBr.out 0 a rfl
        obtain ⟨zp, hzp⟩ : ∃ z, str a = z := ⟨_, rfl⟩
        rw [hzp] at HF qa
        have ra : wr.cell? ⟨g, o, none⟩ = some (.string zp) := qa
        clear qa hzp
        cases t with
        | error m =>
          have hm : ¬ m = 0 := HBd.out a m hx
          have HR : Hid (twoA ans (twoF sub [a, b]) = .error m) := by
            show _ = _
            simp only [twoF, hx, twoA]
          clear hx
          go_wp2_with fail
          refine HF.out.mono ?_
          rintro e w5 ⟨rfl, hb5⟩
          have HB5 := hidK (HB3.out.trans ((HBr.out.trans (hb5.mono HBr.out.size)).mono HB3.out.size))
          clear hb5
          simp only [resF, Option.getD_some, ansF]
          go_wp2_with fail
          all_goals go_ret2
          all_goals exact ⟨by rw [HR.out]; rfl, HB5.out⟩
        | ok s =>
          have HX := hidK hx
          obtain ⟨zs, hzs⟩ : ∃ z, str s = z := ⟨_, rfl⟩
          have HF2 : Hid (Calls Tryz.prog 12 #[.string zp, sv, .int .i64 (D + 1)] wr fun e w' => e = .returned (.tuple #[.string zs, .int .i64 0]) ∧ Below wr.heap.size wr w') := HF.out.mono fun e w' ⟨h1, h2⟩ => ⟨by rw [h1, ← hzs]; rfl, h2⟩
          have HZ := hidK hzs
          clear hzs HF hx
          go_wp2_with fail
          refine HF2.out.mono ?_
          rintro e w5 ⟨rfl, hb5⟩
          have hblk5 := (hb5.block w3.heap.size hlt).trans HK.out
          have HB5 := hidK (HBr.out.trans (hb5.mono HBr.out.size))
          have f5 : ∀ j, w5.frozen? ⟨w3.heap.size, j, none⟩ = false := fun j => free_atT hblk5 j
          have b0 : w5.cell? ⟨w3.heap.size, 0, none⟩ = some (.string (str x)) := cell_atT hblk5 0
          have b1 : w5.cell? ⟨w3.heap.size, 1, none⟩ = some (.string (str y)) := cell_atT hblk5 1
          have HK5 := hidK hblk5
          clear hb5 hblk5 HF2
          go_wp2_with fail
          all_goals (
            go_roundw
            case rel =>
              have hnew := heap_setCell_same w5 w3.heap.size 0 _ _ (.string zs) HK5.out
              refine ⟨1, by omega, by go_num, ⟨HB5.out.setCell (Nat.le_refl _) _, ?_⟩⟩
              exact ⟨s, y, _, by rw [HZ.out]; exact hnew, fun _ => HX.out, fun h => by omega⟩
            case measure => simp [intOf])
      · obtain ⟨t, hx⟩ := HT.out b
        have HF := hidK (HS.out b wr HEr.out (HSh.out b (by simp)))
        rw [hx] at HF
        have qb := HAt.out wr HBr.out 1 b rfl
        obtain ⟨zp, hzp⟩ : ∃ z, str b = z := ⟨_, rfl⟩
        rw [hzp] at HF qb
        have rb : wr.cell? ⟨g, o + 1, none⟩ = some (.string zp) := qb
        clear qb hzp
        cases t with
        | error m =>
          have hm : ¬ m = 0 := HBd.out b m hx
          have HR : Hid (twoA ans (twoF sub [a, b]) = .error m) := by
            show _ = _
            simp only [twoF, HH1.out (by omega), hx, twoA]
          clear hx
          go_wp2_with fail
          refine HF.out.mono ?_
          rintro e w5 ⟨rfl, hb5⟩
          have HB5 := hidK (HB3.out.trans ((HBr.out.trans (hb5.mono HBr.out.size)).mono HB3.out.size))
          clear hb5
          simp only [resF, Option.getD_some, ansF]
          go_wp2_with fail
          all_goals go_ret2
          all_goals exact ⟨by rw [HR.out]; rfl, HB5.out⟩
        | ok s =>
          have HX := hidK hx
          obtain ⟨zs, hzs⟩ : ∃ z, str s = z := ⟨_, rfl⟩
          have HF2 : Hid (Calls Tryz.prog 12 #[.string zp, sv, .int .i64 (D + 1)] wr fun e w' => e = .returned (.tuple #[.string zs, .int .i64 0]) ∧ Below wr.heap.size wr w') := HF.out.mono fun e w' ⟨h1, h2⟩ => ⟨by rw [h1, ← hzs]; rfl, h2⟩
          have HZ := hidK hzs
          clear hzs HF hx
          go_wp2_with fail
          refine HF2.out.mono ?_
          rintro e w5 ⟨rfl, hb5⟩
          have hblk5 := (hb5.block w3.heap.size hlt).trans HK.out
          have HB5 := hidK (HBr.out.trans (hb5.mono HBr.out.size))
          have f5 : ∀ j, w5.frozen? ⟨w3.heap.size, j, none⟩ = false := fun j => free_atT hblk5 j
          have b0 : w5.cell? ⟨w3.heap.size, 0, none⟩ = some (.string (str x)) := cell_atT hblk5 0
          have b1 : w5.cell? ⟨w3.heap.size, 1, none⟩ = some (.string (str y)) := cell_atT hblk5 1
          have HK5 := hidK hblk5
          clear hb5 hblk5 HF2
          go_wp2_with fail
          all_goals (
            go_roundw
            case rel =>
              have hnew := heap_setCell_same w5 w3.heap.size 1 _ _ (.string zs) HK5.out
              refine ⟨2, by omega, by go_num, ⟨HB5.out.setCell (Nat.le_refl _) _, ?_⟩⟩
              exact ⟨x, s, _, by rw [HZ.out]; exact hnew, fun _ => HH1.out (by omega), fun _ => HX.out⟩
            case measure => simp [intOf])
      · have sa := HH1.out (by omega)
        have sb := HH2.out (by omega)
        have HR : Hid (twoA ans (twoF sub [a, b]) = ans x y) := by
          show _ = _
          simp only [twoF, sa, sb, twoA]
        have HF := hidK (HA.out x y wr (HLn.out a x sa) (HLn.out b y sb) HEr.out.num)
        have b0 := cell_atT HK.out 0
        have b1 := cell_atT HK.out 1
        obtain ⟨zx, hzx⟩ : ∃ z, str x = z := ⟨_, rfl⟩
        obtain ⟨zy, hzy⟩ : ∃ z, str y = z := ⟨_, rfl⟩
        rw [hzx, hzy] at HF b0 b1
        have c0 : wr.cell? ⟨w3.heap.size, 0, none⟩ = some (.string zx) := b0
        have c1 : wr.cell? ⟨w3.heap.size, 1, none⟩ = some (.string zy) := b1
        rw [ans_two] at HF
        obtain ⟨R, hR⟩ : ∃ R, ans x y = R := ⟨_, rfl⟩
        rw [hR] at HF HR
        obtain ⟨u, hu⟩ : ∃ u, str (txtF R) = u := ⟨_, rfl⟩
        obtain ⟨c, hc⟩ : ∃ c, codF R = c := ⟨_, rfl⟩
        rw [hu, hc] at HF
        have HQ : Hid (ansF R = .returned (.tuple #[.string u, .int .i64 c])) := by show _ = _; rw [ans_two, hu, hc]
        clear sa sb b0 b1 hzx hzy hR hu hc HH1 HH2
        go_wp2_with fail
        refine HF.out.mono ?_
        rintro e w5 ⟨rfl, hb5⟩
        have HB5 := hidK (HB3.out.trans ((HBr.out.trans (hb5.mono HBr.out.size)).mono HB3.out.size))
        clear hb5
        go_wp2_with fail
        all_goals go_ret2
        all_goals exact ⟨by rw [HR.out, HQ.out]; rfl, HB5.out⟩
  · have HR : Hid (twoA ans (twoF sub ps) = .error 100) := by
      show _ = _
      match ps, hsh with
      | [], _ => rfl
      | [_], _ => rfl
      | [_, _], h => simp at h
      | _ :: _ :: _ :: _, _ => rfl
    clear HC HSh
    obtain ⟨n, hn⟩ : ∃ n, ps.length = n := ⟨_, rfl⟩
    rw [hn] at hsh hmx ⊢
    have hn2 : ¬ (n : Int) = 2 := by omega
    clear hn
    go_wp2_with fail
    all_goals go_ret2
    all_goals exact ⟨by rw [HR.out]; rfl, HB3.out⟩

end Go.Proofs.YtlfcjcaofhcfnaaGreatDoor

namespace Go.Proofs.YtlfcjcaofhcfnaaGreatDoor
open Go.RowKit
set_option linter.unusedVariables false
set_option maxRecDepth 100000

set_option maxHeartbeats 8000000 in
theorem headedR_mt {vs : Vars} {sv : Value} {D : Int} (hD : 0 ≤ D ∧ D ≤ 15) (nm : List UInt8) (hnm : nm.length ≤ 1048576) (k1 : decide (nm ∈ cmpL) = false) (k2 : decide (nm ∈ sumL) = false) (k3 : (nm == [109]) = true) (k4 : (nm == [124, 124]) = false) (k5 : (nm == [38, 38]) = false) (sub : List UInt8 → Res) (hT : ∀ l, ∃ x, sub l = some x) (hB : ∀ l k, sub l = some (.error k) → k ≠ 0) (hLen : ∀ l s, sub l = some (.ok s) → s.length ≤ 2147483647)
    (hS : ∀ (l : List UInt8) (w : World), RE w sv vs → l.length ≤ 1048576 → Calls Tryz.prog 12 #[.string (str l), sv, .int .i64 (D + 1)] w fun e w' => e = ansF (resF (sub l)) ∧ Below w.heap.size w w')
    (ans : List UInt8 → List UInt8 → Except Int (List UInt8)) (hA : ∀ (a b : List UInt8) (w : World), a.length ≤ 2147483647 → b.length ≤ 2147483647 → NEnv w → Calls Tryz.prog 118 #[.string (str nm), .string (str a), .string (str b)] w fun e w' => e = ansF (ans a b) ∧ Below w.heap.size w w')
    (rest : List UInt8) (hl : rest.length ≤ 1048576) (hbal : balF rest = true) (w : World) (hE : RE w sv vs) : Calls Tryz.prog 77 #[.string (str nm), .string (str rest), sv, .int .i64 D] w fun e w' => e = ansF (twoA ans (bothF sub rest)) ∧ Below w.heap.size w w' := by
  have HCm := hidK fun W => compares_any W
  have HSu := hidK fun W => sumsL_any W
  have HI1 := hidK fun W v (h : strAt W v cmpL) => isInR_any nm (by omega) cmpL (by decide) W v h
  have HI2 := hidK fun W v (h : strAt W v sumL) => isInR_any nm (by omega) sumL (by decide) W v h
  rw [k1] at HI1
  rw [k2] at HI2
  have z3 : ((str nm).toList == [109]) = true := by rw [str_toList]; exact k3
  have y3 : (str nm).toList = [109] := by rw [str_toList]; exact beq_iff_eq.1 k3
  have z4 : ((str nm).toList == [124, 124]) = false := by rw [str_toList]; exact k4
  have y4 : ¬ (str nm).toList = [124, 124] := by rw [str_toList]; exact beq_eq_false_iff_ne.1 k4
  have z5 : ((str nm).toList == [38, 38]) = false := by rw [str_toList]; exact k5
  have y5 : ¬ (str nm).toList = [38, 38] := by rw [str_toList]; exact beq_eq_false_iff_ne.1 k5
  have HP := hidK fun W => partsR_any rest (by omega) hbal W
  have HSh : Hid (∀ q ∈ cutF rest, q.length ≤ 1048576) := fun q hq => Nat.le_trans (cutF_short hq) hl
  have HT := hidK hT
  have HBd := hidK hB
  have HLn := hidK hLen
  have HS := hidK hS
  have HA := hidK hA
  have HE := hidK hE
  have hbe : bothF sub rest = twoF sub (cutF rest) := rfl
  rw [hbe]
  obtain ⟨ps, hps⟩ : ∃ ps, cutF rest = ps := ⟨_, rfl⟩
  rw [hps] at HP HSh ⊢
  obtain ⟨z, hz⟩ : ∃ z, str nm = z := ⟨_, rfl⟩
  rw [hz] at HI1 HI2 HA z3 y3 z4 y4 z5 y5 ⊢
  obtain ⟨q, hq⟩ : ∃ q, str rest = q := ⟨_, rfl⟩
  rw [hq] at HP ⊢
  clear hT hB hLen hS hA hE hbe hps hz hq k1 k2 k3 k4 k5 hl hbal hnm
  go_enter Tryz.func77, Tryz.ntmps77
  go_wp2_with fail
  refine (HCm.out _).mono ?_
  rintro e w1 ⟨v1, rfl, hv1, hb1⟩
  have HV1 := hidK hv1
  have HB1 := hidK hb1
  clear hv1 hb1
  go_wp2_with fail
  refine (HI1.out _ _ HV1.out).mono ?_
  rintro e w1' ⟨rfl, rfl⟩
  go_wp2_with fail
  refine (HSu.out _).mono ?_
  rintro e w2 ⟨v2, rfl, hv2, hb2⟩
  have HV2 := hidK hv2
  have HB2 := hidK (HB1.out.trans (hb2.mono HB1.out.size))
  clear hv2 hb2
  go_wp2_with fail
  refine (HI2.out _ _ HV2.out).mono ?_
  rintro e w2' ⟨rfl, rfl⟩
  go_wp2_with fail
  refine (HP.out _).mono ?_
  rintro e w3 ⟨v, rfl, hv⟩
  obtain ⟨ad, cap, rfl, hat⟩ := hv.at
  have HB3 := hidK (HB2.out.trans (hv.below.mono HB2.out.size))
  have HE3 := hidK (HE.out.below HB3.out)
  have HC := hidK hat
  have hmx : ps.length ≤ 9223372036854775807 := by have := hv.row.len; unfold maxLen at this; omega
  clear hat hv HP HE HI1 HI2 HCm HSu HV1 HV2 HB1 HB2
  by_cases hsh : ps.length = 2
  · obtain ⟨a, b, rfl⟩ : ∃ a b, ps = [a, b] := by
      match ps, hsh with
      | [a, b], _ => exact ⟨a, b, rfl⟩
    obtain ⟨g, o, rfl, _⟩ := HC.out w3 (Below.refl _ _) 0 a rfl
    have HAt : Hid (∀ W', Below w3.heap.size w3 W' → ∀ i l, [a, b][i]? = some l → W'.cell? ⟨g, o + i, none⟩ = some (.string (str l))) := fun W' hW i l hi => by
      obtain ⟨g', o', e, h⟩ := HC.out W' hW i l hi
      cases e
      exact h
    clear HC hsh hmx
    have hn2 : [a, b].length = 2 := rfl
    rw [hn2]
    go_wp2_with fail
    go_loopw [14] (fun s14 wx => ∃ (k : Nat), k ≤ 2 ∧ s14 = .int .i64 (k : Int) ∧ Hid (HL w3 wx sub a b k)) (fun v _ => 2 - (intOf v).toNat)
    case atStart => exact ⟨0, Nat.zero_le _, rfl, ⟨(Below.refl _ _).alloc (Nat.le_refl _) _, [], [], _, heap_alloc_new w3 _, fun h => by omega, fun h => by omega⟩⟩
    case round =>
      obtain ⟨k, hk, rfl, HI⟩ := hrel
      obtain ⟨hbr, x, y, T, hblk, h1, h2⟩ := HI.out
      have HBr := hidK hbr
      have HEr := hidK (HE3.out.below hbr)
      have HH1 := hidK h1
      have HH2 := hidK h2
      have hlt : w3.heap.size < wr.heap.size := (Array.getElem?_eq_some_iff.1 hblk).1
      have HK := hidK hblk
      clear hbr hblk h1 h2 HI
      rcases (show k = 0 ∨ k = 1 ∨ k = 2 by omega) with rfl | rfl | rfl
      · obtain ⟨t, hx⟩ := HT.out a
        have HF := hidK (HS.out a wr HEr.out (HSh.out a (by simp)))
        rw [hx] at HF
        have qa := HAt.out wr HBr.out 0 a rfl
        obtain ⟨zp, hzp⟩ : ∃ z, str a = z := ⟨_, rfl⟩
        rw [hzp] at HF qa
        have ra : wr.cell? ⟨g, o, none⟩ = some (.string zp) := qa
        clear qa hzp
        cases t with
        | error m =>
          have hm : ¬ m = 0 := HBd.out a m hx
          have HR : Hid (twoA ans (twoF sub [a, b]) = .error m) := by
            show _ = _
            simp only [twoF, hx, twoA]
          clear hx
          go_wp2_with fail
          refine HF.out.mono ?_
          rintro e w5 ⟨rfl, hb5⟩
          have HB5 := hidK (HB3.out.trans ((HBr.out.trans (hb5.mono HBr.out.size)).mono HB3.out.size))
          clear hb5
          simp only [resF, Option.getD_some, ansF]
          go_wp2_with fail
          all_goals go_ret2
          all_goals exact ⟨by rw [HR.out]; rfl, HB5.out⟩
        | ok s =>
          have HX := hidK hx
          obtain ⟨zs, hzs⟩ : ∃ z, str s = z := ⟨_, rfl⟩
          have HF2 : Hid (Calls Tryz.prog 12 #[.string zp, sv, .int .i64 (D + 1)] wr fun e w' => e = .returned (.tuple #[.string zs, .int .i64 0]) ∧ Below wr.heap.size wr w') := HF.out.mono fun e w' ⟨h1, h2⟩ => ⟨by rw [h1, ← hzs]; rfl, h2⟩
          have HZ := hidK hzs
          clear hzs HF hx
          go_wp2_with fail
          refine HF2.out.mono ?_
          rintro e w5 ⟨rfl, hb5⟩
          have hblk5 := (hb5.block w3.heap.size hlt).trans HK.out
          have HB5 := hidK (HBr.out.trans (hb5.mono HBr.out.size))
          have f5 : ∀ j, w5.frozen? ⟨w3.heap.size, j, none⟩ = false := fun j => free_atT hblk5 j
          have b0 : w5.cell? ⟨w3.heap.size, 0, none⟩ = some (.string (str x)) := cell_atT hblk5 0
          have b1 : w5.cell? ⟨w3.heap.size, 1, none⟩ = some (.string (str y)) := cell_atT hblk5 1
          have HK5 := hidK hblk5
          clear hb5 hblk5 HF2
          go_wp2_with fail
          all_goals (
            go_roundw
            case rel =>
              have hnew := heap_setCell_same w5 w3.heap.size 0 _ _ (.string zs) HK5.out
              refine ⟨1, by omega, by go_num, ⟨HB5.out.setCell (Nat.le_refl _) _, ?_⟩⟩
              exact ⟨s, y, _, by rw [HZ.out]; exact hnew, fun _ => HX.out, fun h => by omega⟩
            case measure => simp [intOf])
      · obtain ⟨t, hx⟩ := HT.out b
        have HF := hidK (HS.out b wr HEr.out (HSh.out b (by simp)))
        rw [hx] at HF
        have qb := HAt.out wr HBr.out 1 b rfl
        obtain ⟨zp, hzp⟩ : ∃ z, str b = z := ⟨_, rfl⟩
        rw [hzp] at HF qb
        have rb : wr.cell? ⟨g, o + 1, none⟩ = some (.string zp) := qb
        clear qb hzp
        cases t with
        | error m =>
          have hm : ¬ m = 0 := HBd.out b m hx
          have HR : Hid (twoA ans (twoF sub [a, b]) = .error m) := by
            show _ = _
            simp only [twoF, HH1.out (by omega), hx, twoA]
          clear hx
          go_wp2_with fail
          refine HF.out.mono ?_
          rintro e w5 ⟨rfl, hb5⟩
          have HB5 := hidK (HB3.out.trans ((HBr.out.trans (hb5.mono HBr.out.size)).mono HB3.out.size))
          clear hb5
          simp only [resF, Option.getD_some, ansF]
          go_wp2_with fail
          all_goals go_ret2
          all_goals exact ⟨by rw [HR.out]; rfl, HB5.out⟩
        | ok s =>
          have HX := hidK hx
          obtain ⟨zs, hzs⟩ : ∃ z, str s = z := ⟨_, rfl⟩
          have HF2 : Hid (Calls Tryz.prog 12 #[.string zp, sv, .int .i64 (D + 1)] wr fun e w' => e = .returned (.tuple #[.string zs, .int .i64 0]) ∧ Below wr.heap.size wr w') := HF.out.mono fun e w' ⟨h1, h2⟩ => ⟨by rw [h1, ← hzs]; rfl, h2⟩
          have HZ := hidK hzs
          clear hzs HF hx
          go_wp2_with fail
          refine HF2.out.mono ?_
          rintro e w5 ⟨rfl, hb5⟩
          have hblk5 := (hb5.block w3.heap.size hlt).trans HK.out
          have HB5 := hidK (HBr.out.trans (hb5.mono HBr.out.size))
          have f5 : ∀ j, w5.frozen? ⟨w3.heap.size, j, none⟩ = false := fun j => free_atT hblk5 j
          have b0 : w5.cell? ⟨w3.heap.size, 0, none⟩ = some (.string (str x)) := cell_atT hblk5 0
          have b1 : w5.cell? ⟨w3.heap.size, 1, none⟩ = some (.string (str y)) := cell_atT hblk5 1
          have HK5 := hidK hblk5
          clear hb5 hblk5 HF2
          go_wp2_with fail
          all_goals (
            go_roundw
            case rel =>
              have hnew := heap_setCell_same w5 w3.heap.size 1 _ _ (.string zs) HK5.out
              refine ⟨2, by omega, by go_num, ⟨HB5.out.setCell (Nat.le_refl _) _, ?_⟩⟩
              exact ⟨x, s, _, by rw [HZ.out]; exact hnew, fun _ => HH1.out (by omega), fun _ => HX.out⟩
            case measure => simp [intOf])
      · have sa := HH1.out (by omega)
        have sb := HH2.out (by omega)
        have HR : Hid (twoA ans (twoF sub [a, b]) = ans x y) := by
          show _ = _
          simp only [twoF, sa, sb, twoA]
        have HF := hidK (HA.out x y wr (HLn.out a x sa) (HLn.out b y sb) HEr.out.num)
        have b0 := cell_atT HK.out 0
        have b1 := cell_atT HK.out 1
        obtain ⟨zx, hzx⟩ : ∃ z, str x = z := ⟨_, rfl⟩
        obtain ⟨zy, hzy⟩ : ∃ z, str y = z := ⟨_, rfl⟩
        rw [hzx, hzy] at HF b0 b1
        have c0 : wr.cell? ⟨w3.heap.size, 0, none⟩ = some (.string zx) := b0
        have c1 : wr.cell? ⟨w3.heap.size, 1, none⟩ = some (.string zy) := b1
        rw [ans_two] at HF
        obtain ⟨R, hR⟩ : ∃ R, ans x y = R := ⟨_, rfl⟩
        rw [hR] at HF HR
        obtain ⟨u, hu⟩ : ∃ u, str (txtF R) = u := ⟨_, rfl⟩
        obtain ⟨c, hc⟩ : ∃ c, codF R = c := ⟨_, rfl⟩
        rw [hu, hc] at HF
        have HQ : Hid (ansF R = .returned (.tuple #[.string u, .int .i64 c])) := by show _ = _; rw [ans_two, hu, hc]
        clear sa sb b0 b1 hzx hzy hR hu hc HH1 HH2
        go_wp2_with fail
        refine HF.out.mono ?_
        rintro e w5 ⟨rfl, hb5⟩
        have HB5 := hidK (HB3.out.trans ((HBr.out.trans (hb5.mono HBr.out.size)).mono HB3.out.size))
        clear hb5
        go_wp2_with fail
        all_goals go_ret2
        all_goals exact ⟨by rw [HR.out, HQ.out]; rfl, HB5.out⟩
  · have HR : Hid (twoA ans (twoF sub ps) = .error 100) := by
      show _ = _
      match ps, hsh with
      | [], _ => rfl
      | [_], _ => rfl
      | [_, _], h => simp at h
      | _ :: _ :: _ :: _, _ => rfl
    clear HC HSh
    obtain ⟨n, hn⟩ : ∃ n, ps.length = n := ⟨_, rfl⟩
    rw [hn] at hsh hmx ⊢
    have hn2 : ¬ (n : Int) = 2 := by omega
    clear hn
    go_wp2_with fail
    all_goals go_ret2
    all_goals exact ⟨by rw [HR.out]; rfl, HB3.out⟩

end Go.Proofs.YtlfcjcaofhcfnaaGreatDoor

namespace Go.Proofs.YtlfcjcaofhcfnaaGreatDoor
open Go.RowKit
set_option linter.unusedVariables false
set_option maxRecDepth 100000

set_option maxHeartbeats 8000000 in
theorem headedR_sum {vs : Vars} {sv : Value} {D : Int} (hD : 0 ≤ D ∧ D ≤ 15) (nm : List UInt8) (hnm : nm.length ≤ 1048576) (k1 : decide (nm ∈ cmpL) = false) (k2 : decide (nm ∈ sumL) = true) (k3 : (nm == [109]) = false) (sub : List UInt8 → Res) (hT : ∀ l, ∃ x, sub l = some x) (hB : ∀ l k, sub l = some (.error k) → k ≠ 0) (hLen : ∀ l s, sub l = some (.ok s) → s.length ≤ 2147483647)
    (hS : ∀ (l : List UInt8) (w : World), RE w sv vs → l.length ≤ 1048576 → Calls Tryz.prog 113 #[.string (str l), sv, .int .i64 D] w fun e w' => e = ansF (resF (sub l)) ∧ Below w.heap.size w w')
    (ans : List UInt8 → List UInt8 → Except Int (List UInt8)) (hA : ∀ (a b : List UInt8) (w : World), a.length ≤ 2147483647 → b.length ≤ 2147483647 → NEnv w → Calls Tryz.prog 118 #[.string (str nm), .string (str a), .string (str b)] w fun e w' => e = ansF (ans a b) ∧ Below w.heap.size w w')
    (rest : List UInt8) (hl : rest.length ≤ 1048576) (hbal : balF rest = true) (w : World) (hE : RE w sv vs) : Calls Tryz.prog 77 #[.string (str nm), .string (str rest), sv, .int .i64 D] w fun e w' => e = ansF (twoA ans (bothF sub rest)) ∧ Below w.heap.size w w' := by
  have HCm := hidK fun W => compares_any W
  have HSu := hidK fun W => sumsL_any W
  have HI1 := hidK fun W v (h : strAt W v cmpL) => isInR_any nm (by omega) cmpL (by decide) W v h
  have HI2 := hidK fun W v (h : strAt W v sumL) => isInR_any nm (by omega) sumL (by decide) W v h
  rw [k1] at HI1
  rw [k2] at HI2
  have z3 : ((str nm).toList == [109]) = false := by rw [str_toList]; exact k3
  have y3 : ¬ (str nm).toList = [109] := by rw [str_toList]; exact beq_eq_false_iff_ne.1 k3
  have HP := hidK fun W => partsR_any rest (by omega) hbal W
  have HSh : Hid (∀ q ∈ cutF rest, q.length ≤ 1048576) := fun q hq => Nat.le_trans (cutF_short hq) hl
  have HT := hidK hT
  have HBd := hidK hB
  have HLn := hidK hLen
  have HS := hidK hS
  have HA := hidK hA
  have HE := hidK hE
  have hbe : bothF sub rest = twoF sub (cutF rest) := rfl
  rw [hbe]
  obtain ⟨ps, hps⟩ : ∃ ps, cutF rest = ps := ⟨_, rfl⟩
  rw [hps] at HP HSh ⊢
  obtain ⟨z, hz⟩ : ∃ z, str nm = z := ⟨_, rfl⟩
  rw [hz] at HI1 HI2 HA z3 y3 ⊢
  obtain ⟨q, hq⟩ : ∃ q, str rest = q := ⟨_, rfl⟩
  rw [hq] at HP ⊢
  clear hT hB hLen hS hA hE hbe hps hz hq k1 k2 k3 hl hbal hnm
  go_enter Tryz.func77, Tryz.ntmps77
  go_wp2_with fail
  refine (HCm.out _).mono ?_
  rintro e w1 ⟨v1, rfl, hv1, hb1⟩
  have HV1 := hidK hv1
  have HB1 := hidK hb1
  clear hv1 hb1
  go_wp2_with fail
  refine (HI1.out _ _ HV1.out).mono ?_
  rintro e w1' ⟨rfl, rfl⟩
  go_wp2_with fail
  refine (HSu.out _).mono ?_
  rintro e w2 ⟨v2, rfl, hv2, hb2⟩
  have HV2 := hidK hv2
  have HB2 := hidK (HB1.out.trans (hb2.mono HB1.out.size))
  clear hv2 hb2
  go_wp2_with fail
  refine (HI2.out _ _ HV2.out).mono ?_
  rintro e w2' ⟨rfl, rfl⟩
  go_wp2_with fail
  refine (HP.out _).mono ?_
  rintro e w3 ⟨v, rfl, hv⟩
  obtain ⟨ad, cap, rfl, hat⟩ := hv.at
  have HB3 := hidK (HB2.out.trans (hv.below.mono HB2.out.size))
  have HE3 := hidK (HE.out.below HB3.out)
  have HC := hidK hat
  have hmx : ps.length ≤ 9223372036854775807 := by have := hv.row.len; unfold maxLen at this; omega
  clear hat hv HP HE HI1 HI2 HCm HSu HV1 HV2 HB1 HB2
  by_cases hsh : ps.length = 2
  · obtain ⟨a, b, rfl⟩ : ∃ a b, ps = [a, b] := by
      match ps, hsh with
      | [a, b], _ => exact ⟨a, b, rfl⟩
    obtain ⟨g, o, rfl, _⟩ := HC.out w3 (Below.refl _ _) 0 a rfl
    have HAt : Hid (∀ W', Below w3.heap.size w3 W' → ∀ i l, [a, b][i]? = some l → W'.cell? ⟨g, o + i, none⟩ = some (.string (str l))) := fun W' hW i l hi => by
      obtain ⟨g', o', e, h⟩ := HC.out W' hW i l hi
      cases e
      exact h
    clear HC hsh hmx
    have hn2 : [a, b].length = 2 := rfl
    rw [hn2]
    go_wp2_with fail
    go_loopw [14] (fun s14 wx => ∃ (k : Nat), k ≤ 2 ∧ s14 = .int .i64 (k : Int) ∧ Hid (HL w3 wx sub a b k)) (fun v _ => 2 - (intOf v).toNat)
    case atStart => exact ⟨0, Nat.zero_le _, rfl, ⟨(Below.refl _ _).alloc (Nat.le_refl _) _, [], [], _, heap_alloc_new w3 _, fun h => by omega, fun h => by omega⟩⟩
    case round =>
      obtain ⟨k, hk, rfl, HI⟩ := hrel
      obtain ⟨hbr, x, y, T, hblk, h1, h2⟩ := HI.out
      have HBr := hidK hbr
      have HEr := hidK (HE3.out.below hbr)
      have HH1 := hidK h1
      have HH2 := hidK h2
      have hlt : w3.heap.size < wr.heap.size := (Array.getElem?_eq_some_iff.1 hblk).1
      have HK := hidK hblk
      clear hbr hblk h1 h2 HI
      rcases (show k = 0 ∨ k = 1 ∨ k = 2 by omega) with rfl | rfl | rfl
      · obtain ⟨t, hx⟩ := HT.out a
        have HF := hidK (HS.out a wr HEr.out (HSh.out a (by simp)))
        rw [hx] at HF
        have qa := HAt.out wr HBr.out 0 a rfl
        obtain ⟨zp, hzp⟩ : ∃ z, str a = z := ⟨_, rfl⟩
        rw [hzp] at HF qa
        have ra : wr.cell? ⟨g, o, none⟩ = some (.string zp) := qa
        clear qa hzp
        cases t with
        | error m =>
          have hm : ¬ m = 0 := HBd.out a m hx
          have HR : Hid (twoA ans (twoF sub [a, b]) = .error m) := by
            show _ = _
            simp only [twoF, hx, twoA]
          clear hx
          go_wp2_with fail
          refine HF.out.mono ?_
          rintro e w5 ⟨rfl, hb5⟩
          have HB5 := hidK (HB3.out.trans ((HBr.out.trans (hb5.mono HBr.out.size)).mono HB3.out.size))
          clear hb5
          simp only [resF, Option.getD_some, ansF]
          go_wp2_with fail
          all_goals go_ret2
          all_goals exact ⟨by rw [HR.out]; rfl, HB5.out⟩
        | ok s =>
          have HX := hidK hx
          obtain ⟨zs, hzs⟩ : ∃ z, str s = z := ⟨_, rfl⟩
          have HF2 : Hid (Calls Tryz.prog 113 #[.string zp, sv, .int .i64 D] wr fun e w' => e = .returned (.tuple #[.string zs, .int .i64 0]) ∧ Below wr.heap.size wr w') := HF.out.mono fun e w' ⟨h1, h2⟩ => ⟨by rw [h1, ← hzs]; rfl, h2⟩
          have HZ := hidK hzs
          clear hzs HF hx
          go_wp2_with fail
          refine HF2.out.mono ?_
          rintro e w5 ⟨rfl, hb5⟩
          have hblk5 := (hb5.block w3.heap.size hlt).trans HK.out
          have HB5 := hidK (HBr.out.trans (hb5.mono HBr.out.size))
          have f5 : ∀ j, w5.frozen? ⟨w3.heap.size, j, none⟩ = false := fun j => free_atT hblk5 j
          have b0 : w5.cell? ⟨w3.heap.size, 0, none⟩ = some (.string (str x)) := cell_atT hblk5 0
          have b1 : w5.cell? ⟨w3.heap.size, 1, none⟩ = some (.string (str y)) := cell_atT hblk5 1
          have HK5 := hidK hblk5
          clear hb5 hblk5 HF2
          go_wp2_with fail
          all_goals (
            go_roundw
            case rel =>
              have hnew := heap_setCell_same w5 w3.heap.size 0 _ _ (.string zs) HK5.out
              refine ⟨1, by omega, by go_num, ⟨HB5.out.setCell (Nat.le_refl _) _, ?_⟩⟩
              exact ⟨s, y, _, by rw [HZ.out]; exact hnew, fun _ => HX.out, fun h => by omega⟩
            case measure => simp [intOf])
      · obtain ⟨t, hx⟩ := HT.out b
        have HF := hidK (HS.out b wr HEr.out (HSh.out b (by simp)))
        rw [hx] at HF
        have qb := HAt.out wr HBr.out 1 b rfl
        obtain ⟨zp, hzp⟩ : ∃ z, str b = z := ⟨_, rfl⟩
        rw [hzp] at HF qb
        have rb : wr.cell? ⟨g, o + 1, none⟩ = some (.string zp) := qb
        clear qb hzp
        cases t with
        | error m =>
          have hm : ¬ m = 0 := HBd.out b m hx
          have HR : Hid (twoA ans (twoF sub [a, b]) = .error m) := by
            show _ = _
            simp only [twoF, HH1.out (by omega), hx, twoA]
          clear hx
          go_wp2_with fail
          refine HF.out.mono ?_
          rintro e w5 ⟨rfl, hb5⟩
          have HB5 := hidK (HB3.out.trans ((HBr.out.trans (hb5.mono HBr.out.size)).mono HB3.out.size))
          clear hb5
          simp only [resF, Option.getD_some, ansF]
          go_wp2_with fail
          all_goals go_ret2
          all_goals exact ⟨by rw [HR.out]; rfl, HB5.out⟩
        | ok s =>
          have HX := hidK hx
          obtain ⟨zs, hzs⟩ : ∃ z, str s = z := ⟨_, rfl⟩
          have HF2 : Hid (Calls Tryz.prog 113 #[.string zp, sv, .int .i64 D] wr fun e w' => e = .returned (.tuple #[.string zs, .int .i64 0]) ∧ Below wr.heap.size wr w') := HF.out.mono fun e w' ⟨h1, h2⟩ => ⟨by rw [h1, ← hzs]; rfl, h2⟩
          have HZ := hidK hzs
          clear hzs HF hx
          go_wp2_with fail
          refine HF2.out.mono ?_
          rintro e w5 ⟨rfl, hb5⟩
          have hblk5 := (hb5.block w3.heap.size hlt).trans HK.out
          have HB5 := hidK (HBr.out.trans (hb5.mono HBr.out.size))
          have f5 : ∀ j, w5.frozen? ⟨w3.heap.size, j, none⟩ = false := fun j => free_atT hblk5 j
          have b0 : w5.cell? ⟨w3.heap.size, 0, none⟩ = some (.string (str x)) := cell_atT hblk5 0
          have b1 : w5.cell? ⟨w3.heap.size, 1, none⟩ = some (.string (str y)) := cell_atT hblk5 1
          have HK5 := hidK hblk5
          clear hb5 hblk5 HF2
          go_wp2_with fail
          all_goals (
            go_roundw
            case rel =>
              have hnew := heap_setCell_same w5 w3.heap.size 1 _ _ (.string zs) HK5.out
              refine ⟨2, by omega, by go_num, ⟨HB5.out.setCell (Nat.le_refl _) _, ?_⟩⟩
              exact ⟨x, s, _, by rw [HZ.out]; exact hnew, fun _ => HH1.out (by omega), fun _ => HX.out⟩
            case measure => simp [intOf])
      · have sa := HH1.out (by omega)
        have sb := HH2.out (by omega)
        have HR : Hid (twoA ans (twoF sub [a, b]) = ans x y) := by
          show _ = _
          simp only [twoF, sa, sb, twoA]
        have HF := hidK (HA.out x y wr (HLn.out a x sa) (HLn.out b y sb) HEr.out.num)
        have b0 := cell_atT HK.out 0
        have b1 := cell_atT HK.out 1
        obtain ⟨zx, hzx⟩ : ∃ z, str x = z := ⟨_, rfl⟩
        obtain ⟨zy, hzy⟩ : ∃ z, str y = z := ⟨_, rfl⟩
        rw [hzx, hzy] at HF b0 b1
        have c0 : wr.cell? ⟨w3.heap.size, 0, none⟩ = some (.string zx) := b0
        have c1 : wr.cell? ⟨w3.heap.size, 1, none⟩ = some (.string zy) := b1
        rw [ans_two] at HF
        obtain ⟨R, hR⟩ : ∃ R, ans x y = R := ⟨_, rfl⟩
        rw [hR] at HF HR
        obtain ⟨u, hu⟩ : ∃ u, str (txtF R) = u := ⟨_, rfl⟩
        obtain ⟨c, hc⟩ : ∃ c, codF R = c := ⟨_, rfl⟩
        rw [hu, hc] at HF
        have HQ : Hid (ansF R = .returned (.tuple #[.string u, .int .i64 c])) := by show _ = _; rw [ans_two, hu, hc]
        clear sa sb b0 b1 hzx hzy hR hu hc HH1 HH2
        go_wp2_with fail
        refine HF.out.mono ?_
        rintro e w5 ⟨rfl, hb5⟩
        have HB5 := hidK (HB3.out.trans ((HBr.out.trans (hb5.mono HBr.out.size)).mono HB3.out.size))
        clear hb5
        go_wp2_with fail
        all_goals go_ret2
        all_goals exact ⟨by rw [HR.out, HQ.out]; rfl, HB5.out⟩
  · have HR : Hid (twoA ans (twoF sub ps) = .error 100) := by
      show _ = _
      match ps, hsh with
      | [], _ => rfl
      | [_], _ => rfl
      | [_, _], h => simp at h
      | _ :: _ :: _ :: _, _ => rfl
    clear HC HSh
    obtain ⟨n, hn⟩ : ∃ n, ps.length = n := ⟨_, rfl⟩
    rw [hn] at hsh hmx ⊢
    have hn2 : ¬ (n : Int) = 2 := by omega
    clear hn
    go_wp2_with fail
    all_goals go_ret2
    all_goals exact ⟨by rw [HR.out]; rfl, HB3.out⟩

end Go.Proofs.YtlfcjcaofhcfnaaGreatDoor

namespace Go.Proofs.YtlfcjcaofhcfnaaGreatDoor
open Go.RowKit
set_option linter.unusedVariables false
set_option maxRecDepth 100000

set_option maxHeartbeats 8000000 in
theorem headedR_or {vs : Vars} {sv : Value} {D : Int} (hD : 0 ≤ D ∧ D ≤ 15) (nm : List UInt8) (hnm : nm.length ≤ 1048576) (k1 : decide (nm ∈ cmpL) = false) (k2 : decide (nm ∈ sumL) = false) (k3 : (nm == [109]) = false) (k4 : (nm == [124, 124]) = true) (sub : List UInt8 → Res) (hT : ∀ l, ∃ x, sub l = some x) (hB : ∀ l k, sub l = some (.error k) → k ≠ 0) (hLen : ∀ l s, sub l = some (.ok s) → s.length ≤ 2147483647)
    (hS : ∀ (l : List UInt8) (w : World), RE w sv vs → l.length ≤ 1048576 → Calls Tryz.prog 113 #[.string (str l), sv, .int .i64 D] w fun e w' => e = ansF (resF (sub l)) ∧ Below w.heap.size w w')
    (ans : List UInt8 → List UInt8 → Except Int (List UInt8)) (hA : ∀ (a b : List UInt8) (w : World), a.length ≤ 2147483647 → b.length ≤ 2147483647 → NEnv w → Calls Tryz.prog 118 #[.string (str nm), .string (str a), .string (str b)] w fun e w' => e = ansF (ans a b) ∧ Below w.heap.size w w')
    (rest : List UInt8) (hl : rest.length ≤ 1048576) (hbal : balF rest = true) (w : World) (hE : RE w sv vs) : Calls Tryz.prog 77 #[.string (str nm), .string (str rest), sv, .int .i64 D] w fun e w' => e = ansF (twoA ans (bothF sub rest)) ∧ Below w.heap.size w w' := by
  have HCm := hidK fun W => compares_any W
  have HSu := hidK fun W => sumsL_any W
  have HI1 := hidK fun W v (h : strAt W v cmpL) => isInR_any nm (by omega) cmpL (by decide) W v h
  have HI2 := hidK fun W v (h : strAt W v sumL) => isInR_any nm (by omega) sumL (by decide) W v h
  rw [k1] at HI1
  rw [k2] at HI2
  have z3 : ((str nm).toList == [109]) = false := by rw [str_toList]; exact k3
  have y3 : ¬ (str nm).toList = [109] := by rw [str_toList]; exact beq_eq_false_iff_ne.1 k3
  have z4 : ((str nm).toList == [124, 124]) = true := by rw [str_toList]; exact k4
  have y4 : (str nm).toList = [124, 124] := by rw [str_toList]; exact beq_iff_eq.1 k4
  have HP := hidK fun W => partsR_any rest (by omega) hbal W
  have HSh : Hid (∀ q ∈ cutF rest, q.length ≤ 1048576) := fun q hq => Nat.le_trans (cutF_short hq) hl
  have HT := hidK hT
  have HBd := hidK hB
  have HLn := hidK hLen
  have HS := hidK hS
  have HA := hidK hA
  have HE := hidK hE
  have hbe : bothF sub rest = twoF sub (cutF rest) := rfl
  rw [hbe]
  obtain ⟨ps, hps⟩ : ∃ ps, cutF rest = ps := ⟨_, rfl⟩
  rw [hps] at HP HSh ⊢
  obtain ⟨z, hz⟩ : ∃ z, str nm = z := ⟨_, rfl⟩
  rw [hz] at HI1 HI2 HA z3 y3 z4 y4 ⊢
  obtain ⟨q, hq⟩ : ∃ q, str rest = q := ⟨_, rfl⟩
  rw [hq] at HP ⊢
  clear hT hB hLen hS hA hE hbe hps hz hq k1 k2 k3 k4 hl hbal hnm
  go_enter Tryz.func77, Tryz.ntmps77
  go_wp2_with fail
  refine (HCm.out _).mono ?_
  rintro e w1 ⟨v1, rfl, hv1, hb1⟩
  have HV1 := hidK hv1
  have HB1 := hidK hb1
  clear hv1 hb1
  go_wp2_with fail
  refine (HI1.out _ _ HV1.out).mono ?_
  rintro e w1' ⟨rfl, rfl⟩
  go_wp2_with fail
  refine (HSu.out _).mono ?_
  rintro e w2 ⟨v2, rfl, hv2, hb2⟩
  have HV2 := hidK hv2
  have HB2 := hidK (HB1.out.trans (hb2.mono HB1.out.size))
  clear hv2 hb2
  go_wp2_with fail
  refine (HI2.out _ _ HV2.out).mono ?_
  rintro e w2' ⟨rfl, rfl⟩
  go_wp2_with fail
  refine (HP.out _).mono ?_
  rintro e w3 ⟨v, rfl, hv⟩
  obtain ⟨ad, cap, rfl, hat⟩ := hv.at
  have HB3 := hidK (HB2.out.trans (hv.below.mono HB2.out.size))
  have HE3 := hidK (HE.out.below HB3.out)
  have HC := hidK hat
  have hmx : ps.length ≤ 9223372036854775807 := by have := hv.row.len; unfold maxLen at this; omega
  clear hat hv HP HE HI1 HI2 HCm HSu HV1 HV2 HB1 HB2
  by_cases hsh : ps.length = 2
  · obtain ⟨a, b, rfl⟩ : ∃ a b, ps = [a, b] := by
      match ps, hsh with
      | [a, b], _ => exact ⟨a, b, rfl⟩
    obtain ⟨g, o, rfl, _⟩ := HC.out w3 (Below.refl _ _) 0 a rfl
    have HAt : Hid (∀ W', Below w3.heap.size w3 W' → ∀ i l, [a, b][i]? = some l → W'.cell? ⟨g, o + i, none⟩ = some (.string (str l))) := fun W' hW i l hi => by
      obtain ⟨g', o', e, h⟩ := HC.out W' hW i l hi
      cases e
      exact h
    clear HC hsh hmx
    have hn2 : [a, b].length = 2 := rfl
    rw [hn2]
    go_wp2_with fail
    go_loopw [14] (fun s14 wx => ∃ (k : Nat), k ≤ 2 ∧ s14 = .int .i64 (k : Int) ∧ Hid (HL w3 wx sub a b k)) (fun v _ => 2 - (intOf v).toNat)
    case atStart => exact ⟨0, Nat.zero_le _, rfl, ⟨(Below.refl _ _).alloc (Nat.le_refl _) _, [], [], _, heap_alloc_new w3 _, fun h => by omega, fun h => by omega⟩⟩
    case round =>
      obtain ⟨k, hk, rfl, HI⟩ := hrel
      obtain ⟨hbr, x, y, T, hblk, h1, h2⟩ := HI.out
      have HBr := hidK hbr
      have HEr := hidK (HE3.out.below hbr)
      have HH1 := hidK h1
      have HH2 := hidK h2
      have hlt : w3.heap.size < wr.heap.size := (Array.getElem?_eq_some_iff.1 hblk).1
      have HK := hidK hblk
      clear hbr hblk h1 h2 HI
      rcases (show k = 0 ∨ k = 1 ∨ k = 2 by omega) with rfl | rfl | rfl
      · obtain ⟨t, hx⟩ := HT.out a
        have HF := hidK (HS.out a wr HEr.out (HSh.out a (by simp)))
        rw [hx] at HF
        have qa := HAt.out wr HBr.out 0 a rfl
        obtain ⟨zp, hzp⟩ : ∃ z, str a = z := ⟨_, rfl⟩
        rw [hzp] at HF qa
        have ra : wr.cell? ⟨g, o, none⟩ = some (.string zp) := qa
        clear qa hzp
        cases t with
        | error m =>
          have hm : ¬ m = 0 := HBd.out a m hx
          have HR : Hid (twoA ans (twoF sub [a, b]) = .error m) := by
            show _ = _
            simp only [twoF, hx, twoA]
          clear hx
          go_wp2_with fail
          refine HF.out.mono ?_
          rintro e w5 ⟨rfl, hb5⟩
          have HB5 := hidK (HB3.out.trans ((HBr.out.trans (hb5.mono HBr.out.size)).mono HB3.out.size))
          clear hb5
          simp only [resF, Option.getD_some, ansF]
          go_wp2_with fail
          all_goals go_ret2
          all_goals exact ⟨by rw [HR.out]; rfl, HB5.out⟩
        | ok s =>
          have HX := hidK hx
          obtain ⟨zs, hzs⟩ : ∃ z, str s = z := ⟨_, rfl⟩
          have HF2 : Hid (Calls Tryz.prog 113 #[.string zp, sv, .int .i64 D] wr fun e w' => e = .returned (.tuple #[.string zs, .int .i64 0]) ∧ Below wr.heap.size wr w') := HF.out.mono fun e w' ⟨h1, h2⟩ => ⟨by rw [h1, ← hzs]; rfl, h2⟩
          have HZ := hidK hzs
          clear hzs HF hx
          go_wp2_with fail
          refine HF2.out.mono ?_
          rintro e w5 ⟨rfl, hb5⟩
          have hblk5 := (hb5.block w3.heap.size hlt).trans HK.out
          have HB5 := hidK (HBr.out.trans (hb5.mono HBr.out.size))
          have f5 : ∀ j, w5.frozen? ⟨w3.heap.size, j, none⟩ = false := fun j => free_atT hblk5 j
          have b0 : w5.cell? ⟨w3.heap.size, 0, none⟩ = some (.string (str x)) := cell_atT hblk5 0
          have b1 : w5.cell? ⟨w3.heap.size, 1, none⟩ = some (.string (str y)) := cell_atT hblk5 1
          have HK5 := hidK hblk5
          clear hb5 hblk5 HF2
          go_wp2_with fail
          all_goals (
            go_roundw
            case rel =>
              have hnew := heap_setCell_same w5 w3.heap.size 0 _ _ (.string zs) HK5.out
              refine ⟨1, by omega, by go_num, ⟨HB5.out.setCell (Nat.le_refl _) _, ?_⟩⟩
              exact ⟨s, y, _, by rw [HZ.out]; exact hnew, fun _ => HX.out, fun h => by omega⟩
            case measure => simp [intOf])
      · obtain ⟨t, hx⟩ := HT.out b
        have HF := hidK (HS.out b wr HEr.out (HSh.out b (by simp)))
        rw [hx] at HF
        have qb := HAt.out wr HBr.out 1 b rfl
        obtain ⟨zp, hzp⟩ : ∃ z, str b = z := ⟨_, rfl⟩
        rw [hzp] at HF qb
        have rb : wr.cell? ⟨g, o + 1, none⟩ = some (.string zp) := qb
        clear qb hzp
        cases t with
        | error m =>
          have hm : ¬ m = 0 := HBd.out b m hx
          have HR : Hid (twoA ans (twoF sub [a, b]) = .error m) := by
            show _ = _
            simp only [twoF, HH1.out (by omega), hx, twoA]
          clear hx
          go_wp2_with fail
          refine HF.out.mono ?_
          rintro e w5 ⟨rfl, hb5⟩
          have HB5 := hidK (HB3.out.trans ((HBr.out.trans (hb5.mono HBr.out.size)).mono HB3.out.size))
          clear hb5
          simp only [resF, Option.getD_some, ansF]
          go_wp2_with fail
          all_goals go_ret2
          all_goals exact ⟨by rw [HR.out]; rfl, HB5.out⟩
        | ok s =>
          have HX := hidK hx
          obtain ⟨zs, hzs⟩ : ∃ z, str s = z := ⟨_, rfl⟩
          have HF2 : Hid (Calls Tryz.prog 113 #[.string zp, sv, .int .i64 D] wr fun e w' => e = .returned (.tuple #[.string zs, .int .i64 0]) ∧ Below wr.heap.size wr w') := HF.out.mono fun e w' ⟨h1, h2⟩ => ⟨by rw [h1, ← hzs]; rfl, h2⟩
          have HZ := hidK hzs
          clear hzs HF hx
          go_wp2_with fail
          refine HF2.out.mono ?_
          rintro e w5 ⟨rfl, hb5⟩
          have hblk5 := (hb5.block w3.heap.size hlt).trans HK.out
          have HB5 := hidK (HBr.out.trans (hb5.mono HBr.out.size))
          have f5 : ∀ j, w5.frozen? ⟨w3.heap.size, j, none⟩ = false := fun j => free_atT hblk5 j
          have b0 : w5.cell? ⟨w3.heap.size, 0, none⟩ = some (.string (str x)) := cell_atT hblk5 0
          have b1 : w5.cell? ⟨w3.heap.size, 1, none⟩ = some (.string (str y)) := cell_atT hblk5 1
          have HK5 := hidK hblk5
          clear hb5 hblk5 HF2
          go_wp2_with fail
          all_goals (
            go_roundw
            case rel =>
              have hnew := heap_setCell_same w5 w3.heap.size 1 _ _ (.string zs) HK5.out
              refine ⟨2, by omega, by go_num, ⟨HB5.out.setCell (Nat.le_refl _) _, ?_⟩⟩
              exact ⟨x, s, _, by rw [HZ.out]; exact hnew, fun _ => HH1.out (by omega), fun _ => HX.out⟩
            case measure => simp [intOf])
      · have sa := HH1.out (by omega)
        have sb := HH2.out (by omega)
        have HR : Hid (twoA ans (twoF sub [a, b]) = ans x y) := by
          show _ = _
          simp only [twoF, sa, sb, twoA]
        have HF := hidK (HA.out x y wr (HLn.out a x sa) (HLn.out b y sb) HEr.out.num)
        have b0 := cell_atT HK.out 0
        have b1 := cell_atT HK.out 1
        obtain ⟨zx, hzx⟩ : ∃ z, str x = z := ⟨_, rfl⟩
        obtain ⟨zy, hzy⟩ : ∃ z, str y = z := ⟨_, rfl⟩
        rw [hzx, hzy] at HF b0 b1
        have c0 : wr.cell? ⟨w3.heap.size, 0, none⟩ = some (.string zx) := b0
        have c1 : wr.cell? ⟨w3.heap.size, 1, none⟩ = some (.string zy) := b1
        rw [ans_two] at HF
        obtain ⟨R, hR⟩ : ∃ R, ans x y = R := ⟨_, rfl⟩
        rw [hR] at HF HR
        obtain ⟨u, hu⟩ : ∃ u, str (txtF R) = u := ⟨_, rfl⟩
        obtain ⟨c, hc⟩ : ∃ c, codF R = c := ⟨_, rfl⟩
        rw [hu, hc] at HF
        have HQ : Hid (ansF R = .returned (.tuple #[.string u, .int .i64 c])) := by show _ = _; rw [ans_two, hu, hc]
        clear sa sb b0 b1 hzx hzy hR hu hc HH1 HH2
        go_wp2_with fail
        refine HF.out.mono ?_
        rintro e w5 ⟨rfl, hb5⟩
        have HB5 := hidK (HB3.out.trans ((HBr.out.trans (hb5.mono HBr.out.size)).mono HB3.out.size))
        clear hb5
        go_wp2_with fail
        all_goals go_ret2
        all_goals exact ⟨by rw [HR.out, HQ.out]; rfl, HB5.out⟩
  · have HR : Hid (twoA ans (twoF sub ps) = .error 100) := by
      show _ = _
      match ps, hsh with
      | [], _ => rfl
      | [_], _ => rfl
      | [_, _], h => simp at h
      | _ :: _ :: _ :: _, _ => rfl
    clear HC HSh
    obtain ⟨n, hn⟩ : ∃ n, ps.length = n := ⟨_, rfl⟩
    rw [hn] at hsh hmx ⊢
    have hn2 : ¬ (n : Int) = 2 := by omega
    clear hn
    go_wp2_with fail
    all_goals go_ret2
    all_goals exact ⟨by rw [HR.out]; rfl, HB3.out⟩

end Go.Proofs.YtlfcjcaofhcfnaaGreatDoor

namespace Go.Proofs.YtlfcjcaofhcfnaaGreatDoor
open Go.RowKit
set_option linter.unusedVariables false
set_option maxRecDepth 100000

set_option maxHeartbeats 8000000 in
theorem headedR_an {vs : Vars} {sv : Value} {D : Int} (hD : 0 ≤ D ∧ D ≤ 15) (nm : List UInt8) (hnm : nm.length ≤ 1048576) (k1 : decide (nm ∈ cmpL) = false) (k2 : decide (nm ∈ sumL) = false) (k3 : (nm == [109]) = false) (k4 : (nm == [124, 124]) = false) (k5 : (nm == [38, 38]) = true) (sub : List UInt8 → Res) (hT : ∀ l, ∃ x, sub l = some x) (hB : ∀ l k, sub l = some (.error k) → k ≠ 0) (hLen : ∀ l s, sub l = some (.ok s) → s.length ≤ 2147483647)
    (hS : ∀ (l : List UInt8) (w : World), RE w sv vs → l.length ≤ 1048576 → Calls Tryz.prog 113 #[.string (str l), sv, .int .i64 D] w fun e w' => e = ansF (resF (sub l)) ∧ Below w.heap.size w w')
    (ans : List UInt8 → List UInt8 → Except Int (List UInt8)) (hA : ∀ (a b : List UInt8) (w : World), a.length ≤ 2147483647 → b.length ≤ 2147483647 → NEnv w → Calls Tryz.prog 118 #[.string (str nm), .string (str a), .string (str b)] w fun e w' => e = ansF (ans a b) ∧ Below w.heap.size w w')
    (rest : List UInt8) (hl : rest.length ≤ 1048576) (hbal : balF rest = true) (w : World) (hE : RE w sv vs) : Calls Tryz.prog 77 #[.string (str nm), .string (str rest), sv, .int .i64 D] w fun e w' => e = ansF (twoA ans (bothF sub rest)) ∧ Below w.heap.size w w' := by
  have HCm := hidK fun W => compares_any W
  have HSu := hidK fun W => sumsL_any W
  have HI1 := hidK fun W v (h : strAt W v cmpL) => isInR_any nm (by omega) cmpL (by decide) W v h
  have HI2 := hidK fun W v (h : strAt W v sumL) => isInR_any nm (by omega) sumL (by decide) W v h
  rw [k1] at HI1
  rw [k2] at HI2
  have z3 : ((str nm).toList == [109]) = false := by rw [str_toList]; exact k3
  have y3 : ¬ (str nm).toList = [109] := by rw [str_toList]; exact beq_eq_false_iff_ne.1 k3
  have z4 : ((str nm).toList == [124, 124]) = false := by rw [str_toList]; exact k4
  have y4 : ¬ (str nm).toList = [124, 124] := by rw [str_toList]; exact beq_eq_false_iff_ne.1 k4
  have z5 : ((str nm).toList == [38, 38]) = true := by rw [str_toList]; exact k5
  have y5 : (str nm).toList = [38, 38] := by rw [str_toList]; exact beq_iff_eq.1 k5
  have HP := hidK fun W => partsR_any rest (by omega) hbal W
  have HSh : Hid (∀ q ∈ cutF rest, q.length ≤ 1048576) := fun q hq => Nat.le_trans (cutF_short hq) hl
  have HT := hidK hT
  have HBd := hidK hB
  have HLn := hidK hLen
  have HS := hidK hS
  have HA := hidK hA
  have HE := hidK hE
  have hbe : bothF sub rest = twoF sub (cutF rest) := rfl
  rw [hbe]
  obtain ⟨ps, hps⟩ : ∃ ps, cutF rest = ps := ⟨_, rfl⟩
  rw [hps] at HP HSh ⊢
  obtain ⟨z, hz⟩ : ∃ z, str nm = z := ⟨_, rfl⟩
  rw [hz] at HI1 HI2 HA z3 y3 z4 y4 z5 y5 ⊢
  obtain ⟨q, hq⟩ : ∃ q, str rest = q := ⟨_, rfl⟩
  rw [hq] at HP ⊢
  clear hT hB hLen hS hA hE hbe hps hz hq k1 k2 k3 k4 k5 hl hbal hnm
  go_enter Tryz.func77, Tryz.ntmps77
  go_wp2_with fail
  refine (HCm.out _).mono ?_
  rintro e w1 ⟨v1, rfl, hv1, hb1⟩
  have HV1 := hidK hv1
  have HB1 := hidK hb1
  clear hv1 hb1
  go_wp2_with fail
  refine (HI1.out _ _ HV1.out).mono ?_
  rintro e w1' ⟨rfl, rfl⟩
  go_wp2_with fail
  refine (HSu.out _).mono ?_
  rintro e w2 ⟨v2, rfl, hv2, hb2⟩
  have HV2 := hidK hv2
  have HB2 := hidK (HB1.out.trans (hb2.mono HB1.out.size))
  clear hv2 hb2
  go_wp2_with fail
  refine (HI2.out _ _ HV2.out).mono ?_
  rintro e w2' ⟨rfl, rfl⟩
  go_wp2_with fail
  refine (HP.out _).mono ?_
  rintro e w3 ⟨v, rfl, hv⟩
  obtain ⟨ad, cap, rfl, hat⟩ := hv.at
  have HB3 := hidK (HB2.out.trans (hv.below.mono HB2.out.size))
  have HE3 := hidK (HE.out.below HB3.out)
  have HC := hidK hat
  have hmx : ps.length ≤ 9223372036854775807 := by have := hv.row.len; unfold maxLen at this; omega
  clear hat hv HP HE HI1 HI2 HCm HSu HV1 HV2 HB1 HB2
  by_cases hsh : ps.length = 2
  · obtain ⟨a, b, rfl⟩ : ∃ a b, ps = [a, b] := by
      match ps, hsh with
      | [a, b], _ => exact ⟨a, b, rfl⟩
    obtain ⟨g, o, rfl, _⟩ := HC.out w3 (Below.refl _ _) 0 a rfl
    have HAt : Hid (∀ W', Below w3.heap.size w3 W' → ∀ i l, [a, b][i]? = some l → W'.cell? ⟨g, o + i, none⟩ = some (.string (str l))) := fun W' hW i l hi => by
      obtain ⟨g', o', e, h⟩ := HC.out W' hW i l hi
      cases e
      exact h
    clear HC hsh hmx
    have hn2 : [a, b].length = 2 := rfl
    rw [hn2]
    go_wp2_with fail
    go_loopw [14] (fun s14 wx => ∃ (k : Nat), k ≤ 2 ∧ s14 = .int .i64 (k : Int) ∧ Hid (HL w3 wx sub a b k)) (fun v _ => 2 - (intOf v).toNat)
    case atStart => exact ⟨0, Nat.zero_le _, rfl, ⟨(Below.refl _ _).alloc (Nat.le_refl _) _, [], [], _, heap_alloc_new w3 _, fun h => by omega, fun h => by omega⟩⟩
    case round =>
      obtain ⟨k, hk, rfl, HI⟩ := hrel
      obtain ⟨hbr, x, y, T, hblk, h1, h2⟩ := HI.out
      have HBr := hidK hbr
      have HEr := hidK (HE3.out.below hbr)
      have HH1 := hidK h1
      have HH2 := hidK h2
      have hlt : w3.heap.size < wr.heap.size := (Array.getElem?_eq_some_iff.1 hblk).1
      have HK := hidK hblk
      clear hbr hblk h1 h2 HI
      rcases (show k = 0 ∨ k = 1 ∨ k = 2 by omega) with rfl | rfl | rfl
      · obtain ⟨t, hx⟩ := HT.out a
        have HF := hidK (HS.out a wr HEr.out (HSh.out a (by simp)))
        rw [hx] at HF
        have qa := HAt.out wr HBr.out 0 a rfl
        obtain ⟨zp, hzp⟩ : ∃ z, str a = z := ⟨_, rfl⟩
        rw [hzp] at HF qa
        have ra : wr.cell? ⟨g, o, none⟩ = some (.string zp) := qa
        clear qa hzp
        cases t with
        | error m =>
          have hm : ¬ m = 0 := HBd.out a m hx
          have HR : Hid (twoA ans (twoF sub [a, b]) = .error m) := by
            show _ = _
            simp only [twoF, hx, twoA]
          clear hx
          go_wp2_with fail
          refine HF.out.mono ?_
          rintro e w5 ⟨rfl, hb5⟩
          have HB5 := hidK (HB3.out.trans ((HBr.out.trans (hb5.mono HBr.out.size)).mono HB3.out.size))
          clear hb5
          simp only [resF, Option.getD_some, ansF]
          go_wp2_with fail
          all_goals go_ret2
          all_goals exact ⟨by rw [HR.out]; rfl, HB5.out⟩
        | ok s =>
          have HX := hidK hx
          obtain ⟨zs, hzs⟩ : ∃ z, str s = z := ⟨_, rfl⟩
          have HF2 : Hid (Calls Tryz.prog 113 #[.string zp, sv, .int .i64 D] wr fun e w' => e = .returned (.tuple #[.string zs, .int .i64 0]) ∧ Below wr.heap.size wr w') := HF.out.mono fun e w' ⟨h1, h2⟩ => ⟨by rw [h1, ← hzs]; rfl, h2⟩
          have HZ := hidK hzs
          clear hzs HF hx
          go_wp2_with fail
          refine HF2.out.mono ?_
          rintro e w5 ⟨rfl, hb5⟩
          have hblk5 := (hb5.block w3.heap.size hlt).trans HK.out
          have HB5 := hidK (HBr.out.trans (hb5.mono HBr.out.size))
          have f5 : ∀ j, w5.frozen? ⟨w3.heap.size, j, none⟩ = false := fun j => free_atT hblk5 j
          have b0 : w5.cell? ⟨w3.heap.size, 0, none⟩ = some (.string (str x)) := cell_atT hblk5 0
          have b1 : w5.cell? ⟨w3.heap.size, 1, none⟩ = some (.string (str y)) := cell_atT hblk5 1
          have HK5 := hidK hblk5
          clear hb5 hblk5 HF2
          go_wp2_with fail
          all_goals (
            go_roundw
            case rel =>
              have hnew := heap_setCell_same w5 w3.heap.size 0 _ _ (.string zs) HK5.out
              refine ⟨1, by omega, by go_num, ⟨HB5.out.setCell (Nat.le_refl _) _, ?_⟩⟩
              exact ⟨s, y, _, by rw [HZ.out]; exact hnew, fun _ => HX.out, fun h => by omega⟩
            case measure => simp [intOf])
      · obtain ⟨t, hx⟩ := HT.out b
        have HF := hidK (HS.out b wr HEr.out (HSh.out b (by simp)))
        rw [hx] at HF
        have qb := HAt.out wr HBr.out 1 b rfl
        obtain ⟨zp, hzp⟩ : ∃ z, str b = z := ⟨_, rfl⟩
        rw [hzp] at HF qb
        have rb : wr.cell? ⟨g, o + 1, none⟩ = some (.string zp) := qb
        clear qb hzp
        cases t with
        | error m =>
          have hm : ¬ m = 0 := HBd.out b m hx
          have HR : Hid (twoA ans (twoF sub [a, b]) = .error m) := by
            show _ = _
            simp only [twoF, HH1.out (by omega), hx, twoA]
          clear hx
          go_wp2_with fail
          refine HF.out.mono ?_
          rintro e w5 ⟨rfl, hb5⟩
          have HB5 := hidK (HB3.out.trans ((HBr.out.trans (hb5.mono HBr.out.size)).mono HB3.out.size))
          clear hb5
          simp only [resF, Option.getD_some, ansF]
          go_wp2_with fail
          all_goals go_ret2
          all_goals exact ⟨by rw [HR.out]; rfl, HB5.out⟩
        | ok s =>
          have HX := hidK hx
          obtain ⟨zs, hzs⟩ : ∃ z, str s = z := ⟨_, rfl⟩
          have HF2 : Hid (Calls Tryz.prog 113 #[.string zp, sv, .int .i64 D] wr fun e w' => e = .returned (.tuple #[.string zs, .int .i64 0]) ∧ Below wr.heap.size wr w') := HF.out.mono fun e w' ⟨h1, h2⟩ => ⟨by rw [h1, ← hzs]; rfl, h2⟩
          have HZ := hidK hzs
          clear hzs HF hx
          go_wp2_with fail
          refine HF2.out.mono ?_
          rintro e w5 ⟨rfl, hb5⟩
          have hblk5 := (hb5.block w3.heap.size hlt).trans HK.out
          have HB5 := hidK (HBr.out.trans (hb5.mono HBr.out.size))
          have f5 : ∀ j, w5.frozen? ⟨w3.heap.size, j, none⟩ = false := fun j => free_atT hblk5 j
          have b0 : w5.cell? ⟨w3.heap.size, 0, none⟩ = some (.string (str x)) := cell_atT hblk5 0
          have b1 : w5.cell? ⟨w3.heap.size, 1, none⟩ = some (.string (str y)) := cell_atT hblk5 1
          have HK5 := hidK hblk5
          clear hb5 hblk5 HF2
          go_wp2_with fail
          all_goals (
            go_roundw
            case rel =>
              have hnew := heap_setCell_same w5 w3.heap.size 1 _ _ (.string zs) HK5.out
              refine ⟨2, by omega, by go_num, ⟨HB5.out.setCell (Nat.le_refl _) _, ?_⟩⟩
              exact ⟨x, s, _, by rw [HZ.out]; exact hnew, fun _ => HH1.out (by omega), fun _ => HX.out⟩
            case measure => simp [intOf])
      · have sa := HH1.out (by omega)
        have sb := HH2.out (by omega)
        have HR : Hid (twoA ans (twoF sub [a, b]) = ans x y) := by
          show _ = _
          simp only [twoF, sa, sb, twoA]
        have HF := hidK (HA.out x y wr (HLn.out a x sa) (HLn.out b y sb) HEr.out.num)
        have b0 := cell_atT HK.out 0
        have b1 := cell_atT HK.out 1
        obtain ⟨zx, hzx⟩ : ∃ z, str x = z := ⟨_, rfl⟩
        obtain ⟨zy, hzy⟩ : ∃ z, str y = z := ⟨_, rfl⟩
        rw [hzx, hzy] at HF b0 b1
        have c0 : wr.cell? ⟨w3.heap.size, 0, none⟩ = some (.string zx) := b0
        have c1 : wr.cell? ⟨w3.heap.size, 1, none⟩ = some (.string zy) := b1
        rw [ans_two] at HF
        obtain ⟨R, hR⟩ : ∃ R, ans x y = R := ⟨_, rfl⟩
        rw [hR] at HF HR
        obtain ⟨u, hu⟩ : ∃ u, str (txtF R) = u := ⟨_, rfl⟩
        obtain ⟨c, hc⟩ : ∃ c, codF R = c := ⟨_, rfl⟩
        rw [hu, hc] at HF
        have HQ : Hid (ansF R = .returned (.tuple #[.string u, .int .i64 c])) := by show _ = _; rw [ans_two, hu, hc]
        clear sa sb b0 b1 hzx hzy hR hu hc HH1 HH2
        go_wp2_with fail
        refine HF.out.mono ?_
        rintro e w5 ⟨rfl, hb5⟩
        have HB5 := hidK (HB3.out.trans ((HBr.out.trans (hb5.mono HBr.out.size)).mono HB3.out.size))
        clear hb5
        go_wp2_with fail
        all_goals go_ret2
        all_goals exact ⟨by rw [HR.out, HQ.out]; rfl, HB5.out⟩
  · have HR : Hid (twoA ans (twoF sub ps) = .error 100) := by
      show _ = _
      match ps, hsh with
      | [], _ => rfl
      | [_], _ => rfl
      | [_, _], h => simp at h
      | _ :: _ :: _ :: _, _ => rfl
    clear HC HSh
    obtain ⟨n, hn⟩ : ∃ n, ps.length = n := ⟨_, rfl⟩
    rw [hn] at hsh hmx ⊢
    have hn2 : ¬ (n : Int) = 2 := by omega
    clear hn
    go_wp2_with fail
    all_goals go_ret2
    all_goals exact ⟨by rw [HR.out]; rfl, HB3.out⟩

end Go.Proofs.YtlfcjcaofhcfnaaGreatDoor
