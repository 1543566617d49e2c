/-
  Formats: the document's Expand of every text; the statement's walk.
-/
import Derived.Test.YtlfcjcaofhcfnaaGreatDoorIF
import Derived.Test.YtlfcjcaofhcfnaaGreatDoorIR
import Derived.Test.YtlfcjcaofhcfnaaGreatDoorIS
namespace Go.Proofs.YtlfcjcaofhcfnaaGreatDoor
open Go.RowKit
set_option linter.unusedVariables false
set_option maxRecDepth 100000

theorem sayR_all (vs : Vars) (sv : Value) : ∀ r : Nat, r ≤ 16 → SayR vs sv r (16 - (r : Int))
  | 0, _ => expandR_step (by omega) (by omega) (fun h => absurd rfl h)
  | r + 1, h => expandR_step (r := r + 1) rfl h fun _ p w hE hl hb => by
      have hS := sayR_all vs sv r (by omega)
      rw [show (16 : Int) - (r : Int) = 16 - ((r + 1 : Nat) : Int) + 1 by omega] at hS
      exact placeR_any ⟨by omega, by omega⟩ hS p hl hb w hE
set_option maxHeartbeats 1000000 in
theorem refExpand_any {vs : Vars} {sv : Value} {w : World} (hE : RE w sv vs) (l : List UInt8) (hl : l.length ≤ 1048576) : Calls Tryz.prog 6 #[.string (str l), sv] w fun e w' => e = ansF (saysF vs l) ∧ Below w.heap.size w w' := by
  have h := sayR_all vs sv 16 (Nat.le_refl _) l w hE hl
  rw [show (16 : Int) - ((16 : Nat) : Int) = 0 by omega, says_eq vs l] at h
  have e : resF (some (saysF vs l)) = saysF vs l := rfl
  rw [e, ans_two] at h
  rw [ans_two]
  have HS := hidK h
  obtain ⟨y, hy⟩ : ∃ y, str (txtF (saysF vs l)) = y := ⟨_, rfl⟩
  obtain ⟨c, hc⟩ : ∃ c, codF (saysF vs l) = c := ⟨_, rfl⟩
  rw [hy, hc] at HS ⊢
  obtain ⟨z, hz⟩ : ∃ z, str l = z := ⟨_, rfl⟩
  rw [hz] at HS ⊢
  clear h e hy hc hz hE
  go_enter Tryz.func6, Tryz.ntmps6
  go_wp2_with fail
  refine HS.out.mono ?_
  rintro e w1 ⟨rfl, hb⟩
  have HB := hidK hb
  clear hb
  go_wp2_with fail
  all_goals go_ret2
  all_goals exact ⟨rfl, HB.out⟩
set_option maxHeartbeats 2000000 in
theorem same_vars {w : World} {sa sb : Value} {vs : Vars} (ha : VarsIn w sa vs) (hb : VarsIn w sb vs) : Calls Tryz.prog 8 #[sa, sb] w fun e w' => e = .returned (.bool true) ∧ Below w.heap.size w w' := by
  have HA := hidK ha
  have HB := hidK hb
  obtain ⟨ad, cap, rfl, hl, -⟩ := ha
  obtain ⟨bd, cbp, rfl, -, -⟩ := hb
  obtain ⟨n, hn⟩ : ∃ n, vs.length = n := ⟨_, rfl⟩
  have HN := hidK hn
  rw [hn] at hl ⊢
  clear hn
  go_enter Tryz.func8, Tryz.ntmps8
  go_wp2_with fail
  go_loopw [5] (fun s5 wx => ∃ k : Nat, k ≤ n ∧ s5 = .int .i64 (k : Int) ∧ Hid (Below w.heap.size w wx)) (fun v _ => n - (intOf v).toNat)
  case atStart => exact ⟨0, Nat.zero_le _, rfl, Below.refl _ _⟩
  case round =>
    obtain ⟨k, hk, rfl, HBl⟩ := hrel
    by_cases hkn : k < n
    · obtain ⟨⟨nm, vl⟩, hp⟩ : ∃ p, vs[k]? = some p := ⟨_, List.getElem?_eq_getElem (by rw [HN.out]; exact hkn)⟩
      obtain ⟨ad', cap', e, _, h2⟩ := HA.out.below HBl.out
      cases e
      obtain ⟨g, o, rfl, _, q0, q1⟩ := h2 k _ hp
      obtain ⟨bd', cbp', e, _, h3⟩ := HB.out.below HBl.out
      cases e
      obtain ⟨g', o', rfl, _, q2, q3⟩ := h3 k _ hp
      simp only at q0 q1 q2 q3
      obtain ⟨y, hy⟩ : ∃ y, str nm = y := ⟨_, rfl⟩
      obtain ⟨x, hx⟩ : ∃ x, str vl = x := ⟨_, rfl⟩
      rw [hy] at q0 q2
      rw [hx] at q1 q3
      clear hp h2 h3 hy hx
      go_wp2_with fail
      go_region
      all_goals go_wp2_with fail
      all_goals (
        go_roundw
        case rel => exact ⟨k + 1, by omega, by go_num, by first | exact HBl.out | exact HBl.out.drew⟩
        case measure => simp [intOf]; omega)
    · obtain rfl : k = n := by omega
      go_wp2_with fail
      all_goals go_ret
      all_goals exact ⟨rfl, HBl.out⟩
set_option maxHeartbeats 4000000 in
theorem formatExpands_walk (f : List UInt8) (sv : Value) (vs : Vars) (w : World) (hE : FEnv w) (hv : VarsIn w sv vs) (hvs : ∀ p ∈ vs, p.2.length ≤ 1048576) (hvl : vs.length ≤ 1048576) (hf : f.length ≤ 1048576) :
    Calls Tryz.prog 3 #[.string (str f), sv] w fun e w' => e = .returned (.bool true) ∧ Below w.heap.size w w' := by
  have hs2 : ∀ p ∈ vs, p.2.length ≤ 2147483647 := fun p hp => by have := hvs p hp; omega
  have HT := hidK (twin_any hv (by omega))
  have HW : Hid (∀ W, Below w.heap.size w W → Calls Tryz.prog 7 #[] W fun e w' => e = .returned (.bool true) ∧ Below W.heap.size W w') := fun W h => works_all (hE.below h)
  have HX : Hid (∀ W, Below w.heap.size w W → ∀ su, VarsIn W su vs → Calls Tryz.prog 5 #[.string (str f), su] W fun e w' => e = ansF (saysF vs f) ∧ Below W.heap.size W w') := fun W hb su hu => expand_all (hE.below hb) hu hs2 f (by omega)
  have HR : Hid (∀ W, Below w.heap.size w W → Calls Tryz.prog 6 #[.string (str f), sv] W fun e w' => e = ansF (saysF vs f) ∧ Below W.heap.size W w') := fun W hb => refExpand_any ⟨hv.below hb, (hE.below hb).num, hs2⟩ f hf
  have HS : Hid (∀ W, Below w.heap.size w W → ∀ su, VarsIn W su vs → Calls Tryz.prog 8 #[su, sv] W fun e w' => e = .returned (.bool true) ∧ Below w.heap.size w w') := fun W hb su hu => (same_vars hu (hv.below hb)).mono fun e w' ⟨h1, h2⟩ => ⟨h1, hb.trans (h2.mono hb.size)⟩
  obtain ⟨R, hR⟩ : ∃ R, saysF vs f = R := ⟨_, rfl⟩
  rw [hR] at HX HR
  have hR2 : ansF R = .returned (.tuple #[.string (str (txtF R)), .int .i64 (codF R)]) := ans_two R
  rw [hR2] at HX HR
  obtain ⟨zt, hzt⟩ : ∃ z, str (txtF R) = z := ⟨_, rfl⟩
  obtain ⟨cd, hcd⟩ : ∃ z, codF R = z := ⟨_, rfl⟩
  rw [hzt, hcd] at HX HR
  obtain ⟨z, hz⟩ : ∃ z, str f = z := ⟨_, rfl⟩
  rw [hz] at HX HR ⊢
  clear hR hR2 hzt hcd hz hE hs2 hvs
  obtain ⟨ad, cap, rfl, -, -⟩ := hv
  go_enter Tryz.func3, Tryz.ntmps3
  go_wp2_with fail
  refine HT.out.mono ?_
  rintro e w1 ⟨v', rfl, hvl1⟩
  have HV1 := hidK (vl_in hvl1 (by omega))
  have HB1 := hidK hvl1.below
  clear hvl1 HT
  obtain ⟨ad', cap', hv', -, -⟩ := id HV1.out
  subst hv'
  have HX1 := hidK (HX.out w1 HB1.out _ HV1.out)
  go_wp2_with fail
  refine HX1.out.mono ?_
  rintro e w2 ⟨rfl, hb2⟩
  have HB2 := hidK (HB1.out.trans (hb2.mono HB1.out.size))
  have HV2 := hidK (HV1.out.below hb2)
  clear hb2 HX1 HV1 HB1 HX
  have HR2 := hidK (HR.out w2 HB2.out)
  go_wp2_with fail
  refine HR2.out.mono ?_
  rintro e w3 ⟨rfl, hb3⟩
  have HB3 := hidK (HB2.out.trans (hb3.mono HB2.out.size))
  have HV3 := hidK (HV2.out.below hb3)
  clear hb3 HR2 HV2 HB2 HR
  go_wp2_with fail
  refine (HW.out _ HB3.out).mono ?_
  rintro e w4 ⟨rfl, hb4⟩
  have HS4 := hidK (HS.out w4 (HB3.out.trans (hb4.mono HB3.out.size)) _ (HV3.out.below hb4))
  clear hb4 HV3 HB3 HW HS
  go_wp2_with fail
  refine HS4.out.mono ?_
  rintro e w5 ⟨rfl, hb5⟩
  have HB5 := hidK hb5
  clear hb5 HS4
  go_wp2_with fail
  all_goals go_ret
  all_goals exact ⟨rfl, HB5.out⟩

end Go.Proofs.YtlfcjcaofhcfnaaGreatDoor
