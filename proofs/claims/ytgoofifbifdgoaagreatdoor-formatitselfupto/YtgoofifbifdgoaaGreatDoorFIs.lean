/-
  Formats: whether a text is of a pattern's tokens: the walk.
-/
import Derived.Test.YtgoofifbifdgoaaGreatDoorFOf
import Derived.Handy
namespace Go.Proofs.YtgoofifbifdgoaaGreatDoor
open Go.RowKit
set_option linter.unusedVariables false
set_option maxRecDepth 20000

def tailF (ts : List Tok) : Bool := ts.all (·.many)
def isG : Nat → List Tok → List UInt8 → Nat → Nat → Nat → Nat → Option Bool
  | 0, _, _, _, _, _, _ => none
  | f + 1, ts, s, at_, bs, bg, i =>
    match s[i]? with
    | none => some (tailF (ts.drop at_))
    | some b =>
      match ts[at_]? with
      | none => if 0 < bs then isG f ts s bs bs (bg + 1) (bg + 1) else some false
      | some t => if t.many then isG f ts s (at_ + 1) (at_ + 1) i i else if t.of b then isG f ts s (at_ + 1) bs bg (i + 1) else if 0 < bs then isG f ts s bs bs (bg + 1) (bg + 1) else some false

set_option maxHeartbeats 4000000 in
theorem isOf_any {w : World} {sv : Value} {ts : List Tok} (hT : TokIn w sv ts) (s : List UInt8) (hs : s.length ≤ 4611686018427387904) (f : Nat) (r : Bool) (h : isG f ts s 0 0 0 0 = some r) :
    Calls Tryz.prog 17 #[sv, .string (str s)] w fun e w' => e = .returned (.bool r) ∧ Below w.heap.size w w' := by
  obtain ⟨ad, cap, rfl, hn, hc⟩ := hT
  obtain ⟨n, hnn⟩ : ∃ n, ts.length = n := ⟨_, rfl⟩
  rw [hnn] at hn ⊢
  have HN := hidK hnn
  have HC := hidK hc
  have HR := hidK h
  have hz : (str s).size = s.length := rfl
  obtain ⟨z, hzz⟩ : ∃ z, str s = z := ⟨_, rfl⟩
  have HZ := hidK hzz
  rw [hzz] at hz ⊢
  clear hnn hc h hzz
  go_enter Tryz.func17, Tryz.ntmps17
  go_wp2_with fail
  go_loopg [5, 6, 7, 8] f (fun gg s5 s6 s7 s8 wx => ∃ a b g i : Nat, s5 = .int .i64 (a : Int) ∧ s6 = .int .i64 (b : Int) ∧ s7 = .int .i64 (g : Int) ∧ s8 = .int .i64 (i : Int) ∧ a ≤ n ∧ b ≤ n ∧ g ≤ i ∧ i ≤ s.length ∧ Hid (isG gg ts s a b g i = some r) ∧ Hid (Below w.heap.size w wx))
  case atStart => exact ⟨0, 0, 0, 0, rfl, rfl, rfl, rfl, Nat.zero_le _, Nat.zero_le _, Nat.le_refl _, Nat.zero_le _, HR.out, Below.refl _ _⟩
  case round =>
    obtain ⟨a, b, g, i, rfl, rfl, rfl, rfl, ha, hb, hg, hi, HG, HB⟩ := hrel
    cases gk with
    | zero => have h := HG.out; cases h
    | succ gk =>
      by_cases his : i < s.length
      · obtain ⟨c, hc⟩ : ∃ c, s[i]? = some c := ⟨_, List.getElem?_eq_getElem his⟩
        have gi : ∀ h : i < z.size, z[i] = c := fun h => by have hh := HZ.out; subst hh; exact str_getF _ i c hc h
        have gi' := gi (by omega)
        have hG := HG.out
        unfold isG at hG
        rw [hc] at hG
        simp only at hG
        by_cases han : a < n
        · obtain ⟨t, ht⟩ : ∃ t, ts[a]? = some t := ⟨_, List.getElem?_eq_getElem (by rw [HN.out]; exact han)⟩
          obtain ⟨hm0, gB, o, hadd, k0, k1, k2⟩ := HC.out a t ht
          have HBs := World.block_lt_of_cell? w _ k0
          have k0' := (HB.out.cell (p := ⟨gB, o + a * 3, none⟩) HBs).trans k0
          have k1' := (HB.out.cell (p := ⟨gB, o + a * 3 + 1, none⟩) HBs).trans k1
          have k2' := (HB.out.cell (p := ⟨gB, o + a * 3 + 2, none⟩) HBs).trans k2
          have HK : Hid (∀ X, Below w.heap.size w X → X.cell? ⟨gB, o + a * 3, none⟩ = some (.bool t.many) ∧ X.cell? ⟨gB, o + a * 3 + 1, none⟩ = some (.bool t.not) ∧ X.cell? ⟨gB, o + a * 3 + 2, none⟩ = some (.string (str t.mem))) := fun X hX => ⟨(hX.cell (p := ⟨gB, o + a * 3, none⟩) HBs).trans k0, (hX.cell (p := ⟨gB, o + a * 3 + 1, none⟩) HBs).trans k1, (hX.cell (p := ⟨gB, o + a * 3 + 2, none⟩) HBs).trans k2⟩
          have HA := hidK hadd
          rw [hadd]
          rw [ht] at hG
          simp only at hG
          have HSt := hidK fun W => stands_any t hm0 c W
          clear k0 k1 k2 HBs hadd gi hc ht
          by_cases hmany : t.many = true
          · rw [if_pos hmany] at hG
            have HG2 := hidK hG
            rw [hmany] at k0'
            clear hG HG HSt k1' k2'
            go_wp2_with fail
            rw [← HA.out]
            go_roundg gk
            case measure => simp
            case rel => exact ⟨a + 1, a + 1, i, i, by go_num, by go_num, rfl, rfl, by omega, by omega, Nat.le_refl _, hi, HG2.out, HB.out⟩
          · rw [if_neg hmany] at hG
            have hmf : t.many = false := by cases hh : t.many with | false => rfl | true => exact absurd hh hmany
            rw [hmf] at k0'
            rw [hmf] at HSt HK
            obtain ⟨nt, hnt⟩ : ∃ nt, t.not = nt := ⟨_, rfl⟩
            obtain ⟨zm, hzm⟩ : ∃ zm, str t.mem = zm := ⟨_, rfl⟩
            rw [hnt, hzm] at HSt HK
            rw [hnt] at k1'
            rw [hzm] at k2'
            obtain ⟨q, hq⟩ : ∃ q, t.of c = q := ⟨_, rfl⟩
            rw [hq] at HSt hG
            clear hmany hmf hnt hzm hq hm0
            cases q with
            | true =>
              rw [if_pos rfl] at hG
              have HG2 := hidK hG
              clear hG HG
              go_wp2_with fail
              go_region_held3 (fun X => X.cell? ⟨gB, o + a * 3, none⟩ = some (.bool false) ∧ X.cell? ⟨gB, o + a * 3 + 1, none⟩ = some (.bool nt) ∧ X.cell? ⟨gB, o + a * 3 + 2, none⟩ = some (.string zm)) (go_keep) ((go_at_call 23; refine (HSt.out _).mono ?_; rintro e w2 ⟨rfl, hb2⟩; have HB2 : Hid (Below w.heap.size w w2) := (by first | exact HB.out.trans (hb2.mono HB.out.size) | exact HB.out.drew.trans (hb2.mono HB.out.size)); clear hb2; obtain ⟨j0, j1, j2⟩ := HK.out w2 HB2.out))
              all_goals (try go_wp2)
              all_goals rw [← HA.out]
              all_goals go_roundg gk
              case measure => simp
              case rel => exact ⟨a + 1, b, g, i + 1, by go_num, rfl, rfl, by go_num, by omega, hb, by omega, by omega, HG2.out, HB2.out⟩
            | false =>
              rw [if_neg (by simp)] at hG
              by_cases hb0 : 0 < b
              · rw [if_pos hb0] at hG
                have HG2 := hidK hG
                clear hG HG
                go_wp2_with fail
                go_region_held3 (fun X => X.cell? ⟨gB, o + a * 3, none⟩ = some (.bool false) ∧ X.cell? ⟨gB, o + a * 3 + 1, none⟩ = some (.bool nt) ∧ X.cell? ⟨gB, o + a * 3 + 2, none⟩ = some (.string zm)) (go_keep) ((go_at_call 23; refine (HSt.out _).mono ?_; rintro e w2 ⟨rfl, hb2⟩; have HB2 : Hid (Below w.heap.size w w2) := (by first | exact HB.out.trans (hb2.mono HB.out.size) | exact HB.out.drew.trans (hb2.mono HB.out.size)); clear hb2; obtain ⟨j0, j1, j2⟩ := HK.out w2 HB2.out))
                all_goals (try go_wp2)
                all_goals rw [← HA.out]
                all_goals go_roundg gk
                case measure => simp
                case rel => exact ⟨b, b, g + 1, g + 1, rfl, rfl, by go_num, by go_num, hb, hb, Nat.le_refl _, by omega, HG2.out, HB2.out⟩
              · rw [if_neg hb0] at hG
                have HG2 : Hid (false = r) := Option.some.inj hG
                clear hG HG
                go_wp2_with fail
                go_region_held3 (fun X => X.cell? ⟨gB, o + a * 3, none⟩ = some (.bool false) ∧ X.cell? ⟨gB, o + a * 3 + 1, none⟩ = some (.bool nt) ∧ X.cell? ⟨gB, o + a * 3 + 2, none⟩ = some (.string zm)) (go_keep) ((go_at_call 23; refine (HSt.out _).mono ?_; rintro e w2 ⟨rfl, hb2⟩; have HB2 : Hid (Below w.heap.size w w2) := (by first | exact HB.out.trans (hb2.mono HB.out.size) | exact HB.out.drew.trans (hb2.mono HB.out.size)); clear hb2; obtain ⟨j0, j1, j2⟩ := HK.out w2 HB2.out))
                all_goals (try go_wp2)
                all_goals go_ret
                all_goals exact ⟨ret_bool HG2.out, HB2.out⟩
        · have hnone : ts[a]? = none := List.getElem?_eq_none (by rw [HN.out]; omega)
          rw [hnone] at hG
          simp only at hG
          clear gi hc hnone
          by_cases hb0 : 0 < b
          · rw [if_pos hb0] at hG
            have HG2 := hidK hG
            clear hG HG gi'
            go_wp2_with fail
            go_region
            all_goals go_wp2
            all_goals go_roundg gk
            case measure => simp
            case rel => exact ⟨b, b, g + 1, g + 1, rfl, rfl, by go_num, by go_num, hb, hb, Nat.le_refl _, by omega, HG2.out, by first | exact HB.out | exact HB.out.drew⟩
          · rw [if_neg hb0] at hG
            have HG2 : Hid (false = r) := Option.some.inj hG
            clear hG HG gi'
            go_wp2_with fail
            go_region
            all_goals go_wp2
            all_goals go_ret
            all_goals exact ⟨ret_bool HG2.out, by first | exact HB.out | exact HB.out.drew⟩
      · have hin : s[i]? = none := List.getElem?_eq_none (by omega)
        have hG := HG.out
        unfold isG at hG
        rw [hin] at hG
        have HG2 : Hid (tailF (ts.drop a) = r) := Option.some.inj hG
        clear hG HG hin
        go_wp2_with fail
        go_loopw [5] (fun s5 wx => ∃ a : Nat, s5 = .int .i64 (a : Int) ∧ a ≤ n ∧ Hid (tailF (ts.drop a) = r) ∧ Hid (Below w.heap.size w wx)) (fun s5 _ => n - (intOf s5).toNat)
        case atStart => exact ⟨a, rfl, ha, HG2.out, HB.out⟩
        case round =>
          clear HG2 HB ha
          obtain ⟨a, rfl, ha, HG2, HB⟩ := hrel
          by_cases han : a < n
          · obtain ⟨t, ht⟩ : ∃ t, ts[a]? = some t := ⟨_, List.getElem?_eq_getElem (by rw [HN.out]; exact han)⟩
            obtain ⟨hm0, gB, o, hadd, k0, k1, k2⟩ := HC.out a t ht
            have k0' := (HB.out.cell (p := ⟨gB, o + a * 3, none⟩) (World.block_lt_of_cell? w _ k0)).trans k0
            have hdr : ts.drop a = t :: ts.drop (a + 1) := by
              obtain ⟨h1, h2⟩ := List.getElem?_eq_some_iff.1 ht
              rw [List.drop_eq_getElem_cons h1, h2]
            have hG := HG2.out
            rw [hdr] at hG
            have hG' : (t.many && tailF (ts.drop (a + 1))) = r := hG
            have HA := hidK hadd
            rw [hadd]
            obtain ⟨q, hq⟩ : ∃ q, t.many = q := ⟨_, rfl⟩
            rw [hq] at k0' hG'
            clear hq hG k0 k1 k2 hm0 hdr ht HG2 hadd
            cases q with
            | true =>
              have HG3 : Hid (tailF (ts.drop (a + 1)) = r) := hG'
              clear hG'
              go_wp2_with fail
              try go_region
              all_goals (try go_wp2)
              all_goals (try rw [← HA.out])
              all_goals go_roundw
              case rel => exact ⟨a + 1, by go_num, by omega, HG3.out, by first | exact HB.out | exact HB.out.drew⟩
              case measure => simp [intOf]; omega
            | false =>
              have HG3 : Hid (false = r) := hG'
              clear hG'
              go_wp2_with fail
              all_goals go_ret
              all_goals exact ⟨ret_bool (by first | (rw [← HG3.out]; done) | (rw [← HG3.out]; simp <;> omega)), HB.out⟩
          · have hae : a = n := by omega
            have HG3 : Hid (true = r) := by
              have h := HG2.out
              rw [List.drop_eq_nil_of_le (by rw [HN.out]; omega)] at h
              exact h
            clear HG2
            go_wp2_with fail
            all_goals go_ret
            all_goals exact ⟨ret_bool (by first | (rw [← HG3.out]; done) | (rw [← HG3.out]; simp <;> omega)), HB.out⟩
end Go.Proofs.YtgoofifbifdgoaaGreatDoor
