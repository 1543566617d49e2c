/-
  Formats: what the members of a set stand for.
  Formats: whether a text is of a pattern's tokens.
  Formats: whether a text is of a pattern's tokens: the walk.
-/
import Derived.Test.YtlfcjcaofhcfnaaGreatDoorGA
import Derived.Deep.LoopGhost
import Derived.Deep.RegionHeld3
import Derived.Handy
namespace Go.Proofs.YtlfcjcaofhcfnaaGreatDoor
open Go.RowKit
set_option linter.unusedVariables false
set_option maxRecDepth 20000

theorem span_pos (l : List UInt8) : 1 ≤ (spanF l).2 := by
  match l with
  | [] => exact Nat.le_refl _
  | [c] => exact Nat.le_refl _
  | [c, d] => exact Nat.le_refl _
  | c :: d :: e :: r => simp only [spanF]; split <;> simp
theorem span_le {l : List UInt8} (h : l ≠ []) : (spanF l).2 ≤ l.length := by
  match l with
  | [] => exact absurd rfl h
  | [c] => simp [spanF]
  | [c, d] => simp [spanF]
  | c :: d :: e :: r => simp only [spanF, List.length_cons]; split <;> simp

theorem span_cs {x : List UInt8} {c t : UInt8} {n : Nat} (hc : x[0]? = some c) (hsp : spanF x = (t, n)) : (t = c ∧ n = 1 ∧ (x.length < 3 ∨ 3 ≤ x.length ∧ ∃ d, x[1]? = some d ∧ ¬ d.toNat = 45)) ∨ (n = 3 ∧ 3 ≤ x.length ∧ x[2]? = some t ∧ ∃ d, x[1]? = some d ∧ d.toNat = 45) := by
  match x with
  | [] => cases hc
  | [c'] => cases hc; cases hsp; exact .inl ⟨rfl, rfl, .inl (by simp)⟩
  | [c', d] => cases hc; cases hsp; exact .inl ⟨rfl, rfl, .inl (by simp)⟩
  | c' :: d :: e :: r =>
    cases hc
    simp only [spanF] at hsp
    split at hsp
    · cases hsp; exact .inr ⟨rfl, by simp, rfl, d, rfl, by assumption⟩
    · cases hsp; exact .inl ⟨rfl, rfl, .inr ⟨by simp, d, rfl, by assumption⟩⟩

set_option maxHeartbeats 4000000 in
theorem has_any (l : List UInt8) (hl : l.length ≤ 4611686018427387904) (b : UInt8) (w : World) : Calls Tryz.prog 122 #[.string (str l), .int .u8 (b.toNat : Int)] w fun e w' => e = .returned (.bool (hasF l b)) ∧ Below w.heap.size w w' := by
  have HF0 : Hid (hasG l.length l b = hasF l b) := rfl
  go_enter Tryz.func122, Tryz.ntmps122
  go_wp2_with fail
  go_loopw [0] (fun s0 wx => ∃ (x : List UInt8) (f : Nat), Hid (Below w.heap.size w wx) ∧ x.length ≤ 4611686018427387904 ∧ s0 = .string (str x) ∧ Hid (x.length ≤ f ∧ hasG f x b = hasF l b)) (fun s0 _ => match s0 with | .string z => z.size | _ => 0)
  case atStart => exact ⟨l, l.length, Below.refl _ _, hl, rfl, ⟨Nat.le_refl _, HF0.out⟩⟩
  case round =>
    obtain ⟨x, f, HB, hxl, rfl, HF⟩ := hrel
    by_cases hx : x = []
    · have HR : Hid (hasF l b = false) := by
        have h := HF.out.2
        rw [hx] at h
        cases f with
        | zero => exact h.symm
        | succ f => exact h.symm
      have h0 : (str x).toList = [] := by rw [str_toList]; exact hx
      have h1 : (str x).toList.isEmpty = true := by rw [h0]; rfl
      obtain ⟨z, hz⟩ : ∃ z, str x = z := ⟨_, rfl⟩
      rw [hz] at h0 h1 ⊢
      clear HF hz hx hxl
      go_wp2_with fail
      all_goals go_ret
      all_goals exact ⟨ret_bool (by rw [HR.out]), HB.out⟩
    · have h0 : ¬ (str x).toList = [] := by rw [str_toList]; exact hx
      have h1 : (str x).toList.isEmpty = false := by rw [str_toList]; cases x with | nil => exact absurd rfl hx | cons _ _ => rfl
      have hxp : 0 < x.length := List.length_pos_iff.2 hx
      obtain ⟨hf1, hf2⟩ := HF.out
      obtain ⟨f', rfl⟩ : ∃ f', f = f' + 1 := ⟨f - 1, by omega⟩
      obtain ⟨c, hc⟩ : ∃ c, x[0]? = some c := ⟨_, List.getElem?_eq_getElem hxp⟩
      obtain ⟨t, n, hsp⟩ : ∃ t n, spanF x = (t, n) := ⟨_, _, rfl⟩
      have hn1 : 1 ≤ n := by have := span_pos x; rw [hsp] at this; exact this
      have hn2 : n ≤ x.length := by have := span_le hx; rw [hsp] at this; exact this
      have hf3 : ((decide (c.toNat ≤ b.toNat) && decide (b.toNat ≤ t.toNat)) || hasG f' (x.drop n) b) = hasF l b := by
        cases x with
        | nil => exact absurd rfl hx
        | cons c' r =>
          cases hc
          have h := hf2
          simp only [hasG, hsp] at h
          exact h
      have hdn := str_dropF x n
      have hzs : (str x).size = x.length := rfl
      have g0 : ∀ h : 0 < (str x).size, (str x)[0] = c := fun h => str_getF _ 0 c hc h
      obtain ⟨y, hy⟩ : ∃ y, str (x.drop n) = y := ⟨_, rfl⟩
      have HXd : Hid ((x.drop n).length + n = x.length) := by show _ = _; rw [List.length_drop]; omega
      have hcs := span_cs hc hsp
      have g1 : ∀ d, x[1]? = some d → ∀ h : 1 < (str x).size, (str x)[1] = d := fun d hd h => str_getF _ 1 d hd h
      have g2 : ∀ d, x[2]? = some d → ∀ h : 2 < (str x).size, (str x)[2] = d := fun d hd h => str_getF _ 2 d hd h
      obtain ⟨z, hz⟩ : ∃ z, str x = z := ⟨_, rfl⟩
      rw [hz] at h0 h1 hdn hzs g0 g1 g2 ⊢
      rw [hy, hzs] at hdn
      have HY := hidK hy
      have HZ := hidK hz
      have g0' := g0 (by omega)
      have HF2 : Hid ((x.drop n).length ≤ f') := by have := HXd.out; show _ ≤ _; omega
      have HF3 := hidK hf3
      clear HF hf2 hf3 g0 hy hz hsp
      rcases hcs with ⟨rfl, rfl, hlt | ⟨h3, d, hd, hd45⟩⟩ | ⟨rfl, h3, ht, d, hd, hd45⟩
      · clear g1 g2
        clear hx hf1
        go_wp2_with fail
        go_region
        all_goals go_wp2
        all_goals first
          | (go_ret
             refine ⟨ret_bool ?_, HB.out.drew⟩
             rw [← HF3.out]
             simp only [Bool.or_eq_true, Bool.and_eq_true, decide_eq_true_eq, eq_comm (a := true)]
             exact .inl (by omega))
          | (go_roundw
             case rel =>
               refine ⟨x.drop 1, f', HB.out.drew, by have := HXd.out; omega, by rw [HY.out], HF2.out, ?_⟩
               have h := HF3.out
               rw [Bool.or_eq_right_iff_imp.2] at h
               · exact h
               · intro h9
                 simp only [Bool.and_eq_true, decide_eq_true_eq] at h9
                 omega
             case measure =>
               show ByteArray.size y < z.size
               rw [← HY.out]
               show (x.drop 1).length < z.size
               have := HXd.out
               omega)
      · have g1' := g1 d hd (by omega)
        clear g1 g2
        clear hx hf1
        go_wp2_with fail
        go_region
        all_goals go_wp2
        all_goals first
          | (go_ret
             refine ⟨ret_bool ?_, HB.out.drew⟩
             rw [← HF3.out]
             simp only [Bool.or_eq_true, Bool.and_eq_true, decide_eq_true_eq, eq_comm (a := true)]
             exact .inl (by omega))
          | (go_roundw
             case rel =>
               refine ⟨x.drop 1, f', HB.out.drew, by have := HXd.out; omega, by rw [HY.out], HF2.out, ?_⟩
               have h := HF3.out
               rw [Bool.or_eq_right_iff_imp.2] at h
               · exact h
               · intro h9
                 simp only [Bool.and_eq_true, decide_eq_true_eq] at h9
                 omega
             case measure =>
               show ByteArray.size y < z.size
               rw [← HY.out]
               show (x.drop 1).length < z.size
               have := HXd.out
               omega)
      · have g1' := g1 d hd (by omega)
        have g2' := g2 _ ht (by omega)
        clear g1 g2
        clear hx hf1
        go_wp2_with fail
        go_region
        all_goals go_wp2
        all_goals first
          | (go_ret
             refine ⟨ret_bool ?_, HB.out.drew⟩
             rw [← HF3.out]
             simp only [Bool.or_eq_true, Bool.and_eq_true, decide_eq_true_eq, eq_comm (a := true)]
             exact .inl (by omega))
          | (go_roundw
             case rel =>
               refine ⟨x.drop 3, f', HB.out.drew, by have := HXd.out; omega, by rw [HY.out], HF2.out, ?_⟩
               have h := HF3.out
               rw [Bool.or_eq_right_iff_imp.2] at h
               · exact h
               · intro h9
                 simp only [Bool.and_eq_true, decide_eq_true_eq] at h9
                 omega
             case measure =>
               show ByteArray.size y < z.size
               rw [← HY.out]
               show (x.drop 3).length < z.size
               have := HXd.out
               omega)
end Go.Proofs.YtlfcjcaofhcfnaaGreatDoor

namespace Go.Proofs.YtlfcjcaofhcfnaaGreatDoor
open Go.RowKit
set_option linter.unusedVariables false
set_option maxRecDepth 20000

def TokIn (w : World) (v : Value) (ts : List Tok) : Prop := ∃ ad cap, v = .slice ad ts.length cap ∧ ts.length ≤ 4611686018427387904 ∧ ∀ (i : Nat) (t : Tok), ts[i]? = some t → t.mem.length ≤ 4611686018427387904 ∧ ∃ g o, ad = some ⟨g, o, none⟩ ∧ w.cell? ⟨g, o + i * 3, none⟩ = some (.bool t.many) ∧ w.cell? ⟨g, o + i * 3 + 1, none⟩ = some (.bool t.not) ∧ w.cell? ⟨g, o + i * 3 + 2, none⟩ = some (.string (str t.mem))
set_option maxHeartbeats 1000000 in
theorem stands_any (t : Tok) (hl : t.mem.length ≤ 4611686018427387904) (b : UInt8) (w : World) : Calls Tryz.prog 79 #[.agg #[.bool t.many, .bool t.not, .string (str t.mem)], .int .u8 (b.toNat : Int)] w fun e w' => e = .returned (.bool (t.of b)) ∧ Below w.heap.size w w' := by
  have HH := hidK fun W => has_any t.mem hl b W
  obtain ⟨z, hz⟩ : ∃ z, str t.mem = z := ⟨_, rfl⟩
  have HO : Hid (t.of b = (hasF t.mem b != t.not)) := rfl
  obtain ⟨q, hq⟩ : ∃ q, hasF t.mem b = q := ⟨_, rfl⟩
  obtain ⟨tm, tn, tl⟩ := t
  simp only at hz hq HH HO hl
  rw [hz] at HH ⊢
  rw [hq] at HH HO
  simp only
  clear hz hq hl
  obtain ⟨w1, hw1⟩ : ∃ w1, w.alloc (.cells #[.bool tm, .bool tn, .string z] 120) = w1 := ⟨_, rfl⟩
  have HCell : Hid (∀ X, Below w1.heap.size w1 X → X.cell? ⟨w.heap.size, 1, none⟩ = some (.bool tn) ∧ X.cell? ⟨w.heap.size, 2, none⟩ = some (.string z)) := by
    intro X hX
    have hlt : w.heap.size < w1.heap.size := by rw [← hw1]; simp
    refine ⟨(hX.cell (p := ⟨w.heap.size, 1, none⟩) hlt).trans ?_, (hX.cell (p := ⟨w.heap.size, 2, none⟩) hlt).trans ?_⟩
    · rw [← hw1, World.cell?_alloc_at _ _ _ _ rfl]; rfl
    · rw [← hw1, World.cell?_alloc_at _ _ _ _ rfl]; rfl
  have HB1 : Hid (Below w.heap.size w w1) := by rw [← hw1]; exact (Below.refl _ _).alloc (Nat.le_refl _) _
  go_enter Tryz.func79, Tryz.ntmps79
  go_wp2_with fail
  try rw [hw1]
  obtain ⟨m1, m2⟩ := HCell.out _ (Below.refl _ _)
  have HBx := hidK (Below.refl w1.heap.size w1)
  go_region_held3 (fun X => X.cell? ⟨w.heap.size, 1, none⟩ = some (.bool tn) ∧ X.cell? ⟨w.heap.size, 2, none⟩ = some (.string z)) (go_keep) ((go_at_call 122; refine (HH.out _).mono ?_; rintro e wS ⟨rfl, hbS⟩; have HBn : Hid (Below w1.heap.size w1 wS) := (by first | exact hbS | exact (Below.drew (Below.refl _ _)).trans hbS); clear hbS; clear HBx; have HBx := hidK HBn.out; clear HBn; obtain ⟨m1, m2⟩ := HCell.out wS HBx.out))
  all_goals (try go_wp2)
  all_goals go_ret
  all_goals refine ⟨ret_bool ?_, HB1.out.trans (by first | exact HBx.out.mono HB1.out.size | exact HBx.out.drew.mono HB1.out.size)⟩
  all_goals (rw [HO.out]; try rfl)
end Go.Proofs.YtlfcjcaofhcfnaaGreatDoor

namespace Go.Proofs.YtlfcjcaofhcfnaaGreatDoor
open Go.RowKit
set_option linter.unusedVariables false
set_option maxRecDepth 20000

def tailF (ts : List Tok) : Bool := ts.all (·.many)
def isG : Nat → List Tok → List UInt8 → Nat → Nat → Nat → Nat → Option Bool
  | 0, _, _, _, _, _, _ => none
  | f + 1, ts, s, at_, bs, bg, i =>
    match s[i]? with
    | none => some (tailF (ts.drop at_))
    | some b =>
      match ts[at_]? with
      | none => if 0 < bs then isG f ts s bs bs (bg + 1) (bg + 1) else some false
      | some t => if t.many then isG f ts s (at_ + 1) (at_ + 1) i i else if t.of b then isG f ts s (at_ + 1) bs bg (i + 1) else if 0 < bs then isG f ts s bs bs (bg + 1) (bg + 1) else some false

set_option maxHeartbeats 4000000 in
theorem isOf_any {w : World} {sv : Value} {ts : List Tok} (hT : TokIn w sv ts) (s : List UInt8) (hs : s.length ≤ 4611686018427387904) (f : Nat) (r : Bool) (h : isG f ts s 0 0 0 0 = some r) :
    Calls Tryz.prog 28 #[sv, .string (str s)] w fun e w' => e = .returned (.bool r) ∧ Below w.heap.size w w' := by
  obtain ⟨ad, cap, rfl, hn, hc⟩ := hT
  obtain ⟨n, hnn⟩ : ∃ n, ts.length = n := ⟨_, rfl⟩
  rw [hnn] at hn ⊢
  have HN := hidK hnn
  have HC := hidK hc
  have HR := hidK h
  have hz : (str s).size = s.length := rfl
  obtain ⟨z, hzz⟩ : ∃ z, str s = z := ⟨_, rfl⟩
  have HZ := hidK hzz
  rw [hzz] at hz ⊢
  clear hnn hc h hzz
  go_enter Tryz.func28, Tryz.ntmps28
  go_wp2_with fail
  go_loopg [5, 6, 7, 8] f (fun gg s5 s6 s7 s8 wx => ∃ a b g i : Nat, s5 = .int .i64 (a : Int) ∧ s6 = .int .i64 (b : Int) ∧ s7 = .int .i64 (g : Int) ∧ s8 = .int .i64 (i : Int) ∧ a ≤ n ∧ b ≤ n ∧ g ≤ i ∧ i ≤ s.length ∧ Hid (isG gg ts s a b g i = some r) ∧ Hid (Below w.heap.size w wx))
  case atStart => exact ⟨0, 0, 0, 0, rfl, rfl, rfl, rfl, Nat.zero_le _, Nat.zero_le _, Nat.le_refl _, Nat.zero_le _, HR.out, Below.refl _ _⟩
  case round =>
    obtain ⟨a, b, g, i, rfl, rfl, rfl, rfl, ha, hb, hg, hi, HG, HB⟩ := hrel
    cases gk with
    | zero => have h := HG.out; cases h
    | succ gk =>
      by_cases his : i < s.length
      · obtain ⟨c, hc⟩ : ∃ c, s[i]? = some c := ⟨_, List.getElem?_eq_getElem his⟩
        have gi : ∀ h : i < z.size, z[i] = c := fun h => by have hh := HZ.out; subst hh; exact str_getF _ i c hc h
        have gi' := gi (by omega)
        have hG := HG.out
        unfold isG at hG
        rw [hc] at hG
        simp only at hG
        by_cases han : a < n
        · obtain ⟨t, ht⟩ : ∃ t, ts[a]? = some t := ⟨_, List.getElem?_eq_getElem (by rw [HN.out]; exact han)⟩
          obtain ⟨hm0, gB, o, hadd, k0, k1, k2⟩ := HC.out a t ht
          have HBs := World.block_lt_of_cell? w _ k0
          have k0' := (HB.out.cell (p := ⟨gB, o + a * 3, none⟩) HBs).trans k0
          have k1' := (HB.out.cell (p := ⟨gB, o + a * 3 + 1, none⟩) HBs).trans k1
          have k2' := (HB.out.cell (p := ⟨gB, o + a * 3 + 2, none⟩) HBs).trans k2
          have HK : Hid (∀ X, Below w.heap.size w X → X.cell? ⟨gB, o + a * 3, none⟩ = some (.bool t.many) ∧ X.cell? ⟨gB, o + a * 3 + 1, none⟩ = some (.bool t.not) ∧ X.cell? ⟨gB, o + a * 3 + 2, none⟩ = some (.string (str t.mem))) := fun X hX => ⟨(hX.cell (p := ⟨gB, o + a * 3, none⟩) HBs).trans k0, (hX.cell (p := ⟨gB, o + a * 3 + 1, none⟩) HBs).trans k1, (hX.cell (p := ⟨gB, o + a * 3 + 2, none⟩) HBs).trans k2⟩
          have HA := hidK hadd
          rw [hadd]
          rw [ht] at hG
          simp only at hG
          have HSt := hidK fun W => stands_any t hm0 c W
          clear k0 k1 k2 HBs hadd gi hc ht
          by_cases hmany : t.many = true
          · rw [if_pos hmany] at hG
            have HG2 := hidK hG
            rw [hmany] at k0'
            clear hG HG HSt k1' k2'
            go_wp2_with fail
            rw [← HA.out]
            go_roundg gk
            case measure => simp
            case rel => exact ⟨a + 1, a + 1, i, i, by go_num, by go_num, rfl, rfl, by omega, by omega, Nat.le_refl _, hi, HG2.out, HB.out⟩
          · rw [if_neg hmany] at hG
            have hmf : t.many = false := by cases hh : t.many with | false => rfl | true => exact absurd hh hmany
            rw [hmf] at k0'
            rw [hmf] at HSt HK
            obtain ⟨nt, hnt⟩ : ∃ nt, t.not = nt := ⟨_, rfl⟩
            obtain ⟨zm, hzm⟩ : ∃ zm, str t.mem = zm := ⟨_, rfl⟩
            rw [hnt, hzm] at HSt HK
            rw [hnt] at k1'
            rw [hzm] at k2'
            obtain ⟨q, hq⟩ : ∃ q, t.of c = q := ⟨_, rfl⟩
            rw [hq] at HSt hG
            clear hmany hmf hnt hzm hq hm0
            cases q with
            | true =>
              rw [if_pos rfl] at hG
              have HG2 := hidK hG
              clear hG HG
              go_wp2_with fail
              go_region_held3 (fun X => X.cell? ⟨gB, o + a * 3, none⟩ = some (.bool false) ∧ X.cell? ⟨gB, o + a * 3 + 1, none⟩ = some (.bool nt) ∧ X.cell? ⟨gB, o + a * 3 + 2, none⟩ = some (.string zm)) (go_keep) ((go_at_call 79; refine (HSt.out _).mono ?_; rintro e w2 ⟨rfl, hb2⟩; have HB2 : Hid (Below w.heap.size w w2) := (by first | exact HB.out.trans (hb2.mono HB.out.size) | exact HB.out.drew.trans (hb2.mono HB.out.size)); clear hb2; obtain ⟨j0, j1, j2⟩ := HK.out w2 HB2.out))
              all_goals (try go_wp2)
              all_goals rw [← HA.out]
              all_goals go_roundg gk
              case measure => simp
              case rel => exact ⟨a + 1, b, g, i + 1, by go_num, rfl, rfl, by go_num, by omega, hb, by omega, by omega, HG2.out, HB2.out⟩
            | false =>
              rw [if_neg (by simp)] at hG
              by_cases hb0 : 0 < b
              · rw [if_pos hb0] at hG
                have HG2 := hidK hG
                clear hG HG
                go_wp2_with fail
                go_region_held3 (fun X => X.cell? ⟨gB, o + a * 3, none⟩ = some (.bool false) ∧ X.cell? ⟨gB, o + a * 3 + 1, none⟩ = some (.bool nt) ∧ X.cell? ⟨gB, o + a * 3 + 2, none⟩ = some (.string zm)) (go_keep) ((go_at_call 79; refine (HSt.out _).mono ?_; rintro e w2 ⟨rfl, hb2⟩; have HB2 : Hid (Below w.heap.size w w2) := (by first | exact HB.out.trans (hb2.mono HB.out.size) | exact HB.out.drew.trans (hb2.mono HB.out.size)); clear hb2; obtain ⟨j0, j1, j2⟩ := HK.out w2 HB2.out))
                all_goals (try go_wp2)
                all_goals rw [← HA.out]
                all_goals go_roundg gk
                case measure => simp
                case rel => exact ⟨b, b, g + 1, g + 1, rfl, rfl, by go_num, by go_num, hb, hb, Nat.le_refl _, by omega, HG2.out, HB2.out⟩
              · rw [if_neg hb0] at hG
                have HG2 : Hid (false = r) := Option.some.inj hG
                clear hG HG
                go_wp2_with fail
                go_region_held3 (fun X => X.cell? ⟨gB, o + a * 3, none⟩ = some (.bool false) ∧ X.cell? ⟨gB, o + a * 3 + 1, none⟩ = some (.bool nt) ∧ X.cell? ⟨gB, o + a * 3 + 2, none⟩ = some (.string zm)) (go_keep) ((go_at_call 79; refine (HSt.out _).mono ?_; rintro e w2 ⟨rfl, hb2⟩; have HB2 : Hid (Below w.heap.size w w2) := (by first | exact HB.out.trans (hb2.mono HB.out.size) | exact HB.out.drew.trans (hb2.mono HB.out.size)); clear hb2; obtain ⟨j0, j1, j2⟩ := HK.out w2 HB2.out))
                all_goals (try go_wp2)
                all_goals go_ret
                all_goals exact ⟨ret_bool HG2.out, HB2.out⟩
        · have hnone : ts[a]? = none := List.getElem?_eq_none (by rw [HN.out]; omega)
          rw [hnone] at hG
          simp only at hG
          clear gi hc hnone
          by_cases hb0 : 0 < b
          · rw [if_pos hb0] at hG
            have HG2 := hidK hG
            clear hG HG gi'
            go_wp2_with fail
            go_region
            all_goals go_wp2
            all_goals go_roundg gk
            case measure => simp
            case rel => exact ⟨b, b, g + 1, g + 1, rfl, rfl, by go_num, by go_num, hb, hb, Nat.le_refl _, by omega, HG2.out, by first | exact HB.out | exact HB.out.drew⟩
          · rw [if_neg hb0] at hG
            have HG2 : Hid (false = r) := Option.some.inj hG
            clear hG HG gi'
            go_wp2_with fail
            go_region
            all_goals go_wp2
            all_goals go_ret
            all_goals exact ⟨ret_bool HG2.out, by first | exact HB.out | exact HB.out.drew⟩
      · have hin : s[i]? = none := List.getElem?_eq_none (by omega)
        have hG := HG.out
        unfold isG at hG
        rw [hin] at hG
        have HG2 : Hid (tailF (ts.drop a) = r) := Option.some.inj hG
        clear hG HG hin
        go_wp2_with fail
        go_loopw [5] (fun s5 wx => ∃ a : Nat, s5 = .int .i64 (a : Int) ∧ a ≤ n ∧ Hid (tailF (ts.drop a) = r) ∧ Hid (Below w.heap.size w wx)) (fun s5 _ => n - (intOf s5).toNat)
        case atStart => exact ⟨a, rfl, ha, HG2.out, HB.out⟩
        case round =>
          clear HG2 HB ha
          obtain ⟨a, rfl, ha, HG2, HB⟩ := hrel
          by_cases han : a < n
          · obtain ⟨t, ht⟩ : ∃ t, ts[a]? = some t := ⟨_, List.getElem?_eq_getElem (by rw [HN.out]; exact han)⟩
            obtain ⟨hm0, gB, o, hadd, k0, k1, k2⟩ := HC.out a t ht
            have k0' := (HB.out.cell (p := ⟨gB, o + a * 3, none⟩) (World.block_lt_of_cell? w _ k0)).trans k0
            have hdr : ts.drop a = t :: ts.drop (a + 1) := by
              obtain ⟨h1, h2⟩ := List.getElem?_eq_some_iff.1 ht
              rw [List.drop_eq_getElem_cons h1, h2]
            have hG := HG2.out
            rw [hdr] at hG
            have hG' : (t.many && tailF (ts.drop (a + 1))) = r := hG
            have HA := hidK hadd
            rw [hadd]
            obtain ⟨q, hq⟩ : ∃ q, t.many = q := ⟨_, rfl⟩
            rw [hq] at k0' hG'
            clear hq hG k0 k1 k2 hm0 hdr ht HG2 hadd
            cases q with
            | true =>
              have HG3 : Hid (tailF (ts.drop (a + 1)) = r) := hG'
              clear hG'
              go_wp2_with fail
              try go_region
              all_goals (try go_wp2)
              all_goals (try rw [← HA.out])
              all_goals go_roundw
              case rel => exact ⟨a + 1, by go_num, by omega, HG3.out, by first | exact HB.out | exact HB.out.drew⟩
              case measure => simp [intOf]; omega
            | false =>
              have HG3 : Hid (false = r) := hG'
              clear hG'
              go_wp2_with fail
              all_goals go_ret
              all_goals exact ⟨ret_bool (by first | (rw [← HG3.out]; done) | (rw [← HG3.out]; simp <;> omega)), HB.out⟩
          · have hae : a = n := by omega
            have HG3 : Hid (true = r) := by
              have h := HG2.out
              rw [List.drop_eq_nil_of_le (by rw [HN.out]; omega)] at h
              exact h
            clear HG2
            go_wp2_with fail
            all_goals go_ret
            all_goals exact ⟨ret_bool (by first | (rw [← HG3.out]; done) | (rw [← HG3.out]; simp <;> omega)), HB.out⟩
end Go.Proofs.YtlfcjcaofhcfnaaGreatDoor
