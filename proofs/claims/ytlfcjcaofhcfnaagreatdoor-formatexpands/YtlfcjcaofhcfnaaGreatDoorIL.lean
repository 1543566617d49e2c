/-
  Formats: a choice, as the document says it.
-/
import Derived.Test.YtlfcjcaofhcfnaaGreatDoorIE
import Derived.Test.YtlfcjcaofhcfnaaGreatDoorGI
namespace Go.Proofs.YtlfcjcaofhcfnaaGreatDoor
open Go.RowKit
set_option linter.unusedVariables false
set_option maxRecDepth 100000

def chP (sub : List UInt8 → Res) (vs : Vars) : List (List UInt8) → Res
  | [a, b] => (operandF sub vs a).then fun s => if truthF s then sub b else some (.ok [])
  | [a, b, c] => (operandF sub vs a).then fun s => if truthF s then sub b else sub c
  | _ => some (.error 100)
theorem choice_eq (sub : List UInt8 → Res) (vs : Vars) (rest : List UInt8) : choiceF sub vs rest = chP sub vs (cutF rest) := by
  unfold choiceF
  generalize cutF rest = ps
  match ps with
  | [] => rfl
  | [_] => rfl
  | [_, _] => rfl
  | [_, _, _] => rfl
  | _ :: _ :: _ :: _ :: _ => rfl
theorem cutF_short {l p : List UInt8} (h : p ∈ cutF l) : p.length ≤ l.length := by
  have := cut_short _ _ _ _ p h
  simpa using this
set_option maxHeartbeats 4000000 in
theorem choiceR_any {vs : Vars} {sv : Value} {r : Nat} {D : Int} (hD : 0 ≤ D ∧ D ≤ 15) (hS : SayR vs sv r (D + 1)) (rest : List UInt8) (hl : rest.length ≤ 1048576) (hbal : balF rest = true) (w : World) (hE : RE w sv vs) : Calls Tryz.prog 75 #[.string (str rest), sv, .int .i64 D] w fun e w' => e = ansF (resF (choiceF (sayF vs r) vs rest)) ∧ Below w.heap.size w w' := by
  have HP := hidK (partsR_any rest (by omega) hbal w)
  have HSh : Hid (∀ q ∈ cutF rest, q.length ≤ 1048576) := fun q hq => Nat.le_trans (cutF_short hq) hl
  have HS := hidK hS
  have HE := hidK hE
  rw [choice_eq]
  obtain ⟨ps, hps⟩ : ∃ ps, cutF rest = ps := ⟨_, rfl⟩
  rw [hps] at HP HSh ⊢
  obtain ⟨z, hz⟩ : ∃ z, str rest = z := ⟨_, rfl⟩
  rw [hz] at HP ⊢
  clear hps hz hS hE hl hbal
  go_enter Tryz.func75, Tryz.ntmps75
  go_wp2_with fail
  refine HP.out.mono ?_
  rintro e w1 ⟨v, rfl, hv⟩
  obtain ⟨ad, cap, rfl, hat⟩ := hv.at
  have HB1 := hidK hv.below
  have HE1 := hidK (HE.out.below HB1.out)
  have HC := hidK hat
  have hmx : ps.length ≤ 9223372036854775807 := by have := hv.row.len; unfold maxLen at this; omega
  clear hat hv HP HE
  have two : ∀ (a b : List UInt8) (t : List (List UInt8)), ps = a :: b :: t → ∃ g o, ad = some ⟨g, o, none⟩ ∧ Hid (∀ W', Below w1.heap.size w1 W' → ∀ i l, ps[i]? = some l → W'.cell? ⟨g, o + i, none⟩ = some (.string (str l))) := by
    rintro a b t rfl
    obtain ⟨g, o, rfl, _⟩ := HC.out w1 (Below.refl _ _) 0 a rfl
    exact ⟨g, o, rfl, fun W' hW i l hi => by
      obtain ⟨g', o', e, h⟩ := HC.out W' hW i l hi
      cases e
      exact h⟩
  by_cases hsh : ps.length = 2 ∨ ps.length = 3
  · obtain ⟨a, b, t, rfl⟩ : ∃ a b t, ps = a :: b :: t := by
      match ps, hsh with
      | a :: b :: t, _ => exact ⟨a, b, t, rfl⟩
      | [_], h => simp at h
      | [], h => simp at h
    obtain ⟨g, o, rfl, HAt⟩ := two a b t rfl
    clear two HC
    obtain ⟨x, hx⟩ : ∃ x, operandF (sayF vs r) vs a = some x := operand_told (fun l => say_told vs r l) vs a
    have HO := hidK (operandR_any hD HS.out a (HSh.out a (by simp)) w1 HE1.out)
    rw [hx] at HO
    have qa := HAt.out w1 (Below.refl _ _) 0 a rfl
    obtain ⟨za, hza⟩ : ∃ z, str a = z := ⟨_, rfl⟩
    rw [hza] at HO qa
    have HX := hidK hx
    clear hza hx
    obtain ⟨n, hn⟩ : ∃ n, (a :: b :: t).length = n := ⟨_, rfl⟩
    have HN := hidK hn
    rw [hn] at hsh ⊢
    have n1 : ¬ (n : Int) < 2 := by omega
    have n2 : ¬ (3 : Int) < (n : Int) := by omega
    clear hn hmx
    have qa' : w1.cell? ⟨g, o, none⟩ = some (.string za) := qa
    clear qa
    cases x with
    | error k =>
      have hk : ¬ k = 0 := bad_operand (bad_say vs r) vs a k HX.out
      have HR : Hid (resF (chP (sayF vs r) vs (a :: b :: t)) = .error k) := by
        show _ = _
        have := HN.out
        match t, this with
        | [], _ => simp only [chP, HX.out, Res.then]; rfl
        | [c], _ => simp only [chP, HX.out, Res.then]; rfl
        | _ :: _ :: _, h => simp at h; omega
      go_wp2_with fail
      refine HO.out.mono ?_
      rintro e w2 ⟨rfl, hb2⟩
      have HB2 := hidK hb2
      clear hb2 HO
      simp only [resF, Option.getD_some, ansF]
      go_wp2_with fail
      all_goals go_ret2
      all_goals exact ⟨by rw [HR.out]; rfl, HB1.out.trans (HB2.out.mono HB1.out.size)⟩
    | ok s =>
      have HT := hidK fun W => truthR_any s W
      obtain ⟨zs, hzs⟩ : ∃ z, str s = z := ⟨_, rfl⟩
      have HO2 : Hid (Calls Tryz.prog 113 #[.string za, sv, .int .i64 D] w1 fun e w' => e = .returned (.tuple #[.string zs, .int .i64 0]) ∧ Below w1.heap.size w1 w') := HO.out.mono fun e w' ⟨h1, h2⟩ => ⟨by rw [h1, ← hzs]; rfl, h2⟩
      rw [hzs] at HT
      clear hzs HO
      go_wp2_with fail
      refine HO2.out.mono ?_
      rintro e w2 ⟨rfl, hb2⟩
      have HB2 := hidK hb2
      have HBw := hidK (HB1.out.trans (HB2.out.mono HB1.out.size))
      have HE2 := hidK (HE1.out.below hb2)
      clear hb2 HO2
      cases htr : truthF s with
      | true =>
        rw [htr] at HT
        have HR : Hid (resF (chP (sayF vs r) vs (a :: b :: t)) = resF (sayF vs r b)) := by
          show _ = _
          have := HN.out
          match t, this with
          | [], _ => simp only [chP, HX.out, Res.then, htr]; rfl
          | [c], _ => simp only [chP, HX.out, Res.then, htr]; rfl
          | _ :: _ :: _, h => simp at h; omega
        have HEx := hidK (HS.out b w2 HE2.out (HSh.out b (by simp)))
        have qb := HAt.out w2 HB2.out 1 b rfl
        obtain ⟨zb, hzb⟩ : ∃ z, str b = z := ⟨_, rfl⟩
        rw [hzb] at HEx qb
        rw [ans_two] at HEx
        obtain ⟨R, hR⟩ : ∃ R, resF (sayF vs r b) = R := ⟨_, rfl⟩
        rw [hR] at HEx HR
        obtain ⟨y, hy⟩ : ∃ y, str (txtF R) = y := ⟨_, rfl⟩
        obtain ⟨c, hc⟩ : ∃ c, codF R = c := ⟨_, rfl⟩
        rw [hy, hc] at HEx
        have HA : Hid (ansF R = .returned (.tuple #[.string y, .int .i64 c])) := by show _ = _; rw [ans_two, hy, hc]
        clear hzb hR hy hc htr
        go_wp2_with fail
        refine (HT.out _).mono ?_
        rintro e w3 ⟨rfl, rfl⟩
        go_wp2_with fail
        refine HEx.out.mono ?_
        rintro e w3 ⟨rfl, hb3⟩
        have HB3 := hidK hb3
        clear hb3
        go_wp2_with fail
        all_goals go_ret2
        all_goals exact ⟨by rw [HR.out, HA.out]; rfl, HBw.out.trans (HB3.out.mono HBw.out.size)⟩
      | false =>
        rw [htr] at HT
        rcases t with _ | ⟨d, _ | ⟨d2, t2⟩⟩
        · obtain rfl : n = 2 := by have := HN.out; simp at this; omega
          have HR : Hid (resF (chP (sayF vs r) vs [a, b]) = .ok []) := by
            show _ = _
            simp only [chP, HX.out, Res.then, htr]; rfl
          clear htr
          go_wp2_with fail
          refine (HT.out _).mono ?_
          rintro e w3 ⟨rfl, rfl⟩
          go_wp2_with fail
          all_goals go_ret2
          all_goals exact ⟨by rw [HR.out]; rfl, HBw.out⟩
        · obtain rfl : n = 3 := by have := HN.out; simp at this; omega
          have HR : Hid (resF (chP (sayF vs r) vs [a, b, d]) = resF (sayF vs r d)) := by
            show _ = _
            simp only [chP, HX.out, Res.then, htr]; rfl
          have HEx := hidK (HS.out d w2 HE2.out (HSh.out d (by simp)))
          have qb := HAt.out w2 HB2.out 2 d rfl
          obtain ⟨zb, hzb⟩ : ∃ z, str d = z := ⟨_, rfl⟩
          rw [hzb] at HEx qb
          rw [ans_two] at HEx
          obtain ⟨R, hR⟩ : ∃ R, resF (sayF vs r d) = R := ⟨_, rfl⟩
          rw [hR] at HEx HR
          obtain ⟨y, hy⟩ : ∃ y, str (txtF R) = y := ⟨_, rfl⟩
          obtain ⟨c, hc⟩ : ∃ c, codF R = c := ⟨_, rfl⟩
          rw [hy, hc] at HEx
          have HA : Hid (ansF R = .returned (.tuple #[.string y, .int .i64 c])) := by show _ = _; rw [ans_two, hy, hc]
          clear hzb hR hy hc htr
          go_wp2_with fail
          refine (HT.out _).mono ?_
          rintro e w3 ⟨rfl, rfl⟩
          go_wp2_with fail
          refine HEx.out.mono ?_
          rintro e w3 ⟨rfl, hb3⟩
          have HB3 := hidK hb3
          clear hb3
          go_wp2_with fail
          all_goals go_ret2
          all_goals exact ⟨by rw [HR.out, HA.out]; rfl, HBw.out.trans (HB3.out.mono HBw.out.size)⟩
        · exfalso
          have := HN.out
          simp at this
          omega
  · have HR : Hid (resF (chP (sayF vs r) vs ps) = .error 100) := by
      show _ = _
      match ps, hsh with
      | [], _ => rfl
      | [_], _ => rfl
      | [_, _], h => simp at h
      | [_, _, _], h => simp at h
      | _ :: _ :: _ :: _ :: _, _ => rfl
    clear two HC HSh
    obtain ⟨n, hn⟩ : ∃ n, ps.length = n := ⟨_, rfl⟩
    rw [hn] at hsh hmx ⊢
    clear hn
    by_cases h2 : (n : Int) < 2
    · go_wp2_with fail
      all_goals go_ret2
      all_goals exact ⟨by rw [HR.out]; rfl, HB1.out⟩
    · have h3 : (3 : Int) < (n : Int) := by omega
      go_wp2_with fail
      all_goals go_ret2
      all_goals exact ⟨by rw [HR.out]; rfl, HB1.out⟩

end Go.Proofs.YtlfcjcaofhcfnaaGreatDoor
