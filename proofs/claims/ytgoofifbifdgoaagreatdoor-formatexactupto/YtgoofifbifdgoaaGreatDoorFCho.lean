/-
  Formats: truth; a choice.
-/
import Derived.Test.YtgoofifbifdgoaaGreatDoorFOpd
namespace Go.Proofs.YtgoofifbifdgoaaGreatDoor
open Go.RowKit
set_option linter.unusedVariables false
set_option maxRecDepth 100000

theorem cut_short : ∀ (f : Nat) (l cur : List UInt8) (o : Int) (p : List UInt8), p ∈ cutG f l cur o → p.length ≤ cur.length + l.length
  | 0, l, cur, o, p, h => by simp [cutG] at h; subst h; omega
  | f + 1, [], cur, o, p, h => by simp [cutG] at h; subst h; simp
  | f + 1, c :: r, cur, o, p, h => by
    unfold cutG at h
    simp only [] at h
    split at h
    · rcases List.mem_cons.1 h with rfl | h
      · simp
      · have := cut_short f r [] 0 p h
        simp at this ⊢
        omega
    · have := cut_short f _ _ _ p h
      rw [List.length_append, List.length_take, List.length_drop] at this
      omega
theorem truth_any (l : List UInt8) (w : World) : Calls Tryz.prog 13 #[.string (str l)] w fun e w' => e = .returned (.bool (truthF l)) ∧ w = w' := by
  have ht := str_toList l
  obtain ⟨z, hz⟩ : ∃ z, str l = z := ⟨_, rfl⟩
  rw [hz] at ht ⊢
  by_cases h0 : l = []
  · subst h0
    have h1 : z.toList.isEmpty = true := by rw [ht]; rfl
    clear hz
    go_enter Tryz.func13, Tryz.ntmps13
    go_wp2
    all_goals go_ret
    all_goals exact ⟨rfl, rfl⟩
  · have h1 : ¬ z.toList = [] := by rw [ht]; exact h0
    have h2 : z.toList.isEmpty = false := by rw [ht]; cases l with | nil => exact absurd rfl h0 | cons _ _ => rfl
    by_cases h3 : l = [48]
    · subst h3
      have h4 : z.toList = [48] := ht
      clear hz ht
      go_enter Tryz.func13, Tryz.ntmps13
      go_wp2
      all_goals go_ret
      all_goals exact ⟨rfl, rfl⟩
    · have h4 : ¬ z.toList = [48] := by rw [ht]; exact h3
      have h5 : (z.toList == [48]) = false := by simpa using h4
      have e : truthF l = true := by unfold truthF; simp [h0, h3]
      rw [e]
      clear hz ht e
      go_enter Tryz.func13, Tryz.ntmps13
      go_wp2
      all_goals go_ret
      all_goals exact ⟨rfl, rfl⟩
/-- What a part says, behind what came before. -/
theorem Out.more {P : Nat} {args : Array Value} {w W : World} {r : Except Int (List UInt8)} (hb : Below w.heap.size w W) (h : Calls Tryz.prog P args W fun e w' => Out r e ∧ Below W.heap.size W w') : Calls Tryz.prog P args W fun e w' => Out r e ∧ Below w.heap.size w w' := h.mono fun e w' k => ⟨k.1, hb.trans (k.2.mono hb.size)⟩

set_option maxHeartbeats 4000000 in
theorem choice_any {r : Nat} (hS : SayOk r) (hr : r ≤ 16) {w : World} {xb : Nat} {vs : Vars} (hX : XE w xb vs) (p : List UInt8) (hp : p.length ≤ 2147483647) (res : Except Int (List UInt8)) (h : choiceF (sayF vs r) vs p = some res) :
    Calls Tryz.prog 132 #[.pointer (some ⟨xb, 0, none⟩), .string (str p), .int .i64 ((16 : Int) - (r : Int))] w fun e w' => Out res e ∧ Below w.heap.size w w' := by
  have HC := hidK (cut_any p hp w)
  have hsh : ∀ q ∈ cutF p, q.length ≤ 2147483647 := fun q hq => by
    have := cut_short _ _ _ _ q hq
    simp at this
    omega
  have HOp := hidK (fun W (hW : Below w.heap.size w W) (q : List UInt8) (hq : q.length ≤ 2147483647) res' h' => operand_any hS hr (hX.below hW) q hq res' h')
  have HEx := hidK (fun W (hW : Below w.heap.size w W) (q : List UInt8) (hq : q.length ≤ 2147483647) res' (h' : sayF vs r q = some res') => Out.more hW (hS W xb vs (hX.below hW) q hq res' h'))
  have HTr : Hid (∀ (l : List UInt8) (W : World), Calls Tryz.prog 13 #[.string (str l)] W fun e w' => e = .returned (.bool (truthF l)) ∧ W = w') := truth_any
  obtain ⟨d, hd⟩ : ∃ d : Int, (16 : Int) - (r : Int) = d := ⟨_, rfl⟩
  rw [hd] at HOp HEx ⊢
  obtain ⟨z, hz⟩ : ∃ z, str p = z := ⟨_, rfl⟩
  rw [hz] at HC ⊢
  unfold choiceF at h
  obtain ⟨ps, hps⟩ : ∃ ps, cutF p = ps := ⟨_, rfl⟩
  rw [hps] at HC hsh h
  have HSh := hidK hsh
  have HH := hidK h
  clear hd hz hps h hsh hS hX hp
  match ps, HC, HSh, HH with
  | [a, b], HC, HSh, HH =>
    go_enter Tryz.func132, Tryz.ntmps132
    go_wp2_with fail
    refine HC.out.mono ?_
    rintro x w1 ⟨v, rfl, ht⟩
    obtain ⟨ad, cap, rfl, hat⟩ := ht.at
    have HB1 := hidK ht.below
    obtain ⟨g, o, rfl, qa⟩ := hat w1 (Below.refl _ _) 0 a rfl
    have HAt : Hid (∀ W', Below w1.heap.size w1 W' → ∀ (i : Nat) (l : List UInt8), [a, b][i]? = some l → W'.cell? ⟨g, o + i, none⟩ = some (.string (str l))) := fun W' hW i l hl => by
      obtain ⟨g', o', e, h⟩ := hat W' hW i l hl
      cases e
      exact h
    have qa' : w1.cell? ⟨g, o, none⟩ = some (.string (str a)) := qa
    have ha := HSh.out a (by simp)
    have hb := HSh.out b (by simp)

    clear ht hat HC
    cases hoa : operandF (sayF vs r) vs a with
    | none =>
      have := HH.out
      rw [hoa] at this
      cases this
    | some ra =>
      have HO := hidK (HOp.out w1 HB1.out a ha ra hoa)
      rw [hoa] at HH
      clear hoa HOp
      go_wp2_with fail
      refine HO.out.mono ?_
      rintro x w2 ⟨ho, hb2⟩
      cases ra with
      | error k =>
        obtain ⟨v, rfl, hv⟩ := ho
        obtain ⟨t, y, rfl⟩ := hv.iface
        have HRs : Hid (res = .error k) := (Option.some.inj HH.out).symm
        have HV := hidK hv
        have HB2 := hidK (HB1.out.trans (hb2.mono HB1.out.size))
        clear hv hb2 HH
        go_wp2_with fail
        all_goals go_ret2
        all_goals exact ⟨by rw [HRs.out]; exact ⟨_, rfl, HV.out⟩, HB2.out⟩
      | ok sa =>
        have ho' : x = .returned (.tuple #[.string (str sa), .nilIface]) := ho
        subst ho'
        have HB2 := hidK (HB1.out.trans (hb2.mono HB1.out.size))
        have HT2 := hidK (HTr.out sa w2)
        have qb := HAt.out w2 hb2 1 b rfl
        skip
        have hh : (if truthF sa then sayF vs r b else some (.ok [])) = some res := HH.out
        obtain ⟨zs, hzs⟩ : ∃ zs, str sa = zs := ⟨_, rfl⟩
        rw [hzs] at HT2 ⊢
        clear ho hb2 HH hzs HAt HTr
        cases htr : truthF sa with
        | true =>
          rw [htr] at HT2 hh
          have HE2 := hidK (HEx.out w2 HB2.out b hb res hh)
          clear hh htr HEx
          go_wp2_with (first | (go_at_call 13; refine HT2.out.mono ?_; rintro x w3 ⟨rfl, rfl⟩))
          refine HE2.out.mono ?_
          rintro x w3 ⟨ho3, hb3⟩
          cases res with
          | ok s3 =>
            have ho' : x = .returned (.tuple #[.string (str s3), .nilIface]) := ho3
            subst ho'
            clear ho3
            go_wp2_with fail
            all_goals go_ret2
            all_goals exact ⟨rfl, hb3⟩
          | error k3 =>
            obtain ⟨v3, rfl, hv3⟩ := ho3
            go_wp2_with fail
            all_goals go_ret2
            all_goals exact ⟨⟨_, rfl, hv3⟩, hb3⟩
        | false =>
          rw [htr] at HT2 hh
          have HRs : Hid (res = .ok []) := (Option.some.inj hh).symm
          clear hh htr HEx
          go_wp2_with (first | (go_at_call 13; refine HT2.out.mono ?_; rintro x w3 ⟨rfl, rfl⟩))
          all_goals go_ret2
          all_goals exact ⟨by rw [HRs.out]; rfl, HB2.out⟩
  | [a, b, c], HC, HSh, HH =>
    go_enter Tryz.func132, Tryz.ntmps132
    go_wp2_with fail
    refine HC.out.mono ?_
    rintro x w1 ⟨v, rfl, ht⟩
    obtain ⟨ad, cap, rfl, hat⟩ := ht.at
    have HB1 := hidK ht.below
    obtain ⟨g, o, rfl, qa⟩ := hat w1 (Below.refl _ _) 0 a rfl
    have HAt : Hid (∀ W', Below w1.heap.size w1 W' → ∀ (i : Nat) (l : List UInt8), [a, b, c][i]? = some l → W'.cell? ⟨g, o + i, none⟩ = some (.string (str l))) := fun W' hW i l hl => by
      obtain ⟨g', o', e, h⟩ := hat W' hW i l hl
      cases e
      exact h
    have qa' : w1.cell? ⟨g, o, none⟩ = some (.string (str a)) := qa
    have ha := HSh.out a (by simp)
    have hb := HSh.out b (by simp)
    have hc := HSh.out c (by simp)
    clear ht hat HC
    cases hoa : operandF (sayF vs r) vs a with
    | none =>
      have := HH.out
      rw [hoa] at this
      cases this
    | some ra =>
      have HO := hidK (HOp.out w1 HB1.out a ha ra hoa)
      rw [hoa] at HH
      clear hoa HOp
      go_wp2_with fail
      refine HO.out.mono ?_
      rintro x w2 ⟨ho, hb2⟩
      cases ra with
      | error k =>
        obtain ⟨v, rfl, hv⟩ := ho
        obtain ⟨t, y, rfl⟩ := hv.iface
        have HRs : Hid (res = .error k) := (Option.some.inj HH.out).symm
        have HV := hidK hv
        have HB2 := hidK (HB1.out.trans (hb2.mono HB1.out.size))
        clear hv hb2 HH
        go_wp2_with fail
        all_goals go_ret2
        all_goals exact ⟨by rw [HRs.out]; exact ⟨_, rfl, HV.out⟩, HB2.out⟩
      | ok sa =>
        have ho' : x = .returned (.tuple #[.string (str sa), .nilIface]) := ho
        subst ho'
        have HB2 := hidK (HB1.out.trans (hb2.mono HB1.out.size))
        have HT2 := hidK (HTr.out sa w2)
        have qb := HAt.out w2 hb2 1 b rfl
        have qc := HAt.out w2 hb2 2 c rfl
        have hh : (if truthF sa then sayF vs r b else sayF vs r c) = some res := HH.out
        obtain ⟨zs, hzs⟩ : ∃ zs, str sa = zs := ⟨_, rfl⟩
        rw [hzs] at HT2 ⊢
        clear ho hb2 HH hzs HAt HTr
        cases htr : truthF sa with
        | true =>
          rw [htr] at HT2 hh
          have HE2 := hidK (HEx.out w2 HB2.out b hb res hh)
          clear hh htr HEx
          go_wp2_with (first | (go_at_call 13; refine HT2.out.mono ?_; rintro x w3 ⟨rfl, rfl⟩))
          refine HE2.out.mono ?_
          rintro x w3 ⟨ho3, hb3⟩
          cases res with
          | ok s3 =>
            have ho' : x = .returned (.tuple #[.string (str s3), .nilIface]) := ho3
            subst ho'
            clear ho3
            go_wp2_with fail
            all_goals go_ret2
            all_goals exact ⟨rfl, hb3⟩
          | error k3 =>
            obtain ⟨v3, rfl, hv3⟩ := ho3
            go_wp2_with fail
            all_goals go_ret2
            all_goals exact ⟨⟨_, rfl, hv3⟩, hb3⟩
        | false =>
          rw [htr] at HT2 hh
          have HE2 := hidK (HEx.out w2 HB2.out c hc res hh)
          clear hh htr HEx
          go_wp2_with (first | (go_at_call 13; refine HT2.out.mono ?_; rintro x w3 ⟨rfl, rfl⟩))
          refine HE2.out.mono ?_
          rintro x w3 ⟨ho3, hb3⟩
          cases res with
          | ok s3 =>
            have ho' : x = .returned (.tuple #[.string (str s3), .nilIface]) := ho3
            subst ho'
            clear ho3
            go_wp2_with fail
            all_goals go_ret2
            all_goals exact ⟨rfl, hb3⟩
          | error k3 =>
            obtain ⟨v3, rfl, hv3⟩ := ho3
            go_wp2_with fail
            all_goals go_ret2
            all_goals exact ⟨⟨_, rfl, hv3⟩, hb3⟩
  | [], HC, HSh, HH =>
    have HRs : Hid (res = .error 100) := (Option.some.inj HH.out).symm
    go_enter Tryz.func132, Tryz.ntmps132
    go_wp2_with fail
    refine HC.out.mono ?_
    rintro x w1 ⟨v, rfl, ht⟩
    obtain ⟨ad, cap, rfl, -⟩ := ht.at
    have HB1 := hidK ht.below
    clear ht HH HOp HEx HTr HSh
    go_wp2_with fail
    all_goals go_ret2
    all_goals exact ⟨by rw [HRs.out]; exact ⟨_, rfl, .fault 100⟩, HB1.out⟩
  | [a], HC, HSh, HH =>
    have HRs : Hid (res = .error 100) := (Option.some.inj HH.out).symm
    go_enter Tryz.func132, Tryz.ntmps132
    go_wp2_with fail
    refine HC.out.mono ?_
    rintro x w1 ⟨v, rfl, ht⟩
    obtain ⟨ad, cap, rfl, -⟩ := ht.at
    have HB1 := hidK ht.below
    clear ht HH HOp HEx HTr HSh
    go_wp2_with fail
    all_goals go_ret2
    all_goals exact ⟨by rw [HRs.out]; exact ⟨_, rfl, .fault 100⟩, HB1.out⟩
  | a :: b :: c :: e :: f, HC, HSh, HH =>
    have HRs : Hid (res = .error 100) := (Option.some.inj HH.out).symm
    go_enter Tryz.func132, Tryz.ntmps132
    go_wp2_with fail
    refine HC.out.mono ?_
    rintro x w1 ⟨v, rfl, ht⟩
    obtain ⟨ad, cap, rfl, -⟩ := ht.at
    have HB1 := hidK ht.below
    clear ht HH HOp HEx HTr HSh
    obtain ⟨n, hn⟩ : ∃ n, (a :: b :: c :: e :: f).length = n := ⟨_, rfl⟩
    have hn4 : 4 ≤ n := by simp at hn; omega
    have hn2 : ¬ (n : Int) = 2 := by omega
    have hn3 : ¬ (n : Int) = 3 := by omega
    have hb2 : ((n : Int) == 2) = false := by simpa using hn2
    have hb3 : ((n : Int) == 3) = false := by simpa using hn3
    have hc2 : ((n : Int) != 2) = true := by simpa using hn2
    have hc3 : ((n : Int) != 3) = true := by simpa using hn3
    clear hn4
    rw [hn]
    clear hn
    go_wp2_with fail
    all_goals go_ret2
    all_goals exact ⟨by rw [HRs.out]; exact ⟨_, rfl, .fault 100⟩, HB1.out⟩

end Go.Proofs.YtgoofifbifdgoaaGreatDoor
