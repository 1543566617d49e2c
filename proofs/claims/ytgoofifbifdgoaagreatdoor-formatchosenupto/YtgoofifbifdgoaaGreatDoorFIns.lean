/-
  Formats: a head and its rest; a place's inside.
-/
import Derived.Test.YtgoofifbifdgoaaGreatDoorFCho
namespace Go.Proofs.YtgoofifbifdgoaaGreatDoor
open Go.RowKit
set_option linter.unusedVariables false
set_option maxRecDepth 100000

theorem zeroHead (w : World) : (zeroValue 96).run Tryz.prog w = .ok .nilFunc w := by kernel_rfl
theorem XE.turnX {w : World} {xb : Nat} {vs : Vars} (h : XE w xb vs) : ∃ mt w0, TurnX w xb mt w0 := by
  obtain ⟨mh, mt, w0, h1, h2, h3⟩ := h.all.at_
  obtain ⟨sv, mf, m, k1, _⟩ := h1.blk
  exact ⟨mt, w0, cell_atT k1 3, h3, h.max⟩
theorem XE.heads {w : World} {xb : Nat} {vs : Vars} (h : XE w xb vs) : ∃ mh m, w.cell? ⟨xb, 2, none⟩ = some (.map (some mh)) ∧ MapAt w mh m ∧ m.map (·.1) = headNames := by
  obtain ⟨mh, mt, w0, h1, ⟨m, h2, h3⟩, _⟩ := h.all.at_
  obtain ⟨sv, mf, m', k1, _⟩ := h1.blk
  exact ⟨mh, m, cell_atT k1 2, h2, h3⟩

theorem loop_short (pl : List UInt8 → Res) (vs : Vars) : ∀ (f : Nat) (l said s : List UInt8), loopF pl vs f l said = some (.ok s) → said.length ≤ 1024 → s.length ≤ 1024
  | 0, l, said, s, h, hs => by
    simp only [loopF, Option.some.injEq, Except.ok.injEq] at h
    subst h
    exact hs
  | f + 1, l, said, s, h, hs => by
    unfold loopF at h
    split at h
    · simp only [Option.some.injEq, Except.ok.injEq] at h
      subst h
      exact hs
    · split at h
      · cases h
      · cases h
      · split at h
        · cases h
        · exact loop_short pl vs f _ _ s h (by rw [List.length_append]; omega)
theorem say_short {vs : Vars} {r : Nat} {l s : List UInt8} (h : sayF vs r l = some (.ok s)) : s.length ≤ 1024 := by
  cases r with
  | zero => exact loop_short _ _ _ _ _ s h (by simp)
  | succ r => exact loop_short _ _ _ _ _ s h (by simp)
theorem operand_short {vs : Vars} {r : Nat} (hv : ∀ p ∈ vs, p.2.length ≤ 2147483647) {p s : List UInt8} (h : operandF (sayF vs r) vs p = some (.ok s)) : s.length ≤ 2147483647 := by
  unfold operandF at h
  split at h
  · simp only [Option.some.injEq, Except.ok.injEq] at h
    subst h
    exact val_short hv p
  · have := say_short h
    omega

set_option maxHeartbeats 4000000 in
theorem headed_any {r : Nat} (hS : SayOk r) (hr : r ≤ 16) {w : World} {xb : Nat} {vs : Vars} (hX : XE w xb vs) (name rest : List UInt8) (hnm : name.length ≤ 2147483647) (hp : rest.length ≤ 2147483647) (res : Except Int (List UInt8)) (h : headedF (sayF vs r) vs name rest = some res) :
    Calls Tryz.prog 134 #[.pointer (some ⟨xb, 0, none⟩), .string (str name), .string (str rest), .int .i64 ((16 : Int) - (r : Int))] w fun e w' => Out res e ∧ Below w.heap.size w w' := by
  unfold headedF at h
  by_cases hin : name ∈ headNames
  · rw [if_pos hin] at h
    cases h
  rw [if_neg hin] at h
  obtain ⟨mh, m, c2, hm, hk⟩ := hX.heads
  have hlk := look_keys hk name hin
  have l0 := look_none hm underHeads Tryz.underlying9 (zeroHead w) hlk
  have l1 := look_none (w := w.drew) hm underHeads Tryz.underlying9 (zeroHead w.drew) hlk
  obtain ⟨mt, w0, hTx⟩ := hX.turnX
  have HOp := hidK (fun W (hW : Below w.heap.size w W) res' h' => operand_any hS hr (hX.below hW) rest hp res' h')
  have hvs := hX.short
  cases htf : turnsF name with
  | none =>
    rw [htf] at h
    cases h
  | some R =>
    rw [htf] at h
    have HTo := hidK (fun W (hW : Below w.heap.size w W) => turnsOf_any (hTx.below hW) name hnm R htf)
    obtain ⟨d, hd⟩ : ∃ d : Int, (16 : Int) - (r : Int) = d := ⟨_, rfl⟩
    rw [hd] at HOp ⊢
    obtain ⟨zn, hzn⟩ : ∃ zn, str name = zn := ⟨_, rfl⟩
    obtain ⟨zr, hzr⟩ : ∃ zr, str rest = zr := ⟨_, rfl⟩
    rw [hzn] at l0 l1 HTo ⊢
    rw [hzr] at HOp ⊢
    have HH := hidK h
    have HVs := hidK hvs
    clear h hin hm hk hlk hTx hd hzn hzr hX htf hvs
    go_enter Tryz.func134, Tryz.ntmps134
    go_wp2_with fail
    refine (HTo.out _ (by repeat (first | exact Below.refl _ _ | apply Below.drew))).mono ?_
    rintro x w1 ⟨hb1, sv, ok, rfl, hres⟩
    rcases hres with ⟨ts, rfl, rfl, htl⟩ | ⟨rfl, rfl⟩
    · obtain ⟨ad, cap, rfl, -⟩ := htl.at
      have HB1 : Hid (Below w.heap.size w w1) := by first | exact hb1 | exact ((Below.refl _ _).drew : Below w.heap.size w w.drew).trans hb1
      have HTl := hidK htl
      cases hoa : operandF (sayF vs r) vs rest with
      | none =>
        have := HH.out
        rw [hoa] at this
        cases this
      | some ra =>
        have HO := hidK (HOp.out w1 HB1.out ra hoa)
        have HSa : Hid (∀ sa, ra = .ok sa → sa.length ≤ 2147483647) := fun sa e => operand_short HVs.out (by rw [hoa, e])
        rw [hoa] at HH
        clear hoa HOp htl hb1 HTo l0 l1 c2
        go_wp2_with fail
        refine HO.out.mono ?_
        rintro x w2 ⟨ho, hb2⟩
        cases ra with
        | error k =>
          obtain ⟨v, rfl, hv⟩ := ho
          obtain ⟨t, y, rfl⟩ := hv.iface
          have HRs : Hid (res = .error k) := (Option.some.inj HH.out).symm
          have HV := hidK hv
          have HB2 := hidK (HB1.out.trans (hb2.mono HB1.out.size))
          clear hv hb2 HH
          go_wp2_with fail
          all_goals go_ret2
          all_goals exact ⟨by rw [HRs.out]; exact ⟨_, rfl, HV.out⟩, HB2.out⟩
        | ok sa =>
          have ho' : x = .returned (.tuple #[.string (str sa), .nilIface]) := ho
          subst ho'
          have hh : turnedF ts sa = some res := HH.out
          have HB2 := hidK (HB1.out.trans (hb2.mono HB1.out.size))
          have HTd := hidK (Out.more HB2.out (turned_any (HTl.out.below hb2) sa (HSa.out sa rfl) res hh))
          clear ho hb2 HH hh HTl HSa
          go_wp2_with fail
          refine HTd.out.mono ?_
          rintro x w3 ⟨ho3, hb3⟩
          cases res with
          | ok s3 =>
            have ho' : x = .returned (.tuple #[.string (str s3), .nilIface]) := ho3
            subst ho'
            clear ho3
            go_wp2_with fail
            all_goals go_ret2
            all_goals exact ⟨rfl, hb3⟩
          | error k3 =>
            obtain ⟨v3, rfl, hv3⟩ := ho3
            go_wp2_with fail
            all_goals go_ret2
            all_goals exact ⟨⟨_, rfl, hv3⟩, hb3⟩
    · have HRs : Hid (res = .error 100) := (Option.some.inj HH.out).symm
      have HB1 : Hid (Below w.heap.size w w1) := by first | exact hb1 | exact ((Below.refl _ _).drew : Below w.heap.size w w.drew).trans hb1
      clear hb1 HH HOp HTo l0 l1 c2
      go_wp2_with fail
      all_goals go_ret2
      all_goals exact ⟨by rw [HRs.out]; exact ⟨_, rfl, .fault 100⟩, HB1.out⟩

theorem place_no (sub : List UInt8 → Res) (vs : Vars) (p : List UInt8) (h : ∀ rest, p ≠ 63 :: rest) : placeF sub vs p = (match colonF p with | some k => headedF sub vs (p.take k) (p.drop (k + 1)) | none => if identF p then some (.ok (valF vs p)) else some (.error 100)) := by
  unfold placeF
  split
  · exact absurd rfl (h _)
  · rfl

set_option maxHeartbeats 4000000 in
theorem inside_any {r : Nat} (hS : SayOk r) (hr : r ≤ 16) {w : World} {xb : Nat} {vs : Vars} (hX : XE w xb vs) (p : List UInt8) (hp : p.length ≤ 2147483647) (res : Except Int (List UInt8)) (h : placeF (sayF vs r) vs p = some res) :
    Calls Tryz.prog 114 #[.pointer (some ⟨xb, 0, none⟩), .string (str p), .int .i64 ((16 : Int) - (r : Int))] w fun e w' => Out res e ∧ Below w.heap.size w w' := by
  have HC := hidK (cutPrefix_any p 63 hp w)
  have e63 : str [63] = (⟨#[63]⟩ : ByteArray) := rfl
  have e58 : str [58] = (⟨#[58]⟩ : ByteArray) := rfl
  rw [e63] at HC
  obtain ⟨d, hd⟩ : ∃ d : Int, (16 : Int) - (r : Int) = d := ⟨_, rfl⟩
  obtain ⟨z, hz⟩ : ∃ z, str p = z := ⟨_, rfl⟩
  cases hq : (headF 63 p).2 with
  | true =>
    obtain ⟨rest, rfl⟩ : ∃ rest, p = 63 :: rest := by
      cases p with
      | nil => cases hq
      | cons c r =>
        simp only [headF] at hq
        split at hq
        · rename_i e
          exact ⟨r, by rw [e]⟩
        · cases hq
    have hh : choiceF (sayF vs r) vs rest = some res := h
    have e : headF 63 (63 :: rest) = (rest, true) := by simp [headF]
    have HCh := hidK (choice_any hS hr hX rest (by simp at hp; omega) res hh)
    rw [e] at HC
    rw [hd] at HCh ⊢
    rw [hz] at HC ⊢
    obtain ⟨zr, hzr⟩ : ∃ zr, str rest = zr := ⟨_, rfl⟩
    simp only [hzr] at HC HCh
    clear h hh e hq hd hz hzr hS hX e63 e58
    go_enter Tryz.func114, Tryz.ntmps114
    go_wp2_with (go_at_call 90; refine HC.out.mono ?_; rintro x w1 ⟨rfl, rfl⟩)
    refine HCh.out.mono ?_
    rintro x w3 ⟨ho3, hb3⟩
    cases res with
    | ok s3 =>
      have ho' : x = .returned (.tuple #[.string (str s3), .nilIface]) := ho3
      subst ho'
      clear ho3
      go_wp2_with fail
      all_goals go_ret2
      all_goals exact ⟨rfl, hb3⟩
    | error k3 =>
      obtain ⟨v3, rfl, hv3⟩ := ho3
      go_wp2_with fail
      all_goals go_ret2
      all_goals exact ⟨⟨_, rfl, hv3⟩, hb3⟩
  | false =>
    have hn := head_no hq
    have hh : (match colonF p with | some k => headedF (sayF vs r) vs (p.take k) (p.drop (k + 1)) | none => if identF p then some (.ok (valF vs p)) else some (.error 100)) = some res := by
      rw [← h]
      exact (place_no _ _ _ fun rest e => by rw [e] at hq; simp [headF] at hq).symm
    have HCo := hidK (cutColon_any p hp w hX.max)
    rw [e58] at HCo
    rw [hq, hn] at HC
    unfold colonV at HCo
    cases hco : colonF p with
    | some k =>
      rw [hco] at HCo hh
      simp only at HCo hh
      have HHd := hidK (fun n => Out.more (below_drewN w n) (headed_any hS hr (hX.below (below_drewN w n)) (p.take k) (p.drop (k + 1)) (by rw [List.length_take]; omega) (by rw [List.length_drop]; omega) res hh))
      rw [hd] at HHd ⊢
      rw [hz] at HC HCo ⊢
      obtain ⟨za, hza⟩ : ∃ za, str (p.take k) = za := ⟨_, rfl⟩
      obtain ⟨zb, hzb⟩ : ∃ zb, str (p.drop (k + 1)) = zb := ⟨_, rfl⟩
      rw [hza, hzb] at HCo HHd
      clear h hh hq hd hz hza hzb hS hX e63 e58 hn hco
      go_enter Tryz.func114, Tryz.ntmps114
      go_wp2_with (first | (go_at_call 90; refine HC.out.mono ?_; rintro x w1 ⟨rfl, rfl⟩) | (go_at_call 133; refine HCo.out.mono ?_; rintro x w1 ⟨rfl, n, rfl⟩))
      refine (HHd.out _).mono ?_
      rintro x w3 ⟨ho3, hb3⟩
      cases res with
      | ok s3 =>
        have ho' : x = .returned (.tuple #[.string (str s3), .nilIface]) := ho3
        subst ho'
        clear ho3
        go_wp2_with fail
        all_goals go_ret2
        all_goals exact ⟨rfl, hb3⟩
      | error k3 =>
        obtain ⟨v3, rfl, hv3⟩ := ho3
        go_wp2_with fail
        all_goals go_ret2
        all_goals exact ⟨⟨_, rfl, hv3⟩, hb3⟩
    | none =>
      rw [hco] at HCo hh
      simp only at HCo hh
      have HI := hidK (fun W => ident_any p hp W)
      have HV := hidK (fun n => (hX.below (below_drewN w n)).val p)
      rw [hd]
      rw [hz] at HC HCo HI HV ⊢
      cases hid : identF p with
      | true =>
        rw [hid] at HI hh
        have HRs : Hid (res = .ok (valF vs p)) := (Option.some.inj hh).symm
        clear h hh hq hd hz hS hX e63 e58 hn hco hid
        go_enter Tryz.func114, Tryz.ntmps114
        go_wp2_with (first | (go_at_call 90; refine HC.out.mono ?_; rintro x w1 ⟨rfl, rfl⟩) | (go_at_call 133; refine HCo.out.mono ?_; rintro x w1 ⟨rfl, n, rfl⟩) | (go_at_call 129; refine (HI.out _).mono ?_; rintro x w2 ⟨rfl, rfl⟩))
        refine (HV.out _).mono ?_
        rintro x w3 ⟨rfl, hb3⟩
        go_wp2_with fail
        all_goals go_ret2
        all_goals exact ⟨by rw [HRs.out]; rfl, (below_drewN w _).trans (hb3.mono (below_drewN w _).size)⟩
      | false =>
        rw [hid] at HI hh
        have HRs : Hid (res = .error 100) := (Option.some.inj hh).symm
        clear h hh hq hd hz hS hX e63 e58 hn hco hid HV
        go_enter Tryz.func114, Tryz.ntmps114
        go_wp2_with (first | (go_at_call 90; refine HC.out.mono ?_; rintro x w1 ⟨rfl, rfl⟩) | (go_at_call 133; refine HCo.out.mono ?_; rintro x w1 ⟨rfl, n, rfl⟩) | (go_at_call 129; refine (HI.out _).mono ?_; rintro x w2 ⟨rfl, rfl⟩))
        all_goals go_ret2
        all_goals exact ⟨by rw [HRs.out]; exact ⟨_, rfl, .fault 100⟩, below_drewN w _⟩

end Go.Proofs.YtgoofifbifdgoaaGreatDoor
