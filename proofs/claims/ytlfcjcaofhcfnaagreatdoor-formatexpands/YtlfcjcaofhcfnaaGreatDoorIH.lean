/-
  The document's formats: the set that begins at a place of a pattern.
-/
import Derived.Test.YtlfcjcaofhcfnaaGreatDoorIG
import Derived.Test.YtlfcjcaofhcfnaaGreatDoorGK
import Derived.Test.YtlfcjcaofhcfnaaGreatDoorIB
namespace Go.Proofs.YtlfcjcaofhcfnaaGreatDoor
open Go.RowKit
set_option linter.unusedVariables false
set_option maxRecDepth 20000

/-- What set answers. -/
def setAns (p : List UInt8) (at_ : Nat) : Value := .tuple #[pieceV (dsetF (p.drop at_)).1, .int .i64 (if (dsetF (p.drop at_)).2 = 0 then 0 else (at_ : Int) + ((dsetF (p.drop at_)).2 : Int))]
set_option maxHeartbeats 8000000 in
theorem set_any (p : List UInt8) (at_ : Nat) (hl : p.length ≤ 2147483647) (hat : at_ < p.length) (w : World) : Calls Tryz.prog 186 #[.string (str p), .int .i64 (at_ : Int)] w fun e w' => e = .returned (setAns p at_) ∧ Below w.heap.size w w' := by
  have HG : Hid (∀ k c (h : k < (str p).size), p[k]? = some c → (str p)[k] = c) := fun k c h hc => str_getF p k c hc h
  have hzs : (str p).size = p.length := rfl
  have hnot := not_at p at_
  have HI : Hid (setI p at_ = at_ + if notB (p.drop at_) then 2 else 1) := rfl
  have HNo : Hid (∀ k, NoEnd p (setI p at_ + 1) k → p.length ≤ k → setAns p at_ = .tuple #[.agg #[.bool false, .bool (notB (p.drop at_)), .string (str [])], .int .i64 0]) := fun k h1 h2 => by
    show _ = _
    unfold setAns
    rw [dset_none h1 h2]
    rfl
  have HYes : Hid (∀ k, NoEnd p (setI p at_ + 1) k → setI p at_ + 1 ≤ k → p[k]? = some 93 → setAns p at_ = .tuple #[.agg #[.bool false, .bool (notB (p.drop at_)), .string (str (rangF ((p.drop (setI p at_)).take (k - setI p at_))))], .int .i64 ((k : Int) + 1)]) := fun k h1 h2 h3 => by
    show _ = _
    unfold setAns
    have h4 : at_ ≤ setI p at_ := by unfold setI; omega
    rw [dset_some h1 h2 h3]
    simp only [pieceV]
    rw [if_neg (by omega), show (at_ : Int) + ((k + 1 - at_ : Nat) : Int) = (k : Int) + 1 by omega]
  obtain ⟨nb, hnb⟩ : ∃ nb, notB (p.drop at_) = nb := ⟨_, rfl⟩
  rw [hnb] at hnot HI HNo HYes
  obtain ⟨z, hz⟩ : ∃ z, str p = z := ⟨_, rfl⟩
  rw [hz] at HG hzs ⊢
  have HMid : Hid (∀ i c, p[i]? = some c → z.extract i (i + 1) = str [c]) := fun i c hc => by show _ = _; rw [← hz, str_midF, Nat.add_sub_cancel_left, drop_at hc]; rfl
  obtain ⟨n, hn⟩ : ∃ n, p.length = n := ⟨_, rfl⟩
  rw [hn] at hl hzs hat HNo
  have HN := hidK hn
  obtain ⟨A, hA⟩ : ∃ A, setAns p at_ = A := ⟨_, rfl⟩
  rw [hA] at HNo HYes ⊢
  obtain ⟨b, hb⟩ : ∃ b, setI p at_ = b := ⟨_, rfl⟩
  rw [hb] at HNo HYes HI
  clear hz hn hA hb hnb
  cases nb with
  | true =>
    have hc := of_decide_eq_true hnot.symm
    have h1n : at_ + 1 < n := by rw [← HN.out]; exact (List.getElem?_eq_some_iff.1 hc).1
    have gc := HG.out (at_ + 1) 33 (by omega) hc
    have hbe : b = at_ + 2 := HI.out
    subst hbe
    clear hnot hc HI
    obtain ⟨X, hX⟩ : ∃ X, (w.alloc (.cells #[.bool false, .bool false, .string ⟨#[]⟩] 188)).alloc (.cells #[.bool false, .bool true, .string ⟨#[]⟩] 188) = X := ⟨_, rfl⟩
    have HBX : Hid (Below w.heap.size w X) := by rw [← hX]; exact (heap_two w _ _).2.2.2
    have HR0 : Hid (X.heap[w.heap.size]? = some (.cells #[.bool false, .bool false, .string ⟨#[]⟩] 188 (0, 0))) := by rw [← hX]; exact (heap_two w _ _).1
    have HX0 : Hid (X.heap[w.heap.size + 1]? = some (.cells #[.bool false, .bool true, .string ⟨#[]⟩] 188 (0, 0))) := by rw [← hX]; exact (heap_two w _ _).2.1
    obtain ⟨rb, hrb⟩ : ∃ rb, w.heap.size = rb := ⟨_, rfl⟩
    obtain ⟨xb, hxb⟩ : ∃ xb, rb + 1 = xb := ⟨_, rfl⟩
    have HRX : Hid (rb + 1 = xb) := hxb
    have HHX := hidK hX
    clear hX
    have HRB : Hid (w.heap.size = rb) := hrb
    go_enter Tryz.func186, Tryz.ntmps186
    go_wp2_with fail
    rw [HHX.out]
    try simp only [hrb, hxb]
    rw [hrb] at HR0 HX0
    rw [hxb] at HX0
    clear HHX hrb hxb
    have hne : ¬ xb = rb := by have h := HRX.out; omega
    have HXW : Hid (w.heap.size ≤ xb) := by have h1 := HRX.out; have h2 := HRB.out; show _ ≤ _; omega
    go_loopw [8] (fun s8 wx => ∃ k : Nat, s8 = .int .i64 (k : Int) ∧ (at_ + 2) + 1 ≤ k ∧ k ≤ n + 2 ∧ Hid (NoEnd p ((at_ + 2) + 1) k) ∧ wx = X) (fun v _ => n + 2 - (intOf v).toNat)
    case atStart => exact ⟨(at_ + 2) + 1, by go_num, Nat.le_refl _, by omega, (fun m h1 h2 => by omega), rfl⟩
    case round =>
      obtain ⟨k, rfl, hk1, hk2, HK, rfl⟩ := hrel
      by_cases hkn : k < n
      · obtain ⟨c, hc⟩ : ∃ c, p[k]? = some c := ⟨_, List.getElem?_eq_getElem (by rw [HN.out]; exact hkn)⟩
        have gk := HG.out k c (by omega) hc
        by_cases h93 : c.toNat = 93
        · have hc93 : p[k]? = some 93 := by rw [hc, byte_eq h93 (by decide)]; rfl
          have HA := hidK (HYes.out k HK.out hk1 hc93)
          have HS0 : Hid (RangS p (at_ + 2) (at_ + 2) k []) := RangS.zero (by omega) (by rw [HN.out]; omega)
          clear hc hc93 HK HNo HYes
          go_wp2_with fail
          have hdk : decide (n ≤ k) = false := decide_eq_false (by omega)
          simp only [hdk]
          clear hdk
          go_loopw [6] (fun s6 wx => ∃ (i : Nat) (R : List UInt8), s6 = .int .i64 (i : Int) ∧ i ≤ k ∧ Hid (RangS p (at_ + 2) i k R) ∧ Hid (Below w.heap.size w wx) ∧ Hid (wx.heap[xb]? = some (.cells #[.bool false, .bool true, .string (str R)] 188 (0, 0))) ∧ Hid (wx.heap[rb]? = some (.cells #[.bool false, .bool false, .string ⟨#[]⟩] 188 (0, 0)))) (fun v _ => k - (intOf v).toNat)
          case atStart => exact ⟨(at_ + 2), [], by go_num, by omega, HS0.out, HBX.out, HX0.out, HR0.out⟩
          case round =>
            clear HS0 HBX HX0 HR0 gk
            obtain ⟨i, R, rfl, hik, HS, HB, HXb, HRb⟩ := hrel
            have q2 := cell_atT HXb.out 2
            have f2 := free_atT HXb.out
            have hRl := HS.out.len (by rw [HN.out]; omega)
            rw [HN.out] at hRl
            obtain ⟨zr, hzr⟩ : ∃ zr, str R = zr := ⟨_, rfl⟩
            have hzrs : zr.size ≤ 2 * n := by rw [← hzr, str_size]; exact hRl
            have HZR := hidK hzr
            simp only [hzr] at q2
            clear hzr
            by_cases hilt : i < k
            · obtain ⟨c0, hc0⟩ : ∃ c, p[i]? = some c := ⟨_, List.getElem?_eq_getElem (by rw [HN.out]; omega)⟩
              obtain ⟨u0, hu0⟩ : ∃ u, str [c0] = u := ⟨_, rfl⟩
              have hm0 := HMid.out i c0 hc0
              rw [hu0] at hm0
              have hu0s : u0.size = 1 := by rw [← hu0]; rfl
              have HU0 := hidK hu0
              have hsl0 := fun W => slice_mid z i (i + 1) (i : Int) ((i : Int) + 1) rfl (by omega) (by omega) (by omega) W
              rw [hm0] at hsl0
              by_cases h2k : i + 2 < k
              · obtain ⟨c1, hc1⟩ : ∃ c, p[i + 1]? = some c := ⟨_, List.getElem?_eq_getElem (by rw [HN.out]; omega)⟩
                have g1 := HG.out (i + 1) c1 (by omega) hc1
                by_cases h45 : c1.toNat = 45
                · obtain ⟨c2, hc2⟩ : ∃ c, p[i + 2]? = some c := ⟨_, List.getElem?_eq_getElem (by rw [HN.out]; omega)⟩
                  have HS3 := hidK (HS.out.three (by rw [HN.out]; omega) hc0 hc1 hc2 h45 h2k)
                  obtain ⟨u2, hu2⟩ : ∃ u, str [c2] = u := ⟨_, rfl⟩
                  have hm2 := HMid.out (i + 2) c2 hc2
                  rw [hu2] at hm2
                  have hu2s : u2.size = 1 := by rw [← hu2]; rfl
                  have hsl2 := fun W => slice_mid z (i + 2) (i + 2 + 1) ((i : Int) + 2) ((i : Int) + 3) (by omega) (by omega) (by omega) (by omega) W
                  rw [hm2] at hsl2
                  have HE : Hid (zr ++ u0 ++ u2 = str (R ++ [c0, c2])) := by
                    show _ = _
                    rw [← HZR.out, ← HU0.out, ← hu2, str_cat, str_cat, List.append_assoc]
                    rfl
                  have hxs : (zr ++ u0).size = zr.size + 1 := by rw [ByteArray.size_append, hu0s]
                  obtain ⟨xa, hxa⟩ : ∃ xa, zr ++ u0 = xa := ⟨_, rfl⟩
                  rw [hxa] at HE hxs
                  obtain ⟨xc, hxc⟩ : ∃ xc, xa ++ u2 = xc := ⟨_, rfl⟩
                  rw [hxc] at HE
                  clear hc0 hc1 hc2 hu0 hu2 hm0 hm2 HS
                  go_wp2_with fail
                  go_region
                  all_goals (try go_wp2_with fail)
                  all_goals (
                    go_roundw
                    case rel =>
                      exact ⟨i + 3, R ++ [c0, c2], by go_num, by omega, HS3.out, (HB.out.setCell (p := ⟨xb, 2, none⟩) HXW.out _).drew, by
                        show _ = _
                        rw [← HE.out]
                        exact heap_setCell_same _ xb 2 _ _ _ HXb.out, (Below.heap_setCell _ _ _ _ (by show rb ≠ xb; omega)).trans HRb.out⟩
                    case measure => simp [intOf]; omega)
                · have HS1 := hidK (HS.out.one (by rw [HN.out]; omega) hc0 hilt (fun h => by obtain ⟨_, d, hd, h5⟩ := h; rw [hc1] at hd; cases hd; exact h45 h5))
                  clear hc1
                  have HE : Hid (zr ++ u0 ++ u0 = str (R ++ [c0, c0])) := by
                    show _ = _
                    rw [← HZR.out, ← HU0.out, str_cat, str_cat, List.append_assoc]
                    rfl
                  have hxs : (zr ++ u0).size = zr.size + 1 := by rw [ByteArray.size_append, hu0s]
                  obtain ⟨xa, hxa⟩ : ∃ xa, zr ++ u0 = xa := ⟨_, rfl⟩
                  rw [hxa] at HE hxs
                  obtain ⟨xc, hxc⟩ : ∃ xc, xa ++ u0 = xc := ⟨_, rfl⟩
                  rw [hxc] at HE
                  clear hc0 hu0 hm0 HS
                  go_wp2_with fail
                  go_region
                  all_goals (try go_wp2_with fail)
                  all_goals (
                    go_roundw
                    case rel =>
                      exact ⟨i + 1, R ++ [c0, c0], by go_num, by omega, HS1.out, (HB.out.setCell (p := ⟨xb, 2, none⟩) HXW.out _).drew, by
                        show _ = _
                        rw [← HE.out]
                        exact heap_setCell_same _ xb 2 _ _ _ HXb.out, (Below.heap_setCell _ _ _ _ (by show rb ≠ xb; omega)).trans HRb.out⟩
                    case measure => simp [intOf]; omega)
              · have HS1 := hidK (HS.out.one (by rw [HN.out]; omega) hc0 hilt (fun h => h2k h.1))
                have HE : Hid (zr ++ u0 ++ u0 = str (R ++ [c0, c0])) := by
                  show _ = _
                  rw [← HZR.out, ← HU0.out, str_cat, str_cat, List.append_assoc]
                  rfl
                have hxs : (zr ++ u0).size = zr.size + 1 := by rw [ByteArray.size_append, hu0s]
                obtain ⟨xa, hxa⟩ : ∃ xa, zr ++ u0 = xa := ⟨_, rfl⟩
                rw [hxa] at HE hxs
                obtain ⟨xc, hxc⟩ : ∃ xc, xa ++ u0 = xc := ⟨_, rfl⟩
                rw [hxc] at HE
                clear hc0 hu0 hm0 HS
                go_wp2_with fail
                go_region
                all_goals (try go_wp2_with fail)
                all_goals (
                  go_roundw
                  case rel =>
                    exact ⟨i + 1, R ++ [c0, c0], by go_num, by omega, HS1.out, (HB.out.setCell (p := ⟨xb, 2, none⟩) HXW.out _).drew, by
                      show _ = _
                      rw [← HE.out]
                      exact heap_setCell_same _ xb 2 _ _ _ HXb.out, (Below.heap_setCell _ _ _ _ (by show rb ≠ xb; omega)).trans HRb.out⟩
                  case measure => simp [intOf]; omega)
            · obtain rfl : i = k := by omega
              have HR := hidK (HS.out.done (Nat.le_refl _))
              have q0 := cell_atT HXb.out 0
              have q1 := cell_atT HXb.out 1
              have q3 := cell_atT HXb.out 2
              simp only [HZR.out] at q3
              have r0 := cell_atT HRb.out 0
              have r1 := cell_atT HRb.out 1
              have r2 := cell_atT HRb.out 2
              have f1 := free_atT HRb.out
              clear HS
              go_wp2_with fail
              all_goals refine ret_cell2 rfl rfl (set_three HRb.out _ _ _) Tryz.underlying188 rfl rfl rfl ?_
              all_goals exact ⟨by rw [HA.out, ← HR.out, HZR.out]; rfl, by
                have hh := HRB.out
                exact ((HB.out.setCell (Nat.le_of_eq hh) _).setCell (Nat.le_of_eq hh) _).setCell (Nat.le_of_eq hh) _⟩
        · have HK2 := hidK (HK.out.step hc h93)
          clear hc HK HNo HYes
          go_wp2_with fail
          all_goals go_roundw
          case rel => exact ⟨k + 1, by go_num, by omega, by omega, HK2.out, trivial⟩
          case measure => simp [intOf]; omega
      · have HA := hidK (HNo.out k HK.out (by omega))
        have q0 := cell_atT HX0.out 0
        have q1 := cell_atT HX0.out 1
        have q2 := cell_atT HX0.out 2
        have r0 := cell_atT HR0.out 0
        have r1 := cell_atT HR0.out 1
        have r2 := cell_atT HR0.out 2
        have f1 := free_atT HR0.out
        clear HK HNo HYes
        go_wp2_with fail
        all_goals refine ret_cell2 rfl rfl (set_three HR0.out _ _ _) Tryz.underlying188 rfl rfl rfl ?_
        all_goals exact ⟨by rw [HA.out]; rfl, by
          have hh := HRB.out
          exact ((HBX.out.setCell (Nat.le_of_eq hh) _).setCell (Nat.le_of_eq hh) _).setCell (Nat.le_of_eq hh) _⟩
  | false =>
    have hnc := of_decide_eq_false hnot.symm
    have hbe : b = at_ + 1 := HI.out
    subst hbe
    clear hnot HI
    by_cases h1n : at_ + 1 < n
    · obtain ⟨c9, hc9⟩ : ∃ c, p[at_ + 1]? = some c := ⟨_, List.getElem?_eq_getElem (by rw [HN.out]; exact h1n)⟩
      have gc := HG.out (at_ + 1) c9 (by omega) hc9
      have h33 : ¬ c9.toNat = 33 := fun h => hnc (by rw [hc9, byte_eq h (by decide)]; rfl)
      have h33b : ((c9.toNat : Int) == 33) = false := beq_eq_false_iff_ne.2 (by omega)
      clear hnc hc9
      obtain ⟨X, hX⟩ : ∃ X, (w.alloc (.cells #[.bool false, .bool false, .string ⟨#[]⟩] 188)).alloc (.cells #[.bool false, .bool false, .string ⟨#[]⟩] 188) = X := ⟨_, rfl⟩
      have HBX : Hid (Below w.heap.size w X) := by rw [← hX]; exact (heap_two w _ _).2.2.2
      have HR0 : Hid (X.heap[w.heap.size]? = some (.cells #[.bool false, .bool false, .string ⟨#[]⟩] 188 (0, 0))) := by rw [← hX]; exact (heap_two w _ _).1
      have HX0 : Hid (X.heap[w.heap.size + 1]? = some (.cells #[.bool false, .bool false, .string ⟨#[]⟩] 188 (0, 0))) := by rw [← hX]; exact (heap_two w _ _).2.1
      obtain ⟨rb, hrb⟩ : ∃ rb, w.heap.size = rb := ⟨_, rfl⟩
      obtain ⟨xb, hxb⟩ : ∃ xb, rb + 1 = xb := ⟨_, rfl⟩
      have HRX : Hid (rb + 1 = xb) := hxb
      have HHX := hidK hX
      clear hX
      have HRB : Hid (w.heap.size = rb) := hrb
      go_enter Tryz.func186, Tryz.ntmps186
      go_wp2_with fail
      rw [HHX.out]
      try simp only [hrb, hxb]
      rw [hrb] at HR0 HX0
      rw [hxb] at HX0
      clear HHX hrb hxb
      have hne : ¬ xb = rb := by have h := HRX.out; omega
      have HXW : Hid (w.heap.size ≤ xb) := by have h1 := HRX.out; have h2 := HRB.out; show _ ≤ _; omega
      go_loopw [8] (fun s8 wx => ∃ k : Nat, s8 = .int .i64 (k : Int) ∧ (at_ + 1) + 1 ≤ k ∧ k ≤ n + 2 ∧ Hid (NoEnd p ((at_ + 1) + 1) k) ∧ wx = X) (fun v _ => n + 2 - (intOf v).toNat)
      case atStart => exact ⟨(at_ + 1) + 1, by go_num, Nat.le_refl _, by omega, (fun m h1 h2 => by omega), rfl⟩
      case round =>
        obtain ⟨k, rfl, hk1, hk2, HK, rfl⟩ := hrel
        by_cases hkn : k < n
        · obtain ⟨c, hc⟩ : ∃ c, p[k]? = some c := ⟨_, List.getElem?_eq_getElem (by rw [HN.out]; exact hkn)⟩
          have gk := HG.out k c (by omega) hc
          by_cases h93 : c.toNat = 93
          · have hc93 : p[k]? = some 93 := by rw [hc, byte_eq h93 (by decide)]; rfl
            have HA := hidK (HYes.out k HK.out hk1 hc93)
            have HS0 : Hid (RangS p (at_ + 1) (at_ + 1) k []) := RangS.zero (by omega) (by rw [HN.out]; omega)
            clear hc hc93 HK HNo HYes
            go_wp2_with fail
            have hdk : decide (n ≤ k) = false := decide_eq_false (by omega)
            simp only [hdk]
            clear hdk
            go_loopw [6] (fun s6 wx => ∃ (i : Nat) (R : List UInt8), s6 = .int .i64 (i : Int) ∧ i ≤ k ∧ Hid (RangS p (at_ + 1) i k R) ∧ Hid (Below w.heap.size w wx) ∧ Hid (wx.heap[xb]? = some (.cells #[.bool false, .bool false, .string (str R)] 188 (0, 0))) ∧ Hid (wx.heap[rb]? = some (.cells #[.bool false, .bool false, .string ⟨#[]⟩] 188 (0, 0)))) (fun v _ => k - (intOf v).toNat)
            case atStart => exact ⟨(at_ + 1), [], by go_num, by omega, HS0.out, HBX.out, HX0.out, HR0.out⟩
            case round =>
              clear HS0 HBX HX0 HR0 gk
              obtain ⟨i, R, rfl, hik, HS, HB, HXb, HRb⟩ := hrel
              have q2 := cell_atT HXb.out 2
              have f2 := free_atT HXb.out
              have hRl := HS.out.len (by rw [HN.out]; omega)
              rw [HN.out] at hRl
              obtain ⟨zr, hzr⟩ : ∃ zr, str R = zr := ⟨_, rfl⟩
              have hzrs : zr.size ≤ 2 * n := by rw [← hzr, str_size]; exact hRl
              have HZR := hidK hzr
              simp only [hzr] at q2
              clear hzr
              by_cases hilt : i < k
              · obtain ⟨c0, hc0⟩ : ∃ c, p[i]? = some c := ⟨_, List.getElem?_eq_getElem (by rw [HN.out]; omega)⟩
                obtain ⟨u0, hu0⟩ : ∃ u, str [c0] = u := ⟨_, rfl⟩
                have hm0 := HMid.out i c0 hc0
                rw [hu0] at hm0
                have hu0s : u0.size = 1 := by rw [← hu0]; rfl
                have HU0 := hidK hu0
                have hsl0 := fun W => slice_mid z i (i + 1) (i : Int) ((i : Int) + 1) rfl (by omega) (by omega) (by omega) W
                rw [hm0] at hsl0
                by_cases h2k : i + 2 < k
                · obtain ⟨c1, hc1⟩ : ∃ c, p[i + 1]? = some c := ⟨_, List.getElem?_eq_getElem (by rw [HN.out]; omega)⟩
                  have g1 := HG.out (i + 1) c1 (by omega) hc1
                  by_cases h45 : c1.toNat = 45
                  · obtain ⟨c2, hc2⟩ : ∃ c, p[i + 2]? = some c := ⟨_, List.getElem?_eq_getElem (by rw [HN.out]; omega)⟩
                    have HS3 := hidK (HS.out.three (by rw [HN.out]; omega) hc0 hc1 hc2 h45 h2k)
                    obtain ⟨u2, hu2⟩ : ∃ u, str [c2] = u := ⟨_, rfl⟩
                    have hm2 := HMid.out (i + 2) c2 hc2
                    rw [hu2] at hm2
                    have hu2s : u2.size = 1 := by rw [← hu2]; rfl
                    have hsl2 := fun W => slice_mid z (i + 2) (i + 2 + 1) ((i : Int) + 2) ((i : Int) + 3) (by omega) (by omega) (by omega) (by omega) W
                    rw [hm2] at hsl2
                    have HE : Hid (zr ++ u0 ++ u2 = str (R ++ [c0, c2])) := by
                      show _ = _
                      rw [← HZR.out, ← HU0.out, ← hu2, str_cat, str_cat, List.append_assoc]
                      rfl
                    have hxs : (zr ++ u0).size = zr.size + 1 := by rw [ByteArray.size_append, hu0s]
                    obtain ⟨xa, hxa⟩ : ∃ xa, zr ++ u0 = xa := ⟨_, rfl⟩
                    rw [hxa] at HE hxs
                    obtain ⟨xc, hxc⟩ : ∃ xc, xa ++ u2 = xc := ⟨_, rfl⟩
                    rw [hxc] at HE
                    clear hc0 hc1 hc2 hu0 hu2 hm0 hm2 HS
                    go_wp2_with fail
                    go_region
                    all_goals (try go_wp2_with fail)
                    all_goals (
                      go_roundw
                      case rel =>
                        exact ⟨i + 3, R ++ [c0, c2], by go_num, by omega, HS3.out, (HB.out.setCell (p := ⟨xb, 2, none⟩) HXW.out _).drew, by
                          show _ = _
                          rw [← HE.out]
                          exact heap_setCell_same _ xb 2 _ _ _ HXb.out, (Below.heap_setCell _ _ _ _ (by show rb ≠ xb; omega)).trans HRb.out⟩
                      case measure => simp [intOf]; omega)
                  · have HS1 := hidK (HS.out.one (by rw [HN.out]; omega) hc0 hilt (fun h => by obtain ⟨_, d, hd, h5⟩ := h; rw [hc1] at hd; cases hd; exact h45 h5))
                    clear hc1
                    have HE : Hid (zr ++ u0 ++ u0 = str (R ++ [c0, c0])) := by
                      show _ = _
                      rw [← HZR.out, ← HU0.out, str_cat, str_cat, List.append_assoc]
                      rfl
                    have hxs : (zr ++ u0).size = zr.size + 1 := by rw [ByteArray.size_append, hu0s]
                    obtain ⟨xa, hxa⟩ : ∃ xa, zr ++ u0 = xa := ⟨_, rfl⟩
                    rw [hxa] at HE hxs
                    obtain ⟨xc, hxc⟩ : ∃ xc, xa ++ u0 = xc := ⟨_, rfl⟩
                    rw [hxc] at HE
                    clear hc0 hu0 hm0 HS
                    go_wp2_with fail
                    go_region
                    all_goals (try go_wp2_with fail)
                    all_goals (
                      go_roundw
                      case rel =>
                        exact ⟨i + 1, R ++ [c0, c0], by go_num, by omega, HS1.out, (HB.out.setCell (p := ⟨xb, 2, none⟩) HXW.out _).drew, by
                          show _ = _
                          rw [← HE.out]
                          exact heap_setCell_same _ xb 2 _ _ _ HXb.out, (Below.heap_setCell _ _ _ _ (by show rb ≠ xb; omega)).trans HRb.out⟩
                      case measure => simp [intOf]; omega)
                · have HS1 := hidK (HS.out.one (by rw [HN.out]; omega) hc0 hilt (fun h => h2k h.1))
                  have HE : Hid (zr ++ u0 ++ u0 = str (R ++ [c0, c0])) := by
                    show _ = _
                    rw [← HZR.out, ← HU0.out, str_cat, str_cat, List.append_assoc]
                    rfl
                  have hxs : (zr ++ u0).size = zr.size + 1 := by rw [ByteArray.size_append, hu0s]
                  obtain ⟨xa, hxa⟩ : ∃ xa, zr ++ u0 = xa := ⟨_, rfl⟩
                  rw [hxa] at HE hxs
                  obtain ⟨xc, hxc⟩ : ∃ xc, xa ++ u0 = xc := ⟨_, rfl⟩
                  rw [hxc] at HE
                  clear hc0 hu0 hm0 HS
                  go_wp2_with fail
                  go_region
                  all_goals (try go_wp2_with fail)
                  all_goals (
                    go_roundw
                    case rel =>
                      exact ⟨i + 1, R ++ [c0, c0], by go_num, by omega, HS1.out, (HB.out.setCell (p := ⟨xb, 2, none⟩) HXW.out _).drew, by
                        show _ = _
                        rw [← HE.out]
                        exact heap_setCell_same _ xb 2 _ _ _ HXb.out, (Below.heap_setCell _ _ _ _ (by show rb ≠ xb; omega)).trans HRb.out⟩
                    case measure => simp [intOf]; omega)
              · obtain rfl : i = k := by omega
                have HR := hidK (HS.out.done (Nat.le_refl _))
                have q0 := cell_atT HXb.out 0
                have q1 := cell_atT HXb.out 1
                have q3 := cell_atT HXb.out 2
                simp only [HZR.out] at q3
                have r0 := cell_atT HRb.out 0
                have r1 := cell_atT HRb.out 1
                have r2 := cell_atT HRb.out 2
                have f1 := free_atT HRb.out
                clear HS
                go_wp2_with fail
                all_goals refine ret_cell2 rfl rfl (set_three HRb.out _ _ _) Tryz.underlying188 rfl rfl rfl ?_
                all_goals exact ⟨by rw [HA.out, ← HR.out, HZR.out]; rfl, by
                  have hh := HRB.out
                  exact ((HB.out.setCell (Nat.le_of_eq hh) _).setCell (Nat.le_of_eq hh) _).setCell (Nat.le_of_eq hh) _⟩
          · have HK2 := hidK (HK.out.step hc h93)
            clear hc HK HNo HYes
            go_wp2_with fail
            all_goals go_roundw
            case rel => exact ⟨k + 1, by go_num, by omega, by omega, HK2.out, trivial⟩
            case measure => simp [intOf]; omega
        · have HA := hidK (HNo.out k HK.out (by omega))
          have q0 := cell_atT HX0.out 0
          have q1 := cell_atT HX0.out 1
          have q2 := cell_atT HX0.out 2
          have r0 := cell_atT HR0.out 0
          have r1 := cell_atT HR0.out 1
          have r2 := cell_atT HR0.out 2
          have f1 := free_atT HR0.out
          clear HK HNo HYes
          go_wp2_with fail
          all_goals refine ret_cell2 rfl rfl (set_three HR0.out _ _ _) Tryz.underlying188 rfl rfl rfl ?_
          all_goals exact ⟨by rw [HA.out]; rfl, by
            have hh := HRB.out
            exact ((HBX.out.setCell (Nat.le_of_eq hh) _).setCell (Nat.le_of_eq hh) _).setCell (Nat.le_of_eq hh) _⟩
    · clear hnc
      obtain ⟨X, hX⟩ : ∃ X, (w.alloc (.cells #[.bool false, .bool false, .string ⟨#[]⟩] 188)).alloc (.cells #[.bool false, .bool false, .string ⟨#[]⟩] 188) = X := ⟨_, rfl⟩
      have HBX : Hid (Below w.heap.size w X) := by rw [← hX]; exact (heap_two w _ _).2.2.2
      have HR0 : Hid (X.heap[w.heap.size]? = some (.cells #[.bool false, .bool false, .string ⟨#[]⟩] 188 (0, 0))) := by rw [← hX]; exact (heap_two w _ _).1
      have HX0 : Hid (X.heap[w.heap.size + 1]? = some (.cells #[.bool false, .bool false, .string ⟨#[]⟩] 188 (0, 0))) := by rw [← hX]; exact (heap_two w _ _).2.1
      obtain ⟨rb, hrb⟩ : ∃ rb, w.heap.size = rb := ⟨_, rfl⟩
      obtain ⟨xb, hxb⟩ : ∃ xb, rb + 1 = xb := ⟨_, rfl⟩
      have HRX : Hid (rb + 1 = xb) := hxb
      have HHX := hidK hX
      clear hX
      have HRB : Hid (w.heap.size = rb) := hrb
      go_enter Tryz.func186, Tryz.ntmps186
      go_wp2_with fail
      rw [HHX.out]
      try simp only [hrb, hxb]
      rw [hrb] at HR0 HX0
      rw [hxb] at HX0
      clear HHX hrb hxb
      have hne : ¬ xb = rb := by have h := HRX.out; omega
      have HXW : Hid (w.heap.size ≤ xb) := by have h1 := HRX.out; have h2 := HRB.out; show _ ≤ _; omega
      go_loopw [8] (fun s8 wx => ∃ k : Nat, s8 = .int .i64 (k : Int) ∧ (at_ + 1) + 1 ≤ k ∧ k ≤ n + 2 ∧ Hid (NoEnd p ((at_ + 1) + 1) k) ∧ wx = X) (fun v _ => n + 2 - (intOf v).toNat)
      case atStart => exact ⟨(at_ + 1) + 1, by go_num, Nat.le_refl _, by omega, (fun m h1 h2 => by omega), rfl⟩
      case round =>
        obtain ⟨k, rfl, hk1, hk2, HK, rfl⟩ := hrel
        by_cases hkn : k < n
        · exact absurd hkn (by omega)
        · have HA := hidK (HNo.out k HK.out (by omega))
          have q0 := cell_atT HX0.out 0
          have q1 := cell_atT HX0.out 1
          have q2 := cell_atT HX0.out 2
          have r0 := cell_atT HR0.out 0
          have r1 := cell_atT HR0.out 1
          have r2 := cell_atT HR0.out 2
          have f1 := free_atT HR0.out
          clear HK HNo HYes
          go_wp2_with fail
          all_goals refine ret_cell2 rfl rfl (set_three HR0.out _ _ _) Tryz.underlying188 rfl rfl rfl ?_
          all_goals exact ⟨by rw [HA.out]; rfl, by
            have hh := HRB.out
            exact ((HBX.out.setCell (Nat.le_of_eq hh) _).setCell (Nat.le_of_eq hh) _).setCell (Nat.le_of_eq hh) _⟩
end Go.Proofs.YtlfcjcaofhcfnaaGreatDoor
