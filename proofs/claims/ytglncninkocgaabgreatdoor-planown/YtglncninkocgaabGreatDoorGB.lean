/-
  Plans: the statement on lists of one's own, walked.
-/
import Derived.Test.YtglncninkocgaabGreatDoorGA
import Derived.Test.YtglncninkocgaabGreatDoorDI
import Derived.Test.YtglncninkocgaabGreatDoorFC
import Derived.Test.YtglncninkocgaabGreatDoorCZB
import Derived.BigQuiet
namespace Go.Proofs.YtglncninkocgaabGreatDoor
open Go.RowKit
set_option linter.unusedVariables false
set_option maxRecDepth 100000

theorem textF_len (l : List CellV) : (textF l).length ≤ 2048 := by
  unfold textF
  cases h : readF l with
  | none => simp
  | some t =>
    have := (lay_fit h).txt
    simp [planT, headL]
    omega
theorem parse_few (s : List UInt8) : (parseF s).1.length ≤ 63 := by
  rcases parse_ways s with ⟨_, h⟩ | ⟨_, _, h⟩ | ⟨_, _, _, h⟩ | ⟨_, _, _, _, h⟩ | ⟨_, _, _, t, _, _, h⟩ | ⟨_, _, _, t, _, h5, _, h⟩
  · rw [h]; simp
  · rw [h]; simp
  · rw [h]; simp
  · rw [h]; simp
  · rw [h]; simp
  · rw [h]
    exact (lay_fit h5).len
theorem rep_few (l : List CellV) (ps : List Int) : (repR l ps).length ≤ 63 := by
  cases hr : readF l with
  | none => rw [(rep_none ps hr).2]; simp
  | some t =>
    unfold repR
    split
    · rw [repL_length]; exact (lay_fit hr).len
    · simp

set_option maxHeartbeats 16000000 in
theorem planOwn_walk (v u : Value) (l : List CellV) (ps : List Int) (w : World) (hv : CellsIn w v l) (hz : v = .slice none 0 0 ∨ ∃ a n c, v = .slice (some a) n c) (hlen : l.length * 56 ≤ 140737488351232) (hu : IntsIn w u ps) (hzu : u = .slice none 0 0 ∨ ∃ a n c, u = .slice (some a) n c) (hlp : ps.length * 8 ≤ 140737488351232) (hN : NumV w) : Calls Tryz.prog 3 #[v, u] w fun e w' => e = .returned (.bool true) ∧ Below w.heap.size w w' := by
  have HV : Hid (CellsIn (w.alloc (.cells #[] 36)) v l) := hv.below ((Below.refl _ _).alloc (Nat.le_refl _) _)
  have HO0 : Hid (CeOwns (w.alloc (.cells #[] 36)) w.heap.size (.slice (some ⟨w.heap.size, 0, none⟩) 0 0) []) := World.ownsRow_lit w #[] 0 (Nat.le_refl _) (by decide) (by simp)
  have HB0 : Hid (w.heap.size ≤ (w.alloc (.cells #[] 36)).heap.size) := by show _ ≤ _; simp
  have HZ := hidden hz
  obtain ⟨E, hE⟩ : ∃ E, repE l ps = E := ⟨_, rfl⟩
  obtain ⟨R, hR⟩ : ∃ E, repR l ps = E := ⟨_, rfl⟩
  obtain ⟨S, hS⟩ : ∃ E, str (textF l) = E := ⟨_, rfl⟩
  obtain ⟨P, hP⟩ : ∃ E, (parseF S.data.toList).1 = E := ⟨_, rfl⟩
  obtain ⟨F, hF⟩ : ∃ E, (parseF S.data.toList).2 = E := ⟨_, rfl⟩
  obtain ⟨D, hD⟩ : ∃ E, checkE l = E := ⟨_, rfl⟩
  have hSz : S.size ≤ 9223372036854775807 := by
    have := textF_len l
    rw [← hS, str_size]
    omega
  have hPf : P.length ≤ 63 := by rw [← hP]; exact parse_few _
  have hRf : R.length ≤ 63 := by rw [← hR]; exact rep_few _ _
  have HTx : Hid (∀ X, Below w.heap.size w X → Calls Tryz.prog 4 #[v] X fun e w' => e = .returned (.tuple #[.string S, .int .i64 D]) ∧ Below X.heap.size X w') := fun X hX => by rw [← hS, ← hD]; exact refText_any v l X (hv.below hX)
  have HRp : Hid (∀ X, Below w.heap.size w X → Calls Tryz.prog 8 #[v, u] X fun e w' => ∃ sl, e = .returned (.tuple #[sl, .int .i64 E]) ∧ CeOwns w' X.heap.size sl R ∧ Below X.heap.size X w') := fun X hX => by rw [← hE, ← hR]; exact repane_any v u l ps X (hv.below hX) (hu.below hX) (by omega)
  have HRr : Hid (∀ X, Below w.heap.size w X → Calls Tryz.prog 5 #[v, u] X fun e w' => ∃ sl, e = .returned (.tuple #[sl, .int .i64 E]) ∧ CeOwns w' X.heap.size sl R ∧ Below X.heap.size X w') := fun X hX => by rw [← hE, ← hR]; exact refRepane_any v u l ps X (hv.below hX) (hu.below hX) (by omega)
  have HPr : Hid (∀ X, Calls Tryz.prog 6 #[.string S] X fun e w' => ∃ sl, e = .returned (.tuple #[sl, .int .i64 F]) ∧ CeOwns w' X.heap.size sl P ∧ Below X.heap.size X w') := fun X => by rw [← hP, ← hF]; exact refParse_any S X hSz
  have HPp : Hid (∀ X, Below w.heap.size w X → Calls Tryz.prog 7 #[.string S] X fun e w' => ∃ sl, e = .returned (.tuple #[sl, .int .i64 F]) ∧ CeOwns w' X.heap.size sl P ∧ Below X.heap.size X w') := fun X hX => by
    rw [← hP, ← hF]
    refine (parse_any S X (hN.below hX) hSz).mono ?_
    rintro e w' ⟨sl, h1, h2, h3⟩
    exact ⟨sl, h1, ce_low h2 (by omega), h3⟩
  have HSm : Hid (∀ x y X (L : List CellV), L.length * 56 ≤ 140737488351232 → CellsIn X x L → CellsIn X y L → Calls Tryz.prog 9 #[x, y] X fun e w' => e = .returned (.bool true) ∧ Below X.heap.size X w') := fun x y X L hL h1 h2 => by
    have h := same_any5 x y L L X h1 h2 (by omega)
    simpa using h
  have HSu : Hid (∀ X, Below w.heap.size w X → Calls Tryz.prog 10 #[] X fun e w' => e = .returned (.bool true) ∧ Below X.heap.size X w') := fun X hX => sure_true X (hN.below hX)
  have HVv := hidden hv
  have HL := hidden hlen
  obtain ⟨va, vn, vc, hvs⟩ : ∃ a n c, v = .slice a n c := by rcases hz with h | ⟨a, n, c, h⟩; exact ⟨_, _, _, h⟩; exact ⟨_, _, _, h⟩
  subst hvs
  obtain ⟨ua, un, uc, hus⟩ : ∃ a n c, u = .slice a n c := by rcases hzu with h | ⟨a, n, c, h⟩; exact ⟨_, _, _, h⟩; exact ⟨_, _, _, h⟩
  subst hus
  have HPf := hidden hPf
  have HRf := hidden hRf
  clear hv hN hE hR hS hP hF hD hSz hlen hlp hz hzu hu hPf hRf
  go_enter Tryz.func3, Tryz.ntmps3
  go_wp2_with (at_builtin; refine wpList_append_cells _ rfl _ _ rfl w.heap.size (.slice (some ⟨w.heap.size, 0, none⟩) 0 0) [] ?y1 HO0.out HB0.out (.slice va vn vc) l ?y2 HV.out HZ.out ?y3 ?_; (case y1 => simp [Act.eval]); (case y2 => simp [Act.eval]); (case y3 => have := HL.out; simp; omega); intro v' w' k2 k3; obtain ⟨sa, sn, sc, rfl⟩ := ce_slice k2; have HO1 := hidden k2; have H1 : Hid (Below w.heap.size w w') := below_grown ((Below.refl _ _).alloc (Nat.le_refl _) _) k3 (Nat.le_refl _); clear k2 k3)
  refine (HTx.out _ H1.out).mono ?_
  rintro e w2 ⟨rfl, hb2⟩
  have HW2 := hidden (HO1.out.below hb2)
  have H2 := hidden (below_step H1.out hb2)
  clear hb2
  go_wp2_with fail
  refine (HRr.out _ H2.out).mono ?_
  rintro e w3 ⟨sl3, rfl, ho3, hb3⟩
  obtain ⟨ma, mn, mc, rfl⟩ := ce_slice ho3
  have HM3 := hidden ho3
  have HW3 := hidden (HW2.out.below hb3)
  have H3 := hidden (below_step H2.out hb3)
  clear ho3 hb3
  go_wp2_with fail
  refine (HPr.out _).mono ?_
  rintro e w4 ⟨sl4, rfl, ho4, hb4⟩
  obtain ⟨pa, pn, pc, rfl⟩ := ce_slice ho4
  have HP4 := hidden ho4
  have HM4 := hidden (HM3.out.below hb4)
  have HW4 := hidden (HW3.out.below hb4)
  have H4 := hidden (below_step H3.out hb4)
  clear ho4 hb4
  go_wp2_with fail
  refine (HPp.out _ H4.out).mono ?_
  rintro e w5 ⟨sl5, rfl, ho5, hb5⟩
  obtain ⟨aa, an, ac, rfl⟩ := ce_slice ho5
  have HK5 := hidden hb5
  have HA5 := hidden ho5
  have H5 := hidden (below_step H4.out hb5)
  clear ho5 hb5
  go_wp2_with fail
  refine (HRp.out _ H5.out).mono ?_
  rintro e w6 ⟨sl6, rfl, ho6, hb6⟩
  obtain ⟨ba, bn, bc, rfl⟩ := ce_slice ho6
  have HK6 := hidden hb6
  have HA6 := hidden ho6
  have H6 := hidden (below_step H5.out hb6)
  clear ho6 hb6
  go_wp2_with fail
  refine (HPp.out _ H6.out).mono ?_
  rintro e w7 ⟨sl7, rfl, ho7, hb7⟩
  obtain ⟨ca, cn, cc, rfl⟩ := ce_slice ho7
  have HK7 := hidden hb7
  have HA7 := hidden ho7
  have H7 := hidden (below_step H6.out hb7)
  clear ho7 hb7
  go_wp2_with fail
  refine (HRp.out _ H7.out).mono ?_
  rintro e w8 ⟨sl8, rfl, ho8, hb8⟩
  obtain ⟨da, dn, dc, rfl⟩ := ce_slice ho8
  have HK8 := hidden hb8
  have HA8 := hidden ho8
  have H8 := hidden (below_step H7.out hb8)
  clear ho8 hb8
  go_upto_region 12 with fail
  have HX : Hid (∃ X, (w8.alloc (.cells #[.slice aa an ac, .slice ba bn bc, .slice ca cn cc, .slice da dn dc] 22)).alloc (.cells #[.slice pa pn pc, .slice ma mn mc, .slice pa pn pc, .slice ma mn mc] 22) = X) := ⟨_, rfl⟩
  obtain ⟨X, hX⟩ := HX.out
  rw [hX]
  obtain ⟨vs, hvs⟩ : ∃ vs : List Value, [.slice aa an ac, .slice ba bn bc, .slice ca cn cc, .slice da dn dc] = vs := ⟨_, rfl⟩
  obtain ⟨ws, hws⟩ : ∃ vs : List Value, [.slice pa pn pc, .slice ma mn mc, .slice pa pn pc, .slice ma mn mc] = vs := ⟨_, rfl⟩
  obtain ⟨lg, hlg⟩ : ∃ g, w8.heap.size = g := ⟨_, rfl⟩
  have HB8 : Hid (Below w8.heap.size w8 X) := by rw [← hX]; exact below_step ((Below.refl _ _).alloc (Nat.le_refl _) _) ((Below.refl _ _).alloc (Nat.le_refl _) _)
  have HB4 : Hid (Below w4.heap.size w4 X) := below_step (below_step (below_step (below_step HK5.out HK6.out) HK7.out) HK8.out) HB8.out
  have HF : Hid (Fam X w4.heap.size vs [P, R, P, R]) := by
    rw [← hvs]
    exact fam4 ((((HA5.out.below HK6.out).below HK7.out).below HK8.out).below HB8.out) (((HA6.out.below HK7.out).below HK8.out).below HB8.out) ((HA7.out.below HK8.out).below HB8.out) (HA8.out.below HB8.out) (fun g hg => (World.ownsRow.lt HA5.out g hg).2) (fun g hg => (World.ownsRow.lt HA6.out g hg).2) (fun g hg => (World.ownsRow.lt HA7.out g hg).2) HK5.out.size HK6.out.size HK7.out.size
  have HWx : Hid (∀ (i : Nat) y L, ws[i]? = some y → [P, R, P, R][i]? = some L → CellsIn X y L) := fun i y L hy hL => by
    have p4 := (HP4.out.below HB4.out).cellsIn
    have m4 := (HM4.out.below HB4.out).cellsIn
    rw [← hws] at hy
    rcases i with _ | _ | _ | _ | i
    · cases hy; cases hL; exact p4
    · cases hy; cases hL; exact m4
    · cases hy; cases hL; exact p4
    · cases hy; cases hL; exact m4
    · simp at hy
  have HSl : Hid (∀ i : Nat, i < 4 → (∃ a n c, vs[i]? = some (.slice a n c)) ∧ ∃ a n c, ws[i]? = some (.slice a n c)) := fun i hi => by
    rw [← hvs, ← hws]
    rcases i with _ | _ | _ | _ | i
    · exact ⟨⟨_, _, _, rfl⟩, ⟨_, _, _, rfl⟩⟩
    · exact ⟨⟨_, _, _, rfl⟩, ⟨_, _, _, rfl⟩⟩
    · exact ⟨⟨_, _, _, rfl⟩, ⟨_, _, _, rfl⟩⟩
    · exact ⟨⟨_, _, _, rfl⟩, ⟨_, _, _, rfl⟩⟩
    · omega
  have HNs : Hid (∀ (i : Nat) n, ([P, R, P, R].map List.length)[i]? = some n → n ≤ 63) := fun i n hn => by
    have p4 := HPf.out
    have m4 := HRf.out
    rcases i with _ | _ | _ | _ | i
    · cases hn; exact p4
    · cases hn; exact m4
    · cases hn; exact p4
    · cases hn; exact m4
    · simp at hn
  have HLs : Hid (X.ownsRow w4.heap.size 22 1 (.slice (some ⟨lg, 0, none⟩) 4 4) 4 vs) := by
    rw [← hX, ← hvs, ← hlg]
    exact World.ownsRow.alloc (World.ownsRow_lit w8 _ 4 (Nat.le_trans (Nat.le_trans (Nat.le_trans HK5.out.size HK6.out.size) HK7.out.size) HK8.out.size) (by decide) rfl) _
  have HWs : Hid (X.ownsRow w4.heap.size 22 1 (.slice (some ⟨lg + 1, 0, none⟩) 4 4) 4 ws) := by
    rw [← hX, ← hws, ← hlg]
    have h := World.ownsRow_lit (w8.alloc (.cells #[.slice aa an ac, .slice ba bn bc, .slice ca cn cc, .slice da dn dc] 22)) (base := w4.heap.size) (e := 22) (size := 1) #[.slice pa pn pc, .slice ma mn mc, .slice pa pn pc, .slice ma mn mc] 4 (Nat.le_trans (Nat.le_trans (Nat.le_trans (Nat.le_trans HK5.out.size HK6.out.size) HK7.out.size) HK8.out.size) (by simp)) (by decide) rfl
    have e : (w8.alloc (.cells #[.slice aa an ac, .slice ba bn bc, .slice ca cn cc, .slice da dn dc] 22)).heap.size = w8.heap.size + 1 := by simp
    rw [e] at h
    exact h
  have HSa : Hid (∀ (i : Nat) x y Y, vs[i]? = some x → ws[i]? = some y → Below X.heap.size X Y → Calls Tryz.prog 9 #[x, y] Y fun e w' => e = .returned (.bool true) ∧ Below Y.heap.size Y w') := fun i x y Y hx hy hY => by
    have hi : i < 4 := by have := (List.getElem?_eq_some_iff.1 hx).1; rw [← hvs] at this; simpa using this
    obtain ⟨L, hL⟩ : ∃ L, [P, R, P, R][i]? = some L := ⟨_, List.getElem?_eq_getElem (by simpa using hi)⟩
    have hl : L.length ≤ 63 := HNs.out i _ (by rw [List.getElem?_map, hL]; rfl)
    exact HSm.out x y Y L (by omega) ((HF.out.own i x L hx hL).cellsIn.below hY) ((HWx.out i y L hy hL).below hY)
  have HCl : Hid (∀ (i : Nat) x y Y, vs[i]? = some x → ws[i]? = some y → Below X.heap.size X Y → Y.cell? ⟨lg, i, none⟩ = some x ∧ Y.cell? ⟨lg + 1, i, none⟩ = some y) := fun i x y Y hx hy hY => by
    have hi : i < 4 := by have := (List.getElem?_eq_some_iff.1 hx).1; rw [← hvs] at this; simpa using this
    have c1 := (World.ownsRow.cellAt HLs.out i (by omega)).trans hx
    have c2 := (World.ownsRow.cellAt HWs.out i (by omega)).trans hy
    exact ⟨(hY.cell (p := ⟨lg, i, none⟩) (World.block_lt_of_cell? X _ c1)).trans c1, (hY.cell (p := ⟨lg + 1, i, none⟩) (World.block_lt_of_cell? X _ c2)).trans c2⟩
  have HVl : Hid (vs.length = 4) := by show _ = _; rw [← hvs]; rfl
  have HA := hidden H4.out
  rw [hlg]
  clear hX HX hvs hws hlg HK5 HK6 HK7 HK8 HA5 HA6 HA7 HA8 H5 H6 H7 H8 HB8
  go_wp2
  go_loopw [23] (fun s wr => ∃ i : Nat, i ≤ 4 ∧ s = .int .i64 i ∧ Hid (Below X.heap.size X wr)) (fun s _ => 4 - (intOf s).toNat)
  case atStart => exact ⟨0, Nat.zero_le _, rfl, Below.refl _ _⟩
  case round =>
    obtain ⟨i, hi, rfl, HB⟩ := hrel
    by_cases hlt : i < 4
    · obtain ⟨⟨xa, xn, xc, hx⟩, ⟨ya, yn, yc, hy⟩⟩ := HSl.out i hlt
      have HXi := hidden hx
      have HYi := hidden hy
      obtain ⟨d1, d2⟩ := HCl.out i _ _ _ hx hy HB.out
      have hiz : (i : Int) < 4 := by omega
      clear hx hy
      go_wp2_with fail
      go_region_with (go_at_call 9; refine (HSa.out i _ _ _ HXi.out HYi.out (by first | exact HB.out | exact below_drewN HB.out _ | exact HB.out.drew)).mono ?_; rintro e w9 ⟨rfl, hb9⟩; have HB9 : Hid (Below X.heap.size X w9) := below_step (by first | exact HB.out | exact below_drewN HB.out _ | exact HB.out.drew) hb9; clear hb9)
      all_goals (
        go_wp2
        first
          | (go_roundw
             case rel => exact ⟨i + 1, by omega, by first | rfl | go_num, by first | exact HB9 | exact HB9.out.drew | exact below_drewN HB9.out _⟩
             case measure => simp [intOf]; omega)
          | exact ⟨⟨i + 1, by omega, by first | rfl | go_num, by first | exact HB9 | exact HB9.out.drew | exact below_drewN HB9.out _⟩, by simp [intOf]; omega⟩)
    · have hie : i = 4 := by omega
      subst hie
      obtain ⟨Z, hZ⟩ : ∃ x, x = wr := ⟨_, rfl⟩
      subst hZ
      obtain ⟨Ns, hNs⟩ : ∃ x, [P, R, P, R].map List.length = x := ⟨_, rfl⟩
      rw [hNs] at HNs
      have HNl : Hid (Ns.length = 4) := by show _ = _; rw [← hNs]; rfl
      have HLz : Hid (Z.ownsRow w4.heap.size 22 1 (.slice (some ⟨lg, 0, none⟩) 4 4) 4 vs) := row_same HLs.out fun g cur _ hg => HB.out.block g (lt_blk hg)
      have HO1 : Hid (Own1 w4.heap.size w4 Z vs Ns 0 0 Z) := ⟨_, ⟨fun i v L hv hL => (HF.out.own i v L hv hL).below HB.out, HF.out.apart⟩, hNs, fun j l L c _ _ h => by omega, SameL.refl _, below_step HB4.out HB.out, Nat.le_refl _⟩
      clear hNs HF HLs HWs HSa HCl HSl HB
      go_wp2
      go_loopw [24] (fun s wr => ∃ i : Nat, i ≤ 4 ∧ s = .int .i64 i ∧ Hid (Own1 w4.heap.size w4 Z vs Ns i 0 wr)) (fun s _ => 4 - (intOf s).toNat)
      case atStart => exact ⟨0, Nat.zero_le _, rfl, HO1⟩
      case round =>
        obtain ⟨i, hi, rfl, HO⟩ := hrel
        by_cases hlt : i < 4
        · obtain ⟨v, hv⟩ : ∃ v, vs[i]? = some v := ⟨_, List.getElem?_eq_getElem (by rw [HVl.out]; exact hlt)⟩
          obtain ⟨n, hn⟩ : ∃ v, Ns[i]? = some v := ⟨_, List.getElem?_eq_getElem (by rw [HNl.out]; exact hlt)⟩
          have HVi := hidden hv
          have HNi := hidden hn
          have hn63 := HNs.out i n hn
          obtain ⟨ga, gk, rfl, hga⟩ : ∃ a c, v = .slice a n c ∧ (0 < n → ∃ g, a = some ⟨g, 0, none⟩) := by
            obtain ⟨L, hL, ho⟩ := HO.out.row hv hn
            rw [← hL]
            exact ce_shape ho
          have HGa := hidden hga
          have HD : Hid (∀ k W, Own1 w4.heap.size w4 Z vs Ns i k W → W.cell? ⟨lg, i, none⟩ = some (.slice ga n gk)) := fun k W hW => by
            obtain ⟨Ls, _, _, _, h5, _⟩ := hW
            exact (World.ownsRow.cellAt (h5.row HLz.out) i (by omega)).trans HVi.out
          have hiz : (i : Int) < 4 := by omega
          have hwi : IntKind.i64.wrap ((i : Int) + 1) = (i : Int) + 1 := by rw [IntKind.wrap_i64]; omega
          have hwj : IntKind.i64.wrap (-1000 * ((i : Int) + 1)) = -1000 * ((i : Int) + 1) := by rw [IntKind.wrap_i64]; omega
          clear hv hn hga
          go_wp2
          go_loopw [25] (fun s wr => ∃ k : Nat, k ≤ n ∧ s = .int .i64 k ∧ Hid (Own1 w4.heap.size w4 Z vs Ns i k wr)) (fun s _ => n - (intOf s).toNat)
          case atStart => exact ⟨0, Nat.zero_le _, rfl, HO⟩
          case round =>
            obtain ⟨k, hk, rfl, HOk⟩ := hrel
            have d0 := HD.out k _ HOk.out
            by_cases hkl : k < n
            · obtain ⟨g, rfl⟩ := HGa.out (by omega)
              obtain ⟨L, hL, ho⟩ := HOk.out.row HVi.out HNi.out
              obtain ⟨c, hc⟩ : ∃ c, L[k]? = some c := ⟨_, List.getElem?_eq_getElem (by omega)⟩
              obtain ⟨q6, f6⟩ := ce_cells ho k c hc 6 (.int .i64 c.p) rfl
              have hkz : (k : Int) < (n : Int) := by omega
              have hwk : IntKind.i64.wrap (-1000 * ((i : Int) + 1) - (k : Int)) = -1000 * ((i : Int) + 1) - (k : Int) := by rw [IntKind.wrap_i64]; omega
              have HNx : Hid (Own1 w4.heap.size w4 Z vs Ns i (k + 1) (wr.setCell ⟨g, k * 7 + 6, none⟩ (.int .i64 (-1000 * ((i : Int) + 1) - (k : Int))))) := HOk.out.set HVi.out HNi.out hkl
              clear hL ho hc
              go_wp2
              first
                | (go_roundw
                   case rel => exact ⟨k + 1, by omega, by first | rfl | go_num, HNx⟩
                   case measure => simp [intOf]; omega)
                | exact ⟨⟨k + 1, by omega, by first | rfl | go_num, HNx⟩, by simp [intOf]; omega⟩
            · have HNx : Hid (Own1 w4.heap.size w4 Z vs Ns (i + 1) 0 wr) := HOk.out.next HNi.out (by omega)
              have hkz : ¬ (k : Int) < (n : Int) := by omega
              go_wp2
              first
                | (go_roundw
                   case rel => exact ⟨i + 1, by omega, by first | rfl | go_num, HNx⟩
                   case measure => simp [intOf]; omega)
                | exact ⟨⟨i + 1, by omega, by first | rfl | go_num, HNx⟩, by simp [intOf]; omega⟩
        · have hie : i = 4 := by omega
          subst hie
          obtain ⟨HO2, HAp⟩ : Hid (Own2 w4.heap.size wr.heap.size w4 Z vs Ns 0 [] wr) ∧ Hid (ApartK wr.heap.size vs) := HO.out.own2 HVl.out HNl.out
          have HZ8 : Hid (Z.heap.size ≤ wr.heap.size) := by obtain ⟨_, _, _, _, _, _, h⟩ := HO.out; exact h
          have HZB : Hid (w4.heap.size ≤ wr.heap.size) := by obtain ⟨_, _, _, _, _, h, _⟩ := HO.out; exact h.size
          have HH : Hid (∃ x, wr.heap.size = x) := ⟨_, rfl⟩
          obtain ⟨H, hH⟩ := HH.out
          rw [hH] at HO2 HAp HZ8 HZB
          clear HH HO hH
          go_wp2
          go_loopw [22, 26] (fun gv vi w9 => ∃ (i : Nat) (us : List Value), i ≤ 4 ∧ vi = .int .i64 i ∧ Hid (Own2 w4.heap.size H w4 Z vs Ns i us w9) ∧ Hid (w9.ownsRow H 22 1 gv i us)) (fun _ vi _ => 4 - (intOf vi).toNat)
          case atStart => exact ⟨0, [], Nat.zero_le _, rfl, HO2, World.ownsRow_nil _ _ _ _⟩
          case round =>
            obtain ⟨i, us, hi, rfl, HO, HG⟩ := hrel
            obtain ⟨wo, hwo⟩ : ∃ x, x = wr := ⟨_, rfl⟩
            subst hwo
            by_cases hlt : i < 4
            · obtain ⟨v, hv⟩ : ∃ v, vs[i]? = some v := ⟨_, List.getElem?_eq_getElem (by rw [HVl.out]; exact hlt)⟩
              obtain ⟨n, hn⟩ : ∃ v, Ns[i]? = some v := ⟨_, List.getElem?_eq_getElem (by rw [HNl.out]; exact hlt)⟩
              have hn63 := HNs.out i n hn
              obtain ⟨L, hl, hmk, _, hown⟩ := HO.out.old i v n hv hn
              have hs := hown (Nat.le_refl _)
              obtain ⟨ga, gk, rfl, hga⟩ : ∃ a c, v = .slice a n c ∧ (0 < n → ∃ g, a = some ⟨g, 0, none⟩) := by rw [← hl]; exact ce_shape hs
              have HVi := hidden hv
              have HNi : Hid (Ns[i]? = some L.length) := by show _ = _; rw [hl]; exact hn
              have HSi := hidden hs
              have HMk := hidden hmk
              have HLl := hidden hl
              have d0 : wo.cell? ⟨lg, i, none⟩ = some (.slice ga n gk) := (World.ownsRow.cellAt (HO.out.same.row HLz.out) i (by omega)).trans hv
              have HLt : Hid (∀ g, (Value.slice ga n gk).ownBlock = some g → g < wo.heap.size) := fun g hg => by
                obtain ⟨_, c1, h1⟩ := ce_block hs hg
                exact lt_blk h1
              have hiz : (i : Int) < 4 := by omega
              have hwi : IntKind.i64.wrap ((i : Int) + 1) = (i : Int) + 1 := by rw [IntKind.wrap_i64]; omega
              have hwj : IntKind.i64.wrap (-1000 * ((i : Int) + 1)) = -1000 * ((i : Int) + 1) := by rw [IntKind.wrap_i64]; omega
              clear hv hn hga hown hs hmk hl
              go_wp2
              go_loopw [27, 28] (fun vg vk wk => ∃ k : Nat, k ≤ 64 ∧ vk = .int .i64 k ∧ Hid (Own2k w4.heap.size wo (.slice ga n gk) L i k vg wk)) (fun _ vk _ => 64 - (intOf vk).toNat)
              case atStart => exact ⟨0, Nat.zero_le _, rfl, own2k_start HSi.out HMk.out⟩
              case round =>
                obtain ⟨k, hk, rfl, HK⟩ := hrel
                have HzH : Hid (H ≤ wr.heap.size) := Nat.le_trans HO.out.size HK.out.by_.size
                have HzB : Hid (w4.heap.size ≤ wr.heap.size) := Nat.le_trans HZB.out HzH.out
                obtain ⟨G, hG, hGl, hGm, hGp⟩ := HK.out.own
                obtain ⟨m, hm⟩ : ∃ m, n + k = m := ⟨_, rfl⟩
                have hGm' : G.length = m := by rw [hGl, HLl.out, hm]
                have HM := hidden hm
                obtain ⟨ea, ek, rfl⟩ : ∃ a c, u27 = .slice a m c := by
                  obtain ⟨a, c, h, _⟩ := ce_shape hG
                  rw [hGm'] at h
                  exact ⟨a, c, h⟩
                have HGo := hidden hG
                have HGl := hidden hGl
                have HGm := hidden hGm
                have HGp := hidden hGp
                have hGb : G.length ≤ 1000000 := by omega
                have hmb : m ≤ 127 := by omega
                have HGb := hidden hGb
                clear hG hGl hGm hGp hGm' hGb hm
                by_cases hkl : k < 64
                · have hkz : (k : Int) < 64 := by omega
                  have hwm : IntKind.i64.wrap (-1000 * ((i : Int) + 1) - (m : Int)) = -1000 * ((i : Int) + 1) - (m : Int) := by rw [IntKind.wrap_i64]; omega
                  have HCp : Hid ((⟨0, 0, 0, 0, 0, 0, -1000 * ((i : Int) + 1) - (m : Int)⟩ : CellV).p = mkO i (L.length + k)) := by show _ = _; rw [HLl.out, HM.out]; rfl
                  go_wp2_with (at_builtin; refine wpList_append_ceF wr rfl (.tmp 143) (.tmp 151) rfl w4.heap.size (.slice ea m ek) G ⟨0, 0, 0, 0, 0, 0, -1000 * ((i : Int) + 1) - (m : Int)⟩ rfl HGo.out (by first | rfl | simp [Act.eval]) HGb.out HzB.out ?_; intro v2 w2' h2 h3 h4; have HNx : Hid (Own2k w4.heap.size wo (.slice ga n gk) L i (k + 1) v2 w2') := own2k_step HK.out HLt.out HGo.out HGl.out HGm.out HGp.out HCp.out h2 h3 h4; clear h2 h3 h4)
                  first
                    | exact ⟨⟨k + 1, by omega, by first | rfl | go_num, HNx⟩, by simp [intOf]; omega⟩
                    | (go_roundw
                       case rel => exact ⟨k + 1, by omega, by first | rfl | go_num, HNx⟩
                       case measure => simp [intOf]; omega)
                · obtain rfl : 64 = k := by omega
                  have hkz : ¬ (64 : Int) < 64 := by omega
                  have HGk : Hid (wr.ownsRow H 22 1 u22 i us) := own2_row (w1 := w4) (w5 := Z) (vs := vs) (Ns := Ns) HSi.out HK.out HG.out
                  have hleni : i ≤ 16777216 := by omega
                  go_wp2_with (at_builtin; refine wpList_append_oneF wr rfl (.tmp 153) (.tmp 155) 33 22 rfl (.slice none 0 0) 24 Tryz.underlying33 infoCL rfl (by decide) H _ i us (.slice ea m ek) rfl rfl HGk.out (by first | rfl | simp [Act.eval]) hleni HzH.out ?_; intro v2 w2' h2 h3 h4; have HNx : Hid (Own2 w4.heap.size H w4 Z vs Ns (i + 1) (us ++ [.slice ea m ek]) w2') := own2_next HO.out HAp.out HVi.out HNi.out HSi.out HMk.out HK.out HG.out HZB.out HZ8.out h3; have HNg : Hid (w2'.ownsRow H 22 1 v2 (i + 1) (us ++ [.slice ea m ek])) := h2; clear h2 h3 h4)
                  first
                    | exact ⟨⟨i + 1, by omega, by first | rfl | go_num, _, HNx, HNg⟩, by simp [intOf]; omega⟩
                    | (go_roundw
                       case rel => exact ⟨i + 1, _, by omega, by first | rfl | go_num, HNx, HNg⟩
                       case measure => simp [intOf]; omega)
            · have hie : i = 4 := by omega
              subst hie
              have heg4 := (row_slice HG.out)
              obtain ⟨ea, ek, rfl, heg⟩ := heg4
              obtain ⟨eg, rfl⟩ := heg (by omega)
              have HUl : Hid (us.length = 4) := HO.out.len
              have HQ0 : Hid (Below wo.heap.size wo wo) := Below.refl _ _
              clear heg
              go_wp2
              go_loopw [29] (fun vi wr => ∃ i : Nat, i ≤ 4 ∧ vi = .int .i64 i ∧ Hid (Below wo.heap.size wo wr)) (fun vi _ => 4 - (intOf vi).toNat)
              case atStart => exact ⟨0, Nat.zero_le _, rfl, HQ0⟩
              case round =>
                obtain ⟨i, hi, rfl, HQ⟩ := hrel
                by_cases hlt : i < 4
                · obtain ⟨v, hv⟩ : ∃ v, vs[i]? = some v := ⟨_, List.getElem?_eq_getElem (by rw [HVl.out]; exact hlt)⟩
                  obtain ⟨u, hu⟩ : ∃ v, us[i]? = some v := ⟨_, List.getElem?_eq_getElem (by rw [HUl.out]; exact hlt)⟩
                  obtain ⟨n, hn⟩ : ∃ v, Ns[i]? = some v := ⟨_, List.getElem?_eq_getElem (by rw [HNl.out]; exact hlt)⟩
                  have hn63 := HNs.out i n hn
                  obtain ⟨L, hl, hmk, hsk, _⟩ := HO.out.old i v n hv hn
                  obtain ⟨⟨G, gl, gm, gs⟩, _⟩ := HO.out.new i u v n hu hv hn
                  obtain ⟨m, hm⟩ : ∃ m, n + 64 = m := ⟨_, rfl⟩
                  obtain ⟨ga, gk, rfl⟩ : ∃ a c, v = .slice a n c := by obtain ⟨a, c, h, _⟩ := hsk.cells.shape; rw [hl] at h; exact ⟨a, c, h⟩
                  obtain ⟨ja, jk, rfl⟩ : ∃ a c, u = .slice a m c := by obtain ⟨a, c, h, _⟩ := gs.cells.shape; rw [gl, hm] at h; exact ⟨a, c, h⟩
                  have HD : Hid (∀ W, Below wo.heap.size wo W → W.cell? ⟨lg, i, none⟩ = some (.slice ga n gk) ∧ W.cell? ⟨eg, i, none⟩ = some (.slice ja m jk)) := fun W hW => by
                    have c1 : wo.cell? ⟨lg, i, none⟩ = some (.slice ga n gk) := (World.ownsRow.cellAt (HO.out.same.row HLz.out) i (by omega)).trans hv
                    have c2 : wo.cell? ⟨eg, i, none⟩ = some (.slice ja m jk) := (World.ownsRow.cellAt HG.out i (by omega)).trans hu
                    exact ⟨(hW.cell (p := ⟨lg, i, none⟩) (World.block_lt_of_cell? wo _ c1)).trans c1, (hW.cell (p := ⟨eg, i, none⟩) (World.block_lt_of_cell? wo _ c2)).trans c2⟩
                  have HC1 : Hid (∀ k : Nat, k < n → ∃ g, ga = some ⟨g, 0, none⟩ ∧ ∀ W, Below wo.heap.size wo W → W.cell? ⟨g, k * 7 + 6, none⟩ = some (.int .i64 (-1000 * ((i : Int) + 1) - (k : Int)))) := fun k hk => by
                    obtain ⟨c, hc⟩ : ∃ c, L[k]? = some c := ⟨_, List.getElem?_eq_getElem (by omega)⟩
                    obtain ⟨g, cap, e, f⟩ := hsk.cell hc
                    rw [hmk k c hc] at f
                    injection e with e _ _
                    exact ⟨g, e, fun W hW => (hW.cell (p := ⟨g, k * 7 + 6, none⟩) (World.block_lt_of_cell? wo _ f)).trans f⟩
                  have HC2 : Hid (∀ k : Nat, k < m → ∃ g, ja = some ⟨g, 0, none⟩ ∧ ∀ W, Below wo.heap.size wo W → W.cell? ⟨g, k * 7 + 6, none⟩ = some (.int .i64 (-1000 * ((i : Int) + 1) - (k : Int)))) := fun k hk => by
                    obtain ⟨c, hc⟩ : ∃ c, G[k]? = some c := ⟨_, List.getElem?_eq_getElem (by omega)⟩
                    obtain ⟨g, cap, e, f⟩ := gs.cell hc
                    rw [gm k c hc] at f
                    injection e with e _ _
                    exact ⟨g, e, fun W hW => (hW.cell (p := ⟨g, k * 7 + 6, none⟩) (World.block_lt_of_cell? wo _ f)).trans f⟩
                  have hmb : m ≤ 127 := by omega
                  have hnm : n ≤ m := by omega
                  have hiz : (i : Int) < 4 := by omega
                  have hwi : IntKind.i64.wrap ((i : Int) + 1) = (i : Int) + 1 := by rw [IntKind.wrap_i64]; omega
                  have hwj : IntKind.i64.wrap (-1000 * ((i : Int) + 1)) = -1000 * ((i : Int) + 1) := by rw [IntKind.wrap_i64]; omega
                  clear hv hu hn hl hmk hsk gl gm gs hm
                  go_wp2
                  go_loopw [30] (fun vi wr => ∃ k : Nat, k ≤ m ∧ vi = .int .i64 k ∧ Hid (Below wo.heap.size wo wr)) (fun vi _ => m - (intOf vi).toNat)
                  case atStart => exact ⟨0, Nat.zero_le _, rfl, HQ⟩
                  case round =>
                    obtain ⟨k, hk, rfl, HQk⟩ := hrel
                    obtain ⟨d1, d2⟩ := HD.out wr HQk.out
                    by_cases hkl : k < m
                    · obtain ⟨g2, rfl, f2⟩ := HC2.out k hkl
                      obtain ⟨z, hz⟩ : ∃ z, -1000 * ((i : Int) + 1) - (k : Int) = z := ⟨_, rfl⟩
                      have d3 := f2 wr HQk.out
                      rw [hz] at d3
                      have hwk : IntKind.i64.wrap (-1000 * ((i : Int) + 1) - (k : Int)) = z := by rw [← hz, IntKind.wrap_i64]; omega
                      have hkz : (k : Int) < (m : Int) := by omega
                      have hzz : (z != z) = false := by simp
                      by_cases hkL : k < n
                      · obtain ⟨g1, rfl, f1⟩ := HC1.out k hkL
                        have d4 := f1 wr HQk.out
                        rw [hz] at d4
                        have hkn : (k : Int) < (n : Int) := by omega
                        have hdL : decide ((k : Int) < (n : Int)) = true := decide_eq_true hkn
                        clear f1 f2 hz
                        go_wp2
                        first
                          | exact ⟨⟨k + 1, by omega, by first | rfl | go_num, HQk⟩, by simp [intOf]; omega⟩
                          | (go_roundw
                             case rel => exact ⟨k + 1, by omega, by first | rfl | go_num, HQk⟩
                             case measure => simp [intOf]; omega)
                      · have hkn : ¬ (k : Int) < (n : Int) := by omega
                        have hdL : decide ((k : Int) < (n : Int)) = false := decide_eq_false hkn
                        clear f2 hz
                        go_wp2
                        first
                          | exact ⟨⟨k + 1, by omega, by first | rfl | go_num, HQk⟩, by simp [intOf]; omega⟩
                          | (go_roundw
                             case rel => exact ⟨k + 1, by omega, by first | rfl | go_num, HQk⟩
                             case measure => simp [intOf]; omega)
                    · have hkz : ¬ (k : Int) < (m : Int) := by omega
                      go_wp2
                      first
                        | exact ⟨⟨i + 1, by omega, by first | rfl | go_num, HQk⟩, by simp [intOf]; omega⟩
                        | (go_roundw
                           case rel => exact ⟨i + 1, by omega, by first | rfl | go_num, HQk⟩
                           case measure => simp [intOf]; omega)
                · have hie : i = 4 := by omega
                  subst hie
                  have HBr : Hid (Below w4.heap.size w4 wr) := below_step HO.out.below HQ.out
                  go_wp2_with fail
                  refine (HPp.out _ (below_step H4.out HBr.out)).mono ?_
                  rintro e w11 ⟨sl11, rfl, ho11, hb11⟩
                  obtain ⟨ra, rn, rc, rfl⟩ := ce_slice ho11
                  have HE11 := hidden ho11
                  have HB11 := hidden (below_step HBr.out hb11)
                  clear ho11 hb11
                  go_wp2_with fail
                  refine (HRp.out _ (below_step H4.out HB11.out)).mono ?_
                  rintro e w12 ⟨sl12, rfl, ho12, hb12⟩
                  obtain ⟨ta, tn, tc, rfl⟩ := ce_slice ho12
                  have HF12 := hidden ho12
                  have HE12 := hidden (HE11.out.below hb12)
                  have HB12 := hidden (below_step HB11.out hb12)
                  clear ho12 hb12
                  go_wp2_with fail
                  refine (HSm.out _ _ _ P (by have := HPf.out; omega) HE12.out.cellsIn (HP4.out.below HB12.out).cellsIn).mono ?_
                  rintro e w13 ⟨rfl, hb13⟩
                  have HF13 := hidden (HF12.out.below hb13)
                  have HB13 := hidden (below_step HB12.out hb13)
                  clear hb13
                  go_wp2_with fail
                  refine (HSm.out _ _ _ R (by have := HRf.out; omega) HF13.out.cellsIn (HM4.out.below HB13.out).cellsIn).mono ?_
                  rintro e w14 ⟨rfl, hb14⟩
                  have HB14 := hidden (below_step HB13.out hb14)
                  clear hb14
                  go_wp2_with fail
                  refine (HSm.out _ _ _ l HL.out (HVv.out.below (below_step H4.out HB14.out)) (HW4.out.below HB14.out).cellsIn).mono ?_
                  rintro e w15 ⟨rfl, hb15⟩
                  have HB15 := hidden (below_step HB14.out hb15)
                  clear hb15
                  go_wp2_with (go_at_call 10; refine (HSu.out _ (below_step H4.out HB15.out)).mono ?_; rintro e w16 ⟨rfl, hb16⟩)
                  all_goals go_ret
                  exact ⟨rfl, below_step (below_step H4.out HB15.out) hb16⟩
end Go.Proofs.YtglncninkocgaabGreatDoor
