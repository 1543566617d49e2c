/-
  A letter is written, wherever the cursor is.
-/
import Derived.Test.YtooahffclghcjaaGreatDoorVScr
namespace Go.Proofs.YtooahffclghcjaaGreatDoor
open Go.RowKit
set_option linter.unusedVariables false
set_option maxRecDepth 100000

/-- A screen that takes a letter at (x, y). -/
structure Ready (s : Sc) (rs : List (Nat × List Gl)) (y x g : Nat) (gs : List Gl) : Prop where
  cy : s.cur.y = (y : Int)
  cx : s.cur.x = (x : Int)
  row : rs[y]? = some (g, gs)
  whole : Whole gs
  len : gs.length ≤ 1000
  wid : s.w = (gs.length : Int)
  lt : x < gs.length
  ins : s.ins = false
  wrap : s.wrap = true
  nrs : rs.length ≤ 1000
/-- Written. -/
def wroteX (s : Sc) (c : Int) (x n : Nat) : Sc := if x + 1 < n then { s with last := c, cur := { s.cur with x := (x : Int) + 1, wt := false } } else { s with last := c, cur := { s.cur with x := (n : Int) - 1, wt := true } }
/-- What a letter leaves. -/
def Wrote (P : Sc → List (Nat × List Gl) → List (Value × List Gl) → Prop) (w0 w : World) (b G : Nat) (c : Int) (w' : World) : Prop := Fk w w' ∧ ∃ s1 rs1 hs1 y x g gs, P s1 rs1 hs1 ∧ Ready s1 rs1 y x g gs ∧ Scr w0 w' b (wroteX s1 c x gs.length) G (rs1.set y (g, gs.set x ⟨c, 1, 0, 0, 0⟩)) hs1
set_option maxHeartbeats 8000000 in
theorem write_scr {w0 w : World} {b : Nat} {s : Sc} {G : Nat} {rs : List (Nat × List Gl)} {hs : List (Value × List Gl)} (h : Scr w0 w b s G rs hs) (hu : s.cur.us = 0) (h0 : s.cur.l0 = false) (hfo : s.cur.fo = 0) (hba : s.cur.ba = 0) (hma : s.cur.ma = 0) (c : Int) (hc1 : 32 ≤ c) (hc2 : c < 127) {P : Sc → List (Nat × List Gl) → List (Value × List Gl) → Prop}
    (hO : s.cur.wt = false → P s rs hs)
    (hN : s.cur.wt = true → s.wrap = true ∧ ∀ W, Below w.heap.size w W → Calls Tryz.prog 35 #[.pointer (some ⟨b, 0, none⟩)] W fun x w' => x = .returned (.tuple #[]) ∧ ∃ s1 rs1 hs1, P s1 rs1 hs1 ∧ Scr w0 w' b s1 G rs1 hs1 ∧ But (s.past.ownBlock.toList ++ (b :: G :: rs.map Prod.fst)) W w')
    (hP : ∀ s1 rs1 hs1, P s1 rs1 hs1 → ∃ y x g gs, Ready s1 rs1 y x g gs) (hF : ∀ s1 rs1 hs1, P s1 rs1 hs1 → ∀ k, k ∈ rs1.map Prod.fst → k ∈ rs.map Prod.fst) :
    Calls Tryz.prog 19 #[.pointer (some ⟨b, 0, none⟩), .int .i32 c] w fun r w' => r = .returned (.tuple #[]) ∧ Wrote P w0 w b G c w' := by
  have HWi : Hid (∀ W, Calls Tryz.prog 33 #[.int .i32 c] W fun r w' => r = .returned (.int .i64 1) ∧ W = w') := width_ascii c hc1 hc2
  have HEx : Hid (∀ W, ScAt W b s → Calls Tryz.prog 34 #[.pointer (some ⟨b, 0, none⟩), .int .i32 c] W fun r w' => r = .returned (.int .i32 c) ∧ Below W.heap.size W w') := fun W hW => exchanged_no hW hu h0 c
  have HS := hidK h
  have HP := hidK hP
  have HF := hidK hF
  have HPl : Hid (∀ W s1 rs1 y x g gs, Ready s1 rs1 y x g gs → Scn W b { s1 with last := c } G rs1 → Calls Tryz.prog 36 #[.pointer (some ⟨b, 0, none⟩), .agg #[.int .i32 c, .int .i64 1, .int .i64 0, .int .i64 0, .int .i64 0]] W fun r w' => r = .returned (.tuple #[]) ∧ GAt w' g (gs.set x ⟨c, 1, 0, 0, 0⟩) ∧ But [g] W w') := fun W s1 rs1 y x g gs hR hS => place_any hS.at_ hS.rows _ hS.val hR.nrs hR.cy hR.cx hR.row hR.whole hR.len (by have := hR.lt; omega) hR.ins (hS.at_.ne (hS.rows.row _ (List.mem_of_getElem? hR.row))) ⟨c, 1, 0, 0, 0⟩ rfl
  cases hwt : s.cur.wt with
  | false =>
    have HCell : Hid (∀ W, Below w.heap.size w W → W.cell? ⟨b, 15, none⟩ = some (.int .i64 0) ∧ W.cell? ⟨b, 16, none⟩ = some (.int .i64 0) ∧ W.cell? ⟨b, 17, none⟩ = some (.int .i64 0) ∧ W.cell? ⟨b, 22, none⟩ = some (.bool false) ) := fun W hb => by
      have h3 := h.scn.at_.below hb
      exact ⟨by rw [← hfo]; exact h3.c15, by rw [← hba]; exact h3.c16, by rw [← hma]; exact h3.c17, by rw [← hwt]; exact h3.c22⟩
    have HNx := hidK (hO hwt)
    clear h hu h0 hfo hba hma hO hN hP hF hwt
    go_enter Tryz.func19, Tryz.ntmps19
    go_wp2_with (go_at_call 33; refine (HWi.out _).mono ?_; rintro e w0 ⟨rfl, rfl⟩)
    refine (HEx.out _ HS.out.scn.at_).mono ?_
    rintro e w1 ⟨rfl, hb1⟩
    have HB1 := hidK hb1
    have hcl := HCell.out w1 hb1
    have k0 := hcl.1
    have k1 := hcl.2.1
    have k2 := hcl.2.2.1
    have n0 := World.new_ne w1 _ k0
    clear hb1 hcl
    go_wp2_with fail
    go_cut [5] (fun v wx => ∃ Bg, v = .pointer (some ⟨Bg, 0, none⟩) ∧ w1.heap.size ≤ Bg ∧ Hid (Below w.heap.size w wx ∧ wx.heap[Bg]? = some (.cells #[.int .i32 c, .int .i64 1, .int .i64 0, .int .i64 0, .int .i64 0] 85 (0, 0))))
    case first =>
      go_region_held3 (fun X => X.cell? ⟨b, 15, none⟩ = some (.int .i64 0) ∧ X.cell? ⟨b, 16, none⟩ = some (.int .i64 0) ∧ X.cell? ⟨b, 17, none⟩ = some (.int .i64 0)) (go_keep) ((go_at_call 33; refine (HWi.out _).mono ?_; rintro e w2 ⟨rfl, rfl⟩))
      all_goals go_wp2_with fail
      all_goals go_meet
      all_goals (case rel => exact ⟨_, rfl, Nat.le_refl _, HB1.out.trans (((Below.refl _ _).alloc (Nat.le_refl _) _).drew.mono HB1.out.size), heap_alloc_new _ _⟩)
    case rest =>
      obtain ⟨Bg, rfl, hBg, HBc⟩ := hcut
      have HSc : Hid (Scr w0 wc b s G rs hs) := HS.out.more HBc.out.1
      obtain ⟨x0, x1, x2, x3, x4⟩ := box_cells (x := ⟨c, 1, 0, 0, 0⟩) HBc.out.2
      simp only at x0 x1 x2 x3 x4
      have k22 := (HCell.out wc HBc.out.1).2.2.2
      have hBw : w.heap.size ≤ Bg := Nat.le_trans HB1.out.size hBg
      have HBw := hidK hBw
      clear k0 k1 k2 n0 hBg
      go_wp2_with fail
      go_quiet (fail)
      refine gen_exit (fun X => Below wc.heap.size wc X) (below_drewN _ _) ?_
      intro Y hY
      have HSY := hidK (HSc.out.more hY)
      have HWY : Hid (Fk w Y) := (Fk.below HBc.out.1).trans (Fk.below hY)
      have HBY := hidK ((hY.block Bg (lt_of_block HBc.out.2)).trans HBc.out.2)
      have HPn := HNx
      obtain ⟨s1, hs1e⟩ : ∃ s1, s = s1 := ⟨_, rfl⟩
      obtain ⟨rs1, hrs1e⟩ : ∃ rs1, rs = rs1 := ⟨_, rfl⟩
      obtain ⟨hs1, hhs1e⟩ : ∃ hs1, hs = hs1 := ⟨_, rfl⟩
      have HbB : Hid (∀ r ∈ b :: rs1.map Prod.fst, r ≠ Bg) := fun r hr e => by
        rw [e, ← hrs1e] at hr
        have := HS.out.av Bg (by simp only [List.mem_cons] at hr ⊢; rcases hr with hr | hr; exact .inl hr; exact .inr (.inr hr))
        omega
      rw [hs1e, hrs1e, hhs1e] at HSY HPn
      clear x0 x1 x2 x3 x4 k22 hY hs1e hrs1e hhs1e hBw
      obtain ⟨y, x, g, gs, hR⟩ := HP.out s1 rs1 hs1 HPn.out
      have HR := hidK hR
      have hgm : (g, gs) ∈ rs1 := List.mem_of_getElem? hR.row
      have hgB : g ≠ Bg := HbB.out g (by simp only [List.mem_cons, List.mem_map]; exact .inr ⟨_, hgm, rfl⟩)
      have hne : b ≠ Bg := HbB.out b (by simp)
      have hbg : b ≠ g := HSY.out.scn.at_.ne (HSY.out.scn.rows.row _ hgm)
      have hgl : gs.length ≤ 1000 := hR.len
      have hxl : x < gs.length := hR.lt
      obtain ⟨n, hne2⟩ : ∃ n, gs.length = n := ⟨_, rfl⟩
      have HNe := hidK hne2
      rw [hne2] at hgl hxl
      have c43 := HSY.out.scn.at_.c43
      have f43 := HSY.out.scn.at_.free 43
      obtain ⟨x0, x1, x2, x3, x4⟩ := box_cells (x := ⟨c, 1, 0, 0, 0⟩) HBY.out
      simp only at x0 x1 x2 x3 x4
      clear hR hgm hne2
      go_wp2_with fail
      have hS4 : ScAt (Y.setCell ⟨b, 43, none⟩ (.int .i32 c)) b { s1 with last := c } := .fin (put_at HSY.out.scn.at_ 43 _) (by rfl)
      obtain ⟨hS5, hB5⟩ := HSY.out.scn.turn hS4 rfl (But.one 43 _)
      have hX5 : (Y.setCell ⟨b, 43, none⟩ (.int .i32 c)).heap[Bg]? = some (.cells #[.int .i32 c, .int .i64 1, .int .i64 0, .int .i64 0, .int .i64 0] 85 (0, 0)) := put_other HBY.out hne.symm _ _
      obtain ⟨Z, hZ⟩ : ∃ Z, Y.setCell ⟨b, 43, none⟩ (.int .i32 c) = Z := ⟨_, rfl⟩
      have HBZ : Hid (But [b, g] Y Z) := by rw [← hZ]; exact (But.refl _ _).setCell (p := ⟨b, 43, none⟩) (.inl (by simp)) _
      rw [hZ] at hS5 hX5 ⊢
      have HS5 := hidK hS5
      have HX5 := hidK hX5
      clear hS5 hB5 hX5 hS4 hZ x0 x1 x2 x3 x4 c43 f43
      refine (HPl.out _ s1 rs1 y x g gs HR.out HS5.out).mono ?_
      rintro e w3 ⟨rfl, hg3, hb3⟩
      have hS6 : ScAt w3 b { s1 with last := c } := HS5.out.at_.but hb3 (by simpa using hbg)
      have HS6 := hidK hS6
      have HG3 := hidK hg3
      have HB3 := hidK hb3
      obtain ⟨x0, x1, x2, x3, x4⟩ := box_cells (x := ⟨c, 1, 0, 0, 0⟩) ((hb3.block Bg (lt_of_block HX5.out) (by simpa using hgB.symm)).trans HX5.out)
      simp only at x0 x1 x2 x3 x4
      have c13 := hS6.c13
      have c22 := hS6.c22
      have c0 := hS6.c0
      have c25 := hS6.c25
      simp only at c13 c22 c0 c25
      rw [HR.out.cx] at c13
      rw [HR.out.wid, HNe.out] at c0
      rw [HR.out.wrap] at c25
      have f13 := hS6.free 13
      have f22 := hS6.free 22
      clear hS6 hg3 hb3 x0 x2 x3 x4
      have hB : But [b, g] Y w3 := HBZ.out.trans (HB3.out.mono (fun k _ hk => by simp at hk; simp [hk]))
      have HBw3 := hidK hB
      clear hB
      have HFin : Hid (∀ W' s', ScAt W' b s' → s'.rows = s1.rows → s'.past = s1.past → But [b] w3 W' → Fk w W' ∧ Scr w0 W' b s' G (rs1.set y (g, gs.set x ⟨c, 1, 0, 0, 0⟩)) hs1) := fun W' s' q1 q2 q3 q4 => by
        have hgw : GAt W' g (gs.set x ⟨c, 1, 0, 0, 0⟩) := HG3.out.but q4 (by simpa using hbg.symm)
        have hbw : But [b, g] Y W' := HBw3.out.trans (q4.mono (fun k _ hk => by simp at hk; simp [hk]))
        have htr := HSY.out.scn.turnRow q1 q2 HR.out.row (by simp) hgw hbw
        refine ⟨HWY.out.trans (HSY.out.fk (hbw.mono (fun k _ hk => ?_))), HSY.out.turn htr.1 hbw (fun k hk => ?_) q3 (fun k => ?_)⟩
        · simp at hk
          refine List.mem_append_right _ ?_
          rcases hk with rfl | rfl
          · simp
          · simp only [List.mem_cons, List.mem_map]
            exact .inr (.inr ⟨_, List.mem_of_getElem? HR.out.row, rfl⟩)
        · simp at hk
          rcases hk with rfl | rfl
          · simp
          · simp only [List.mem_cons, List.mem_map]
            exact .inr (.inr ⟨_, List.mem_of_getElem? HR.out.row, rfl⟩)
        · rw [List.map_set]
          have e : (rs1.map Prod.fst).set y g = rs1.map Prod.fst := by
            apply List.ext_getElem?
            intro i
            rw [List.getElem?_set]
            split
            · rename_i hyi
              subst hyi
              rw [List.getElem?_map, HR.out.row]
              have := (List.getElem?_eq_some_iff.1 HR.out.row).1
              simp [this]
            · rfl
          show k ∈ (rs1.map Prod.fst).set y g ↔ _
          rw [e]
      go_wp2_with fail
      go_region
      go_wp2_with fail
      by_cases hx2 : x + 1 < n
      · have hxi : ¬ (n : Int) ≤ (x : Int) + 1 := by omega
        go_quiet (fail)
        go_wp2_with fail
        go_end0
        refine ⟨rfl, ?_⟩
        have hfin : ∀ W', Fk w W' ∧ Scr w0 W' b (wroteX s1 c x n) G (rs1.set y (g, gs.set x ⟨c, 1, 0, 0, 0⟩)) hs1 → Wrote P w0 w b G c W' := fun W' hh => ⟨hh.1, s1, rs1, hs1, y, x, g, gs, HPn.out, HR.out, by rw [HNe.out]; exact hh.2⟩
        refine hfin _ ?_
        unfold wroteX
        rw [if_pos hx2]
        refine HFin.out _ _ (.fin (put_at (put_at HS6.out 13 _) 22 _) (by rfl)) rfl rfl ?_
        first | exact ((But.one _ _).next _ _).drewN _ | exact (((But.one _ _).next _ _).drew).drewN _
      · have hxi : (n : Int) ≤ (x : Int) + 1 := by omega
        go_quiet (fail)
        go_wp2_with fail
        refine gen_wp (fun V => ScAt V b { s1 with last := c, cur := { s1.cur with x := (x : Int) + 1, wt := false } } ∧ But [b] w3 V) ⟨.fin (put_at (put_at HS6.out 13 _) 22 _) (by rfl), (((But.one _ _).next _ _).drew).drewN _⟩ ?_
        clear c13 c22 c0 c25 f13 f22 x1 HPl HCell HEx HWi HP HF
        rintro V ⟨hV, hVb⟩
        have c0 := hV.c0
        have c13 := hV.c13
        have c22 := hV.c22
        have c25 := hV.c25
        simp only at c0 c13 c22 c25
        rw [HR.out.wid, HNe.out] at c0
        rw [HR.out.wrap] at c25
        have f13 := hV.free 13
        have f22 := hV.free 22
        have HV := hidK (And.intro hV hVb)
        clear hV hVb
        go_region
        go_wp2_with fail
        go_end0
        refine ⟨rfl, ?_⟩
        have hfin : ∀ W', Fk w W' ∧ Scr w0 W' b (wroteX s1 c x n) G (rs1.set y (g, gs.set x ⟨c, 1, 0, 0, 0⟩)) hs1 → Wrote P w0 w b G c W' := fun W' hh => ⟨hh.1, s1, rs1, hs1, y, x, g, gs, HPn.out, HR.out, by rw [HNe.out]; exact hh.2⟩
        refine hfin _ ?_
        unfold wroteX
        rw [if_neg hx2]
        refine HFin.out _ _ (.fin (put_at (put_at HV.out.1 13 _) 22 _) (by rfl)) rfl rfl ?_
        exact HV.out.2.trans ((But.one _ _).next _ _).drew
  | true =>
    have HCell : Hid (∀ W, Below w.heap.size w W → W.cell? ⟨b, 15, none⟩ = some (.int .i64 0) ∧ W.cell? ⟨b, 16, none⟩ = some (.int .i64 0) ∧ W.cell? ⟨b, 17, none⟩ = some (.int .i64 0) ∧ W.cell? ⟨b, 22, none⟩ = some (.bool true) ∧ W.cell? ⟨b, 25, none⟩ = some (.bool true)) := fun W hb => by
      have h3 := h.scn.at_.below hb
      exact ⟨by rw [← hfo]; exact h3.c15, by rw [← hba]; exact h3.c16, by rw [← hma]; exact h3.c17, by rw [← hwt]; exact h3.c22, by rw [← (hN hwt).1]; exact h3.c25⟩
    have HNx := hidK ((hN hwt).2)
    clear h hu h0 hfo hba hma hO hN hP hF hwt
    go_enter Tryz.func19, Tryz.ntmps19
    go_wp2_with (go_at_call 33; refine (HWi.out _).mono ?_; rintro e w0 ⟨rfl, rfl⟩)
    refine (HEx.out _ HS.out.scn.at_).mono ?_
    rintro e w1 ⟨rfl, hb1⟩
    have HB1 := hidK hb1
    have hcl := HCell.out w1 hb1
    have k0 := hcl.1
    have k1 := hcl.2.1
    have k2 := hcl.2.2.1
    have n0 := World.new_ne w1 _ k0
    clear hb1 hcl
    go_wp2_with fail
    go_cut [5] (fun v wx => ∃ Bg, v = .pointer (some ⟨Bg, 0, none⟩) ∧ w1.heap.size ≤ Bg ∧ Hid (Below w.heap.size w wx ∧ wx.heap[Bg]? = some (.cells #[.int .i32 c, .int .i64 1, .int .i64 0, .int .i64 0, .int .i64 0] 85 (0, 0))))
    case first =>
      go_region_held3 (fun X => X.cell? ⟨b, 15, none⟩ = some (.int .i64 0) ∧ X.cell? ⟨b, 16, none⟩ = some (.int .i64 0) ∧ X.cell? ⟨b, 17, none⟩ = some (.int .i64 0)) (go_keep) ((go_at_call 33; refine (HWi.out _).mono ?_; rintro e w2 ⟨rfl, rfl⟩))
      all_goals go_wp2_with fail
      all_goals go_meet
      all_goals (case rel => exact ⟨_, rfl, Nat.le_refl _, HB1.out.trans (((Below.refl _ _).alloc (Nat.le_refl _) _).drew.mono HB1.out.size), heap_alloc_new _ _⟩)
    case rest =>
      obtain ⟨Bg, rfl, hBg, HBc⟩ := hcut
      have HSc : Hid (Scr w0 wc b s G rs hs) := HS.out.more HBc.out.1
      obtain ⟨x0, x1, x2, x3, x4⟩ := box_cells (x := ⟨c, 1, 0, 0, 0⟩) HBc.out.2
      simp only at x0 x1 x2 x3 x4
      have k22 := (HCell.out wc HBc.out.1).2.2.2
      have hBw : w.heap.size ≤ Bg := Nat.le_trans HB1.out.size hBg
      have HBw := hidK hBw
      clear k0 k1 k2 n0 hBg
      have k25 := k22.2
      have k22 := k22.1
      go_wp2_with fail
      refine (HNx.out _ HBc.out.1).mono ?_
      rintro e wn ⟨rfl, s1, rs1, hs1, hp, hs2, hbt⟩
      have hnot : Bg ∉ s.past.ownBlock.toList ++ (b :: G :: rs.map Prod.fst) := fun hm => by
        rcases List.mem_append.1 hm with hm | hm
        · obtain ⟨cur, hc⟩ := HS.out.hist.row.block (by simpa using hm : s.past.ownBlock = some Bg)
          have := lt_of_block hc
          omega
        · have := HS.out.av Bg hm
          omega
      have hbx : wn.heap[Bg]? = some (.cells #[.int .i32 c, .int .i64 1, .int .i64 0, .int .i64 0, .int .i64 0] 85 (0, 0)) := (hbt.block Bg (lt_of_block HBc.out.2) hnot).trans HBc.out.2
      have HBx := hidK hbx
      have HSn := hidK hs2
      have HFn : Hid (Fk w wn) := (Fk.below HBc.out.1).trans (HSc.out.fk hbt)
      have HPn := hidK hp
      have HbB : Hid (∀ r ∈ b :: rs1.map Prod.fst, r ≠ Bg) := fun r hr e => by
        rw [e] at hr
        simp only [List.mem_cons, List.mem_map] at hr
        rcases hr with hr | ⟨q, hq, hr⟩
        · exact hnot (List.mem_append_right _ (by rw [← hr]; simp))
        · exact hnot (List.mem_append_right _ (by simp only [List.mem_cons]; exact .inr (.inr (HF.out s1 rs1 hs1 hp Bg (by rw [← hr]; exact List.mem_map_of_mem hq)))))
      clear x0 x1 x2 x3 x4 k22 k25 hp hs2 hbt hbx hnot hBw
      obtain ⟨x0, x1, x2, x3, x4⟩ := box_cells (x := ⟨c, 1, 0, 0, 0⟩) HBx.out
      simp only at x0 x1 x2 x3 x4
      go_wp2_with fail
      go_quiet (fail)
      refine gen_exit (fun X => Below wn.heap.size wn X) (below_drewN _ _) ?_
      intro Y hY
      have HSY := hidK (HSn.out.more hY)
      have HWY : Hid (Fk w Y) := (HFn.out).trans (Fk.below hY)
      have HBY := hidK ((hY.block Bg (lt_of_block HBx.out)).trans HBx.out)
      clear x0 x1 x2 x3 x4 hY
      obtain ⟨y, x, g, gs, hR⟩ := HP.out s1 rs1 hs1 HPn.out
      have HR := hidK hR
      have hgm : (g, gs) ∈ rs1 := List.mem_of_getElem? hR.row
      have hgB : g ≠ Bg := HbB.out g (by simp only [List.mem_cons, List.mem_map]; exact .inr ⟨_, hgm, rfl⟩)
      have hne : b ≠ Bg := HbB.out b (by simp)
      have hbg : b ≠ g := HSY.out.scn.at_.ne (HSY.out.scn.rows.row _ hgm)
      have hgl : gs.length ≤ 1000 := hR.len
      have hxl : x < gs.length := hR.lt
      obtain ⟨n, hne2⟩ : ∃ n, gs.length = n := ⟨_, rfl⟩
      have HNe := hidK hne2
      rw [hne2] at hgl hxl
      have c43 := HSY.out.scn.at_.c43
      have f43 := HSY.out.scn.at_.free 43
      obtain ⟨x0, x1, x2, x3, x4⟩ := box_cells (x := ⟨c, 1, 0, 0, 0⟩) HBY.out
      simp only at x0 x1 x2 x3 x4
      clear hR hgm hne2
      go_wp2_with fail
      have hS4 : ScAt (Y.setCell ⟨b, 43, none⟩ (.int .i32 c)) b { s1 with last := c } := .fin (put_at HSY.out.scn.at_ 43 _) (by rfl)
      obtain ⟨hS5, hB5⟩ := HSY.out.scn.turn hS4 rfl (But.one 43 _)
      have hX5 : (Y.setCell ⟨b, 43, none⟩ (.int .i32 c)).heap[Bg]? = some (.cells #[.int .i32 c, .int .i64 1, .int .i64 0, .int .i64 0, .int .i64 0] 85 (0, 0)) := put_other HBY.out hne.symm _ _
      obtain ⟨Z, hZ⟩ : ∃ Z, Y.setCell ⟨b, 43, none⟩ (.int .i32 c) = Z := ⟨_, rfl⟩
      have HBZ : Hid (But [b, g] Y Z) := by rw [← hZ]; exact (But.refl _ _).setCell (p := ⟨b, 43, none⟩) (.inl (by simp)) _
      rw [hZ] at hS5 hX5 ⊢
      have HS5 := hidK hS5
      have HX5 := hidK hX5
      clear hS5 hB5 hX5 hS4 hZ x0 x1 x2 x3 x4 c43 f43
      refine (HPl.out _ s1 rs1 y x g gs HR.out HS5.out).mono ?_
      rintro e w3 ⟨rfl, hg3, hb3⟩
      have hS6 : ScAt w3 b { s1 with last := c } := HS5.out.at_.but hb3 (by simpa using hbg)
      have HS6 := hidK hS6
      have HG3 := hidK hg3
      have HB3 := hidK hb3
      obtain ⟨x0, x1, x2, x3, x4⟩ := box_cells (x := ⟨c, 1, 0, 0, 0⟩) ((hb3.block Bg (lt_of_block HX5.out) (by simpa using hgB.symm)).trans HX5.out)
      simp only at x0 x1 x2 x3 x4
      have c13 := hS6.c13
      have c22 := hS6.c22
      have c0 := hS6.c0
      have c25 := hS6.c25
      simp only at c13 c22 c0 c25
      rw [HR.out.cx] at c13
      rw [HR.out.wid, HNe.out] at c0
      rw [HR.out.wrap] at c25
      have f13 := hS6.free 13
      have f22 := hS6.free 22
      clear hS6 hg3 hb3 x0 x2 x3 x4
      have hB : But [b, g] Y w3 := HBZ.out.trans (HB3.out.mono (fun k _ hk => by simp at hk; simp [hk]))
      have HBw3 := hidK hB
      clear hB
      have HFin : Hid (∀ W' s', ScAt W' b s' → s'.rows = s1.rows → s'.past = s1.past → But [b] w3 W' → Fk w W' ∧ Scr w0 W' b s' G (rs1.set y (g, gs.set x ⟨c, 1, 0, 0, 0⟩)) hs1) := fun W' s' q1 q2 q3 q4 => by
        have hgw : GAt W' g (gs.set x ⟨c, 1, 0, 0, 0⟩) := HG3.out.but q4 (by simpa using hbg.symm)
        have hbw : But [b, g] Y W' := HBw3.out.trans (q4.mono (fun k _ hk => by simp at hk; simp [hk]))
        have htr := HSY.out.scn.turnRow q1 q2 HR.out.row (by simp) hgw hbw
        refine ⟨HWY.out.trans (HSY.out.fk (hbw.mono (fun k _ hk => ?_))), HSY.out.turn htr.1 hbw (fun k hk => ?_) q3 (fun k => ?_)⟩
        · simp at hk
          refine List.mem_append_right _ ?_
          rcases hk with rfl | rfl
          · simp
          · simp only [List.mem_cons, List.mem_map]
            exact .inr (.inr ⟨_, List.mem_of_getElem? HR.out.row, rfl⟩)
        · simp at hk
          rcases hk with rfl | rfl
          · simp
          · simp only [List.mem_cons, List.mem_map]
            exact .inr (.inr ⟨_, List.mem_of_getElem? HR.out.row, rfl⟩)
        · rw [List.map_set]
          have e : (rs1.map Prod.fst).set y g = rs1.map Prod.fst := by
            apply List.ext_getElem?
            intro i
            rw [List.getElem?_set]
            split
            · rename_i hyi
              subst hyi
              rw [List.getElem?_map, HR.out.row]
              have := (List.getElem?_eq_some_iff.1 HR.out.row).1
              simp [this]
            · rfl
          show k ∈ (rs1.map Prod.fst).set y g ↔ _
          rw [e]
      go_wp2_with fail
      go_region
      go_wp2_with fail
      by_cases hx2 : x + 1 < n
      · have hxi : ¬ (n : Int) ≤ (x : Int) + 1 := by omega
        go_quiet (fail)
        go_wp2_with fail
        go_end0
        refine ⟨rfl, ?_⟩
        have hfin : ∀ W', Fk w W' ∧ Scr w0 W' b (wroteX s1 c x n) G (rs1.set y (g, gs.set x ⟨c, 1, 0, 0, 0⟩)) hs1 → Wrote P w0 w b G c W' := fun W' hh => ⟨hh.1, s1, rs1, hs1, y, x, g, gs, HPn.out, HR.out, by rw [HNe.out]; exact hh.2⟩
        refine hfin _ ?_
        unfold wroteX
        rw [if_pos hx2]
        refine HFin.out _ _ (.fin (put_at (put_at HS6.out 13 _) 22 _) (by rfl)) rfl rfl ?_
        first | exact ((But.one _ _).next _ _).drewN _ | exact (((But.one _ _).next _ _).drew).drewN _
      · have hxi : (n : Int) ≤ (x : Int) + 1 := by omega
        go_quiet (fail)
        go_wp2_with fail
        refine gen_wp (fun V => ScAt V b { s1 with last := c, cur := { s1.cur with x := (x : Int) + 1, wt := false } } ∧ But [b] w3 V) ⟨.fin (put_at (put_at HS6.out 13 _) 22 _) (by rfl), (((But.one _ _).next _ _).drew).drewN _⟩ ?_
        clear c13 c22 c0 c25 f13 f22 x1 HPl HCell HEx HWi HP HF
        rintro V ⟨hV, hVb⟩
        have c0 := hV.c0
        have c13 := hV.c13
        have c22 := hV.c22
        have c25 := hV.c25
        simp only at c0 c13 c22 c25
        rw [HR.out.wid, HNe.out] at c0
        rw [HR.out.wrap] at c25
        have f13 := hV.free 13
        have f22 := hV.free 22
        have HV := hidK (And.intro hV hVb)
        clear hV hVb
        go_region
        go_wp2_with fail
        go_end0
        refine ⟨rfl, ?_⟩
        have hfin : ∀ W', Fk w W' ∧ Scr w0 W' b (wroteX s1 c x n) G (rs1.set y (g, gs.set x ⟨c, 1, 0, 0, 0⟩)) hs1 → Wrote P w0 w b G c W' := fun W' hh => ⟨hh.1, s1, rs1, hs1, y, x, g, gs, HPn.out, HR.out, by rw [HNe.out]; exact hh.2⟩
        refine hfin _ ?_
        unfold wroteX
        rw [if_neg hx2]
        refine HFin.out _ _ (.fin (put_at (put_at HV.out.1 13 _) 22 _) (by rfl)) rfl rfl ?_
        exact HV.out.2.trans ((But.one _ _).next _ _).drew
end Go.Proofs.YtooahffclghcjaaGreatDoor
