/-
  A letter is written: the plain case.
-/
import Derived.Test.YtooahffclghcjaaGreatDoorVWrite
import Derived.Deep.DeepCutAuto
namespace Go.Proofs.YtooahffclghcjaaGreatDoor
open Go.RowKit
set_option linter.unusedVariables false
set_option maxRecDepth 100000

/-- Written, with room behind it. -/
def wrote (s : Sc) (c : Int) : Sc := { s with last := c, cur := { s.cur with x := s.cur.x + 1, wt := false } }
set_option maxHeartbeats 4000000 in
theorem write_plain {w : World} {b : Nat} {s : Sc} {G : Nat} {rs : List (Nat × List Gl)} (h : Scn w b s G rs) (hn : rs.length ≤ 1000) {y x : Nat} (hy : s.cur.y = (y : Int)) (hx : s.cur.x = (x : Int)) {g : Nat} {gs : List Gl} (hg : rs[y]? = some (g, gs)) (hw : Whole gs) (hl : gs.length ≤ 1000) (hW : s.w = (gs.length : Int)) (hxl : x + 1 < gs.length)
    (hi : s.ins = false) (hu : s.cur.us = 0) (h0 : s.cur.l0 = false) (ht : s.cur.wt = false) (c : Int) (hc1 : 32 ≤ c) (hc2 : c < 127) :
    Calls Tryz.prog 19 #[.pointer (some ⟨b, 0, none⟩), .int .i32 c] w fun r w' => r = .returned (.tuple #[]) ∧ Scn w' b (wrote s c) G (rs.set y (g, gs.set x ⟨c, 1, s.cur.fo, s.cur.ba, s.cur.ma⟩)) ∧ But (feet b rs) w w' := by
  have HWi : Hid (∀ W, Calls Tryz.prog 33 #[.int .i32 c] W fun r w' => r = .returned (.int .i64 1) ∧ W = w') := width_ascii c hc1 hc2
  have HEx : Hid (∀ W, ScAt W b s → Calls Tryz.prog 34 #[.pointer (some ⟨b, 0, none⟩), .int .i32 c] W fun r w' => r = .returned (.int .i32 c) ∧ Below W.heap.size W w') := fun W hW => exchanged_no hW hu h0 c
  have HCell : Hid (∀ W, Below w.heap.size w W → W.cell? ⟨b, 15, none⟩ = some (.int .i64 s.cur.fo) ∧ W.cell? ⟨b, 16, none⟩ = some (.int .i64 s.cur.ba) ∧ W.cell? ⟨b, 17, none⟩ = some (.int .i64 s.cur.ma) ∧ W.cell? ⟨b, 22, none⟩ = some (.bool false)) := fun W hb => by
    have h3 := h.at_.below hb
    exact ⟨h3.c15, h3.c16, h3.c17, by rw [← ht]; exact h3.c22⟩
  have HS := hidK h
  have HXY := hidK (And.intro hx hy)
  have HG := hidK hg
  have Hge := hidK hW
  have HPl : Hid (∀ W, Scn W b { s with last := c } G rs → Calls Tryz.prog 36 #[.pointer (some ⟨b, 0, none⟩), .agg #[.int .i32 c, .int .i64 1, .int .i64 s.cur.fo, .int .i64 s.cur.ba, .int .i64 s.cur.ma]] W fun r w' => r = .returned (.tuple #[]) ∧ GAt w' g (gs.set x ⟨c, 1, s.cur.fo, s.cur.ba, s.cur.ma⟩) ∧ But [g] W w') := fun W hS => place_any hS.at_ hS.rows _ hS.val hn hy hx hg hw hl (by omega) hi (hS.at_.ne (hS.rows.row _ (List.mem_of_getElem? hg))) ⟨c, 1, s.cur.fo, s.cur.ba, s.cur.ma⟩ rfl
  clear h hy hx hg hw hW hi hu h0 ht
  go_enter Tryz.func19, Tryz.ntmps19
  go_wp2_with (go_at_call 33; refine (HWi.out _).mono ?_; rintro e w0 ⟨rfl, rfl⟩)
  refine (HEx.out _ HS.out.at_).mono ?_
  rintro e w1 ⟨rfl, hb1⟩
  have HB1 := hidK hb1
  obtain ⟨k0, k1, k2, k3⟩ := HCell.out w1 hb1
  have n0 := World.new_ne w1 _ k0
  clear hb1
  go_wp2_with fail
  go_cut [5] (fun v wx => ∃ Bg, v = .pointer (some ⟨Bg, 0, none⟩) ∧ w1.heap.size ≤ Bg ∧ Hid (Below w.heap.size w wx ∧ wx.heap[Bg]? = some (.cells #[.int .i32 c, .int .i64 1, .int .i64 s.cur.fo, .int .i64 s.cur.ba, .int .i64 s.cur.ma] 85 (0, 0))))
  case first =>
    go_region_held3 (fun X => X.cell? ⟨b, 15, none⟩ = some (.int .i64 s.cur.fo) ∧ X.cell? ⟨b, 16, none⟩ = some (.int .i64 s.cur.ba) ∧ X.cell? ⟨b, 17, none⟩ = some (.int .i64 s.cur.ma)) (go_keep) ((go_at_call 33; refine (HWi.out _).mono ?_; rintro e w2 ⟨rfl, rfl⟩))
    all_goals go_wp2_with fail
    all_goals go_meet
    all_goals (case rel => exact ⟨_, rfl, Nat.le_refl _, HB1.out.trans (((Below.refl _ _).alloc (Nat.le_refl _) _).drew.mono HB1.out.size), heap_alloc_new _ _⟩)
  case rest =>
    obtain ⟨Bg, rfl, hBg, HBc⟩ := hcut
    have hSc : Scn wc b s G rs := HS.out.below HBc.out.1
    have HSc := hidK hSc
    obtain ⟨x0, x1, x2, x3, x4⟩ := box_cells (x := ⟨c, 1, s.cur.fo, s.cur.ba, s.cur.ma⟩) HBc.out.2
    simp only at x0 x1 x2 x3 x4
    have k22 := (HCell.out wc HBc.out.1).2.2.2
    have HbB : Hid (b ≠ Bg) := fun e => by have := HS.out.at_.lt; have := HB1.out.size; omega
    clear k0 k1 k2 k3 n0 hSc
    go_wp2_with fail
    go_quiet (fail)
    refine gen_exit (fun X => Below wc.heap.size wc X) (below_drewN _ _) ?_
    intro Y hY
    have hSY := HSc.out.below hY
    have HSY := hidK hSY
    have HBY : Hid (Below w.heap.size w Y ∧ Y.heap[Bg]? = some (.cells #[.int .i32 c, .int .i64 1, .int .i64 s.cur.fo, .int .i64 s.cur.ba, .int .i64 s.cur.ma] 85 (0, 0))) := ⟨HBc.out.1.trans (hY.mono HBc.out.1.size), (hY.block Bg (lt_of_block HBc.out.2)).trans HBc.out.2⟩
    clear x0 x1 x2 x3 x4 k22 hY HBc HSc
    have c43 := hSY.at_.c43
    have f43 := hSY.at_.free 43
    obtain ⟨x0, x1, x2, x3, x4⟩ := box_cells (x := ⟨c, 1, s.cur.fo, s.cur.ba, s.cur.ma⟩) HBY.out.2
    simp only at x0 x1 x2 x3 x4
    have hne : b ≠ Bg := HbB.out
    clear hSY
    go_wp2_with fail
    have hS4 : ScAt (Y.setCell ⟨b, 43, none⟩ (.int .i32 c)) b { s with last := c } := .fin (put_at HSY.out.at_ 43 _) (by rfl)
    obtain ⟨hS5, hB5⟩ := HSY.out.turn hS4 rfl (But.one 43 _)
    have hX5 : (Y.setCell ⟨b, 43, none⟩ (.int .i32 c)).heap[Bg]? = some (.cells #[.int .i32 c, .int .i64 1, .int .i64 s.cur.fo, .int .i64 s.cur.ba, .int .i64 s.cur.ma] 85 (0, 0)) := put_other HBY.out.2 (fun e => HbB.out e.symm) _ _
    obtain ⟨Z, hZ⟩ : ∃ Z, Y.setCell ⟨b, 43, none⟩ (.int .i32 c) = Z := ⟨_, rfl⟩
    rw [hZ] at hS5 hB5 hX5 ⊢
    have HS5 := hidK hS5
    have HB5' : Hid (But [b, g] Y Z) := by rw [← hZ]; exact (But.refl _ _).setCell (p := ⟨b, 43, none⟩) (.inl (by simp)) _
    have HbG : Hid (b ≠ g) := HS.out.at_.ne (HS.out.rows.row _ (List.mem_of_getElem? HG.out))
    have HX5 := hidK hX5
    clear hS5 hB5 hX5 hS4 hZ x0 x1 x2 x3 x4 c43 f43
    refine (HPl.out _ HS5.out).mono ?_
    rintro e w3 ⟨rfl, hg3, hb3⟩
    have hgB : g ≠ Bg := fun e => by have h8 : g < w.heap.size := (HS.out.rows.row _ (List.mem_of_getElem? HG.out)).lt; have h9 := HB1.out.size; omega
    have hS6 : ScAt w3 b { s with last := c } := HS5.out.at_.but hb3 (by simpa using HS5.out.at_.ne (HS5.out.rows.row _ (List.mem_of_getElem? HG.out)))
    have HS6 := hidK hS6
    have HG3 := hidK hg3
    have HB3 := hidK hb3
    obtain ⟨x0, x1, x2, x3, x4⟩ := box_cells (x := ⟨c, 1, s.cur.fo, s.cur.ba, s.cur.ma⟩) ((hb3.block Bg (lt_of_block HX5.out) (by simpa using hgB.symm)).trans HX5.out)
    simp only at x0 x1 x2 x3 x4
    have c13 := hS6.c13
    have c22 := hS6.c22
    have c0 := hS6.c0
    simp only at c13 c22 c0
    rw [HXY.out.1] at c13
    rw [Hge.out] at c0
    have f13 := hS6.free 13
    have f22 := hS6.free 22
    clear hS6 hg3 hb3 x0 x2 x3 x4
    go_wp2_with fail
    go_region
    go_wp2_with fail
    go_quiet (fail)
    go_wp2_with fail
    go_end0
    have hB : But [b, g] w w3 := (But.of HBY.out.1).trans (HB5'.out.trans (HB3.out.mono (fun k _ hk => by simp at hk; simp [hk])))
    have hB2 := (hB.setCell (p := ⟨b, 13, none⟩) (.inl (by simp)) (.int .i64 ((x : Int) + 1))).setCell (p := ⟨b, 22, none⟩) (.inl (by simp)) (.bool false)
    refine ⟨rfl, HS.out.turnRow (s' := wrote s c) ?_ rfl HG.out (gs' := gs.set x ⟨c, 1, s.cur.fo, s.cur.ba, s.cur.ma⟩) (by simp) ?_ ?_⟩
    · exact .fin (put_at (put_at HS6.out 13 _) 22 _) (by unfold wrote; rw [HXY.out.1]; rfl)
    · exact put_other (put_other HG3.out HbG.out.symm 13 _) HbG.out.symm 22 _
    · first | exact hB2.drew.drewN _ | exact (hB2.drewN _).drew | exact hB2.drewN _
end Go.Proofs.YtooahffclghcjaaGreatDoor
