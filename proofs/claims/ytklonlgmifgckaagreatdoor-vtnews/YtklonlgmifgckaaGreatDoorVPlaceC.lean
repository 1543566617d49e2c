/-
  A letter laid onto its place, and written.
-/
import Derived.Test.YtklonlgmifgckaaGreatDoorVPlaceB
import Derived.BigRegion
import Derived.Deep.QuietTactic
namespace Go.Proofs.YtklonlgmifgckaaGreatDoor
open Go.RowKit
set_option linter.unusedVariables false
set_option maxRecDepth 100000

theorem fil_put {gs : List Gl} {x : Nat} (a b : Gl) (h : x < gs.length) : (fil gs x 1 a).set x b = gs.set x b := by
  have h1 := fil_step (gs := gs) (o := x) (k := 0) a (by omega)
  rw [fil_zero, Nat.add_zero] at h1
  rw [← h1, List.set_set]
set_option maxHeartbeats 2000000 in
theorem place_any {w : World} {b : Nat} {s : Sc} (h : ScAt w b s) {G : Nat} {rs : List (Nat × List Gl)} (hr : RowsAt w G rs 0) (cap : Nat) (hv : s.rows = .slice (some ⟨G, 0, none⟩) rs.length cap) (hn : rs.length ≤ 1000)
    {y x : Nat} (hy : s.cur.y = (y : Int)) (hx : s.cur.x = (x : Int)) {g : Nat} {gs : List Gl} (hg : rs[y]? = some (g, gs)) (hw : Whole gs) (hl : gs.length ≤ 1000) (hxl : x < gs.length) (hi : s.ins = false) (hbG : b ≠ g) (l : Gl) (hl1 : l.n = 1) :
    Calls Tryz.prog 60 #[.pointer (some ⟨b, 0, none⟩), .agg #[.int .i32 l.l, .int .i64 l.n, .int .i64 l.fo, .int .i64 l.ba, .int .i64 l.ma]] w fun r w' => r = .returned (.tuple #[]) ∧ GAt w' g (gs.set x l) ∧ But [g] w w' := by
  have hyl := (List.getElem?_eq_some_iff.1 hg).1
  have hga : GAt w g gs := hr.row _ (List.mem_of_getElem? hg)
  obtain ⟨W, hW⟩ : ∃ W, w.alloc (.cells #[.int .i32 l.l, .int .i64 l.n, .int .i64 l.fo, .int .i64 l.ba, .int .i64 l.ma] 87) = W := ⟨_, rfl⟩
  have HW := hidK hW
  obtain ⟨B, hB⟩ : ∃ B, w.heap.size = B := ⟨_, rfl⟩
  have HB := hidK hB
  have hX : W.heap[B]? = some (.cells #[.int .i32 l.l, .int .i64 l.n, .int .i64 l.fo, .int .i64 l.ba, .int .i64 l.ma] 87 (0, 0)) := by rw [← hB, ← hW]; exact heap_alloc_new w _
  have HBW : Hid (Below w.heap.size w W) := by rw [← hW]; exact (Below.refl _ _).alloc (Nat.le_refl _) _
  have HgB : Hid (g ≠ B) := fun e => by have := hga.lt; omega
  have HgA : Hid (∀ W', Below W.heap.size W W' → GAt W' g gs) := fun W' hW' => hga.keep ((HBW.out.trans (hW'.mono HBW.out.size)).block g hga.lt)
  have HCell : Hid (∀ W', Below W.heap.size W W' → W'.cell? ⟨b, 13, none⟩ = some (.int .i64 (x : Int)) ∧ W'.cell? ⟨B, 1, none⟩ = some (.int .i64 1)) := fun W' h2 => by
    have h3 : ScAt W' b s := h.below (HBW.out.trans (h2.mono HBW.out.size))
    exact ⟨by rw [← hx]; exact h3.c13, by rw [← hl1]; exact cell_atT ((h2.block B (lt_of_block hX)).trans hX) 1⟩
  have HBox : Hid (∀ W', But [g] W W' → W'.cell? ⟨B, 0, none⟩ = some (.int .i32 l.l) ∧ W'.cell? ⟨B, 1, none⟩ = some (.int .i64 1) ∧ W'.cell? ⟨B, 2, none⟩ = some (.int .i64 l.fo) ∧ W'.cell? ⟨B, 3, none⟩ = some (.int .i64 l.ba) ∧ W'.cell? ⟨B, 4, none⟩ = some (.int .i64 l.ma)) := fun W' h2 => by
    have h3 := box_cells ((h2.block B (lt_of_block hX) (by simpa using fun e => HgB.out e.symm)).trans hX)
    rw [hl1] at h3
    exact h3
  have hS : ScAt W b s := h.below HBW.out
  have HSa : Hid (∀ W', Below W.heap.size W W' → W'.cell? ⟨b, 23, none⟩ = some (.bool false)) := fun W' h2 => by
    have h3 : ScAt W' b s := hS.below h2
    rw [← hi]; exact h3.c23
  have c2 := hS.c2
  rw [hv] at c2
  have c14 := hS.c14
  rw [hy] at c14
  have c23 := hS.c23
  rw [hi] at c23
  obtain ⟨c13, b1⟩ := HCell.out W (Below.refl _ _)
  have cG := (hr.below HBW.out).cell hg
  have hyi : (y : Int) < (rs.length : Int) := by omega
  have HSp : Hid (∀ W', Below W.heap.size W W' → Calls Tryz.prog 77 #[.slice (some ⟨g, 0, none⟩) gs.length gs.length, .int .i64 (x : Int), .int .i64 (IntKind.i64.wrap ((x : Int) + 1))] W' fun r w' => r = .returned (.slice (some ⟨g, x * 5, none⟩) 1 (gs.length - x)) ∧ Below W'.heap.size W' w') := fun W' hW' => by
    have h9 := span_any (HgA.out W' hW') hw hl x (x + 1) (by omega) hxl (by omega)
    rw [show x + 1 - x = 1 by omega] at h9
    rw [show IntKind.i64.wrap ((x : Int) + 1) = ((x + 1 : Nat) : Int) by rw [IntKind.wrap_i64]; omega]
    exact h9
  have HRi : Hid (∀ W, Calls Tryz.prog 50 #[.agg #[.int .i64 l.fo, .int .i64 l.ba, .int .i64 l.ma]] W fun e w' => e = .returned (.agg #[.int .i32 0, .int .i64 0, .int .i64 l.fo, .int .i64 l.ba, .int .i64 l.ma]) ∧ Below W.heap.size W w') := right_any _ _ _
  have HFi : Hid (∀ W', GAt W' g gs → Calls Tryz.prog 54 #[.slice (some ⟨g, x * 5, none⟩) 1 (gs.length - x), .agg #[.int .i32 0, .int .i64 0, .int .i64 l.fo, .int .i64 l.ba, .int .i64 l.ma]] W' fun r w' => r = .returned (.tuple #[]) ∧ GAt w' g (fil gs x 1 ⟨0, 0, l.fo, l.ba, l.ma⟩) ∧ But [g] W' w') := fun W' hg' => fill_any hg' x 1 _ ⟨0, 0, l.fo, l.ba, l.ma⟩ (by omega) hl
  have HBx : Hid (Below W.heap.size W W) := Below.refl _ _
  rw [hl1] at HW ⊢
  have HL1 := hidK hl1
  clear hW hB hX h hr hv hy hx hg hw hi hga hS hl1
  go_enter Tryz.func60, Tryz.ntmps60
  go_wp2_with fail
  rw [HW.out, HB.out]
  go_quiet (fail)
  clear c2 c14 c23 c13 b1 cG
  refine gen_exit (fun X => Below W.heap.size W X) (below_drewN _ _) ?_
  intro Y hY
  clear HBx
  have HBx := hidK hY
  have c23 := (HSa.out Y hY)
  obtain ⟨c13, b1⟩ := HCell.out Y hY
  clear hY
  go_wp2_with fail
  go_region_held3 (fun X => X.cell? ⟨b, 13, none⟩ = some (.int .i64 (x : Int)) ∧ X.cell? ⟨B, 1, none⟩ = some (.int .i64 1)) (go_keep) ((go_at_call 77; refine (HSp.out _ (by first | exact HBx.out | exact HBx.out.drew)).mono ?_; rintro e w1 ⟨rfl, hb⟩; have HBn : Hid (Below W.heap.size W w1) := (by first | exact HBx.out.trans (hb.mono HBx.out.size) | exact HBx.out.drew.trans (hb.mono HBx.out.size)); clear hb; clear HBx; have HBx := hidK HBn.out; clear HBn; obtain ⟨m0, m1⟩ := HCell.out w1 HBx.out))
  clear c23 c13 b1
  obtain ⟨k0, k1, k2, k3, k4⟩ := HBox.out w1 (But.of HBx.out)
  go_wp2_with fail
  refine (HRi.out _).mono ?_
  rintro e w2 ⟨rfl, hb⟩
  have HB2 : Hid (Below W.heap.size W w2) := HBx.out.trans (hb.mono HBx.out.size)
  clear hb
  go_wp2_with fail
  refine (HFi.out _ (HgA.out _ HB2.out)).mono ?_
  rintro e w3 ⟨rfl, hg3, hb3⟩
  have HB3 : Hid (But [g] W w3) := (But.of HB2.out).trans hb3
  have HG3 := hidK hg3
  obtain ⟨n0, n1, n2, n3, n4⟩ := HBox.out w3 HB3.out
  obtain ⟨d0, d1, d2, d3, d4⟩ := hg3.c (i := x) (List.getElem?_eq_getElem (by rw [fil_len _ (by omega)]; omega))
  have f0 := hg3.free (x * 5)
  have f1 := hg3.free (x * 5 + 1)
  have f2 := hg3.free (x * 5 + 2)
  have f3 := hg3.free (x * 5 + 3)
  have f4 := hg3.free (x * 5 + 4)
  clear hg3 hb3
  go_wp2_with fail
  go_end0
  refine ⟨rfl, ?_, ?_⟩
  · have h9 := HG3.out.put x l (by rw [fil_len _ (by omega)]; omega)
    rw [fil_put _ _ hxl, HL1.out] at h9
    exact h9
  · exact (((((But.of HBW.out).trans HB3.out).next _ _).next _ _).next _ _ |>.next _ _).next _ _
end Go.Proofs.YtklonlgmifgckaaGreatDoor
