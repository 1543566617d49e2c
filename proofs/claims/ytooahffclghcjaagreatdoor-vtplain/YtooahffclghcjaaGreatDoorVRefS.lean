/-
  The document's screen made anew.
-/
import Derived.Test.YtooahffclghcjaaGreatDoorMH
namespace Go.Proofs.YtooahffclghcjaaGreatDoor
open Go.RowKit
set_option linter.unusedVariables false
set_option maxRecDepth 100000
attribute [-go_sem] Instr.loadAt
attribute [local go_sem low] open_loadAt
attribute [-go_sem] Instr.storeAt
attribute [local go_sem low] open_storeAtV
set_option maxHeartbeats 4000000 in
theorem refReset_any {w : World} {b : Nat} (nw nh : Nat) (l : Int) (h1 : 1 ≤ nw) (h2 : nw ≤ 1000) (h3 : 1 ≤ nh) (h4 : nh ≤ 1000) {w0 : World} (hb0 : Below w0.heap.size w0 w) (hw0 : w0.heap.size ≤ b) (h : RfAt w b nw nh l (.slice none 0 0) (.slice none 0 0) 0 false) : Calls Tryz.prog 15 #[.pointer (some ⟨b, 0, none⟩)] w fun x w' => x = .returned (.tuple #[]) ∧ ∃ v vs ta tc, vs.length = nh ∧ RfAt w' b nw nh l v (.slice ta nw tc) ((nh : Int) - 1) true ∧ RRs w0 w' v vs nw := by
  have HB0 := hidK (And.intro hb0 hw0)
  clear hb0 hw0
  have H := hidK h
  have hlt : b < w.heap.size := lt_of_block h
  have c0 : w.cell? ⟨b, 0, none⟩ = some (.int .i64 (nw : Int)) := cell_atT h 0
  have c1 : w.cell? ⟨b, 1, none⟩ = some (.int .i64 (nh : Int)) := cell_atT h 1
  have c2 : w.cell? ⟨b, 2, none⟩ = some (.int .i64 l) := cell_atT h 2
  have c6 : w.cell? ⟨b, 6, none⟩ = some (.slice none 0 0) := cell_atT h 6
  have c49 : w.cell? ⟨b, 49, none⟩ = some (.string ⟨#[]⟩) := cell_atT h 49
  have c50 : w.cell? ⟨b, 50, none⟩ = some (.int .i64 0) := cell_atT h 50
  obtain ⟨Z, hZ⟩ : ∃ Z : Array Value, #[.int .i64 0, .int .i64 0, .int .i64 0, .slice none 0 0, .slice none 0 0, .bool false, .slice none 0 0, .int .i64 0, .int .i64 0, .bool false, .int .i64 0, .int .i64 0, .int .i64 0, .int .i64 0, .int .i64 0, .bool false, .bool false, .bool false, .bool false, .bool false, .bool false, .bool false, .slice none 0 0, .bool false, .bool false, .int .i64 0, .bool false, .int .i64 0, .int .i64 0, .int .i64 0, .int .i64 0, .int .i64 0, .bool false, .bool false, .bool false, .int .i64 0, .bool false, .bool false, .int .i64 0, .int .i64 0, .int .i64 0, .int .i64 0, .int .i64 0, .bool false, .bool false, .bool false, .int .i64 0, .bool false, .string ⟨#[]⟩, .string ⟨#[]⟩, .int .i64 0, .int .i32 0, .int .i64 0, .string ⟨#[]⟩, .bool false] = Z := ⟨_, rfl⟩
  obtain ⟨L, hL⟩ : ∃ L : Array Value, #[.int .i64 (nw : Int), .int .i64 (nh : Int), .int .i64 l, .slice none 0 0, .slice none 0 0, .bool false, .slice none 0 0, .int .i64 0, .int .i64 0, .bool false, .int .i64 0, .int .i64 0, .int .i64 0, .int .i64 0, .int .i64 0, .bool false, .bool false, .bool false, .bool false, .bool false, .bool false, .bool false, .slice none 0 0, .bool false, .bool false, .int .i64 0, .bool false, .int .i64 0, .int .i64 0, .int .i64 0, .int .i64 0, .int .i64 0, .bool false, .bool false, .bool false, .int .i64 0, .bool false, .bool false, .int .i64 0, .int .i64 0, .int .i64 0, .int .i64 0, .int .i64 0, .bool false, .bool false, .bool false, .int .i64 0, .bool false, .string ⟨#[]⟩, .string ⟨#[]⟩, .int .i64 0, .int .i32 0, .int .i64 0, .string ⟨#[]⟩, .bool false] = L := ⟨_, rfl⟩
  have z1 : Z.size = 55 := by rw [← hZ]; rfl
  have z2 : L.size = 55 := by rw [← hL]; rfl
  have z3 : L.toList.all (fun u => u.oneCell') = true := by rw [← hL]; rfl
  have hst := store_new_drew (P := Tryz.prog) w 70 Z L (by rw [z2]; exact infoRf) (by rw [z1, z2]) z3
  have HNew : Hid (RfAt (w.alloc (.cells L 70)).drew w.heap.size nw nh l (.slice none 0 0) (.slice none 0 0) 0 false) := by
    have h9 : refC nw nh l (.slice none 0 0) (.slice none 0 0) 0 false = L := by rw [← hL]; rfl
    unfold RfAt
    rw [h9]
    exact heap_alloc_new w (.cells L 70)
  have HBel : Hid (Below w.heap.size w (w.alloc (.cells L 70)).drew) := ((Below.refl _ _).alloc (Nat.le_refl _) _).drew
  clear z1 z2 z3
  rw [← hZ, ← hL] at hst
  have HL := hidK hL
  clear hZ hL
  clear h
  go_enter Tryz.func15, Tryz.ntmps15
  go_wp2_with fail
  go_cut [2] (fun v X => v = .pointer (some ⟨w.heap.size, 0, none⟩) ∧ Hid (X = (w.alloc (.cells L 70)).drew))
  case first =>
    go_region
    all_goals go_wp2_with fail
    all_goals go_meet
    all_goals (case rel => exact ⟨rfl, by rw [HL.out]; exact hidK rfl⟩)
  case rest =>
   obtain ⟨rfl, HX⟩ := hcut
   clear c0 c1 c2 c6 c49 c50 hst HL
   obtain ⟨X, hX2⟩ : ∃ X, X = wc := ⟨_, rfl⟩
   rw [← hX2]
   rw [← HX.out, ← hX2] at HNew HBel
   clear HX hX2
   obtain ⟨t, ht⟩ : ∃ t, w.heap.size = t := ⟨_, rfl⟩
   have HT := hidK HNew.out
   have HBX := hidK HBel.out
   rw [ht] at HT
   rw [ht]
   have Hte := hidK ht
   have hbt : b ≠ t := by omega
   have htb : t ≠ b := by omega
   clear HNew HBel ht
   have HCell : Hid (∀ W', Below X.heap.size X W' → W'.cell? ⟨b, 0, none⟩ = some (.int .i64 (nw : Int)) ∧ W'.cell? ⟨b, 1, none⟩ = some (.int .i64 (nh : Int)) ∧ (∃ v, W'.cell? ⟨t, 3, none⟩ = some v) ∧ W'.frozen? ⟨t, 3, none⟩ = false) := fun W' h => by
     have hb9 : RfAt W' b nw nh l (.slice none 0 0) (.slice none 0 0) 0 false := ((HBX.out.trans (h.mono HBX.out.size)).block b hlt).trans H.out
     have ht9 : RfAt W' t nw nh l (.slice none 0 0) (.slice none 0 0) 0 false := (h.block t (lt_of_block HT.out)).trans HT.out
     exact ⟨cell_atT hb9 0, cell_atT hb9 1, ⟨_, cell_atT ht9 3⟩, free_atT ht9 3⟩
   obtain ⟨c0, c1, ⟨v3, c3⟩, f3⟩ := HCell.out X (Below.refl _ _)
   have HBx : Hid (Below X.heap.size X X) := Below.refl _ _
   have HRw : Hid (∀ W, Calls Tryz.prog 28 #[.int .i64 (nw : Int), .int .i64 (nh : Int), .agg #[.int .i64 0, .int .i64 0, .int .i64 0]] W fun r w' => ∃ v vs, r = .returned v ∧ vs.length = nh ∧ RRs W w' v vs nw) := refRows_any nw nh h2 h4
   have HTa : Hid (∀ W, Calls Tryz.prog 29 #[.int .i64 (nw : Int)] W fun r w' => ∃ ad cap, r = .returned (.slice ad nw cap) ∧ Below W.heap.size W w') := tabs_any nw h2
   go_wp2_with fail
   go_region_held3 (fun Y => Y.cell? ⟨b, 0, none⟩ = some (.int .i64 (nw : Int)) ∧ Y.cell? ⟨b, 1, none⟩ = some (.int .i64 (nh : Int)) ∧ (∃ v, Y.cell? ⟨t, 3, none⟩ = some v) ∧ Y.frozen? ⟨t, 3, none⟩ = false) (simp [*, World.cell?_setCell_far, World.cell?_setCell_same']) ((go_at_call 28; refine (HRw.out _).mono ?_; rintro e Y1 ⟨v, vs, rfl, hvl, hrr⟩; obtain ⟨va, vc, hve, _, _, _, _⟩ := hrr.mine.row.shape; have HRR := hidK (And.intro hvl hrr); have HBn : Hid (Below X.heap.size X Y1) := (by first | exact hrr.mine.below | exact (Below.drew (Below.refl _ _)).trans hrr.mine.below); have HRX : Hid (RRs X Y1 v vs nw) := (by first | exact hrr | exact hrr.base (Below.drew (Below.refl _ _))); clear HBx; have HBx := hidK HBn.out; clear HBn; obtain ⟨p0, p1, ⟨v4, p2⟩, p3⟩ := HCell.out Y1 HBx.out; clear hvl hrr; subst hve))
   refine gen_exit (fun Y => ∃ va vc vs, vs.length = nh ∧ RRs w Y (.slice va vs.length vc) vs nw ∧ RfAt Y t nw nh l (.slice va vs.length vc) (.slice none 0 0) 0 false ∧ RfAt Y b nw nh l (.slice none 0 0) (.slice none 0 0) 0 false) ?_ ?_
   · have hR := HRX.out.base HBX.out
     have ht9 : RfAt Y1 t nw nh l (.slice none 0 0) (.slice none 0 0) 0 false := HT.out.below HBx.out
     have hb9 : RfAt Y1 b nw nh l (.slice none 0 0) (.slice none 0 0) 0 false := (H.out.below HBX.out).below HBx.out
     have ht2 := Hte.out
     exact ⟨va, vc, vs, HRR.out.1, hR.but (But.one 3 _) ht9 (by omega), ht9.rows _, put_other hb9 hbt 3 _⟩
   clear HBx HRR HRX p0 p1 p2 p3 HCell HRw
   rintro Y ⟨va, vc, vs, hvl, hR, hT, hBb⟩
   have HY := hidK (And.intro hvl (And.intro hR (And.intro hT hBb)))
   have d0 : Y.cell? ⟨b, 0, none⟩ = some (.int .i64 (nw : Int)) := cell_atT hBb 0
   clear hvl hR hT hBb
   go_wp2_with fail
   refine (HTa.out _).mono ?_
   rintro e Y2 ⟨ta, tc, rfl, hb2⟩
   obtain ⟨hvl, hR, hT, hBb⟩ := HY.out
   obtain ⟨k, hk⟩ : ∃ k, vs.length = k := ⟨_, rfl⟩
   rw [hk] at hR hT
   have hT2 := hT.below hb2
   have hB2 := hBb.below hb2
   have q22 : ∃ u, Y2.cell? ⟨t, 22, none⟩ = some u := ⟨_, cell_atT hT2 22⟩
   have q14 : ∃ u, Y2.cell? ⟨t, 14, none⟩ = some u := ⟨_, cell_atT hT2 14⟩
   have q18 : ∃ u, Y2.cell? ⟨t, 18, none⟩ = some u := ⟨_, cell_atT hT2 18⟩
   obtain ⟨u22, c22⟩ := q22
   obtain ⟨u14, c14⟩ := q14
   obtain ⟨u18, c18⟩ := q18
   have f22 := free_atT hT2 22
   have f14 := free_atT hT2 14
   have f18 := free_atT hT2 18
   have e1 : Y2.cell? ⟨b, 1, none⟩ = some (.int .i64 (nh : Int)) := cell_atT hB2 1
   have hT5 := ((hT2.tabs (.slice ta nw tc)).bots ((nh : Int) - 1)).wraps true
   have hB5 := put_other (put_other (put_other hB2 hbt 22 (.slice ta nw tc)) hbt 14 (.int .i64 ((nh : Int) - 1))) hbt 18 (.bool true)
   have hld := rf_load hT5
   have hstb := rf_store (nw : Int) (nh : Int) l va ta k vc nw tc ((nh : Int) - 1) true hB5 rfl
   have hst := hstb.1
   have HFin := hidK (And.intro hT5 (And.intro hB5 hstb.2))
   have HR2 := hidK (And.intro hvl (And.intro (hR.more hb2) (And.intro hT2 hk)))
   clear hstb hT5 hB5 hT2 hB2 hR hT hBb hvl hb2 d0 HY HTa hk
   go_wp2_with fail
   go_end0
   obtain ⟨hT5, hB5, hE⟩ := HFin.out
   obtain ⟨hvl, hR2, hT2, hk⟩ := HR2.out
   have hr1 := hR2.but (((But.one 22 (.slice ta nw tc)).next 14 (.int .i64 ((nh : Int) - 1))).next 18 (.bool true)) hT2 (Nat.le_of_eq Hte.out)
   have hr2 := hr1.base HB0.out.1
   exact ⟨rfl, .slice va k vc, vs, ta, tc, hvl, hE, hr2.but (But.overs _ 0 (But.refl [b] _)) hB5 HB0.out.2⟩
end Go.Proofs.YtooahffclghcjaaGreatDoor
