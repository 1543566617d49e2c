/-
  Binds, the document's Bind and Unbind.
  Binds, the document's Press.
-/
import Derived.Test.YtbonnjilbocldaaGreatDoorIC
import Derived.Test.YtbonnjilbocldaaGreatDoorIG
import Derived.Test.YtbonnjilbocldaaGreatDoorKRefV
import Derived.Deep.RegionWith
namespace Go.Proofs.YtbonnjilbocldaaGreatDoor
open Go.RowKit
set_option linter.unusedVariables false
set_option maxRecDepth 100000

/-- What Bind leaves. -/
structure BndR (w : World) (D : DataW Unit) (L : List Ent) (x : Ent) (v' : Value) (e : Ending) (w' : World) : Prop where
  told : e = .returned (.tuple #[.agg #[v'], .int .i64 (bndC D x)])
  see : SeeE w' v' (bndL D L x)
  below : Below w.heap.size w w'
theorem bndL_no {D : DataW Unit} {L : List Ent} {e : Ent} (h : bndC D e ≠ 0) : bndL D L e = L := by
  unfold bndL
  rw [if_neg (fun q => h (bndOk_c.1 q))]
theorem bndL_yes {D : DataW Unit} {L : List Ent} {e : Ent} (h : bndC D e = 0) : bndL D L e = L.filter (offB e.t e.c e.m) ++ [e] := by
  unfold bndL
  rw [if_pos (bndOk_c.2 h)]
theorem two_at {W : World} {g : Nat} {T : TypeId} {c0 : Value} (h : W.heap[g]? = some (.cells #[c0] T (0, 0))) (v0 : Value) : (W.setCell ⟨g, 0, none⟩ v0).heap[g]? = some (.cells #[v0] T (0, 0)) := put_at h 0 v0
set_option maxHeartbeats 8000000 in
theorem rbind_any {w : World} {v : Value} {L : List Ent} {D : DataW Unit} (hv : SeeE w v L) (hD : Dc D L) (st : ByteArray) (sc sm : Int) (sr : Bool) (sl : ByteArray) (hw : Ent.wf ⟨st, sc, sm, sr, sl⟩) (hl : sl.size ≤ 140737488355328) :
    Calls Tryz.prog 9 #[.agg #[v], .agg #[.string st, .int .i64 sc, .int .i64 sm, .bool sr, .string sl]] w fun e w' => ∃ v', BndR w D L ⟨st, sc, sm, sr, sl⟩ v' e w' := by
  obtain ⟨ad, cp, rfl⟩ := hv.shape'
  obtain ⟨N, hN⟩ : ∃ N, L.length = N := ⟨_, rfl⟩
  rw [hN] at hv ⊢
  obtain ⟨W1, hW1⟩ : ∃ W, w.alloc (.cells #[.slice ad N cp] 33) = W := ⟨_, rfl⟩
  obtain ⟨W2, hW2⟩ : ∃ W, W1.alloc (.cells #[.string st, .int .i64 sc, .int .i64 sm, .bool sr, .string sl] 39) = W := ⟨_, rfl⟩
  obtain ⟨W3, hW3⟩ : ∃ W, W2.alloc (.cells #[.slice none 0 0] 33) = W := ⟨_, rfl⟩
  obtain ⟨Q1, hQ1⟩ : ∃ Q, w.heap.size = Q := ⟨_, rfl⟩
  obtain ⟨Q2, hQ2⟩ : ∃ Q, W1.heap.size = Q := ⟨_, rfl⟩
  obtain ⟨Q3, hQ3⟩ : ∃ Q, W2.heap.size = Q := ⟨_, rfl⟩
  have b1 : Below w.heap.size w W1 := by rw [← hW1]; exact (Below.refl _ _).alloc (Nat.le_refl _) _
  have b2 : Below W1.heap.size W1 W2 := by rw [← hW2]; exact (Below.refl _ _).alloc (Nat.le_refl _) _
  have b3 : Below W2.heap.size W2 W3 := by rw [← hW3]; exact (Below.refl _ _).alloc (Nat.le_refl _) _
  have a1 : W1.heap[Q1]? = some (.cells #[.slice ad N cp] 33 (0, 0)) := by rw [← hW1, ← hQ1]; exact heap_alloc_new w _
  have a2 : W2.heap[Q2]? = some (.cells #[.string st, .int .i64 sc, .int .i64 sm, .bool sr, .string sl] 39 (0, 0)) := by rw [← hW2, ← hQ2]; exact heap_alloc_new W1 _
  have a3 : W3.heap[Q3]? = some (.cells #[.slice none 0 0] 33 (0, 0)) := by rw [← hW3, ← hQ3]; exact heap_alloc_new W2 _
  have A1 := hidK (kp (below_step b2 b3) a1)
  have A2 := hidK (kp b3 a2)
  have A3 := hidK a3
  have HB := hidK (below_step (below_step b1 b2) b3)
  have HS := hidK (hv.below HB.out)
  have HS0 := hidK hv
  have HNn := hidK hN
  have HD := hidK hD
  have HW := hidK hw
  have HQl : Hid (w.heap.size ≤ Q3 ∧ Q3 < W3.heap.size) := ⟨by have := b1.size; have := b2.size; omega, lt_block a3⟩
  have HIw : Hid (∀ Y, Calls Tryz.prog 31 #[.string st] Y fun e w' => e = .returned (.bool (wordB st)) ∧ Y = w') := fun Y => refIsWord_any st Y (by have h1 : st.size ≤ 140737488355328 := hw.1; unfold maxLen; omega)
  have HVl : Hid (∀ Y, Calls Tryz.prog 32 #[.agg #[.int .i64 sc, .int .i64 sm]] Y fun r w' => r = .returned (.bool (validB sc sm)) ∧ Below Y.heap.size Y w') := fun Y => rvalid_any sc sm Y
  have HWo : Hid (∀ Y, SeeE Y (.slice ad N cp) L → Calls Tryz.prog 33 #[.agg #[.slice ad N cp], .string st, .agg #[.int .i64 sc, .int .i64 sm]] Y fun e w' => ∃ v', e = .returned (.agg #[v']) ∧ EntsAt w' Y.heap.size v' (L.filter (offB st sc sm)) ∧ Below Y.heap.size Y w') := fun Y hY => rwithout_any hY hD.few st sc sm
  have c10 : W3.cell? ⟨Q1, 0, none⟩ = some (.slice ad N cp) := cell_at A1.out 0
  have c20 : W3.cell? ⟨Q2, 0, none⟩ = some (.string st) := cell_at A2.out 0
  have c30 := cell_at A3.out 0
  have f30 := free_at A3.out 0
  obtain ⟨wb, hwb⟩ : ∃ b, wordB st = b := ⟨_, rfl⟩
  obtain ⟨vb, hvb⟩ : ∃ b, validB sc sm = b := ⟨_, rfl⟩
  have HWb := hidK hwb
  have HVb := hidK hvb
  rw [hwb] at HIw
  rw [hvb] at HVl
  clear b1 b2 b3 a1 a2 a3 hv hN hD hw hwb hvb
  go_enter Tryz.func9, Tryz.ntmps9
  go_wp2_with fail
  refine (HIw.out _).mono ?_
  rintro e Y ⟨rfl, hY⟩
  subst hY
  clear hW1 hW2 hW3 hQ1 hQ2 hQ3
  cases wb with
  | false =>
    have HC : Hid (bndC D ⟨st, sc, sm, sr, sl⟩ = 73) := by show bndC _ _ = _; unfold bndC; rw [if_pos HWb.out]
    go_wp2_with fail
    refine ret_cell2 rfl rfl (two_at A3.out _) Tryz.underlying33 rfl infoTabs rfl ⟨.slice ad N cp, by rw [HC.out]; rfl, ?_, HB.out.setCell HQl.out.1 _⟩
    rw [bndL_no (by rw [HC.out]; decide)]
    exact HS0.out.below (HB.out.setCell HQl.out.1 _)
  | true =>
    have c21 : W3.cell? ⟨Q2, 1, none⟩ = some (.int .i64 sc) := cell_at A2.out 1
    have c22 : W3.cell? ⟨Q2, 2, none⟩ = some (.int .i64 sm) := cell_at A2.out 2
    have HWn : Hid (¬ wordB st = false) := by show ¬ _; rw [HWb.out]; decide
    go_wp2_with fail
    refine (HVl.out _).mono ?_
    rintro e Y ⟨rfl, hb⟩
    have HBy := hidK (below_step HB.out hb)
    have A1y := hidK (kp hb A1.out)
    have A2y := hidK (kp hb A2.out)
    have A3y := hidK (kp hb A3.out)
    have HQy : Hid (W3.heap.size ≤ Y.heap.size) := hb.size
    clear hb c10 c20 c21 c22 c30 f30
    have c10 : Y.cell? ⟨Q1, 0, none⟩ = some (.slice ad N cp) := cell_at A1y.out 0
    have c20 : Y.cell? ⟨Q2, 0, none⟩ = some (.string st) := cell_at A2y.out 0
    have c21 : Y.cell? ⟨Q2, 1, none⟩ = some (.int .i64 sc) := cell_at A2y.out 1
    have c22 : Y.cell? ⟨Q2, 2, none⟩ = some (.int .i64 sm) := cell_at A2y.out 2
    have c23 : Y.cell? ⟨Q2, 3, none⟩ = some (.bool sr) := cell_at A2y.out 3
    have c24 : Y.cell? ⟨Q2, 4, none⟩ = some (.string sl) := cell_at A2y.out 4
    have c30 := cell_at A3y.out 0
    have f30 := free_at A3y.out 0
    cases vb with
    | false =>
      have HC : Hid (bndC D ⟨st, sc, sm, sr, sl⟩ = 210) := by show bndC _ _ = _; unfold bndC; rw [if_neg HWn.out, if_pos HVb.out]
      go_wp2_with fail
      refine ret_cell2 rfl rfl (two_at A3y.out _) Tryz.underlying33 rfl infoTabs rfl ⟨.slice ad N cp, by rw [HC.out]; rfl, ?_, HBy.out.setCell HQl.out.1 _⟩
      rw [bndL_no (by rw [HC.out]; decide)]
      exact HS0.out.below (HBy.out.setCell HQl.out.1 _)
    | true =>
      have HVn : Hid (¬ validB sc sm = false) := by show ¬ _; rw [HVb.out]; decide
      by_cases hsl : 8192 < sl.size
      · have i1 : (8192 : Int) < (sl.size : Int) := by omega
        have HC : Hid (bndC D ⟨st, sc, sm, sr, sl⟩ = 2) := by show bndC _ _ = _; unfold bndC; rw [if_neg HWn.out, if_neg HVn.out, if_pos hsl]
        go_wp2_with fail
        refine ret_cell2 rfl rfl (two_at A3y.out _) Tryz.underlying33 rfl infoTabs rfl ⟨.slice ad N cp, by rw [HC.out]; rfl, ?_, HBy.out.setCell HQl.out.1 _⟩
        rw [bndL_no (by rw [HC.out]; decide)]
        exact HS0.out.below (HBy.out.setCell HQl.out.1 _)
      · have i1 : ¬ (8192 : Int) < (sl.size : Int) := by omega
        have HSl := hidK hsl
        go_wp2_with fail
        refine (HWo.out _ (HS0.out.below HBy.out)).mono ?_
        rintro e Z ⟨xv, rfl, hown, hb⟩
        obtain ⟨xa, xc, rfl⟩ := hown.slice
        obtain ⟨xn, hxn⟩ : ∃ n, (L.filter (offB st sc sm)).length = n := ⟨_, rfl⟩
        rw [hxn] at hown ⊢
        obtain ⟨Z1, hZ1⟩ : ∃ W, Z.alloc (.cells #[.slice xa xn xc] 33) = W := ⟨_, rfl⟩
        obtain ⟨Q4, hQ4⟩ : ∃ Q, Z.heap.size = Q := ⟨_, rfl⟩
        have hbz : Below Z.heap.size Z Z1 := by rw [← hZ1]; exact (Below.refl _ _).alloc (Nat.le_refl _) _
        have ha4 : Z1.heap[Q4]? = some (.cells #[.slice xa xn xc] 33 (0, 0)) := by rw [← hZ1, ← hQ4]; exact heap_alloc_new Z _
        have hbb := below_step hb hbz
        have HBz := hidK (below_step HBy.out hbb)
        have A2z := hidK (kp hbb A2y.out)
        have A3z := hidK (kp hbb A3y.out)
        have A1z := hidK (kp hbb A1y.out)
        have A4z := hidK ha4
        have HOw := hidK (hown.below hbz)
        have HOz : Hid (∀ g, (Value.slice xa xn xc).ownBlock = some g → Y.heap.size ≤ g ∧ g < Q4) := fun g hg => by
          obtain ⟨h1, cur, h2⟩ := hown.blk hg
          exact ⟨h1, by rw [← hQ4]; exact lt_block h2⟩
        have HXn := hidK hxn
        have HQz : Hid (Y.heap.size ≤ Z.heap.size ∧ Z.heap.size ≤ Z1.heap.size) := ⟨hb.size, hbz.size⟩
        have HQ4 : Hid (Q4 = Z.heap.size) := hQ4.symm
        have HRm := hidK (HD.out.room HW.out)
        clear c10 c20 c21 c22 c23 c24 c30 f30 hb hbz hbb ha4 hown hxn
        have c10 : Z1.cell? ⟨Q1, 0, none⟩ = some (.slice ad N cp) := cell_at A1z.out 0
        have c20 : Z1.cell? ⟨Q2, 0, none⟩ = some (.string st) := cell_at A2z.out 0
        have c21 : Z1.cell? ⟨Q2, 1, none⟩ = some (.int .i64 sc) := cell_at A2z.out 1
        have c22 : Z1.cell? ⟨Q2, 2, none⟩ = some (.int .i64 sm) := cell_at A2z.out 2
        have c23 : Z1.cell? ⟨Q2, 3, none⟩ = some (.bool sr) := cell_at A2z.out 3
        have c24 : Z1.cell? ⟨Q2, 4, none⟩ = some (.string sl) := cell_at A2z.out 4
        have c30 := cell_at A3z.out 0
        have f30 := free_at A3z.out 0
        have c40 := cell_at A4z.out 0
        have f40 := free_at A4z.out 0
        by_cases hfull : 200 ≤ xn
        · have i2 : (200 : Int) ≤ (xn : Int) := by omega
          have HC : Hid (bndC D ⟨st, sc, sm, sr, sl⟩ = 3) := by
            show bndC _ _ = _
            unfold bndC
            rw [if_neg HWn.out, if_neg HVn.out, if_neg HSl.out, if_pos (HRm.out.1 (by show 200 ≤ (L.filter (offB st sc sm)).length; rw [HXn.out]; exact hfull))]
          go_wp2_with fail
          refine ret_cell2 rfl rfl (two_at A3z.out _) Tryz.underlying33 rfl infoTabs rfl ⟨.slice ad N cp, by rw [HC.out]; rfl, ?_, HBz.out.setCell HQl.out.1 _⟩
          rw [bndL_no (by rw [HC.out]; decide)]
          exact HS0.out.below (HBz.out.setCell HQl.out.1 _)
        · have i2 : ¬ (200 : Int) ≤ (xn : Int) := by omega
          have HC : Hid (bndC D ⟨st, sc, sm, sr, sl⟩ = 0) := by
            show bndC _ _ = _
            unfold bndC
            rw [if_neg HWn.out, if_neg HVn.out, if_neg HSl.out, if_neg (fun q => hfull (by have h := HRm.out.2 q; rw [← HXn.out]; exact h))]
          have HLn : Hid ((L.filter (offB st sc sm)).length ≤ 200) := by show _ ≤ _; rw [HXn.out]; omega
          have HSz : Hid (Y.heap.size ≤ Z1.heap.size) := by have := HQz.out; show _ ≤ _; omega
          have n34 : ¬ Q3 = Q4 := by have h1 := HQl.out; have h2 := HQy.out; have h3 := HQz.out; have h4 := HQ4.out; omega
          have n43 : ¬ Q4 = Q3 := fun e => n34 e.symm
          have HQ4l : Hid (w.heap.size ≤ Q4) := by have h1 := HBy.out.size; have h3 := HQz.out; have h4 := HQ4.out; show _ ≤ _; omega
          have HZb : Hid (Q3 < Y.heap.size ∧ Q4 < Z1.heap.size) := ⟨by have h1 := HQl.out; have h2 := HQy.out; omega, lt_block A4z.out⟩
          go_wp2_with (at_builtin; refine wpList_append_ent _ rfl (.tmp 37) (.tmp 39) rfl Y.heap.size _ (L.filter (offB st sc sm)) rfl (HOw.out.below ((Below.refl _ _).alloc (Nat.le_refl _) _)) Z1.heap.size ⟨st, sc, sm, sr, sl⟩ rfl (heap_alloc_new Z1 _) ?x1 ?x2 ?_; (case x1 => have h1 := HLn.out; omega); (case x2 => have h1 := HSz.out; simp; omega); intro v6 w6 ho6 hg6; obtain ⟨a6, c6, rfl⟩ := ho6.slice; have HO6 := hidK ho6; have HG6 := hidK hg6; clear ho6 hg6; have HX4 := hidK ((HG6.out.block Q4 (by have h := HZb.out; simp; omega) (fun e => by have h := HOz.out _ e.symm; omega)).trans (alloc_at A4z.out _)); have HX3 := hidK ((HG6.out.block Q3 (by have h := HZb.out; have h2 := HSz.out; simp; omega) (fun e => by have h := HOz.out _ e.symm; have h2 := HZb.out; omega)).trans (alloc_at A3z.out _)); have HX6 : Hid (Below w.heap.size w w6) := ((HBz.out.alloc HBz.out.size _).grown HG6.out (by have h1 := HBz.out.size; simp; omega) (fun j hj => by have h := HOz.out _ hj; have h2 := HBy.out.size; omega)); have d40 := cell_at HX4.out 0; have g40 := free_at HX4.out 0; have d30 := cell_at HX3.out 0; have g30 := free_at HX3.out 0)
          refine ret_cell2 rfl rfl (two_at (put_other HX3.out n34 _ _) _) Tryz.underlying33 rfl infoTabs rfl ⟨.slice a6 _ c6, by rw [HC.out]; rfl, ?_, ?_⟩
          · rw [bndL_yes HC.out]
            have h := HO6.out
            rw [List.length_append, List.length_singleton] at h
            refine EntsAt.see (B := Y.heap.size) (l := L.filter (offB st sc sm) ++ [⟨st, sc, sm, sr, sl⟩]) (h.keep fun g hg => ?_)
            obtain ⟨h1, cur, h2⟩ := h.blk hg
            have h3 := HZb.out
            have n1 : g ≠ Q4 := fun e => by
              rw [e, HX4.out] at h2
              simp only [Option.some.injEq, Obj.cells.injEq] at h2
              exact absurd h2.2.1 (by decide)
            have n2 : g ≠ Q3 := by omega
            exact put_other (put_other rfl n1 _ _) n2 _ _
          · exact (HX6.out.setCell HQ4l.out _).setCell HQl.out.1 _
/-- What Unbind leaves. -/
structure UnbR (w : World) (D : DataW Unit) (L : List Ent) (x : Ent) (v' : Value) (e : Ending) (w' : World) : Prop where
  told : e = .returned (.tuple #[.agg #[v'], .int .i64 (if Maps.has D x.k then 0 else 220)])
  see : SeeE w' v' (unbL D L x)
  below : Below w.heap.size w w'
set_option maxHeartbeats 8000000 in
theorem runbind_any {w : World} {v : Value} {L : List Ent} {D : DataW Unit} (hv : SeeE w v L) (hD : Dc D L) (st : ByteArray) (sc sm : Int) (hw : Ent.wf ⟨st, sc, sm, false, ⟨#[]⟩⟩) :
    Calls Tryz.prog 12 #[.agg #[v], .string st, .agg #[.int .i64 sc, .int .i64 sm]] w fun e w' => ∃ v', UnbR w D L ⟨st, sc, sm, false, ⟨#[]⟩⟩ v' e w' := by
  obtain ⟨ad, cp, rfl⟩ := hv.shape'
  obtain ⟨N, hN⟩ : ∃ N, L.length = N := ⟨_, rfl⟩
  rw [hN] at hv ⊢
  obtain ⟨W1, hW1⟩ : ∃ W, w.alloc (.cells #[.slice ad N cp] 33) = W := ⟨_, rfl⟩
  obtain ⟨W2, hW2⟩ : ∃ W, W1.alloc (.cells #[.int .i64 sc, .int .i64 sm] 23) = W := ⟨_, rfl⟩
  obtain ⟨W3, hW3⟩ : ∃ W, W2.alloc (.cells #[.slice none 0 0] 33) = W := ⟨_, rfl⟩
  obtain ⟨Q1, hQ1⟩ : ∃ Q, w.heap.size = Q := ⟨_, rfl⟩
  obtain ⟨Q2, hQ2⟩ : ∃ Q, W1.heap.size = Q := ⟨_, rfl⟩
  obtain ⟨Q3, hQ3⟩ : ∃ Q, W2.heap.size = Q := ⟨_, rfl⟩
  have b1 : Below w.heap.size w W1 := by rw [← hW1]; exact (Below.refl _ _).alloc (Nat.le_refl _) _
  have b2 : Below W1.heap.size W1 W2 := by rw [← hW2]; exact (Below.refl _ _).alloc (Nat.le_refl _) _
  have b3 : Below W2.heap.size W2 W3 := by rw [← hW3]; exact (Below.refl _ _).alloc (Nat.le_refl _) _
  have a1 : W1.heap[Q1]? = some (.cells #[.slice ad N cp] 33 (0, 0)) := by rw [← hW1, ← hQ1]; exact heap_alloc_new w _
  have a2 : W2.heap[Q2]? = some (.cells #[.int .i64 sc, .int .i64 sm] 23 (0, 0)) := by rw [← hW2, ← hQ2]; exact heap_alloc_new W1 _
  have a3 : W3.heap[Q3]? = some (.cells #[.slice none 0 0] 33 (0, 0)) := by rw [← hW3, ← hQ3]; exact heap_alloc_new W2 _
  have A1 := hidK (kp (below_step b2 b3) a1)
  have A2 := hidK (kp b3 a2)
  have A3 := hidK a3
  have HB := hidK (below_step (below_step b1 b2) b3)
  have HS0 := hidK hv
  have HD := hidK hD
  have HQl : Hid (w.heap.size ≤ Q3 ∧ Q3 < W3.heap.size) := ⟨by have := b1.size; have := b2.size; omega, lt_block a3⟩
  have HFi := rfind_any (hv.below HB.out) hD st sc sm hw
  have HWo : Hid (∀ Y, SeeE Y (.slice ad N cp) L → Calls Tryz.prog 33 #[.agg #[.slice ad N cp], .string st, .agg #[.int .i64 sc, .int .i64 sm]] Y fun e w' => ∃ v', e = .returned (.agg #[v']) ∧ EntsAt w' Y.heap.size v' (L.filter (offB st sc sm)) ∧ Below Y.heap.size Y w') := fun Y hY => rwithout_any hY hD.few st sc sm
  have c10 : W3.cell? ⟨Q1, 0, none⟩ = some (.slice ad N cp) := cell_at A1.out 0
  have c20 : W3.cell? ⟨Q2, 0, none⟩ = some (.int .i64 sc) := cell_at A2.out 0
  have c21 : W3.cell? ⟨Q2, 1, none⟩ = some (.int .i64 sm) := cell_at A2.out 1
  clear b1 b2 b3 a1 a2 a3 hv hN hD hw
  go_enter Tryz.func12, Tryz.ntmps12
  go_wp2_with fail
  refine HFi.mono ?_
  rintro e Y ⟨⟨fs, fr, hat, rfl⟩, hb⟩
  obtain ⟨has, hhas⟩ : ∃ b, Maps.has D (slotK st.data.toList sc sm) = b := ⟨_, rfl⟩
  have HH : Hid (Maps.has D (Ent.k ⟨st, sc, sm, false, ⟨#[]⟩⟩) = has) := hhas
  rw [hhas]
  obtain ⟨⟨ft, fc, fm, fb, fl⟩, hfv⟩ : ∃ x : Ent, foundV has st sc sm fr fs = .agg #[.string x.t, .int .i64 x.c, .int .i64 x.m, .bool x.rp, .string x.ln] := by
    cases has
    · exact ⟨⟨⟨#[]⟩, 0, 0, false, ⟨#[]⟩⟩, rfl⟩
    · exact ⟨⟨st, sc, sm, fr, fs⟩, rfl⟩
  rw [hfv]
  obtain ⟨Y1, hY1⟩ : ∃ W, Y.alloc (.cells #[.string ft, .int .i64 fc, .int .i64 fm, .bool fb, .string fl] 39) = W := ⟨_, rfl⟩
  have hby : Below Y.heap.size Y Y1 := by rw [← hY1]; exact (Below.refl _ _).alloc (Nat.le_refl _) _
  have hbb := below_step hb hby
  have HBy := hidK (below_step HB.out hbb)
  have A1y := hidK (kp hbb A1.out)
  have A2y := hidK (kp hbb A2.out)
  have A3y := hidK (kp hbb A3.out)
  clear hat hhas hfv hb hby hbb HFi c10 c20 c21 hW1 hW2 hW3 hQ1 hQ2 hQ3
  have c10 : Y1.cell? ⟨Q1, 0, none⟩ = some (.slice ad N cp) := cell_at A1y.out 0
  have c20 : Y1.cell? ⟨Q2, 0, none⟩ = some (.int .i64 sc) := cell_at A2y.out 0
  have c21 : Y1.cell? ⟨Q2, 1, none⟩ = some (.int .i64 sm) := cell_at A2y.out 1
  have c30 := cell_at A3y.out 0
  have f30 := free_at A3y.out 0
  cases has with
  | false =>
    go_wp2_with fail
    refine ret_cell2 rfl rfl (two_at A3y.out _) Tryz.underlying33 rfl infoTabs rfl ⟨.slice ad N cp, by rw [HH.out]; rfl, ?_, HBy.out.setCell HQl.out.1 _⟩
    unfold unbL
    rw [HH.out]
    exact HS0.out.below (HBy.out.setCell HQl.out.1 _)
  | true =>
    go_wp2_with fail
    refine (HWo.out _ (HS0.out.below HBy.out)).mono ?_
    rintro e Z ⟨xv, rfl, hown, hb⟩
    have A3z := hidK (kp hb A3y.out)
    have HBz := hidK (below_step HBy.out hb)
    have HOw := hidK hown
    have HQy : Hid (Q3 < Y1.heap.size) := lt_block A3y.out
    clear hb hown hY1 c10 c20 c21 c30 f30
    have c30 := cell_at A3z.out 0
    have f30 := free_at A3z.out 0
    obtain ⟨xa, xc, rfl⟩ := HOw.out.slice
    go_wp2_with fail
    refine ret_cell2 rfl rfl (two_at A3z.out _) Tryz.underlying33 rfl infoTabs rfl ⟨.slice xa _ xc, by rw [HH.out]; rfl, ?_, HBz.out.setCell HQl.out.1 _⟩
    unfold unbL
    rw [HH.out]
    refine (HOw.out.keep fun g hg => ?_).see
    have h1 := (HOw.out.blk hg).1
    have h2 := HQy.out
    have n2 : g ≠ Q3 := by omega
    exact put_other rfl n2 _ _
end Go.Proofs.YtbonnjilbocldaaGreatDoor

namespace Go.Proofs.YtbonnjilbocldaaGreatDoor
open Go.RowKit
set_option linter.unusedVariables false
set_option maxRecDepth 100000

theorem infoWalkR : (Tryz.prog.info? 37).map (·.size) = some 2 := by kernel_rfl
/-- The block of a Walk that will be told. -/
theorem rwalk_new (w : World) : ∃ W Z, w.alloc (.cells #[.string ⟨#[]⟩, .int .i64 0] 37) = W ∧ w.heap.size = Z ∧ Hid (Below w.heap.size w W ∧ W.heap[Z]? = some (.cells #[.string ⟨#[]⟩, .int .i64 0] 37 (0, 0))) ∧ W.cell? ⟨Z, 0, none⟩ = some (.string ⟨#[]⟩) ∧ W.cell? ⟨Z, 1, none⟩ = some (.int .i64 0) ∧ W.frozen? ⟨Z, 0, none⟩ = false ∧ W.frozen? ⟨Z, 1, none⟩ = false :=
  ⟨_, _, rfl, rfl, ⟨(Below.refl _ _).alloc (Nat.le_refl _) _, heap_alloc_new w _⟩, cell_at (heap_alloc_new w _) 0, cell_at (heap_alloc_new w _) 1, free_at (heap_alloc_new w _) 0, free_at (heap_alloc_new w _) 1⟩
set_option maxHeartbeats 2000000 in
theorem ropen_any (tick rep : Int) (ht : (Lit.int .i64 tick).wf = true) (hr : (Lit.int .i64 rep).wf = true) (w : World) : Calls Tryz.prog 45 #[.int .i64 tick, .int .i64 rep] w fun e w' => e = .returned (openV tick rep) ∧ Below w.heap.size w w' := by
  obtain ⟨V, Z, hV, hZ, HV, z0, z1, f0, f1⟩ := rwalk_new w
  have ht2 := int_wf64 ht
  have hr2 := int_wf64 hr
  have HB : Hid (∀ v0 v1, Below w.heap.size w ((V.setCell ⟨Z, 0, none⟩ v0).setCell ⟨Z, 1, none⟩ v1) ∧ Below Z w ((V.setCell ⟨Z, 0, none⟩ v0).setCell ⟨Z, 1, none⟩ v1)) := fun v0 v1 => by
    have h := (HV.out.1.setCell (p := ⟨Z, 0, none⟩) (by simp only; omega) v0).setCell (p := ⟨Z, 1, none⟩) (by simp only; omega) v1
    refine ⟨h, ?_⟩
    rw [← hZ]
    rw [← hZ] at h
    exact h
  unfold openV
  by_cases h1 : rep < 1
  · rw [if_pos h1]
    go_enter Tryz.func45, Tryz.ntmps45
    go_wp2_with fail
    exact ret_cell1 rfl rfl (two_set HV.out.2 _ _) Tryz.underlying37 rfl infoWalkR rfl ⟨rfl, by first | exact (HB.out _ _).1 | exact (HB.out _ _).2⟩
  · rw [if_neg h1]
    have w1 : IntKind.i64.wrap (9223372036854775807 - rep) = 9223372036854775807 - rep   := wrap64_id (by omega) (by omega)
    by_cases h2 : 9223372036854775807 - rep < tick
    · rw [if_pos h2]
      go_enter Tryz.func45, Tryz.ntmps45
      go_wp2_with fail
      exact ret_cell1 rfl rfl (two_set HV.out.2 _ _) Tryz.underlying37 rfl infoWalkR rfl ⟨rfl, by first | exact (HB.out _ _).1 | exact (HB.out _ _).2⟩
    · rw [if_neg h2]
      have w2 : IntKind.i64.wrap (tick + rep) = tick + rep   := wrap64_id (by omega) (by omega)
      go_enter Tryz.func45, Tryz.ntmps45
      go_wp2_with fail
      exact ret_cell1 rfl rfl (two_set HV.out.2 _ _) Tryz.underlying37 rfl infoWalkR rfl ⟨rfl, by first | exact (HB.out _ _).1 | exact (HB.out _ _).2⟩
/-- What a binding's texts are, there or not. -/
theorem fnd_val {D : DataW Unit} {t : ByteArray} {c m : Int} {s : ByteArray} {r : Bool} (h : D.atKey (slotK t.data.toList c m) zeroD = meanD s r) :
    (∃ ft fc fm, foundV (Maps.has D (slotK t.data.toList c m)) t c m r s = .agg #[.string ft, .int .i64 fc, .int .i64 fm, .bool r, .string s]) ∧ (Maps.has D (slotK t.data.toList c m) = false → s = ⟨#[]⟩ ∧ r = false) := by
  cases q : Maps.has D (slotK t.data.toList c m)
  · have h2 := Maps.atKey_of_not_has q zeroD
    obtain ⟨rfl, rfl⟩ := meanD_inj (h.symm.trans h2)
    exact ⟨⟨⟨#[]⟩, 0, 0, rfl⟩, fun _ => ⟨rfl, rfl⟩⟩
  · exact ⟨⟨t, c, m, rfl⟩, fun e => by cases e⟩
theorem press_open {D : DataW Unit} {u p q c m tick rep : Int} {s : ByteArray} (hat : D.atKey (slotK prefixS.data.toList c m) zeroD = meanD s true) (hh : Maps.has D (slotK prefixS.data.toList c m) = true) (ht : tick ≤ u) : pressV D prefixS u p q c m tick rep = #[openV tick rep, .string s, .bool false] := by
  have h1 := getS_of hat
  have h2 : fellB D prefixS u c m tick = false := by unfold fellB; rw [h1, decide_eq_true ht]; simp
  unfold pressV insV inV
  rw [if_neg (by rintro (q | q); rw [h2] at q; cases q; exact absurd q (by decide)), h1, hh, if_pos rfl, if_pos ⟨rfl, rfl⟩]
  rfl
theorem press_fell {D : DataW Unit} {u p q c m tick rep : Int} {s : ByteArray} {r : Bool} (hat : D.atKey (slotK prefixS.data.toList c m) zeroD = meanD s r) (hu : 0 < u) (h : ¬ (tick ≤ u ∧ r = true)) : pressV D prefixS u p q c m tick rep = resV D p q c m := by
  have h1 := getS_of hat
  have h2 : fellB D prefixS u c m tick = true := by
    unfold fellB
    rw [h1, decide_eq_true ⟨rfl, hu⟩]
    by_cases ht : tick ≤ u
    · have hr : r = false := by
        cases r
        · rfl
        · exact absurd ⟨ht, rfl⟩ h
      rw [hr]
      simp
    · rw [decide_eq_false ht]
      rfl
  unfold pressV
  rw [if_pos (.inl h2)]
theorem press_empty {D : DataW Unit} {u p q c m tick rep : Int} : pressV D ⟨#[]⟩ u p q c m tick rep = resV D p q c m := by
  unfold pressV
  rw [if_pos (.inr rfl)]
theorem press_in {D : DataW Unit} {t : ByteArray} {u p q c m tick rep : Int} {s : ByteArray} {r : Bool} (hat : D.atKey (slotK t.data.toList c m) zeroD = meanD s r) (ht : t ≠ ⟨#[]⟩) (hn : ¬ (t = prefixS ∧ 0 < u)) : pressV D t u p q c m tick rep = (inV (Maps.has D (slotK t.data.toList c m)) t p q c m tick rep s r).push (.bool false) := by
  have h1 := getS_of hat
  have h2 : fellB D t u c m tick = false := by unfold fellB; rw [decide_eq_false hn]; rfl
  unfold pressV insV
  rw [if_neg (by rintro (q | q); rw [h2] at q; cases q; exact absurd q ht), h1]
/-- The blocks that Press lays. -/
structure Pq (w Y : World) (Q1 Q2 K1 K2 Z : Nat) (ad : Option Addr) (N cp : Nat) (t : ByteArray) (u p q c m : Int) : Prop where
  below : Below w.heap.size w Y
  q1 : Y.heap[Q1]? = some (.cells #[.slice ad N cp] 33 (0, 0))
  q2 : Y.heap[Q2]? = some (.cells #[.string t, .int .i64 u] 37 (0, 0))
  k1 : Y.heap[K1]? = some (.cells #[.int .i64 p, .int .i64 q] 23 (0, 0))
  k2 : Y.heap[K2]? = some (.cells #[.int .i64 c, .int .i64 m] 23 (0, 0))
  z : Y.heap[Z]? = some (.cells #[.string ⟨#[]⟩, .int .i64 0] 37 (0, 0))
  lo : w.heap.size ≤ Z ∧ w.heap.size ≤ Q2 ∧ Q2 ≠ Z
theorem Pq.more {w Y X : World} {Q1 Q2 K1 K2 Z : Nat} {ad : Option Addr} {N cp : Nat} {t : ByteArray} {u p q c m : Int} (h : Pq w Y Q1 Q2 K1 K2 Z ad N cp t u p q c m) (hb : Below Y.heap.size Y X) : Pq w X Q1 Q2 K1 K2 Z ad N cp t u p q c m :=
  ⟨below_step h.below hb, kp hb h.q1, kp hb h.q2, kp hb h.k1, kp hb h.k2, kp hb h.z, h.lo⟩
theorem kind_ne {Y : World} {a b : Nat} {x y : Array Value} {S T : TypeId} (ha : Y.heap[a]? = some (.cells x S (0, 0))) (hb : Y.heap[b]? = some (.cells y T (0, 0))) (h : S ≠ T) : a ≠ b := fun e => by
  rw [e, hb] at ha
  simp only [Option.some.injEq, Obj.cells.injEq] at ha
  exact h ha.2.1.symm
theorem Pq.rest {w Y : World} {Q1 Q2 K1 K2 Z : Nat} {ad : Option Addr} {N cp : Nat} {t : ByteArray} {u p q c m : Int} (h : Pq w Y Q1 Q2 K1 K2 Z ad N cp t u p q c m) (t' : ByteArray) (u' : Int) : Pq w ((Y.setCell ⟨Q2, 0, none⟩ (.string t')).setCell ⟨Q2, 1, none⟩ (.int .i64 u')) Q1 Q2 K1 K2 Z ad N cp t' u' p q c m := by
  have n1 := kind_ne h.q1 h.q2 (by decide)
  have n2 := kind_ne h.k1 h.q2 (by decide)
  have n3 := kind_ne h.k2 h.q2 (by decide)
  have n4 : Z ≠ Q2 := fun e => h.lo.2.2 e.symm
  exact ⟨(h.below.setCell h.lo.2.1 _).setCell h.lo.2.1 _, put_other (put_other h.q1 n1 _ _) n1 _ _, two_set h.q2 _ _, put_other (put_other h.k1 n2 _ _) n2 _ _, put_other (put_other h.k2 n3 _ _) n3 _ _, put_other (put_other h.z n4 _ _) n4 _ _, h.lo⟩
structure PrsR (w : World) (D : DataW Unit) (t : ByteArray) (u p q c m tick rep : Int) (e : Ending) (w' : World) : Prop where
  told : e = .returned (.tuple (pressV D t u p q c m tick rep))
  below : Below w.heap.size w w'
set_option maxHeartbeats 16000000 in
theorem rpress_any {w : World} {v : Value} {L : List Ent} {D : DataW Unit} (hv : SeeE w v L) (hD : Dc D L) (t : ByteArray) (u p q c m tick rep : Int) (htz : t.size ≤ 140737488355328) (hc : (Lit.int .i64 c).wf = true) (hm : (Lit.int .i64 m).wf = true) (hti : (Lit.int .i64 tick).wf = true) (hre : (Lit.int .i64 rep).wf = true) :
    Calls Tryz.prog 23 #[.agg #[v], walkV t u, .agg #[.int .i64 p, .int .i64 q], .agg #[.int .i64 c, .int .i64 m], .int .i64 tick, .int .i64 rep] w fun e w' => PrsR w D t u p q c m tick rep e w' := by
  obtain ⟨ad, cp, rfl⟩ := hv.shape'
  obtain ⟨N, hN⟩ : ∃ N, L.length = N := ⟨_, rfl⟩
  rw [hN] at hv ⊢
  obtain ⟨W1, hW1⟩ : ∃ W, w.alloc (.cells #[.slice ad N cp] 33) = W := ⟨_, rfl⟩
  obtain ⟨W2, hW2⟩ : ∃ W, W1.alloc (.cells #[.string t, .int .i64 u] 37) = W := ⟨_, rfl⟩
  obtain ⟨W3, hW3⟩ : ∃ W, W2.alloc (.cells #[.int .i64 p, .int .i64 q] 23) = W := ⟨_, rfl⟩
  obtain ⟨W4, hW4⟩ : ∃ W, W3.alloc (.cells #[.int .i64 c, .int .i64 m] 23) = W := ⟨_, rfl⟩
  obtain ⟨W5, hW5⟩ : ∃ W, W4.alloc (.cells #[.string ⟨#[]⟩, .int .i64 0] 37) = W := ⟨_, rfl⟩
  obtain ⟨Q1, hQ1⟩ : ∃ Q, w.heap.size = Q := ⟨_, rfl⟩
  obtain ⟨Q2, hQ2⟩ : ∃ Q, W1.heap.size = Q := ⟨_, rfl⟩
  obtain ⟨K1, hK1⟩ : ∃ Q, W2.heap.size = Q := ⟨_, rfl⟩
  obtain ⟨K2, hK2⟩ : ∃ Q, W3.heap.size = Q := ⟨_, rfl⟩
  obtain ⟨Z, hZ⟩ : ∃ Q, W4.heap.size = Q := ⟨_, rfl⟩
  have b1 : Below w.heap.size w W1 := by rw [← hW1]; exact (Below.refl _ _).alloc (Nat.le_refl _) _
  have b2 : Below W1.heap.size W1 W2 := by rw [← hW2]; exact (Below.refl _ _).alloc (Nat.le_refl _) _
  have b3 : Below W2.heap.size W2 W3 := by rw [← hW3]; exact (Below.refl _ _).alloc (Nat.le_refl _) _
  have b4 : Below W3.heap.size W3 W4 := by rw [← hW4]; exact (Below.refl _ _).alloc (Nat.le_refl _) _
  have b5 : Below W4.heap.size W4 W5 := by rw [← hW5]; exact (Below.refl _ _).alloc (Nat.le_refl _) _
  have a1 : W1.heap[Q1]? = some (.cells #[.slice ad N cp] 33 (0, 0)) := by rw [← hW1, ← hQ1]; exact heap_alloc_new w _
  have a2 : W2.heap[Q2]? = some (.cells #[.string t, .int .i64 u] 37 (0, 0)) := by rw [← hW2, ← hQ2]; exact heap_alloc_new W1 _
  have a3 : W3.heap[K1]? = some (.cells #[.int .i64 p, .int .i64 q] 23 (0, 0)) := by rw [← hW3, ← hK1]; exact heap_alloc_new W2 _
  have a4 : W4.heap[K2]? = some (.cells #[.int .i64 c, .int .i64 m] 23 (0, 0)) := by rw [← hW4, ← hK2]; exact heap_alloc_new W3 _
  have a5 : W5.heap[Z]? = some (.cells #[.string ⟨#[]⟩, .int .i64 0] 37 (0, 0)) := by rw [← hW5, ← hZ]; exact heap_alloc_new W4 _
  have HP : Hid (Pq w W5 Q1 Q2 K1 K2 Z ad N cp t u p q c m) := ⟨below_step (below_step (below_step (below_step b1 b2) b3) b4) b5, kp (below_step (below_step (below_step b2 b3) b4) b5) a1, kp (below_step (below_step b3 b4) b5) a2, kp (below_step b4 b5) a3, kp b5 a4, a5, by
    have := b1.size; have := b2.size; have := b3.size; have := b4.size; have := lt_block a2; omega⟩
  have HFi : Hid (∀ Y x, Below w.heap.size w Y → x.size ≤ 140737488355328 → Calls Tryz.prog 15 #[.agg #[.slice ad N cp], .string x, .agg #[.int .i64 c, .int .i64 m]] Y fun e w' => FndP Y D x c m e w') := fun Y x hY hx => rfind_any (hv.below hY) hD x c m ⟨hx, hc, hm⟩
  have HOp : Hid (∀ Y, Calls Tryz.prog 45 #[.int .i64 tick, .int .i64 rep] Y fun e w' => e = .returned (openV tick rep) ∧ Below Y.heap.size Y w') := fun Y => ropen_any tick rep hti hre Y
  obtain ⟨oa, ou, hov⟩ : ∃ a x, openV tick rep = .agg #[.string a, .int .i64 x] := open_two tick rep
  have HOv := hidK hov
  rw [hov] at HOp
  have d10 : W5.cell? ⟨Q1, 0, none⟩ = some (.slice ad N cp) := cell_at HP.out.q1 0
  have d20 : W5.cell? ⟨Q2, 0, none⟩ = some (.string t) := cell_at HP.out.q2 0
  have d40 : W5.cell? ⟨K2, 0, none⟩ = some (.int .i64 c) := cell_at HP.out.k2 0
  have d41 : W5.cell? ⟨K2, 1, none⟩ = some (.int .i64 m) := cell_at HP.out.k2 1
  have HFt := HFi.out W5 t HP.out.below htz
  unfold walkV
  clear b1 b2 b3 b4 b5 a1 a2 a3 a4 a5 hv hN hD hc hm hti hre hov htz
  go_enter Tryz.func23, Tryz.ntmps23
  go_wp2_with fail
  refine HFt.mono ?_
  rintro e Y ⟨⟨s, r, hat, rfl⟩, hb⟩
  obtain ⟨⟨ft, fc, fm, hfv⟩, hab⟩ := fnd_val hat
  rw [hfv]
  have HAt := hidK hat
  have HAb := hidK hab
  obtain ⟨has, hhas⟩ : ∃ b, Maps.has D (slotK t.data.toList c m) = b := ⟨_, rfl⟩
  have HH := hidK hhas
  rw [hhas]
  obtain ⟨B, hB⟩ : ∃ B, Y.heap.size = B := ⟨_, rfl⟩
  obtain ⟨Y1, hY1⟩ : ∃ W, Y.alloc (.cells #[.string ft, .int .i64 fc, .int .i64 fm, .bool r, .string s] 39) = W := ⟨_, rfl⟩
  have hby : Below Y.heap.size Y Y1 := by rw [← hY1]; exact (Below.refl _ _).alloc (Nat.le_refl _) _
  have hm1 : Y1.heap[B]? = some (.cells #[.string ft, .int .i64 fc, .int .i64 fm, .bool r, .string s] 39 (0, 0)) := by rw [← hY1, ← hB]; exact heap_alloc_new Y _
  have HP1 := hidK (HP.out.more (below_step hb hby))
  have HM1 := hidK hm1
  have HBl : Hid (w.heap.size ≤ B) := by have h1 := HP.out.below.size; have h2 := hb.size; show _ ≤ _; omega
  clear hat hab hhas hfv hb hby hm1 HFt d10 d20 d40 d41 hW1 hW2 hW3 hW4 hW5 hQ1 hQ2 hK1 hK2 hZ
  have d10 : Y1.cell? ⟨Q1, 0, none⟩ = some (.slice ad N cp) := cell_at HP1.out.q1 0
  have d20 : Y1.cell? ⟨Q2, 0, none⟩ = some (.string t) := cell_at HP1.out.q2 0
  have d21 : Y1.cell? ⟨Q2, 1, none⟩ = some (.int .i64 u) := cell_at HP1.out.q2 1
  have d30 : Y1.cell? ⟨K1, 0, none⟩ = some (.int .i64 p) := cell_at HP1.out.k1 0
  have d31 : Y1.cell? ⟨K1, 1, none⟩ = some (.int .i64 q) := cell_at HP1.out.k1 1
  have d40 : Y1.cell? ⟨K2, 0, none⟩ = some (.int .i64 c) := cell_at HP1.out.k2 0
  have d41 : Y1.cell? ⟨K2, 1, none⟩ = some (.int .i64 m) := cell_at HP1.out.k2 1
  have d50 : Y1.cell? ⟨Z, 0, none⟩ = some (.string ⟨#[]⟩) := cell_at HP1.out.z 0
  have d51 : Y1.cell? ⟨Z, 1, none⟩ = some (.int .i64 0) := cell_at HP1.out.z 1
  have g50 := free_at HP1.out.z 0
  have g51 := free_at HP1.out.z 1
  have g20 := free_at HP1.out.q2 0
  have g21 := free_at HP1.out.q2 1
  have d60 := cell_at HM1.out 0
  have d61 := cell_at HM1.out 1
  have d62 := cell_at HM1.out 2
  have d63 := cell_at HM1.out 3
  have d64 := cell_at HM1.out 4
  have g60 := free_at HM1.out 0
  have g61 := free_at HM1.out 1
  have g62 := free_at HM1.out 2
  have g63 := free_at HM1.out 3
  have g64 := free_at HM1.out 4
  obtain ⟨cA, hcA⟩ : ∃ x, decide (t = prefixS ∧ 0 < u) = x := ⟨_, rfl⟩
  have HcA := hidK hcA
  clear hcA
  go_upto_region 2 with fail
  go_cut [32] (fun v X => v = .bool cA ∧ Y1 = X)
  case first =>
    by_cases c1 : t = prefixS
    · subst c1
      have d20p : Y1.cell? ⟨Q2, 0, none⟩ = some (.string ⟨#[112, 114, 101, 102, 105, 120]⟩) := d20
      clear d20
      by_cases c2 : 0 < u
      · go_wp2_with fail
        go_meet
        case rel => exact ⟨by rw [← HcA.out]; simp [c2], rfl⟩
      · go_wp2_with fail
        go_meet
        case rel => exact ⟨by rw [← HcA.out]; simp [c2], rfl⟩
    · have c2 := pre_no c1
      go_wp2_with fail
      go_meet
      case rel => exact ⟨by rw [← HcA.out]; simp [c1], rfl⟩
  case rest =>
    obtain ⟨rfl, rfl⟩ := hcut
    cases cA with
    | true =>
      have hA : t = prefixS ∧ 0 < u := by have h := HcA.out; simpa using h
      obtain ⟨rfl, hu⟩ := hA
      have HU : Hid (0 < u) := hu
      obtain ⟨cB, hcB⟩ : ∃ x, (decide (tick ≤ u) && has && r) = x := ⟨_, rfl⟩
      have HcB := hidK hcB
      clear hcB hu
      go_upto_region 3 with fail
      go_cut [43] (fun v X => v = .bool cB ∧ Y1 = X)
      case first =>
        by_cases c2 : tick ≤ u
        · cases has with
          | true =>
            go_wp2_with fail
            go_meet
            case rel => exact ⟨by rw [← HcB.out]; simp [c2], rfl⟩
          | false =>
            go_wp2_with fail
            go_meet
            case rel => exact ⟨by rw [← HcB.out]; simp, rfl⟩
        · go_wp2_with fail
          go_meet
          case rel => exact ⟨by rw [← HcB.out, decide_eq_false (by omega)]; rfl, rfl⟩
      case rest =>
        obtain ⟨rfl, rfl⟩ := hcut
        cases cB with
        | true =>
          have hB : (tick ≤ u ∧ has = true) ∧ r = true := by have h := HcB.out; simpa using h
          replace hB := hidK hB
          go_wp2_with fail
          go_region_with (go_at_call 45; refine (HOp.out _).mono ?_; rintro e X ⟨rfl, hbx⟩; have hbz : Below Y1.heap.size Y1 X := below_step (by repeat (first | exact Below.refl _ _ | apply Below.drew)) hbx; have HPx := hidK (HP1.out.more hbz); have HMx := hidK (kp hbz HM1.out); clear hbx hbz; have x64 := cell_at HMx.out 4; have x50 := cell_at HPx.out.z 0; have x51 := cell_at HPx.out.z 1; have y50 := free_at HPx.out.z 0; have y51 := free_at HPx.out.z 1)
          all_goals (
            go_wp2_with fail
            refine ret_cell3 rfl rfl (two_set HPx.out.z _ _) Tryz.underlying37 rfl infoWalkR rfl ⟨?_, by first | exact (HPx.out.below.setCell HPx.out.lo.1 _).setCell HPx.out.lo.1 _ | exact Below.drew ((HPx.out.below.setCell HPx.out.lo.1 _).setCell HPx.out.lo.1 _)⟩
            (obtain ⟨⟨h1, h2⟩, h3⟩ := hB.out; rw [press_open (s := s) (by rw [← h3]; exact HAt.out) (by rw [HH.out]; exact h2) h1, HOv.out]; rfl))
        | false =>
          have hB : Hid (¬ (tick ≤ u ∧ r = true)) := by
            have h := HcB.out
            have hab := HAb.out
            rintro ⟨q1, q2⟩
            rw [HH.out] at hab
            cases has
            · rw [(hab rfl).2] at q2; cases q2
            · rw [q2, decide_eq_true q1] at h; cases h
          have HRs := hidK (press_fell (p := p) (q := q) (rep := rep) HAt.out HU.out hB.out)
          obtain ⟨Y2, hY2⟩ : ∃ W, (Y1.setCell ⟨Q2, 0, none⟩ (.string ⟨#[]⟩)).setCell ⟨Q2, 1, none⟩ (.int .i64 0) = W := ⟨_, rfl⟩
          have HP2 : Hid (Pq w Y2 Q1 Q2 K1 K2 Z ad N cp ⟨#[]⟩ 0 p q c m) := by show Pq _ _ _ _ _ _ _ _ _ _ _ _ _ _ _ _; rw [← hY2]; exact HP1.out.rest ⟨#[]⟩ 0
          have HM2 : Hid (Y2.heap[B]? = some (.cells #[.string ft, .int .i64 fc, .int .i64 fm, .bool r, .string s] 39 (0, 0))) := by
            have nz : B ≠ Q2 := fun e => kind_ne HP1.out.q2 HM1.out (by decide) e.symm
            show _ = _
            rw [← hY2]
            exact put_other (put_other HM1.out nz _ _) nz _ _
          clear hY1
          go_upto_region 6 with fail
          obtain ⟨cC, hcC⟩ : ∃ x, decide (c = p ∧ m = q) = x := ⟨_, rfl⟩
          have HcC := hidK hcC
          clear hcC
          clear d10 d20 d21 d30 d31 d40 d41 d50 d51 g50 g51 g20 g21 d60 d61 d62 d63 d64 g60 g61 g62 g63 g64
          have d10 : Y2.cell? ⟨Q1, 0, none⟩ = some (.slice ad N cp) := cell_at HP2.out.q1 0
          have d20 : Y2.cell? ⟨Q2, 0, none⟩ = some (.string ⟨#[]⟩) := cell_at HP2.out.q2 0
          have d21 : Y2.cell? ⟨Q2, 1, none⟩ = some (.int .i64 0) := cell_at HP2.out.q2 1
          have d30 : Y2.cell? ⟨K1, 0, none⟩ = some (.int .i64 p) := cell_at HP2.out.k1 0
          have d31 : Y2.cell? ⟨K1, 1, none⟩ = some (.int .i64 q) := cell_at HP2.out.k1 1
          have d40 : Y2.cell? ⟨K2, 0, none⟩ = some (.int .i64 c) := cell_at HP2.out.k2 0
          have d41 : Y2.cell? ⟨K2, 1, none⟩ = some (.int .i64 m) := cell_at HP2.out.k2 1
          have d50 : Y2.cell? ⟨Z, 0, none⟩ = some (.string ⟨#[]⟩) := cell_at HP2.out.z 0
          have d51 : Y2.cell? ⟨Z, 1, none⟩ = some (.int .i64 0) := cell_at HP2.out.z 1
          have g50 := free_at HP2.out.z 0
          have g51 := free_at HP2.out.z 1
          have g20 := free_at HP2.out.q2 0
          have g21 := free_at HP2.out.q2 1
          have d60 := cell_at HM2.out 0
          have d61 := cell_at HM2.out 1
          have d62 := cell_at HM2.out 2
          have d63 := cell_at HM2.out 3
          have d64 := cell_at HM2.out 4
          have g60 := free_at HM2.out 0
          have g61 := free_at HM2.out 1
          have g62 := free_at HM2.out 2
          have g63 := free_at HM2.out 3
          have g64 := free_at HM2.out 4
          go_upto_region 14 with fail
          go_cut [87] (fun v X => v = .bool cC ∧ Y2 = X)
          case first =>
            by_cases c1 : c = p
            · subst c1
              by_cases c2 : m = q
              · subst c2
                go_wp2_with fail
                go_meet
                case rel => exact ⟨by rw [← HcC.out]; simp, rfl⟩
              · have c3 : (m == q) = false := by simpa using c2
                go_wp2_with fail
                go_meet
                case rel => exact ⟨by rw [← HcC.out]; simp [c2], rfl⟩
            · have c3 : (c == p) = false := by simpa using c1
              go_wp2_with fail
              go_meet
              case rel => exact ⟨by rw [← HcC.out]; simp [c1], rfl⟩
          case rest =>
            obtain ⟨rfl, rfl⟩ := hcut
            cases cC with
            | true =>
              have hc1 : c = p ∧ m = q := by have h := HcC.out; simpa using h
              replace hc1 := hidK hc1
              go_wp2_with fail
              refine ret_cell3 rfl rfl (two_set HP2.out.z _ _) Tryz.underlying37 rfl infoWalkR rfl ⟨?_, (HP2.out.below.setCell HP2.out.lo.1 _).setCell HP2.out.lo.1 _⟩
              rw [HRs.out]
              unfold resV
              rw [if_pos hc1.out]
              rfl
            | false =>
              have hc1 : ¬ (c = p ∧ m = q) := by have h := HcC.out; simpa using h
              replace hc1 := hidK hc1
              have HFr := HFi.out Y2 rootS HP2.out.below (by decide)
              unfold rootS at HFr
              go_wp2_with fail
              refine HFr.mono ?_
              rintro e X ⟨⟨s2, r2, hat2, rfl⟩, hbx⟩
              obtain ⟨⟨gt, gc, gm, hgv⟩, hab2⟩ := fnd_val (t := ⟨#[114, 111, 111, 116]⟩) hat2
              rw [hgv]
              have HA2 := hidK (getS_of hat2)
              have HB2 := hidK hab2
              obtain ⟨h2, hh2⟩ : ∃ b, Maps.has D (slotK (ByteArray.mk #[114, 111, 111, 116]).data.toList c m) = b := ⟨_, rfl⟩
              have HH2 := hidK hh2
              rw [hh2]
              have HPx := hidK (HP2.out.more hbx)
              have HMx := hidK (kp hbx HM2.out)
              clear hat2 hab2 hgv hh2 hbx HFr
              clear d10 d20 d21 d30 d31 d40 d41 d50 d51 g50 g51 g20 g21 d60 d61 d62 d63 d64 g60 g61 g62 g63 g64
              have d10 : X.cell? ⟨Q1, 0, none⟩ = some (.slice ad N cp) := cell_at HPx.out.q1 0
              have d20 : X.cell? ⟨Q2, 0, none⟩ = some (.string ⟨#[]⟩) := cell_at HPx.out.q2 0
              have d21 : X.cell? ⟨Q2, 1, none⟩ = some (.int .i64 0) := cell_at HPx.out.q2 1
              have d30 : X.cell? ⟨K1, 0, none⟩ = some (.int .i64 p) := cell_at HPx.out.k1 0
              have d31 : X.cell? ⟨K1, 1, none⟩ = some (.int .i64 q) := cell_at HPx.out.k1 1
              have d40 : X.cell? ⟨K2, 0, none⟩ = some (.int .i64 c) := cell_at HPx.out.k2 0
              have d41 : X.cell? ⟨K2, 1, none⟩ = some (.int .i64 m) := cell_at HPx.out.k2 1
              have d50 : X.cell? ⟨Z, 0, none⟩ = some (.string ⟨#[]⟩) := cell_at HPx.out.z 0
              have d51 : X.cell? ⟨Z, 1, none⟩ = some (.int .i64 0) := cell_at HPx.out.z 1
              have g50 := free_at HPx.out.z 0
              have g51 := free_at HPx.out.z 1
              have g20 := free_at HPx.out.q2 0
              have g21 := free_at HPx.out.q2 1
              have d60 := cell_at HMx.out 0
              have d61 := cell_at HMx.out 1
              have d62 := cell_at HMx.out 2
              have d63 := cell_at HMx.out 3
              have d64 := cell_at HMx.out 4
              have g60 := free_at HMx.out 0
              have g61 := free_at HMx.out 1
              have g62 := free_at HMx.out 2
              have g63 := free_at HMx.out 3
              have g64 := free_at HMx.out 4
              obtain ⟨X2, hX2⟩ : ∃ W, ((((X.setCell ⟨B, 0, none⟩ (.string gt)).setCell ⟨B, 1, none⟩ (.int .i64 gc)).setCell ⟨B, 2, none⟩ (.int .i64 gm)).setCell ⟨B, 3, none⟩ (.bool r2)).setCell ⟨B, 4, none⟩ (.string s2) = W := ⟨_, rfl⟩
              have HPz : Hid (X2.heap[Z]? = some (.cells #[.string ⟨#[]⟩, .int .i64 0] 37 (0, 0)) ∧ X2.heap[B]? = some (.cells #[.string gt, .int .i64 gc, .int .i64 gm, .bool r2, .string s2] 39 (0, 0)) ∧ Below w.heap.size w X2) := by
                have nz := kind_ne HPx.out.z HMx.out (by decide)
                rw [← hX2]
                exact ⟨put_other (put_other (put_other (put_other (put_other HPx.out.z nz _ _) nz _ _) nz _ _) nz _ _) nz _ _, five_set HMx.out _ _ _ _ _, (((((HPx.out.below.setCell HBl.out _).setCell HBl.out _).setCell HBl.out _).setCell HBl.out _).setCell HBl.out _)⟩
              have y50 := cell_at HPz.out.1 0
              have y51 := cell_at HPz.out.1 1
              have z50 := free_at HPz.out.1 0
              have z51 := free_at HPz.out.1 1
              have y64 := cell_at HPz.out.2.1 4
              have HLo : Hid (w.heap.size ≤ Z) := HPx.out.lo.1
              cases h2 with
              | false =>
                go_wp2_with fail
                refine ret_cell3 rfl rfl (two_set HPz.out.1 _ _) Tryz.underlying37 rfl infoWalkR rfl ⟨?_, (HPz.out.2.2.setCell HLo.out _).setCell HLo.out _⟩
                rw [HRs.out]
                unfold resV rootS
                rw [if_neg hc1.out, HH2.out]
                rfl
              | true =>
                go_wp2_with fail
                go_region
                all_goals (
                  go_wp2_with fail
                  refine ret_cell3 rfl rfl (two_set HPz.out.1 _ _) Tryz.underlying37 rfl infoWalkR rfl ⟨?_, Below.drew ((HPz.out.2.2.setCell HLo.out _).setCell HLo.out _)⟩
                  rw [HRs.out]
                  unfold resV rootS
                  rw [if_neg hc1.out, HH2.out, HA2.out]
                  rfl)
    | false =>
      have hA : ¬ (t = prefixS ∧ 0 < u) := by have h := HcA.out; simpa using h
      replace hA := hidK hA
      by_cases t0 : t = ⟨#[]⟩
      · subst t0
        have HRs := hidK (press_empty (D := D) (u := u) (p := p) (q := q) (c := c) (m := m) (tick := tick) (rep := rep))
        clear hY1
        obtain ⟨cC, hcC⟩ : ∃ x, decide (c = p ∧ m = q) = x := ⟨_, rfl⟩
        have HcC := hidK hcC
        clear hcC
        go_upto_region 14 with fail
        go_cut [87] (fun v X => v = .bool cC ∧ Y1 = X)
        case first =>
          by_cases c1 : c = p
          · subst c1
            by_cases c2 : m = q
            · subst c2
              go_wp2_with fail
              go_meet
              case rel => exact ⟨by rw [← HcC.out]; simp, rfl⟩
            · have c3 : (m == q) = false := by simpa using c2
              go_wp2_with fail
              go_meet
              case rel => exact ⟨by rw [← HcC.out]; simp [c2], rfl⟩
          · have c3 : (c == p) = false := by simpa using c1
            go_wp2_with fail
            go_meet
            case rel => exact ⟨by rw [← HcC.out]; simp [c1], rfl⟩
        case rest =>
          obtain ⟨rfl, rfl⟩ := hcut
          cases cC with
          | true =>
            have hc1 : c = p ∧ m = q := by have h := HcC.out; simpa using h
            replace hc1 := hidK hc1
            go_wp2_with fail
            refine ret_cell3 rfl rfl (two_set HP1.out.z _ _) Tryz.underlying37 rfl infoWalkR rfl ⟨?_, (HP1.out.below.setCell HP1.out.lo.1 _).setCell HP1.out.lo.1 _⟩
            rw [HRs.out]
            unfold resV
            rw [if_pos hc1.out]
            rfl
          | false =>
            have hc1 : ¬ (c = p ∧ m = q) := by have h := HcC.out; simpa using h
            replace hc1 := hidK hc1
            have HFr := HFi.out Y1 rootS HP1.out.below (by decide)
            unfold rootS at HFr
            go_wp2_with fail
            refine HFr.mono ?_
            rintro e X ⟨⟨s2, r2, hat2, rfl⟩, hbx⟩
            obtain ⟨⟨gt, gc, gm, hgv⟩, hab2⟩ := fnd_val (t := ⟨#[114, 111, 111, 116]⟩) hat2
            rw [hgv]
            have HA2 := hidK (getS_of hat2)
            have HB2 := hidK hab2
            obtain ⟨h2, hh2⟩ : ∃ b, Maps.has D (slotK (ByteArray.mk #[114, 111, 111, 116]).data.toList c m) = b := ⟨_, rfl⟩
            have HH2 := hidK hh2
            rw [hh2]
            have HPx := hidK (HP1.out.more hbx)
            have HMx := hidK (kp hbx HM1.out)
            clear hat2 hab2 hgv hh2 hbx HFr
            clear d10 d20 d21 d30 d31 d40 d41 d50 d51 g50 g51 g20 g21 d60 d61 d62 d63 d64 g60 g61 g62 g63 g64
            have d10 : X.cell? ⟨Q1, 0, none⟩ = some (.slice ad N cp) := cell_at HPx.out.q1 0
            have d20 : X.cell? ⟨Q2, 0, none⟩ = some (.string ⟨#[]⟩) := cell_at HPx.out.q2 0
            have d21 : X.cell? ⟨Q2, 1, none⟩ = some (.int .i64 u) := cell_at HPx.out.q2 1
            have d30 : X.cell? ⟨K1, 0, none⟩ = some (.int .i64 p) := cell_at HPx.out.k1 0
            have d31 : X.cell? ⟨K1, 1, none⟩ = some (.int .i64 q) := cell_at HPx.out.k1 1
            have d40 : X.cell? ⟨K2, 0, none⟩ = some (.int .i64 c) := cell_at HPx.out.k2 0
            have d41 : X.cell? ⟨K2, 1, none⟩ = some (.int .i64 m) := cell_at HPx.out.k2 1
            have d50 : X.cell? ⟨Z, 0, none⟩ = some (.string ⟨#[]⟩) := cell_at HPx.out.z 0
            have d51 : X.cell? ⟨Z, 1, none⟩ = some (.int .i64 0) := cell_at HPx.out.z 1
            have g50 := free_at HPx.out.z 0
            have g51 := free_at HPx.out.z 1
            have g20 := free_at HPx.out.q2 0
            have g21 := free_at HPx.out.q2 1
            have d60 := cell_at HMx.out 0
            have d61 := cell_at HMx.out 1
            have d62 := cell_at HMx.out 2
            have d63 := cell_at HMx.out 3
            have d64 := cell_at HMx.out 4
            have g60 := free_at HMx.out 0
            have g61 := free_at HMx.out 1
            have g62 := free_at HMx.out 2
            have g63 := free_at HMx.out 3
            have g64 := free_at HMx.out 4
            obtain ⟨X2, hX2⟩ : ∃ W, ((((X.setCell ⟨B, 0, none⟩ (.string gt)).setCell ⟨B, 1, none⟩ (.int .i64 gc)).setCell ⟨B, 2, none⟩ (.int .i64 gm)).setCell ⟨B, 3, none⟩ (.bool r2)).setCell ⟨B, 4, none⟩ (.string s2) = W := ⟨_, rfl⟩
            have HPz : Hid (X2.heap[Z]? = some (.cells #[.string ⟨#[]⟩, .int .i64 0] 37 (0, 0)) ∧ X2.heap[B]? = some (.cells #[.string gt, .int .i64 gc, .int .i64 gm, .bool r2, .string s2] 39 (0, 0)) ∧ Below w.heap.size w X2) := by
              have nz := kind_ne HPx.out.z HMx.out (by decide)
              rw [← hX2]
              exact ⟨put_other (put_other (put_other (put_other (put_other HPx.out.z nz _ _) nz _ _) nz _ _) nz _ _) nz _ _, five_set HMx.out _ _ _ _ _, (((((HPx.out.below.setCell HBl.out _).setCell HBl.out _).setCell HBl.out _).setCell HBl.out _).setCell HBl.out _)⟩
            have y50 := cell_at HPz.out.1 0
            have y51 := cell_at HPz.out.1 1
            have z50 := free_at HPz.out.1 0
            have z51 := free_at HPz.out.1 1
            have y64 := cell_at HPz.out.2.1 4
            have HLo : Hid (w.heap.size ≤ Z) := HPx.out.lo.1
            cases h2 with
            | false =>
              go_wp2_with fail
              refine ret_cell3 rfl rfl (two_set HPz.out.1 _ _) Tryz.underlying37 rfl infoWalkR rfl ⟨?_, (HPz.out.2.2.setCell HLo.out _).setCell HLo.out _⟩
              rw [HRs.out]
              unfold resV rootS
              rw [if_neg hc1.out, HH2.out]
              rfl
            | true =>
              go_wp2_with fail
              go_region
              all_goals (
                go_wp2_with fail
                refine ret_cell3 rfl rfl (two_set HPz.out.1 _ _) Tryz.underlying37 rfl infoWalkR rfl ⟨?_, Below.drew ((HPz.out.2.2.setCell HLo.out _).setCell HLo.out _)⟩
                rw [HRs.out]
                unfold resV rootS
                rw [if_neg hc1.out, HH2.out, HA2.out]
                rfl)
      · have HT0 := hidK t0
        have n0 := nil_no t0
        have n01 := n0.1
        have n02 := n0.2.1
        have n03 := n0.2.2
        have HRs := hidK (press_in (p := p) (q := q) (tick := tick) (rep := rep) HAt.out t0 hA.out)
        clear n0 t0 hY1
        obtain ⟨cD, hcD⟩ : ∃ x, (has && r && decide (t = prefixS)) = x := ⟨_, rfl⟩
        have HcD := hidK hcD
        clear hcD
        go_upto_region 7 with fail
        go_cut [53] (fun v X => v = .bool cD ∧ Y1 = X)
        case first =>
          cases has with
          | false =>
            go_wp2_with fail
            go_meet
            case rel => exact ⟨by rw [← HcD.out]; simp, rfl⟩
          | true =>
            cases r with
            | false =>
              go_wp2_with fail
              go_meet
              case rel => exact ⟨by rw [← HcD.out]; simp, rfl⟩
            | true =>
              by_cases c1 : t = prefixS
              · subst c1
                have d20p : Y1.cell? ⟨Q2, 0, none⟩ = some (.string ⟨#[112, 114, 101, 102, 105, 120]⟩) := d20
                clear d20 n01 n02 n03
                go_wp2_with fail
                go_meet
                case rel => exact ⟨by rw [← HcD.out]; simp, rfl⟩
              · have c2 := pre_no c1
                go_wp2_with fail
                go_meet
                case rel => exact ⟨by rw [← HcD.out]; simp [c1], rfl⟩
        case rest =>
          obtain ⟨rfl, rfl⟩ := hcut
          cases cD with
          | true =>
            have hB : (has = true ∧ r = true) ∧ t = prefixS := by have h := HcD.out; simpa using h
            replace hB := hidK hB
            go_wp2_with fail
            go_region_with (go_at_call 45; refine (HOp.out _).mono ?_; rintro e X ⟨rfl, hbx⟩; have hbz : Below Y1.heap.size Y1 X := below_step (by repeat (first | exact Below.refl _ _ | apply Below.drew)) hbx; have HPx := hidK (HP1.out.more hbz); have HMx := hidK (kp hbz HM1.out); clear hbx hbz; have x64 := cell_at HMx.out 4; have x50 := cell_at HPx.out.z 0; have x51 := cell_at HPx.out.z 1; have y50 := free_at HPx.out.z 0; have y51 := free_at HPx.out.z 1)
            all_goals (
              go_wp2_with fail
              refine ret_cell3 rfl rfl (two_set HPx.out.z _ _) Tryz.underlying37 rfl infoWalkR rfl ⟨?_, by first | exact (HPx.out.below.setCell HPx.out.lo.1 _).setCell HPx.out.lo.1 _ | exact Below.drew ((HPx.out.below.setCell HPx.out.lo.1 _).setCell HPx.out.lo.1 _)⟩
              (obtain ⟨⟨h1, h2⟩, h3⟩ := hB.out; rw [HRs.out, HH.out]; unfold inV; rw [if_pos h1, if_pos ⟨h2, h3⟩, HOv.out]; rfl))
          | false =>
            have hB : ¬ (has = true ∧ r = true ∧ t = prefixS) := by
              have h := HcD.out
              rintro ⟨h1, h2, h3⟩
              rw [h1, h2, decide_eq_true h3] at h
              cases h
            replace hB := hidK hB
            cases has with
            | true =>
              go_wp2_with fail
              go_region
              all_goals (
                go_wp2_with fail
                refine ret_cell3 rfl rfl (two_set HP1.out.z _ _) Tryz.underlying37 rfl infoWalkR rfl ⟨?_, by first | exact (HP1.out.below.setCell HP1.out.lo.1 _).setCell HP1.out.lo.1 _ | exact Below.drew ((HP1.out.below.setCell HP1.out.lo.1 _).setCell HP1.out.lo.1 _)⟩
                rw [HRs.out, HH.out]
                unfold inV
                rw [if_pos rfl, if_neg (fun h => hB.out (by first | exact ⟨rfl, h⟩ | exact ⟨trivial, h⟩))]
                rfl)
            | false =>
              obtain ⟨cE, hcE⟩ : ∃ x, decide (t = prefixS ∧ c = p ∧ m = q) = x := ⟨_, rfl⟩
              have HcE := hidK hcE
              clear hcE
              go_upto_region 11 with fail
              go_cut [74] (fun v X => v = .bool cE ∧ Y1 = X)
              case first =>
                by_cases c1 : t = prefixS
                · subst c1
                  have d20p : Y1.cell? ⟨Q2, 0, none⟩ = some (.string ⟨#[112, 114, 101, 102, 105, 120]⟩) := d20
                  clear d20 n01 n02 n03
                  by_cases c2 : c = p
                  · subst c2
                    by_cases c3 : m = q
                    · subst c3
                      go_wp2_with fail
                      go_meet
                      case rel => exact ⟨by rw [← HcE.out]; simp, rfl⟩
                    · have c4 : (m == q) = false := by simpa using c3
                      go_wp2_with fail
                      go_meet
                      case rel => exact ⟨by rw [← HcE.out]; simp [c3], rfl⟩
                  · have c4 : (c == p) = false := by simpa using c2
                    go_wp2_with fail
                    go_meet
                    case rel => exact ⟨by rw [← HcE.out]; simp [c2], rfl⟩
                · have c2 := pre_no c1
                  go_wp2_with fail
                  go_meet
                  case rel => exact ⟨by rw [← HcE.out]; simp [c1], rfl⟩
              case rest =>
                obtain ⟨rfl, rfl⟩ := hcut
                cases cE with
                | true =>
                  have hE : t = prefixS ∧ c = p ∧ m = q := by have h := HcE.out; simpa using h
                  replace hE := hidK hE
                  go_wp2_with fail
                  refine ret_cell3 rfl rfl (two_set HP1.out.z _ _) Tryz.underlying37 rfl infoWalkR rfl ⟨?_, (HP1.out.below.setCell HP1.out.lo.1 _).setCell HP1.out.lo.1 _⟩
                  rw [HRs.out, HH.out]
                  unfold inV
                  rw [if_neg (by decide), if_pos hE.out]
                  rfl
                | false =>
                  have hE : ¬ (t = prefixS ∧ c = p ∧ m = q) := by have h := HcE.out; simpa using h
                  replace hE := hidK hE
                  go_wp2_with fail
                  refine ret_cell3 rfl rfl (two_set HP1.out.z _ _) Tryz.underlying37 rfl infoWalkR rfl ⟨?_, (HP1.out.below.setCell HP1.out.lo.1 _).setCell HP1.out.lo.1 _⟩
                  rw [HRs.out, HH.out]
                  unfold inV
                  rw [if_neg (by decide), if_neg hE.out]
                  rfl
end Go.Proofs.YtbonnjilbocldaaGreatDoor
