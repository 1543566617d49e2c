/-
  The law's own: does a new screen tell of itself what the document says?
-/
import Derived.Test.YtklonlgmifgckaaGreatDoorVRefL
import Derived.Test.YtklonlgmifgckaaGreatDoorVRefP
import Derived.Test.YtklonlgmifgckaaGreatDoorVTell
import Derived.Test.YtklonlgmifgckaaGreatDoorVWork
namespace Go.Proofs.YtklonlgmifgckaaGreatDoor
open Go.RowKit
set_option linter.unusedVariables false
set_option maxRecDepth 100000

/-- A new screen of the program. -/
structure FrP (w : World) (nw nh lim b G T : Nat) (rs : List (Nat × List Gl)) : Prop where
  at_ : ScAt w b (newSc nw nh lim G T)
  len : rs.length = nh
  rows : RowsAt w G rs 0
  alike : Alike nw ⟨32, 1, 0, 0, 0⟩ rs
theorem FrP.more {w w' : World} {nw nh lim b G T : Nat} {rs : List (Nat × List Gl)} (h : FrP w nw nh lim b G T rs) (hb : Below w.heap.size w w') : FrP w' nw nh lim b G T rs := ⟨h.at_.below hb, h.len, h.rows.below hb, h.alike⟩
theorem flat_alike {rs : List (Nat × List Gl)} {n : Nat} {x : Gl} (h : Alike n x rs) : flatR rs = List.replicate (rs.length * n) x := by
  induction rs with
  | nil => simp [flatR]
  | cons r rs ih =>
    have h9 : flatR (r :: rs) = r.2 ++ flatR rs := rfl
    rw [h9, ih (fun r hr => h r (by simp [hr])), h r (by simp), List.replicate_append_replicate, List.length_cons]
    congr 1
    rw [Nat.add_mul]
    omega
/-- What a new screen shows. -/
theorem picture_new {w : World} {nw nh lim b G T : Nat} {rs : List (Nat × List Gl)} (h1 : nw ≤ 1000) (h2 : nh ≤ 1000) (h : FrP w nw nh lim b G T rs) : Calls Tryz.prog 13 #[.pointer (some ⟨b, 0, none⟩)] w fun r w' => ∃ ad cap, r = .returned (.agg #[.int .i64 (nw : Int), .int .i64 (nh : Int), .slice ad (nh * nw) cap, .int .i64 0, .int .i64 0, .bool false, .string ⟨#[]⟩]) ∧ Below w.heap.size w w' ∧ Row w' 49 5 (.slice ad (nh * nw) cap) (nh * nw) (tgsV (blks (nh * nw))) := by
  have hsc : Scn w b (newSc nw nh lim G T) G rs := ⟨h.at_, h.rows, by rw [h.len]; rfl⟩
  have hp := picture_any hsc (nw := nw) rfl (by rw [h.len]; rfl) h1 (by rw [h.len]; exact h2) (fun r hr => by rw [h.alike r hr]; simp) (fun r hr x hx => by rw [h.alike r hr] at hx; rw [List.eq_of_mem_replicate hx]; exact .inl ⟨rfl, rfl⟩) rfl
  rw [flat_alike h.alike, List.length_replicate, h.len] at hp
  refine hp.mono ?_
  rintro r w' ⟨v, rfl, hb, hr, _⟩
  obtain ⟨ad, cap, rfl, _, _, _, _⟩ := hr.shape
  exact ⟨ad, cap, rfl, hb, hr⟩
set_option maxHeartbeats 8000000 in
theorem as_new {w0 w : World} {nw nh lim b G T rb : Nat} {rs : List (Nat × List Gl)} {l : Int} {rv : Value} {vs : List Value} (h0 : 1 ≤ nw) (h1 : nw ≤ 1000) (h2 : nh ≤ 1000) (hS : FrP w nw nh lim b G T rs) (hR : RN w0 w nw nh l rb rv vs) : Calls Tryz.prog 8 #[.pointer (some ⟨b, 0, none⟩), .pointer (some ⟨rb, 0, none⟩)] w fun r w' => r = .returned (.bool true) ∧ Below w.heap.size w w' := by
  have HS := hidK hS
  have HR := hidK hR
  have hm : nh * nw ≤ 1000000 := Nat.mul_le_mul h2 h1
  obtain ⟨m, hme⟩ : ∃ m, nh * nw = m := ⟨_, rfl⟩
  have HP : Hid (∀ W, Below w.heap.size w W → Calls Tryz.prog 13 #[.pointer (some ⟨b, 0, none⟩)] W fun r w' => ∃ ad cap, r = .returned (.agg #[.int .i64 (nw : Int), .int .i64 (nh : Int), .slice ad m cap, .int .i64 0, .int .i64 0, .bool false, .string ⟨#[]⟩]) ∧ Below W.heap.size W w' ∧ Row w' 49 5 (.slice ad m cap) m (tgsV (blks m))) := fun W hW => by
    rw [← hme]; exact picture_new h1 h2 (hS.more hW)
  have HRP : Hid (∀ W, Below w.heap.size w W → Calls Tryz.prog 14 #[.pointer (some ⟨rb, 0, none⟩)] W fun r w' => ∃ ad cap, r = .returned (.agg #[.int .i64 (nw : Int), .int .i64 (nh : Int), .slice ad m cap, .int .i64 0, .int .i64 0, .bool false, .string ⟨#[]⟩]) ∧ Below W.heap.size W w' ∧ Row w' 49 5 (.slice ad m cap) m (tgsV (blks m))) := fun W hW => by
    rw [← hme]
    refine (refPicture_fresh h0 h1 h2 (hR.more hW)).mono ?_
    rintro r w' ⟨t, rfl, hb, hr, _⟩
    obtain ⟨ad, cap, rfl, _, _, _, _⟩ := hr.shape
    exact ⟨ad, cap, rfl, hb, hr⟩
  have HSm : Hid (∀ W v1 v2, Row W 49 5 v1 m (tgsV (blks m)) → Row W 49 5 v2 m (tgsV (blks m)) → Calls Tryz.prog 7 #[.agg #[.int .i64 (nw : Int), .int .i64 (nh : Int), v1, .int .i64 0, .int .i64 0, .bool false, .string ⟨#[]⟩], .agg #[.int .i64 (nw : Int), .int .i64 (nh : Int), v2, .int .i64 0, .int .i64 0, .bool false, .string ⟨#[]⟩]] W fun r w' => r = .returned (.bool true) ∧ Below W.heap.size W w') := fun W v1 v2 q1 q2 => same_any _ _ _ _ _ _ (blks m) (by rw [blks_len]; omega) (by rw [blks_len]; exact q1) (by rw [blks_len]; exact q2)
  have HBe : Hid (∀ W, Below w.heap.size w W → Calls Tryz.prog 15 #[.pointer (some ⟨b, 0, none⟩)] W fun r w' => r = .returned (.int .i64 0) ∧ W = w') := fun W hW => bells_any (hS.more hW).at_
  have HHi : Hid (∀ W, Below w.heap.size w W → Calls Tryz.prog 16 #[.pointer (some ⟨b, 0, none⟩)] W fun r w' => r = .returned (.int .i64 0) ∧ W = w') := fun W hW => history_none (hS.more hW).at_ (n := 0) rfl
  have HAp : Hid (∀ W, Below w.heap.size w W → Calls Tryz.prog 17 #[.pointer (some ⟨b, 0, none⟩)] W fun r w' => r = .returned (.bool false) ∧ W = w') := fun W hW => app_any (hS.more hW).at_
  have HBr : Hid (∀ W, Below w.heap.size w W → Calls Tryz.prog 18 #[.pointer (some ⟨b, 0, none⟩)] W fun r w' => r = .returned (.bool false) ∧ W = w') := fun W hW => bracket_any (hS.more hW).at_
  have HAl : Hid (∀ W, Below w.heap.size w W → Calls Tryz.prog 19 #[.pointer (some ⟨b, 0, none⟩)] W fun r w' => r = .returned (.bool false) ∧ W = w') := fun W hW => alternate_no (hS.more hW).at_ rfl
  have HLi : Hid (∀ W, Below w.heap.size w W → Calls Tryz.prog 21 #[.pointer (some ⟨b, 0, none⟩)] W fun r w' => ∃ ad cap, r = .returned (.slice ad nh cap) ∧ Below W.heap.size W w' ∧ Row w' 9 1 (.slice ad nh cap) nh (nones nh)) := fun W hW => by
    have h9 := hS.more hW
    refine (lines_fresh (w0 := W) h1 h2 h9.at_ h9.len h9.rows h9.alike).mono ?_
    rintro r w' ⟨t, rfl, hM⟩
    obtain ⟨ad, cap, rfl, _, _, _, _⟩ := hM.row.shape
    exact ⟨ad, cap, rfl, hM.below, hM.row⟩
  have HLr : Hid (∀ W, Below w.heap.size w W → Calls Tryz.prog 22 #[.pointer (some ⟨rb, 0, none⟩)] W fun r w' => ∃ ad cap, r = .returned (.slice ad nh cap) ∧ Below W.heap.size W w' ∧ Row w' 9 1 (.slice ad nh cap) nh (nones nh)) := fun W hW => by
    refine (refLines_fresh h1 h2 (hR.more hW)).mono ?_
    rintro r w' ⟨t, rfl, hM⟩
    obtain ⟨ad, cap, rfl, _, _, _, _⟩ := hM.row.shape
    exact ⟨ad, cap, rfl, hM.below, hM.row⟩
  have HSt : Hid (∀ W v1 v2, Row W 9 1 v1 nh (nones nh) → Row W 9 1 v2 nh (nones nh) → Calls Tryz.prog 20 #[v1, v2] W fun r w' => r = .returned (.bool true) ∧ Below W.heap.size W w') := fun W v1 v2 q1 q2 => by
    have e : nones nh = (List.replicate nh (⟨#[]⟩ : ByteArray)).map Value.string := by rw [List.map_replicate]; rfl
    rw [e] at q1 q2
    exact sameTexts_any (List.replicate nh ⟨#[]⟩) (by simp; omega) (by unfold Txts; rw [List.length_replicate]; exact q1) (by unfold Txts; rw [List.length_replicate]; exact q2)
  have HCell : Hid (∀ W', Below w.heap.size w W' → W'.cell? ⟨rb, 50, none⟩ = some (.int .i64 0) ∧ W'.cell? ⟨rb, 6, none⟩ = some (.slice none 0 0) ∧ W'.cell? ⟨rb, 20, none⟩ = some (.bool false) ∧ W'.cell? ⟨rb, 21, none⟩ = some (.bool false) ∧ W'.cell? ⟨rb, 5, none⟩ = some (.bool false)) := fun W' hb => by
    obtain ⟨ta, tc, hat⟩ := (hR.more hb).at_
    exact ⟨cell_atT hat 50, cell_atT hat 6, cell_atT hat 20, cell_atT hat 21, cell_atT hat 5⟩
  obtain ⟨c50, c6, c20, c21, c5⟩ := HCell.out w (Below.refl _ _)
  have HBx : Hid (Below w.heap.size w w.drew) := (Below.refl _ _).drew
  clear hS hR hme hm
  go_enter Tryz.func8, Tryz.ntmps8
  go_wp2_with fail
  go_region_held3 (fun X => X.cell? ⟨rb, 50, none⟩ = some (.int .i64 0) ∧ X.cell? ⟨rb, 6, none⟩ = some (.slice none 0 0) ∧ X.cell? ⟨rb, 20, none⟩ = some (.bool false) ∧ X.cell? ⟨rb, 21, none⟩ = some (.bool false) ∧ X.cell? ⟨rb, 5, none⟩ = some (.bool false)) (simp [*]) ((first
    | (go_at_call 13; refine (HP.out _ HBx.out).mono ?_; rintro e w1 ⟨ad1, cap1, rfl, hb, hr⟩; have HR1 := hidK hr; (first | (have HR9 := hidK (HR2.out.below hb); clear HR2; have HR2 := hidK HR9.out; clear HR9) | skip); have HBn := hidK (HBx.out.trans (hb.mono HBx.out.size)); clear HBx; have HBx := hidK HBn.out; clear HBn hb hr; clear c50 c6 c20 c21 c5; obtain ⟨c50, c6, c20, c21, c5⟩ := HCell.out _ HBx.out)
    | (go_at_call 14; refine (HRP.out _ HBx.out).mono ?_; rintro e w2 ⟨ad2, cap2, rfl, hb, hr⟩; have HR2 := hidK hr; (first | (have HR9 := hidK (HR1.out.below hb); clear HR1; have HR1 := hidK HR9.out; clear HR9) | skip); have HBn := hidK (HBx.out.trans (hb.mono HBx.out.size)); clear HBx; have HBx := hidK HBn.out; clear HBn hb hr; clear c50 c6 c20 c21 c5; obtain ⟨c50, c6, c20, c21, c5⟩ := HCell.out _ HBx.out)
    | (go_at_call 7; refine (HSm.out _ _ _ HR1.out HR2.out).mono ?_; rintro e w3 ⟨rfl, hb⟩; have HBn := hidK (HBx.out.trans (hb.mono HBx.out.size)); clear HBx; have HBx := hidK HBn.out; clear HBn hb HR1 HR2; clear c50 c6 c20 c21 c5; obtain ⟨c50, c6, c20, c21, c5⟩ := HCell.out _ HBx.out)
    | (go_at_call 15; refine (HBe.out _ HBx.out).mono ?_; rintro e w4 ⟨rfl, rfl⟩)
    | (go_at_call 16; refine (HHi.out _ HBx.out).mono ?_; rintro e w4 ⟨rfl, rfl⟩)
    | (go_at_call 17; refine (HAp.out _ HBx.out).mono ?_; rintro e w4 ⟨rfl, rfl⟩)
    | (go_at_call 18; refine (HBr.out _ HBx.out).mono ?_; rintro e w4 ⟨rfl, rfl⟩)
    | (go_at_call 19; refine (HAl.out _ HBx.out).mono ?_; rintro e w4 ⟨rfl, rfl⟩)
    | (go_at_call 21; refine (HLi.out _ HBx.out).mono ?_; rintro e w5 ⟨ad5, cap5, rfl, hb, hr⟩; have HT1 := hidK hr; (first | (have HT9 := hidK (HT2.out.below hb); clear HT2; have HT2 := hidK HT9.out; clear HT9) | skip); have HBn := hidK (HBx.out.trans (hb.mono HBx.out.size)); clear HBx; have HBx := hidK HBn.out; clear HBn hb hr; clear c50 c6 c20 c21 c5; obtain ⟨c50, c6, c20, c21, c5⟩ := HCell.out _ HBx.out)
    | (go_at_call 22; refine (HLr.out _ HBx.out).mono ?_; rintro e w6 ⟨ad6, cap6, rfl, hb, hr⟩; have HT2 := hidK hr; (first | (have HT9 := hidK (HT1.out.below hb); clear HT1; have HT1 := hidK HT9.out; clear HT9) | skip); have HBn := hidK (HBx.out.trans (hb.mono HBx.out.size)); clear HBx; have HBx := hidK HBn.out; clear HBn hb hr; clear c50 c6 c20 c21 c5; obtain ⟨c50, c6, c20, c21, c5⟩ := HCell.out _ HBx.out)
    | (go_at_call 20; refine (HSt.out _ _ _ HT1.out HT2.out).mono ?_; rintro e w7 ⟨rfl, hb⟩; have HBn := hidK (HBx.out.trans (hb.mono HBx.out.size)); clear HBx; have HBx := hidK HBn.out; clear HBn hb HT1 HT2; clear c50 c6 c20 c21 c5; obtain ⟨c50, c6, c20, c21, c5⟩ := HCell.out _ HBx.out)))
  all_goals (
    go_wp2_with fail
    go_ret
    exact ⟨rfl, HBx.out⟩)
end Go.Proofs.YtklonlgmifgckaaGreatDoor
