/-
  The document's picture of a new screen.
-/
import Derived.Test.YtklonlgmifgckaaGreatDoorVRefC
import Derived.Test.YtklonlgmifgckaaGreatDoorVMade
namespace Go.Proofs.YtklonlgmifgckaaGreatDoor
open Go.RowKit
set_option linter.unusedVariables false
set_option maxRecDepth 100000

theorem tgs_append (xs ys : List Gl) : tgsV (xs ++ ys) = tgsV xs ++ tgsV ys := by simp [tgsV]
theorem Pic.adds {w wr w' : World} {s : Sc} {B Bp : Nat} {v v' : Value} {xs ys : List Gl} (h : Pic w wr s B Bp v xs) (hr : Row w' 49 5 v' (xs.length + ys.length) (tgsV xs ++ tgsV ys)) (hg : Grown wr w' v v' v.ownBlock.toList) : Pic w (w'.setCell ⟨Bp, 2, none⟩ v') s B Bp v' (xs ++ ys) := by
  have hne : ∀ k cs, wr.heap[k]? = some (.cells cs 30 (0, 0)) → k ∉ v.ownBlock.toList := fun k cs hk hm => by
    obtain ⟨cur, hc⟩ := h.row.block (by simpa using hm : v.ownBlock = some k)
    rw [hk] at hc
    simp at hc
  have hz : w'.heap[B]? = _ := (hg.but.block _ (lt_of_block h.zero) (hne _ _ h.zero)).trans h.zero
  have hp : w'.heap[Bp]? = _ := (hg.but.block _ (lt_of_block h.pic) (hne _ _ h.pic)).trans h.pic
  have hyp := h.yp
  have hyB := h.yB
  have hbel : Below w.heap.size w w' := hg.but.under h.below h.below.size (fun k hk => h.young k (by simpa using hk))
  refine ⟨hbel.setCell (p := ⟨Bp, 2, none⟩) (by simp only; omega) _, put_other hz (by omega) _ _, put_at hp 2 v', ?_, fun g hg' => ?_, hyB, hyp⟩
  · rw [List.length_append, tgs_append]
    refine hr.keep (fun g hg' => Below.heap_setCell _ _ _ _ (fun e => ?_))
    obtain ⟨cur, hc⟩ := hr.block hg'
    have e2 : Bp = g := e.symm
    rw [← e2, hp] at hc
    simp at hc
  · rcases hg.own with e | e
    · exact h.young g (by rw [← e]; exact hg')
    · rw [e] at hg'
      cases hg'
      exact h.below.size
theorem tgs_one (xs : List Gl) : ∀ u ∈ tgsV xs, u.oneCell' = true := by
  intro u hu
  unfold tgsV at hu
  obtain ⟨x, _, hx⟩ := List.mem_flatMap.1 hu
  simp only [tgV, List.mem_cons, List.mem_nil_iff, or_false] at hx
  rcases hx with rfl | rfl | rfl | rfl | rfl <;> rfl
theorem tgs_len (xs : List Gl) : (tgsV xs).length = xs.length * 5 := by
  induction xs with
  | nil => rfl
  | cons x xs ih =>
    have h : tgsV (x :: xs) = tgV x ++ tgsV xs := rfl
    rw [h, List.length_append, ih, List.length_cons, show (tgV x).length = 5 from rfl]
    omega
theorem Src.glyphs {w : World} {ad : Option Addr} {n cap : Nat} {xs : List Gl} (h : Row w 49 5 (.slice ad n cap) n (tgsV xs)) (h1 : 1 ≤ n) : ∃ g o, ad = some ⟨g, o, none⟩ ∧ ∀ W, W.heap[g]? = w.heap[g]? → Src Tryz.prog 5 28 (.slice (some ⟨g, o, none⟩) n cap) n (tgsV xs) W := by
  have hl := h.1
  obtain ⟨ad', cap', e, _, _, h3, h4⟩ := h.shape
  cases e
  cases ad with
  | none => have := (h3 rfl).1; omega
  | some a =>
    obtain ⟨g, o, rfl, _, h5, h6⟩ := h4 a rfl
    exact ⟨g, o, rfl, fun W hW => Src.ofSlice W underGys _ n _ (tgsV xs) hl (fun j u hu => by rw [Addr.add_lit]; exact (h6 W hW).1 j u hu) (tgs_one xs)⟩
theorem blks_add (k n : Nat) : blks (k * n) ++ blks n = blks ((k + 1) * n) := by
  unfold blks
  rw [List.replicate_append_replicate]
  congr 1
  rw [Nat.add_mul, Nat.one_mul]
theorem blks_len (n : Nat) : (blks n).length = n := List.length_replicate ..
set_option maxHeartbeats 8000000 in
theorem refPicture_fresh {w0 w : World} {nw nh b : Nat} {l : Int} {v : Value} {vs : List Value} (h0 : 1 ≤ nw) (h1 : nw ≤ 1000) (h2 : nh ≤ 1000) (h : RN w0 w nw nh l b v vs) : Calls Tryz.prog 14 #[.pointer (some ⟨b, 0, none⟩)] w fun r w' => ∃ t, r = .returned (.agg #[.int .i64 (nw : Int), .int .i64 (nh : Int), t, .int .i64 0, .int .i64 0, .bool false, .string ⟨#[]⟩]) ∧ Below w.heap.size w w' ∧ Row w' 49 5 t (nh * nw) (tgsV (blks (nh * nw))) ∧ ∀ g, t.ownBlock = some g → w.heap.size ≤ g := by
  obtain ⟨ta, tc, hat⟩ := h.at_
  obtain ⟨ad, cap, hve, hsee⟩ := h.rows.seen
  rw [h.len] at hve
  subst hve
  obtain ⟨s, hs⟩ : ∃ s : Sc, newSc nw nh 0 0 0 = s := ⟨_, rfl⟩
  have HSc : Hid (∀ v, picC s v = #[.int .i64 (nw : Int), .int .i64 (nh : Int), v, .int .i64 0, .int .i64 0, .bool false, .string ⟨#[]⟩]) := fun v => by rw [← hs]; rfl
  clear hs
  obtain ⟨W, hWe⟩ : ∃ W, w.alloc (.cells pic0 30) = W := ⟨_, rfl⟩
  have HBW : Hid (Below w.heap.size w W) := by rw [← hWe]; exact (Below.refl _ _).alloc (Nat.le_refl _) _
  obtain ⟨B, hB⟩ : ∃ B, w.heap.size = B := ⟨_, rfl⟩
  have HBe := hidK hB
  have HZ : Hid (W.heap[B]? = some (.cells pic0 30 (0, 0))) := by rw [← hWe, ← hB]; exact heap_alloc_new w _
  unfold pic0 at hWe
  have HWe := hidK hWe
  have HCell : Hid (∀ W', Below w.heap.size w W' → W'.cell? ⟨b, 0, none⟩ = some (.int .i64 (nw : Int)) ∧ W'.cell? ⟨b, 1, none⟩ = some (.int .i64 (nh : Int)) ∧ W'.cell? ⟨b, 7, none⟩ = some (.int .i64 0) ∧ W'.cell? ⟨b, 8, none⟩ = some (.int .i64 0) ∧ W'.cell? ⟨b, 19, none⟩ = some (.bool false) ∧ W'.cell? ⟨b, 48, none⟩ = some (.string ⟨#[]⟩) ∧ W'.cell? ⟨b, 3, none⟩ = some (.slice ad nh cap) ∧ b < W'.heap.size) := fun W' hb => by
    have h9 := hat.below hb
    exact ⟨cell_atT h9 0, cell_atT h9 1, cell_atT h9 7, cell_atT h9 8, cell_atT h9 19, cell_atT h9 48, cell_atT h9 3, lt_of_block h9⟩
  obtain ⟨c0, c1, c7, c8, c19, c48, c3, hlt⟩ := HCell.out W HBW.out
  have HS := hidK (And.intro hsee h.len)
  have HRow : Hid (∀ r ∈ vs, Row w 49 5 r nw (tgsV (blks nw))) := fun r hr => (h.rows.each r hr).1
  clear h hat hsee hWe hB c3
  go_enter Tryz.func14, Tryz.ntmps14
  go_wp2_with fail
  rw [HWe.out, HBe.out]
  obtain ⟨Bp, hBp⟩ : ∃ Bp, W.heap.size = Bp := ⟨_, rfl⟩
  have HBp := hidK hBp
  clear hBp
  go_cut [3] (fun v wx => v = .pointer (some ⟨W.heap.size, 0, none⟩) ∧ Hid (Pic w wx s B Bp (.slice none 0 0) []))
  case first =>
    go_region
    all_goals go_wp2_with fail
    all_goals go_meet
    all_goals (case rel =>
      have hz := HZ.out
      have hBB := HBe.out
      have hl2 := lt_of_block hz
      have hBp := HBp.out
      refine ⟨rfl, ((HBW.out).alloc (by rw [hBB]; omega) _).drew, alloc_at hz _, ?_, Row.nil _ _ _, (fun g hg => by cases hg), by omega, by omega⟩
      rw [HSc.out, ← hBp]
      exact heap_alloc_new W _)
  case rest =>
   obtain ⟨rfl, HPX⟩ := hcut
   rw [HBp.out]
   clear c0 c1 c7 c8 c19 c48 hlt
   go_wp2_with fail
   go_loopw [4] (fun i wr => ∃ k : Nat, k ≤ nh ∧ i = .int .i64 (k : Int) ∧ ∃ v, Hid (Pic w wr s B Bp v (blks (k * nw)))) (fun i _ => nh - (intOf i).toNat)
   case atStart => exact ⟨0, Nat.zero_le _, rfl, _, by rw [Nat.zero_mul]; exact HPX⟩
   case round =>
     obtain ⟨k, hk, rfl, vq, HP⟩ := hrel
     obtain ⟨_, c1, _, _, _, _, c3, _⟩ := HCell.out wr HP.out.below
     by_cases hlt : k < nh
     · obtain ⟨r, hr⟩ : ∃ r, vs[k]? = some r := ⟨_, List.getElem?_eq_getElem (by have := HS.out.2; omega)⟩
       obtain ⟨g, o, hae, cr⟩ := HS.out.1 wr HP.out.below k r hr
       have hrow := (HRow.out r (List.mem_of_getElem? hr)).below HP.out.below
       obtain ⟨ra, rc, hre, _, _, _, _⟩ := hrow.shape
       rw [hre] at hrow cr
       obtain ⟨rg, ro, hrae, hsrc⟩ := Src.glyphs hrow h0
       have HSrc := hidK (hsrc wr.drew rfl)
       subst hae
       subst hrae
       have yp : wr.cell? ⟨Bp, 2, none⟩ = some vq := cell_atT HP.out.pic 2
       have HPd : Hid (Pic w wr.drew s B Bp vq (blks (k * nw))) := HP.out.more (Below.drew (Below.refl _ _))
       have HR : Hid (Row wr.drew 49 5 vq (k * nw) (tgsV (blks (k * nw)))) := by have h := HPd.out.row; rw [blks_len] at h; exact h
       have hkn : (k * nw + nw) * 48 ≤ 140737488355328 := by
         have : k * nw ≤ 1000 * 1000 := Nat.mul_le_mul (by omega) h1
         omega
       have hkm : k * nw + nw ≤ maxLen := by unfold maxLen; omega
       clear hr hrow hre hsrc
       go_wp2_with fail
       go_region_law (refine step_append_row wr.drew rfl (.tmp 39) (.tmp 46) 28 28 rfl underGys infoGyV rfl (v := vq) (by simp [Act.eval]) (u := .slice (some ⟨rg, ro, none⟩) nw rc) (by simp [Act.eval]) HR.out HSrc.out hkn hkm ?_; intro v2 w2 hr2 hg2; obtain ⟨ad2, cap2, hv2, _, _, _, _⟩ := hr2.out.shape; have HP2 : Hid (Pic w (w2.setCell ⟨Bp, 2, none⟩ v2) s B Bp v2 (blks (k * nw) ++ blks nw)) := HPd.out.adds (by rw [blks_len, blks_len]; exact hr2.out) hg2.out; have pp := pic_store HPd.out hg2.out; obtain ⟨pp1, pp2⟩ := pp; clear hr2 hg2; subst hv2)
       all_goals (
         go_wp2_with fail
         go_roundw
         case rel => exact ⟨k + 1, by omega, by go_num, _, by rw [← blks_add]; exact HP2⟩
         case measure => simp [intOf]; omega)
     · obtain rfl : k = nh := by omega
       have hz := HP.out.zero
       have hp := HP.out.pic
       obtain ⟨ad2, cap2, hv, _, _, _, _⟩ := HP.out.row.shape
       rw [blks_len] at hv
       rw [HSc.out] at hp
       have a0 := cell_atT hz 0
       have a1 := cell_atT hz 1
       have a2 := cell_atT hz 2
       have a3 := cell_atT hz 3
       have a4 := cell_atT hz 4
       have a5 := cell_atT hz 5
       have a6 := cell_atT hz 6
       have b0 := cell_atT hp 0
       have b1 := cell_atT hp 1
       have b2 := cell_atT hp 2
       have b3 := cell_atT hp 3
       have b4 := cell_atT hp 4
       have b5 := cell_atT hp 5
       have b6 := cell_atT hp 6
       simp [pic0] at a0 a1 a2 a3 a4 a5 a6 b0 b1 b2 b3 b4 b5 b6
       have f0 := free_atT hz 0
       have f1 := free_atT hz 1
       have f2 := free_atT hz 2
       have f3 := free_atT hz 3
       have f4 := free_atT hz 4
       have f5 := free_atT hz 5
       have f6 := free_atT hz 6
       clear hz hp
       subst hv
       go_wp2_with fail
       have hB1 := HBe.out
       have hq : ∀ i u X, Below w.heap.size w X → Below w.heap.size w (X.setCell ⟨B, i, none⟩ u) := fun i u X hX => hX.setCell (p := ⟨B, i, none⟩) (by simp only; omega) _
       refine ret_cell1 rfl rfl (cs := #[.int .i64 (nw : Int), .int .i64 (k : Int), .slice ad2 (k * nw) cap2, .int .i64 0, .int .i64 0, .bool false, .string ⟨#[]⟩]) (put_at (put_at (put_at (put_at (put_at (put_at (put_at HP.out.zero 0 _) 1 _) 2 _) 3 _) 4 _) 5 _) 6 _) Tryz.underlying30 rfl infoPic rfl ⟨_, rfl, ?_, ?_, HP.out.young⟩
       · exact hq _ _ _ (hq _ _ _ (hq _ _ _ (hq _ _ _ (hq _ _ _ (hq _ _ _ (hq _ _ _ HP.out.below))))))
       · have hrw := HP.out.row
         rw [blks_len] at hrw
         refine hrw.keep (fun g hg => ?_)
         have hgB : g ≠ B := fun e => by
           obtain ⟨cur, hc⟩ := hrw.block hg
           rw [e, HP.out.zero] at hc
           simp at hc
         exact put_other (put_other (put_other (put_other (put_other (put_other (put_other rfl hgB _ _) hgB _ _) hgB _ _) hgB _ _) hgB _ _) hgB _ _) hgB _ _
end Go.Proofs.YtklonlgmifgckaaGreatDoor
