/-
  Layouts: the document's border, on (mkborder.py).
-/
import Derived.Test.YtkaaadbfmbkjeaaCPg
import Derived.Deep.DeepCutAuto
namespace Go.Proofs.Ytkaaadbfmbkjeaa
open Go.RowKit
set_option linter.unusedVariables false
set_option maxRecDepth 100000

set_option maxHeartbeats 8000000 in
theorem border_on (b : Box) (k : Int) (ts rs : List Tree) (c : Nat) (want got : Int) (sl : Value) (fp : List Nat) (w : World) (hw : 0 ≤ want ∧ want ≤ 1000) (h2 : 2 ≤ ts.length) (hl : ts.length ≤ 900) (hc : c + 1 < ts.length) (hG : Giv k c (List.range' (c + 1) (ts.length - 1 - c)) want ts rs got) (hIn : (nodeOf (.split b k ts)).In w sl fp) :
    Calls Try.prog 77 #[.agg (nodeV (nodeOf (.split b k ts)) sl), .int .i64 c, .int .i64 want] w (BordA b k rs got fp w) := by
  obtain ⟨ad, cap0, hsl⟩ := hIn.sl
  change (Node.mk k b.w b.h 0 (nodesOf ts)).In w sl fp at hIn
  change sl = .slice ad (nodesOf ts).length cap0 at hsl
  rw [nodesOf_length] at hsl
  obtain ⟨L, hL⟩ : ∃ L, ts.length = L := ⟨_, rfl⟩
  rw [hL] at hsl h2 hl hc
  rw [hL] at hG
  subst hsl
  have hIn' := hIn
  obtain ⟨cs, fs, hrow, hnodes, hfp⟩ := hIn'
  rw [nodesOf_length, hL] at hrow
  have HOw : Hid (∀ o1 o2 o3, (((w.alloc o1).alloc o2).alloc o3).ownsRow 0 73 5 (.slice ad L cap0) L cs) := fun o1 o2 o3 => ((hrow.alloc o1).alloc o2).alloc o3
  have HOne : Hid (∀ u ∈ cs, u.oneCell' = true) := hnodes.oneCell
  have HK : Hid (∀ v w6, ((((w.alloc (.cells #[.int .i64 k, .int .i64 b.w, .int .i64 b.h, .int .i64 0, .slice ad L cap0] 73)).alloc (.cells zeroN 73)).alloc (.cells #[.int .i64 k, .int .i64 b.w, .int .i64 b.h, .int .i64 0, .slice ad L cap0] 73))).grownBy w6 none → w6.ownsRow (w.heap.size + 3) 73 5 v L cs → ∃ g cap, v = .slice (some ⟨g, 0, none⟩) L cap ∧ w.heap.size + 2 < g ∧ KidsAt g L cap fp ts (w6.setCell ⟨w.heap.size + 1 + 1, 4, none⟩ v) ∧ Mid w k b.w b.h k b.w b.h 0 (.slice ad L cap0) v (w6.setCell ⟨w.heap.size + 1 + 1, 4, none⟩ v)) := by
    intro v w6 hg hr
    have hM := Mid.start w k b.w b.h k b.w b.h 0 (.slice ad L cap0)
    obtain ⟨g, cap, e1, e2, e3⟩ := KidsAt.start hIn hM (by simp) hg (by rw [hfp]; exact fun q hq => List.mem_append_right _ hq) hnodes (by rw [hL]; simpa using hr) (by omega)
    rw [hL] at e1 e3
    exact ⟨g, cap, e1, e2, e3, hM.copied hg v⟩
  have HA2 : Hid (∀ w6, ((((w.alloc (.cells #[.int .i64 k, .int .i64 b.w, .int .i64 b.h, .int .i64 0, .slice ad L cap0] 73)).alloc (.cells zeroN 73)).alloc (.cells #[.int .i64 k, .int .i64 b.w, .int .i64 b.h, .int .i64 0, .slice ad L cap0] 73))).grownBy w6 none → ∃ u, w6.cell? ⟨w.heap.size + 1 + 1, 4, none⟩ = some u ∧ w6.frozen? ⟨w.heap.size + 1 + 1, 4, none⟩ = false) := fun w6 hg => by
    have hM := Mid.start w k b.w b.h k b.w b.h 0 (.slice ad L cap0)
    have hnew := (hg.block _ (lt_of_block hM.new) (by simp)).trans hM.new
    exact ⟨_, cell_atL hnew 4, free_atL hnew 4⟩
  have HFp : Hid (∀ q ∈ fp, q < w.heap.size) := hIn.lt
  have HL : Hid (ts.length = L) := hL
  have HG : Hid (Giv k c (List.range' (c + 1) (L - 1 - c)) want ts rs got) := hG
  obtain ⟨hw0, hw9⟩ := hw
  have hneg : ¬ (want < 0) := by omega
  have hwd : decide (want < 0) = false := by simpa using hneg
  show Calls Try.prog 77 #[.agg #[.int .i64 k, .int .i64 b.w, .int .i64 b.h, .int .i64 0, .slice ad L cap0], .int .i64 c, .int .i64 want] w (BordA b k rs got fp w)
  clear hIn hrow hnodes hfp hL hG
  go_enter Try.func77, Try.ntmps77
  go_wp2_with (at_builtin; refine wpList_append_row _ rfl (.const (.slice none 0 0)) (.tmp 17) 71 73 rfl (.agg zeroN) 5 56 Try.underlying71 infoNode rfl (by decide) (by decide) (w.heap.size + 3) (.slice none 0 0) 0 [] rfl (World.ownsRow_nil _ _ _ _) 0 (.slice ad L cap0) L cs rfl (HOw.out _ _ _) HOne.out ?x1 ?x2 ?_; (case x1 => omega); (case x2 => simp); intro v w6 a1 a2; rw [Nat.zero_add, List.nil_append] at a1; obtain ⟨g, cap, rfl, hg2, hkids, hmid⟩ := HK.out v w6 a2 a1; have HKi : Hid (KidsAt g L cap fp ts (w6.setCell ⟨w.heap.size + 1 + 1, 4, none⟩ (.slice (some ⟨g, 0, none⟩) L cap))) := hkids; have HMi : Hid (Mid w k b.w b.h k b.w b.h 0 (.slice ad L cap0) (.slice (some ⟨g, 0, none⟩) L cap) (w6.setCell ⟨w.heap.size + 1 + 1, 4, none⟩ (.slice (some ⟨g, 0, none⟩) L cap))) := hmid; have c4 := HA2.out w6 a2; obtain ⟨u4, c4, f4⟩ := c4; clear hkids hmid a1 a2)
  go_loopw [12] (fun v wr => ∃ (m : Int) (us : List Tree), 0 ≤ m ∧ m ≤ want ∧ v = .int .i64 m ∧ Hid (BordN w k b.w b.h (.slice ad L cap0) g L cap fp rs c (List.range' (c + 1) (L - 1 - c)) (want - m) (got - m) wr us)) (fun v _ => (want - intOf v).toNat)
  case atStart => exact ⟨0, ts, Int.le_refl _, by omega, rfl, by rw [Int.sub_zero, Int.sub_zero]; exact ⟨HG.out, HKi.out, HMi.out⟩⟩
  case round =>
    obtain ⟨m, us, hm0, hm1, rfl, HN⟩ := hrel
    clear c4 f4 HKi HMi HG
    have hul := HN.out.kids.len
    obtain ⟨fpn, hnd, _⟩ := HN.out.kids.node k b.w b.h 0
    have hgv := giver_on k b.w b.h 0 us c _ fpn wr hnd (bord_fit HN.out).rooms (by rw [hul]; exact hl) (by rw [hul]; omega)
    rw [hul] at hgv
    have hmr := HN.out.mid
    have n0 : wr.cell? ⟨w.heap.size + 1 + 1, 0, none⟩ = some (.int .i64 k) := cell_atL hmr.new 0
    have n1 : wr.cell? ⟨w.heap.size + 1 + 1, 1, none⟩ = some (.int .i64 b.w) := cell_atL hmr.new 1
    have n2 : wr.cell? ⟨w.heap.size + 1 + 1, 2, none⟩ = some (.int .i64 b.h) := cell_atL hmr.new 2
    have n3 : wr.cell? ⟨w.heap.size + 1 + 1, 3, none⟩ = some (.int .i64 0) := cell_atL hmr.new 3
    have n4 : wr.cell? ⟨w.heap.size + 1 + 1, 4, none⟩ = some (.slice (some ⟨g, 0, none⟩) L cap) := cell_atL hmr.new 4
    clear hmr hnd
    by_cases hlt : m < want
    · rcases bord_next hg2 HN.out (by omega) with ⟨hg1, he1, he2⟩ | ⟨j, d, r, got1, hg1, hjL, hd, hd0, hd1, hgot, ⟨nn, sa, sn, sc, hC, hR⟩, hS⟩
      · rw [hg1] at hgv
        have HGv : Hid (Calls Try.prog 90 #[.agg #[.int .i64 k, .int .i64 b.w, .int .i64 b.h, .int .i64 0, .slice (some ⟨g, 0, none⟩) L cap], .int .i64 c, .bool false] wr fun e w' => e = .returned (.int .i64 (-1)) ∧ Below wr.heap.size wr w') := hgv
        have hgm : got = m := by omega
        subst hgm
        have HE1 : Hid (us = rs) := he1
        clear hgv hg1 he1 he2 hul
        go_wp2_with fail
        refine HGv.out.mono ?_
        rintro e w1 ⟨rfl, hb1⟩
        have hkr := HN.out.kids.below hb1
        rw [HE1.out] at hkr
        have hmr := HN.out.mid.below' hb1
        clear n0 n1 n2 n3 n4 HN HGv hb1
        have HF : Hid (∀ v0 v1 v2 v3 v4, BordA b k rs got fp w (.returned (.tuple #[.agg #[.int .i64 k, .int .i64 b.w, .int .i64 b.h, .int .i64 0, .slice (some ⟨g, 0, none⟩) L cap], .int .i64 got])) (set5 w1 (w.heap.size + 1) v0 v1 v2 v3 v4)) := fun v0 v1 v2 v3 v4 => bord_answer got hkr hmr hg2 HFp.out v0 v1 v2 v3 v4
        have n0 : w1.cell? ⟨w.heap.size + 1 + 1, 0, none⟩ = some (.int .i64 k) := cell_atL hmr.new 0
        have n1 : w1.cell? ⟨w.heap.size + 1 + 1, 1, none⟩ = some (.int .i64 b.w) := cell_atL hmr.new 1
        have n2 : w1.cell? ⟨w.heap.size + 1 + 1, 2, none⟩ = some (.int .i64 b.h) := cell_atL hmr.new 2
        have n3 : w1.cell? ⟨w.heap.size + 1 + 1, 3, none⟩ = some (.int .i64 0) := cell_atL hmr.new 3
        have n4 : w1.cell? ⟨w.heap.size + 1 + 1, 4, none⟩ = some (.slice (some ⟨g, 0, none⟩) L cap) := cell_atL hmr.new 4
        have r0 : w1.cell? ⟨w.heap.size + 1, 0, none⟩ = some (.int .i64 0) := cell_atL hmr.res 0
        have r1 : w1.cell? ⟨w.heap.size + 1, 1, none⟩ = some (.int .i64 0) := cell_atL hmr.res 1
        have r2 : w1.cell? ⟨w.heap.size + 1, 2, none⟩ = some (.int .i64 0) := cell_atL hmr.res 2
        have r3 : w1.cell? ⟨w.heap.size + 1, 3, none⟩ = some (.int .i64 0) := cell_atL hmr.res 3
        have r4 : w1.cell? ⟨w.heap.size + 1, 4, none⟩ = some (.slice none 0 0) := cell_atL hmr.res 4
        have f0 := free_atL hmr.res 0
        have f1 := free_atL hmr.res 1
        have f2 := free_atL hmr.res 2
        have f3 := free_atL hmr.res 3
        have f4 := free_atL hmr.res 4
        clear hkr hmr
        go_wp2
        exact bodyPost_ret (v := .tuple #[.agg #[.int .i64 k, .int .i64 b.w, .int .i64 b.h, .int .i64 0, .slice (some ⟨g, 0, none⟩) L cap], .int .i64 got]) (by simp [results, Try.results77, go_sem, r0, r1, r2, r3, r4]) rfl (HF.out _ _ _ _ _)
      · rw [hg1] at hgv
        have HGv : Hid (Calls Try.prog 90 #[.agg #[.int .i64 k, .int .i64 b.w, .int .i64 b.h, .int .i64 0, .slice (some ⟨g, 0, none⟩) L cap], .int .i64 c, .bool false] wr fun e w' => e = .returned (.int .i64 j) ∧ Below wr.heap.size wr w') := hgv
        have HC : Hid (KidC w k g L cap j wr nn (.slice sa sn sc)) := hC
        have HR : Hid (∀ X, Below wr.heap.size wr X → Calls Try.prog 87 #[.agg (nodeV nn (.slice sa sn sc)), .int .i64 k] X fun e w' => e = .returned (.int .i64 r) ∧ Below wr.heap.size wr w') := hR
        have HS : Hid (∀ X, Below wr.heap.size wr X → KidS w k g L cap j (-d) (KidS w k g L cap c d fun W => ∃ us2, BordN w k b.w b.h (.slice ad L cap0) g L cap fp rs c (List.range' (c + 1) (L - 1 - c)) (want - m - d) got1 W us2) X) := hS
        have HD : Hid (d = min (want - m) r) := hd
        have HGo : Hid (got - m = d + got1) := hgot
        have hw1 : IntKind.i64.wrap (want - m) = want - m := by rw [IntKind.wrap_i64]; omega
        have hw2 : IntKind.i64.wrap (-d) = -d := by rw [IntKind.wrap_i64]; omega
        have hw3 : IntKind.i64.wrap (m + d) = m + d := by rw [IntKind.wrap_i64]; omega
        have hdm : d ≤ want - m := by omega
        unfold nodeV at HR
        clear hgv hg1 hul hC hR hS hd hgot HN
        go_wp2_with fail
        refine HGv.out.mono ?_
        rintro e w1 ⟨rfl, hb1⟩
        have HB1 : Hid (Below wr.heap.size wr w1) := hb1
        obtain ⟨fz, ⟨q0, q1, q2, q3, q4⟩, b4, p0⟩ := HC.out w1 hb1
        clear n0 n1 n2 n3 n4 HGv hb1
        go_upto_region 13 with fail
        go_cut [14] (fun v wx => v = .int .i64 d ∧ Hid (Below wr.heap.size wr wx))
        case first =>
          go_region_with (go_at_call 87; refine (HR.out _ (by first | exact HB1.out | exact HB1.out.drew)).mono ?_; rintro e w2 ⟨rfl, hb2⟩)
          all_goals (
            have HB2 : Hid (Below wr.heap.size wr w2) := hb2
            clear hb2
            go_wp2_with fail
            go_meet
            exact ⟨by rw [HD.out], HB2⟩)
        case rest =>
          obtain ⟨rfl, HBx⟩ := hcut
          clear fz q0 q1 q2 q3 q4 b4 p0 HC HR HB1 HD nn sa sn sc
          obtain ⟨nn, sa, sn, sc, hC, hS2⟩ := HS.out wc HBx.out
          have HC : Hid (KidC w k g L cap j wc nn (.slice sa sn sc)) := hC
          have HS2 : Hid (∀ X, Below wc.heap.size wc X → Calls Try.prog 70 #[.agg (nodeV nn (.slice sa sn sc)), .int .i64 k, .int .i64 (-d)] X fun e w' => ∃ nr ta tn tc, e = .returned (.agg (nodeV nr (.slice ta tn tc))) ∧ Below wc.heap.size wc w' ∧ (KidS w k g L cap c d fun W => ∃ us2, BordN w k b.w b.h (.slice ad L cap0) g L cap fp rs c (List.range' (c + 1) (L - 1 - c)) (want - m - d) got1 W us2) (set5at w' g (j * 5) nr (.slice ta tn tc))) := hS2
          unfold nodeV at HS2
          obtain ⟨fz, ⟨q0, q1, q2, q3, q4⟩, b4, p0⟩ := hC wc (Below.refl _ _)
          clear hC hS2 HS HBx
          go_upto_region 14 with fail
          go_cut [14] (fun v wx => v = .int .i64 d ∧ Hid ((KidS w k g L cap c d fun W => ∃ us2, BordN w k b.w b.h (.slice ad L cap0) g L cap fp rs c (List.range' (c + 1) (L - 1 - c)) (want - m - d) got1 W us2) wx))
          case first =>
            go_region_with (go_at_call 70; refine (HS2.out _ (by first | exact Below.refl _ _ | exact (Below.refl _ _).drew)).mono ?_; rintro e w2 ⟨nr, ta, tn, tc, rfl, hb2, hk2⟩; obtain ⟨fz2, ⟨s0, s1, s2, s3, s4⟩, b42, p02⟩ := HC.out w2 hb2)
            all_goals (
              have HK2 : Hid ((KidS w k g L cap c d fun W => ∃ us2, BordN w k b.w b.h (.slice ad L cap0) g L cap fp rs c (List.range' (c + 1) (L - 1 - c)) (want - m - d) got1 W us2) (set5at w2 g (j * 5) nr (.slice ta tn tc))) := hk2
              clear hk2 hb2 fz2 s0 s1 s2 s3 s4 b42 p02 q0 q1 q2 q3 q4 fz b4 p0 HC HS2
              go_wp2_with fail
              go_meet
              exact ⟨rfl, HK2⟩)
          case rest =>
            obtain ⟨rfl, HKx⟩ := hcut
            clear fz q0 q1 q2 q3 q4 b4 p0 HC HS2 nn sa sn sc
            obtain ⟨nn, sa, sn, sc, hC, hS2⟩ := HKx.out
            have HC : Hid (KidC w k g L cap c wc nn (.slice sa sn sc)) := hC
            have HS2 : Hid (∀ X, Below wc.heap.size wc X → Calls Try.prog 70 #[.agg (nodeV nn (.slice sa sn sc)), .int .i64 k, .int .i64 d] X fun e w' => ∃ nr ta tn tc, e = .returned (.agg (nodeV nr (.slice ta tn tc))) ∧ Below wc.heap.size wc w' ∧ ∃ us2, BordN w k b.w b.h (.slice ad L cap0) g L cap fp rs c (List.range' (c + 1) (L - 1 - c)) (want - m - d) got1 (set5at w' g (c * 5) nr (.slice ta tn tc)) us2) := hS2
            unfold nodeV at HS2
            obtain ⟨fz, ⟨q0, q1, q2, q3, q4⟩, b4, p0⟩ := hC wc (Below.refl _ _)
            clear hC hS2 HKx
            go_upto_region 15 with fail
            go_cut [14] (fun v wx => v = .int .i64 d ∧ ∃ us2, Hid (BordN w k b.w b.h (.slice ad L cap0) g L cap fp rs c (List.range' (c + 1) (L - 1 - c)) (want - m - d) got1 wx us2))
            case first =>
              go_region_with (go_at_call 70; refine (HS2.out _ (by first | exact Below.refl _ _ | exact (Below.refl _ _).drew)).mono ?_; rintro e w2 ⟨nr, ta, tn, tc, rfl, hb2, us2, hk2⟩; obtain ⟨fz2, ⟨s0, s1, s2, s3, s4⟩, b42, p02⟩ := HC.out w2 hb2)
              all_goals (
                have HK2 : Hid (BordN w k b.w b.h (.slice ad L cap0) g L cap fp rs c (List.range' (c + 1) (L - 1 - c)) (want - m - d) got1 (set5at w2 g (c * 5) nr (.slice ta tn tc)) us2) := hk2
                clear hk2 hb2 fz2 s0 s1 s2 s3 s4 b42 p02 q0 q1 q2 q3 q4 fz b4 p0 HC HS2
                go_wp2_with fail
                go_meet
                exact ⟨rfl, us2, HK2⟩)
            case rest =>
              obtain ⟨rfl, us2, HN2⟩ := hcut
              clear fz q0 q1 q2 q3 q4 b4 p0 HC HS2
              have HN3 : Hid (BordN w k b.w b.h (.slice ad L cap0) g L cap fp rs c (List.range' (c + 1) (L - 1 - c)) (want - (m + d)) (got - (m + d)) wc us2) := by
                have h := HN2.out
                have h9 := HGo.out
                rw [show want - (m + d) = want - m - d by omega, show got - (m + d) = got1 by omega]
                exact h
              clear HN2
              go_wp2
              go_roundw
              case rel => exact ⟨m + d, us2, by omega, by omega, by go_num, HN3⟩
              case measure => simp [intOf]; omega
    · obtain ⟨he1, he2⟩ := bord_end HN.out (by omega)
      have hgm : got = m := by omega
      subst hgm
      have hkr := HN.out.kids
      rw [he1] at hkr
      have hmr := HN.out.mid
      clear n0 n1 n2 n3 n4 HN hgv he1 he2 hul
      have HF : Hid (∀ v0 v1 v2 v3 v4, BordA b k rs got fp w (.returned (.tuple #[.agg #[.int .i64 k, .int .i64 b.w, .int .i64 b.h, .int .i64 0, .slice (some ⟨g, 0, none⟩) L cap], .int .i64 got])) (set5 wr (w.heap.size + 1) v0 v1 v2 v3 v4)) := fun v0 v1 v2 v3 v4 => bord_answer got hkr hmr hg2 HFp.out v0 v1 v2 v3 v4
      have n0 : wr.cell? ⟨w.heap.size + 1 + 1, 0, none⟩ = some (.int .i64 k) := cell_atL hmr.new 0
      have n1 : wr.cell? ⟨w.heap.size + 1 + 1, 1, none⟩ = some (.int .i64 b.w) := cell_atL hmr.new 1
      have n2 : wr.cell? ⟨w.heap.size + 1 + 1, 2, none⟩ = some (.int .i64 b.h) := cell_atL hmr.new 2
      have n3 : wr.cell? ⟨w.heap.size + 1 + 1, 3, none⟩ = some (.int .i64 0) := cell_atL hmr.new 3
      have n4 : wr.cell? ⟨w.heap.size + 1 + 1, 4, none⟩ = some (.slice (some ⟨g, 0, none⟩) L cap) := cell_atL hmr.new 4
      have r0 : wr.cell? ⟨w.heap.size + 1, 0, none⟩ = some (.int .i64 0) := cell_atL hmr.res 0
      have r1 : wr.cell? ⟨w.heap.size + 1, 1, none⟩ = some (.int .i64 0) := cell_atL hmr.res 1
      have r2 : wr.cell? ⟨w.heap.size + 1, 2, none⟩ = some (.int .i64 0) := cell_atL hmr.res 2
      have r3 : wr.cell? ⟨w.heap.size + 1, 3, none⟩ = some (.int .i64 0) := cell_atL hmr.res 3
      have r4 : wr.cell? ⟨w.heap.size + 1, 4, none⟩ = some (.slice none 0 0) := cell_atL hmr.res 4
      have f0 := free_atL hmr.res 0
      have f1 := free_atL hmr.res 1
      have f2 := free_atL hmr.res 2
      have f3 := free_atL hmr.res 3
      have f4 := free_atL hmr.res 4
      clear hkr hmr
      go_wp2
      exact bodyPost_ret (v := .tuple #[.agg #[.int .i64 k, .int .i64 b.w, .int .i64 b.h, .int .i64 0, .slice (some ⟨g, 0, none⟩) L cap], .int .i64 got]) (by simp [results, Try.results77, go_sem, r0, r1, r2, r3, r4]) rfl (HF.out _ _ _ _ _)

end Go.Proofs.Ytkaaadbfmbkjeaa
