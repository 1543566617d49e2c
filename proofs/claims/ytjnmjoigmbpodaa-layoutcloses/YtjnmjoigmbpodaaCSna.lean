/-
  Layouts: the document's stretch: across, the width.
-/
import Derived.Test.YtjnmjoigmbpodaaCSm
namespace Go.Proofs.Ytjnmjoigmbpodaa
open Go.RowKit
set_option linter.unusedVariables false
set_option maxRecDepth 100000

set_option maxHeartbeats 2000000 in
theorem strN_across2 (b : Box) (ts rs : List Tree) (n : Int) (sl : Value) (fp : List Nat) (w : World) (hn : n ≠ 0) (hok : StrOk (.split b 3 ts) 2 n) (hlen : rs.length = ts.length) (hE : ∀ (i : Nat) (t r : Tree), ts[i]? = some t → rs[i]? = some r → Str t 2 n r) (IH : ∀ t ∈ ts, StrGood t) (hIn : (nodeOf (.split b 3 ts)).In w sl fp) :
    Calls Try.prog 60 #[.agg (nodeV (nodeOf (.split b 3 ts)) sl), .int .i64 2, .int .i64 n] w (StrN (.split (b.str 2 n) 3 rs) fp w) := by
  have hsd := (Tree.split b 3 ts).sound_sides hok.sound
  change (1 ≤ b.w ∧ b.w ≤ 1000) ∧ (1 ≤ b.h ∧ b.h ≤ 1000) at hsd
  have hlo := hok.low
  have hhi := hok.high
  have hs := hok.sound
  unfold Tree.sound at hs
  simp only [Bool.and_eq_true, decide_eq_true_eq] at hs
  have h2 := hs.1.1
  have hsz := hok.size
  change 1 + sizes ts ≤ 900 at hsz
  have hll := length_sizes ts
  obtain ⟨ad, cap0, hsl⟩ := hIn.sl
  change (Node.mk 3 b.w b.h 0 (nodesOf ts)).In w sl fp at hIn
  change sl = .slice ad (nodesOf ts).length cap0 at hsl
  rw [nodesOf_length] at hsl
  obtain ⟨L, hL⟩ : ∃ L, ts.length = L := ⟨_, rfl⟩
  rw [hL] at hsl hll h2
  subst hsl
  have hIn' := hIn
  obtain ⟨cs, fs, hrow, hnodes, hfp⟩ := hIn'
  rw [nodesOf_length, hL] at hrow
  have HOw : Hid (∀ o1 o2 o3, (((w.alloc o1).alloc o2).alloc o3).ownsRow 0 67 5 (.slice ad L cap0) L cs) := fun o1 o2 o3 => ((hrow.alloc o1).alloc o2).alloc o3
  have HOne : Hid (∀ u ∈ cs, u.oneCell' = true) := hnodes.oneCell
  have HK : Hid (∀ v w6, ((((w.alloc (.cells #[.int .i64 3, .int .i64 b.w, .int .i64 b.h, .int .i64 0, .slice ad L cap0] 67)).alloc (.cells zeroN 67)).alloc (.cells #[.int .i64 3, .int .i64 (b.w + n), .int .i64 b.h, .int .i64 0, .slice ad L cap0] 67))).grownBy w6 none → w6.ownsRow (w.heap.size + 3) 67 5 v L cs → ∃ g cap, v = .slice (some ⟨g, 0, none⟩) L cap ∧ w.heap.size + 2 < g ∧ KidsAt g L cap fp ts (w6.setCell ⟨w.heap.size + 1 + 1, 4, none⟩ v) ∧ Mid w 3 b.w b.h 3 (b.w + n) b.h 0 (.slice ad L cap0) v (w6.setCell ⟨w.heap.size + 1 + 1, 4, none⟩ v)) := by
    intro v w6 hg hr
    have hM := Mid.start w 3 b.w b.h 3 (b.w + n) b.h 0 (.slice ad L cap0)
    obtain ⟨g, cap, e1, e2, e3⟩ := KidsAt.start hIn hM (by simp) hg (by rw [hfp]; exact fun q hq => List.mem_append_right _ hq) hnodes (by rw [hL]; simpa using hr) (by omega)
    rw [hL] at e1 e3
    exact ⟨g, cap, e1, e2, e3, hM.copied hg v⟩
  have HA2 : Hid (∀ w6, ((((w.alloc (.cells #[.int .i64 3, .int .i64 b.w, .int .i64 b.h, .int .i64 0, .slice ad L cap0] 67)).alloc (.cells zeroN 67)).alloc (.cells #[.int .i64 3, .int .i64 (b.w + n), .int .i64 b.h, .int .i64 0, .slice ad L cap0] 67))).grownBy w6 none → ∃ u, w6.cell? ⟨w.heap.size + 1 + 1, 4, none⟩ = some u ∧ w6.frozen? ⟨w.heap.size + 1 + 1, 4, none⟩ = false) := fun w6 hg => by
    have hM := Mid.start w 3 b.w b.h 3 (b.w + n) b.h 0 (.slice ad L cap0)
    have hnew := (hg.block _ (lt_of_block hM.new) (by simp)).trans hM.new
    exact ⟨_, cell_atL hnew 4, free_atL hnew 4⟩
  have HFp : Hid (∀ q ∈ fp, q < w.heap.size) := hIn.lt
  have HL : Hid (ts.length = L) := hL
  have hL9 : L ≤ 900 := by omega
  have hw1 : IntKind.i64.wrap (b.w + n) = b.w + n := by rw [IntKind.wrap_i64]; omega
  have HIH : Hid (∀ t ∈ ts, StrGood t) := IH
  have HLr : Hid (rs.length = L) := hlen.trans hL
  have HE : Hid (∀ (i : Nat) (t r : Tree), ts[i]? = some t → rs[i]? = some r → Str t 2 n r) := hE
  have hn0 : (n == 0) = false := by simpa using hn
  show Calls Try.prog 60 #[.agg #[.int .i64 3, .int .i64 b.w, .int .i64 b.h, .int .i64 0, .slice ad L cap0], .int .i64 2, .int .i64 n] w (StrN (.split (b.str 2 n) 3 rs) fp w)
  clear hIn hrow hnodes hfp hok hs hsd hsz hll hL hlen hE IH hlo hhi hn
  go_enter Try.func60, Try.ntmps60
  go_wp2_with (at_builtin; refine wpList_append_row _ rfl (.const (.slice none 0 0)) (.tmp 25) 65 67 rfl (.agg zeroN) 5 56 Try.underlying65 infoNode rfl (by decide) (by decide) (w.heap.size + 3) (.slice none 0 0) 0 [] rfl (World.ownsRow_nil _ _ _ _) 0 (.slice ad L cap0) L cs rfl (HOw.out _ _ _) HOne.out ?x1 ?x2 ?_; (case x1 => omega); (case x2 => simp); intro v w6 a1 a2; rw [Nat.zero_add, List.nil_append] at a1; obtain ⟨g, cap, rfl, hg2, hkids, hmid⟩ := HK.out v w6 a2 a1; have HKi : Hid (KidsAt g L cap fp ts (w6.setCell ⟨w.heap.size + 1 + 1, 4, none⟩ (.slice (some ⟨g, 0, none⟩) L cap))) := hkids; have HMi : Hid (Mid w 3 b.w b.h 3 (b.w + n) b.h 0 (.slice ad L cap0) (.slice (some ⟨g, 0, none⟩) L cap) (w6.setCell ⟨w.heap.size + 1 + 1, 4, none⟩ (.slice (some ⟨g, 0, none⟩) L cap))) := hmid; have c0 : w6.cell? ⟨w.heap.size, 0, none⟩ = some (.int .i64 3) := cell_atL ((Below.heap_setCell _ _ _ _ (by show w.heap.size ≠ w.heap.size + 1 + 1; omega)).symm.trans hmid.par) 0; have c4 := HA2.out w6 a2; obtain ⟨u4, c4, f4⟩ := c4; clear hkids hmid a1 a2)
  go_loopw [8] (fun vi wr => ∃ i : Nat, i ≤ L ∧ vi = .int .i64 i ∧ Hid (KidsAt g L cap fp (rs.take i ++ ts.drop i) wr) ∧ Hid (Mid w 3 b.w b.h 3 (b.w + n) b.h 0 (.slice ad L cap0) (.slice (some ⟨g, 0, none⟩) L cap) wr)) (fun vi _ => L - (intOf vi).toNat)
  case atStart => exact ⟨0, Nat.zero_le _, rfl, by rw [List.take_zero, List.drop_zero]; exact HKi, HMi⟩
  case round =>
    obtain ⟨i, hi, rfl, HKr, HMr⟩ := hrel
    clear c0 c4 f4 HKi HMi
    have b4 : wr.cell? ⟨w.heap.size + 1 + 1, 4, none⟩ = some (.slice (some ⟨g, 0, none⟩) L cap) := cell_atL HMr.out.new 4
    by_cases hlt : i < L
    · obtain ⟨t, ht⟩ : ∃ t, ts[i]? = some t := ⟨_, List.getElem?_eq_getElem (by rw [HL.out]; exact hlt)⟩
      obtain ⟨r, hr⟩ : ∃ r, rs[i]? = some r := ⟨_, List.getElem?_eq_getElem (by rw [HLr.out]; exact hlt)⟩
      have hmg : (rs.take i ++ ts.drop i)[i]? = some t := (mixed_get rs ts i (by rw [HL.out, HLr.out]) (by rw [HL.out]; exact hlt)).trans ht
      obtain ⟨sa, sn, sc, hkid, fz, hC⟩ := kid_next HKr.out HMr.out hg2 hmg (HIH.out t (List.mem_of_getElem? ht)) (HE.out i t r ht hr)
      rw [mixed_set rs ts i r (by rw [HL.out, HLr.out]) hr] at hC
      have HC : Hid (∀ X, Below wr.heap.size wr X → Calls Try.prog 60 #[.agg (nodeV (nodeOf t) (.slice sa sn sc)), .int .i64 2, .int .i64 n] X fun e w' => ∃ ta tn tc, e = .returned (.agg (nodeV (nodeOf r) (.slice ta tn tc))) ∧ Below wr.heap.size wr w' ∧ KidsAt g L cap fp (rs.take (i + 1) ++ ts.drop (i + 1)) (set5at w' g (i * 5) (nodeOf r) (.slice ta tn tc)) ∧ Mid w 3 b.w b.h 3 (b.w + n) b.h 0 (.slice ad L cap0) (.slice (some ⟨g, 0, none⟩) L cap) (set5at w' g (i * 5) (nodeOf r) (.slice ta tn tc))) := hC
      have HQ : Hid (∀ X, Below wr.heap.size wr X → (∀ o, X.frozen? ⟨g, o, none⟩ = false) ∧ KidIn X g (i * 5) (nodeOf t) (.slice sa sn sc) ∧ X.cell? ⟨w.heap.size + 1 + 1, 4, none⟩ = some (.slice (some ⟨g, 0, none⟩) L cap)) := kid_cells HKr.out.lt (lt_of_block HMr.out.new) fz hkid b4
      obtain ⟨q0, q1, q2, q3, q4⟩ := hkid
      obtain ⟨nn, hnn⟩ : ∃ x, nodeOf t = x := ⟨_, rfl⟩
      obtain ⟨nr, hnr⟩ : ∃ x, nodeOf r = x := ⟨_, rfl⟩
      rw [hnn] at HC HQ q0 q1 q2 q3
      rw [hnr] at HC
      unfold nodeV at HC
      clear hC hmg ht hr hnn hnr HKr HMr
      go_wp2_with fail
      go_region_with (go_at_call 60; refine (HC.out _ (Below.refl _ _).drew).mono ?_; rintro e w2 ⟨ta, tn, tc, rfl, hb2, hk2, hm2⟩; obtain ⟨fz2, ⟨p0, p1, p2, p3, p4⟩, b42⟩ := HQ.out w2 hb2)
      all_goals (
        have HK2 : Hid (KidsAt g L cap fp (rs.take (i + 1) ++ ts.drop (i + 1)) (set5at w2 g (i * 5) nr (.slice ta tn tc))) := hk2
        have HM2 : Hid (Mid w 3 b.w b.h 3 (b.w + n) b.h 0 (.slice ad L cap0) (.slice (some ⟨g, 0, none⟩) L cap) (set5at w2 g (i * 5) nr (.slice ta tn tc))) := hm2
        clear hk2 hm2 hb2 fz fz2 p0 p1 p2 p3 p4 q0 q1 q2 q3 q4 b4 b42 HC HQ
        go_wp2
        go_roundw
        case rel => exact ⟨i + 1, by omega, by go_num, HK2, HM2⟩
        case measure => simp [intOf]; omega)
    · have hin : i = L := by omega
      subst hin
      have hkr := HKr.out
      rw [List.take_of_length_le (by rw [HLr.out]; exact Nat.le_refl _), List.drop_eq_nil_of_le (by rw [HL.out]; exact Nat.le_refl _), List.append_nil] at hkr
      have HF : Hid (∀ v0 v1 v2 v3 v4, StrN (.split (b.str 2 n) 3 rs) fp w (.returned (.agg #[.int .i64 3, .int .i64 (b.w + n), .int .i64 b.h, .int .i64 0, .slice (some ⟨g, 0, none⟩) i cap])) (set5 wr (w.heap.size + 1) v0 v1 v2 v3 v4)) := fun v0 v1 v2 v3 v4 => strN_end hkr HMr.out hg2 HFp.out rfl v0 v1 v2 v3 v4
      have n0 : wr.cell? ⟨w.heap.size + 1 + 1, 0, none⟩ = some (.int .i64 3) := cell_atL HMr.out.new 0
      have n1 : wr.cell? ⟨w.heap.size + 1 + 1, 1, none⟩ = some (.int .i64 (b.w + n)) := cell_atL HMr.out.new 1
      have n2 : wr.cell? ⟨w.heap.size + 1 + 1, 2, none⟩ = some (.int .i64 b.h) := cell_atL HMr.out.new 2
      have n3 : wr.cell? ⟨w.heap.size + 1 + 1, 3, none⟩ = some (.int .i64 0) := cell_atL HMr.out.new 3
      have n4 : wr.cell? ⟨w.heap.size + 1 + 1, 4, none⟩ = some (.slice (some ⟨g, 0, none⟩) i cap) := cell_atL HMr.out.new 4
      have r0 : wr.cell? ⟨w.heap.size + 1, 0, none⟩ = some (.int .i64 0) := cell_atL HMr.out.res 0
      have r1 : wr.cell? ⟨w.heap.size + 1, 1, none⟩ = some (.int .i64 0) := cell_atL HMr.out.res 1
      have r2 : wr.cell? ⟨w.heap.size + 1, 2, none⟩ = some (.int .i64 0) := cell_atL HMr.out.res 2
      have r3 : wr.cell? ⟨w.heap.size + 1, 3, none⟩ = some (.int .i64 0) := cell_atL HMr.out.res 3
      have r4 : wr.cell? ⟨w.heap.size + 1, 4, none⟩ = some (.slice none 0 0) := cell_atL HMr.out.res 4
      have f0 := free_atL HMr.out.res 0
      have f1 := free_atL HMr.out.res 1
      have f2 := free_atL HMr.out.res 2
      have f3 := free_atL HMr.out.res 3
      have f4 := free_atL HMr.out.res 4
      clear HKr HMr hkr b4
      go_wp2
      exact bodyPost_ret (v := .agg #[.int .i64 3, .int .i64 (b.w + n), .int .i64 b.h, .int .i64 0, .slice (some ⟨g, 0, none⟩) i cap]) (by simp [results, Try.results60, go_sem, r0, r1, r2, r3, r4]) rfl (HF.out _ _ _ _ _)

end Go.Proofs.Ytjnmjoigmbpodaa
