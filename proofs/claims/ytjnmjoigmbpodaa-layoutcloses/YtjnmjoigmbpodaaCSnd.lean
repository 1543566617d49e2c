/-
  Layouts: the document's stretch: along a row.
-/
import Derived.Test.YtjnmjoigmbpodaaCSm
namespace Go.Proofs.Ytjnmjoigmbpodaa
open Go.RowKit
set_option linter.unusedVariables false
set_option maxRecDepth 100000

set_option maxHeartbeats 4000000 in
theorem strN_along2 (b : Box) (ts rs : List Tree) (n : Int) (m N : Nat) (sl : Value) (fp : List Nat) (w : World) (hn : n ≠ 0) (hok : StrOk (.split b 2 ts) 2 n) (hD : Deal 2 m ts 0 n rs) (IH : ∀ t : Tree, t.size ≤ N → StrGood t) (hN : sizes ts ≤ N) (hIn : (nodeOf (.split b 2 ts)).In w sl fp) :
    Calls Try.prog 60 #[.agg (nodeV (nodeOf (.split b 2 ts)) sl), .int .i64 2, .int .i64 n] w (StrN (.split (b.str 2 n) 2 rs) fp w) := by
  have hsd := (Tree.split b 2 ts).sound_sides hok.sound
  change (1 ≤ b.w ∧ b.w ≤ 1000) ∧ (1 ≤ b.h ∧ b.h ≤ 1000) at hsd
  have hlo := hok.low
  have hhi := hok.high
  have hs := hok.sound
  unfold Tree.sound at hs
  simp only [Bool.and_eq_true, decide_eq_true_eq] at hs
  have h2 := hs.1.1
  have hsz := hok.size
  change 1 + sizes ts ≤ 900 at hsz
  have hll := length_sizes ts
  obtain ⟨ad, cap0, hsl⟩ := hIn.sl
  change (Node.mk 2 b.w b.h 0 (nodesOf ts)).In w sl fp at hIn
  change sl = .slice ad (nodesOf ts).length cap0 at hsl
  rw [nodesOf_length] at hsl
  obtain ⟨L, hL⟩ : ∃ L, ts.length = L := ⟨_, rfl⟩
  rw [hL] at hsl hll h2
  subst hsl
  have hIn' := hIn
  obtain ⟨cs, fs, hrow, hnodes, hfp⟩ := hIn'
  rw [nodesOf_length, hL] at hrow
  have HOw : Hid (∀ o1 o2 o3, (((w.alloc o1).alloc o2).alloc o3).ownsRow 0 67 5 (.slice ad L cap0) L cs) := fun o1 o2 o3 => ((hrow.alloc o1).alloc o2).alloc o3
  have HOne : Hid (∀ u ∈ cs, u.oneCell' = true) := hnodes.oneCell
  have HK : Hid (∀ v w6, ((((w.alloc (.cells #[.int .i64 2, .int .i64 b.w, .int .i64 b.h, .int .i64 0, .slice ad L cap0] 67)).alloc (.cells zeroN 67)).alloc (.cells #[.int .i64 2, .int .i64 (b.w + n), .int .i64 b.h, .int .i64 0, .slice ad L cap0] 67))).grownBy w6 none → w6.ownsRow (w.heap.size + 3) 67 5 v L cs → ∃ g cap, v = .slice (some ⟨g, 0, none⟩) L cap ∧ w.heap.size + 2 < g ∧ KidsAt g L cap fp ts (w6.setCell ⟨w.heap.size + 1 + 1, 4, none⟩ v) ∧ Mid w 2 b.w b.h 2 (b.w + n) b.h 0 (.slice ad L cap0) v (w6.setCell ⟨w.heap.size + 1 + 1, 4, none⟩ v)) := by
    intro v w6 hg hr
    have hM := Mid.start w 2 b.w b.h 2 (b.w + n) b.h 0 (.slice ad L cap0)
    obtain ⟨g, cap, e1, e2, e3⟩ := KidsAt.start hIn hM (by simp) hg (by rw [hfp]; exact fun q hq => List.mem_append_right _ hq) hnodes (by rw [hL]; simpa using hr) (by omega)
    rw [hL] at e1 e3
    exact ⟨g, cap, e1, e2, e3, hM.copied hg v⟩
  have HA2 : Hid (∀ w6, ((((w.alloc (.cells #[.int .i64 2, .int .i64 b.w, .int .i64 b.h, .int .i64 0, .slice ad L cap0] 67)).alloc (.cells zeroN 67)).alloc (.cells #[.int .i64 2, .int .i64 (b.w + n), .int .i64 b.h, .int .i64 0, .slice ad L cap0] 67))).grownBy w6 none → ∃ u, w6.cell? ⟨w.heap.size + 1 + 1, 4, none⟩ = some u ∧ w6.frozen? ⟨w.heap.size + 1 + 1, 4, none⟩ = false) := fun w6 hg => by
    have hM := Mid.start w 2 b.w b.h 2 (b.w + n) b.h 0 (.slice ad L cap0)
    have hnew := (hg.block _ (lt_of_block hM.new) (by simp)).trans hM.new
    exact ⟨_, cell_atL hnew 4, free_atL hnew 4⟩
  have HFp : Hid (∀ q ∈ fp, q < w.heap.size) := hIn.lt
  have HL : Hid (ts.length = L) := hL
  have hL9 : L ≤ 900 := by omega
  have hw1 : IntKind.i64.wrap (b.w + n) = b.w + n := by rw [IntKind.wrap_i64]; omega
  have HIH : Hid (∀ t : Tree, t.size ≤ N → StrGood t) := IH
  have HD : Hid (Deal 2 m ts 0 n rs) := hD
  have HSm : Hid (∀ t ∈ ts, t.size ≤ N) := fun t ht => by
    obtain ⟨i, hi⟩ := List.getElem?_of_mem ht
    have := sizes_at ts i t hi
    omega
  have hL0 : 0 < L := by omega
  have hn0 : (n == 0) = false := by simpa using hn
  show Calls Try.prog 60 #[.agg #[.int .i64 2, .int .i64 b.w, .int .i64 b.h, .int .i64 0, .slice ad L cap0], .int .i64 2, .int .i64 n] w (StrN (.split (b.str 2 n) 2 rs) fp w)
  clear hIn hrow hnodes hfp hok hs hsd hsz hll hL hD hN IH hlo hhi hn
  go_enter Try.func60, Try.ntmps60
  go_wp2_with (at_builtin; refine wpList_append_row _ rfl (.const (.slice none 0 0)) (.tmp 25) 65 67 rfl (.agg zeroN) 5 56 Try.underlying65 infoNode rfl (by decide) (by decide) (w.heap.size + 3) (.slice none 0 0) 0 [] rfl (World.ownsRow_nil _ _ _ _) 0 (.slice ad L cap0) L cs rfl (HOw.out _ _ _) HOne.out ?x1 ?x2 ?_; (case x1 => omega); (case x2 => simp); intro v w6 a1 a2; rw [Nat.zero_add, List.nil_append] at a1; obtain ⟨g, cap, rfl, hg2, hkids, hmid⟩ := HK.out v w6 a2 a1; have HKi : Hid (KidsAt g L cap fp ts (w6.setCell ⟨w.heap.size + 1 + 1, 4, none⟩ (.slice (some ⟨g, 0, none⟩) L cap))) := hkids; have HMi : Hid (Mid w 2 b.w b.h 2 (b.w + n) b.h 0 (.slice ad L cap0) (.slice (some ⟨g, 0, none⟩) L cap) (w6.setCell ⟨w.heap.size + 1 + 1, 4, none⟩ (.slice (some ⟨g, 0, none⟩) L cap))) := hmid; have c0 : w6.cell? ⟨w.heap.size, 0, none⟩ = some (.int .i64 2) := cell_atL ((Below.heap_setCell _ _ _ _ (by show w.heap.size ≠ w.heap.size + 1 + 1; omega)).symm.trans hmid.par) 0; have c4 := HA2.out w6 a2; obtain ⟨u4, c4, f4⟩ := c4; clear hkids hmid a1 a2)
  go_loopw [9, 10] (fun vi vn wr => DealQN w 2 b.w b.h (b.w + n) b.h (.slice ad L cap0) g L cap fp N rs vi vn wr (leastM (DealQN w 2 b.w b.h (b.w + n) b.h (.slice ad L cap0) g L cap fp N rs vi vn wr))) (fun vi vn wr => leastM (DealQN w 2 b.w b.h (b.w + n) b.h (.slice ad L cap0) g L cap fp N rs vi vn wr))
  case atStart => exact leastM_is ⟨m, 0, n, ts, rfl, rfl, HD.out, HKi.out, HMi.out, HSm.out, hL0⟩
  case round =>
    obtain ⟨i, x, us, rfl, rfl, hD⟩ := hrel
    clear c0 c4 f4 HKi HMi HD HSm
    obtain ⟨M, hM⟩ : ∃ M, leastM (DealQN w 2 b.w b.h (b.w + n) b.h (.slice ad L cap0) g L cap fp N rs (.int .i64 i) (.int .i64 x) wr) = M := ⟨_, rfl⟩
    rw [hM] at hD
    have HM : Hid (leastM (DealQN w 2 b.w b.h (b.w + n) b.h (.slice ad L cap0) g L cap fp N rs (.int .i64 i) (.int .i64 x) wr) = M) := hM
    clear hM
    by_cases h0 : x = 0
    · subst h0
      have hkr : KidsAt g L cap fp rs wr := by
        rcases deal_cases hD.deal with ⟨_, he⟩ | ⟨_, _, _, he, _⟩ | ⟨_, _, _, _, he, _⟩
        · exact he ▸ hD.kids
        · exact absurd he (by decide)
        · exact absurd rfl he
      have HF : Hid (∀ v0 v1 v2 v3 v4, StrN (.split (b.str 2 n) 2 rs) fp w (.returned (.agg #[.int .i64 2, .int .i64 (b.w + n), .int .i64 b.h, .int .i64 0, .slice (some ⟨g, 0, none⟩) L cap])) (set5 wr (w.heap.size + 1) v0 v1 v2 v3 v4)) := fun v0 v1 v2 v3 v4 => strN_end hkr hD.mid hg2 HFp.out rfl v0 v1 v2 v3 v4
      have n0 : wr.cell? ⟨w.heap.size + 1 + 1, 0, none⟩ = some (.int .i64 2) := cell_atL hD.mid.new 0
      have n1 : wr.cell? ⟨w.heap.size + 1 + 1, 1, none⟩ = some (.int .i64 (b.w + n)) := cell_atL hD.mid.new 1
      have n2 : wr.cell? ⟨w.heap.size + 1 + 1, 2, none⟩ = some (.int .i64 b.h) := cell_atL hD.mid.new 2
      have n3 : wr.cell? ⟨w.heap.size + 1 + 1, 3, none⟩ = some (.int .i64 0) := cell_atL hD.mid.new 3
      have n4 : wr.cell? ⟨w.heap.size + 1 + 1, 4, none⟩ = some (.slice (some ⟨g, 0, none⟩) L cap) := cell_atL hD.mid.new 4
      have r0 : wr.cell? ⟨w.heap.size + 1, 0, none⟩ = some (.int .i64 0) := cell_atL hD.mid.res 0
      have r1 : wr.cell? ⟨w.heap.size + 1, 1, none⟩ = some (.int .i64 0) := cell_atL hD.mid.res 1
      have r2 : wr.cell? ⟨w.heap.size + 1, 2, none⟩ = some (.int .i64 0) := cell_atL hD.mid.res 2
      have r3 : wr.cell? ⟨w.heap.size + 1, 3, none⟩ = some (.int .i64 0) := cell_atL hD.mid.res 3
      have r4 : wr.cell? ⟨w.heap.size + 1, 4, none⟩ = some (.slice none 0 0) := cell_atL hD.mid.res 4
      have f0 := free_atL hD.mid.res 0
      have f1 := free_atL hD.mid.res 1
      have f2 := free_atL hD.mid.res 2
      have f3 := free_atL hD.mid.res 3
      have f4 := free_atL hD.mid.res 4
      clear hD hkr
      go_wp2
      exact bodyPost_ret (v := .agg #[.int .i64 2, .int .i64 (b.w + n), .int .i64 b.h, .int .i64 0, .slice (some ⟨g, 0, none⟩) L cap]) (by simp [results, Try.results60, go_sem, r0, r1, r2, r3, r4]) rfl (HF.out _ _ _ _ _)
    · obtain ⟨m', nn, sa, sn, sc, r, hm, hO⟩ := deal_nextN hg2 HIH.out hD h0
      have hi : i < L := hD.lt
      have hst := step_nat i L hL0 (by omega) hi
      have s1 := hst.1
      have s2 := hst.2
      have Hm : Hid (M = m' + 1) := hm
      have HQ : Hid (∀ X, Below wr.heap.size wr X → (∀ o, X.frozen? ⟨g, o, none⟩ = false) ∧ KidIn X g (i * 5) nn (.slice sa sn sc) ∧ X.cell? ⟨w.heap.size + 1 + 1, 4, none⟩ = some (.slice (some ⟨g, 0, none⟩) L cap)) := hO.cells
      obtain ⟨fz, ⟨q0, q1, q2, q3, q4⟩, b4⟩ := hO.cells wr (Below.refl _ _)
      have hxx : (x != 0) = true := by simpa using h0
      have hl := hO.lim
      by_cases hpos : 0 < x
      · have hsg : sg x = 1 := if_neg (by omega)
        have HG : Hid (∀ X, Below wr.heap.size wr X → Calls Try.prog 60 #[.agg (nodeV nn (.slice sa sn sc)), .int .i64 2, .int .i64 1] X fun e w' => ∃ nr ta tn tc us, e = .returned (.agg (nodeV nr (.slice ta tn tc))) ∧ Below wr.heap.size wr w' ∧ DealN w 2 b.w b.h (b.w + n) b.h (.slice ad L cap0) g L cap fp N rs m' ((i + 1) % L) (x - 1) (set5at w' g (i * 5) nr (.slice ta tn tc)) us) := fun X hX => by
          have := hO.give (fun h => absurd h (by omega)) X hX
          rw [hsg] at this
          exact this
        have hw : IntKind.i64.wrap (x - 1) = x - 1 := by rw [IntKind.wrap_i64]; omega
        unfold nodeV at HG
        clear hO hD hst hm hsg h0 hl
        go_wp2_with fail
        go_region_with (go_at_call 60; refine (HG.out _ (by first | exact (Below.refl _ _).drew | exact HB1.out.drew)).mono ?_; rintro e w2 ⟨nr, ta, tn, tc, us2, rfl, hb2, hd2⟩; obtain ⟨fz2, ⟨p0, p1, p2, p3, p4⟩, b42⟩ := HQ.out w2 hb2)
        all_goals (
          have HN2 : Hid (DealN w 2 b.w b.h (b.w + n) b.h (.slice ad L cap0) g L cap fp N rs m' ((i + 1) % L) (x - 1) (set5at w2 g (i * 5) nr (.slice ta tn tc)) us2) := hd2
          have x4 : (((((w2.setCell ⟨g, i * 5, none⟩ (.int .i64 nr.k)).setCell ⟨g, i * 5 + 1, none⟩ (.int .i64 nr.w)).setCell ⟨g, i * 5 + 2, none⟩ (.int .i64 nr.h)).setCell ⟨g, i * 5 + 3, none⟩ (.int .i64 nr.i)).setCell ⟨g, i * 5 + 4, none⟩ (.slice ta tn tc)).cell? ⟨w.heap.size + 1 + 1, 4, none⟩ = some (.slice (some ⟨g, 0, none⟩) L cap) := cell_atL hd2.mid.new 4
          clear hd2 hb2 fz2 p0 p1 p2 p3 p4 q0 q1 q2 q3 q4 fz HG HQ
          go_wp2
          try rw [step_val]
          exact ⟨leastM_is ⟨m', (i + 1) % L, (x - 1), us2, rfl, rfl, HN2.out⟩, Nat.lt_of_le_of_lt (leastM_le ⟨(i + 1) % L, (x - 1), us2, rfl, rfl, HN2.out⟩) (by rw [HM.out, Hm.out]; omega)⟩)
      · have hneg : x < 0 := by omega
        have hsg : sg x = -1 := if_pos hneg
        have HR : Hid (Calls Try.prog 73 #[.agg (nodeV nn (.slice sa sn sc)), .int .i64 2] wr fun e w' => e = .returned (.int .i64 r) ∧ Below wr.heap.size wr w') := hO.room wr (Below.refl _ _)
        have HSk : Hid (r = 0 → ∃ us, DealN w 2 b.w b.h (b.w + n) b.h (.slice ad L cap0) g L cap fp N rs m' ((i + 1) % L) x wr us) := fun h => hO.skip hneg h
        have HGi : Hid (r ≠ 0 → ∀ X, Below wr.heap.size wr X → Calls Try.prog 60 #[.agg (nodeV nn (.slice sa sn sc)), .int .i64 2, .int .i64 (-1)] X fun e w' => ∃ nr ta tn tc us, e = .returned (.agg (nodeV nr (.slice ta tn tc))) ∧ Below wr.heap.size wr w' ∧ DealN w 2 b.w b.h (b.w + n) b.h (.slice ad L cap0) g L cap fp N rs m' ((i + 1) % L) (x + 1) (set5at w' g (i * 5) nr (.slice ta tn tc)) us) := fun h X hX => by
          have := hO.give (fun _ => h) X hX
          rw [hsg, show x - -1 = x + 1 by omega] at this
          exact this
        have hrl := hO.low
        have hw : IntKind.i64.wrap (x + 1) = x + 1 := by rw [IntKind.wrap_i64]; omega
        unfold nodeV at HGi HR
        clear hO hD hst hm hsg h0 hl
        by_cases hr : r = 0
        · obtain ⟨us1, hN1⟩ := HSk.out hr
          subst hr
          have HN1 : Hid (DealN w 2 b.w b.h (b.w + n) b.h (.slice ad L cap0) g L cap fp N rs m' ((i + 1) % L) x wr us1) := hN1
          clear hN1 HSk HGi
          go_wp2_with fail
          refine HR.out.mono ?_
          rintro e w1 ⟨rfl, hb1⟩
          have HN3 : Hid (DealN w 2 b.w b.h (b.w + n) b.h (.slice ad L cap0) g L cap fp N rs m' ((i + 1) % L) x w1 us1) := HN1.out.below hb1
          have b42 := (HQ.out w1 hb1).2.2
          clear HR hb1 HQ HN1 q0 q1 q2 q3 q4 fz b4
          go_wp2
          try rw [step_val]
          exact ⟨leastM_is ⟨m', (i + 1) % L, x, us1, rfl, rfl, HN3.out⟩, Nat.lt_of_le_of_lt (leastM_le ⟨(i + 1) % L, x, us1, rfl, rfl, HN3.out⟩) (by rw [HM.out, Hm.out]; omega)⟩
        · have hrp : 0 < r := by omega
          have HG : Hid (∀ X, Below wr.heap.size wr X → Calls Try.prog 60 #[.agg #[.int .i64 nn.k, .int .i64 nn.w, .int .i64 nn.h, .int .i64 nn.i, .slice sa sn sc], .int .i64 2, .int .i64 (-1)] X fun e w' => ∃ nr ta tn tc us, e = .returned (.agg #[.int .i64 nr.k, .int .i64 nr.w, .int .i64 nr.h, .int .i64 nr.i, .slice ta tn tc]) ∧ Below wr.heap.size wr w' ∧ DealN w 2 b.w b.h (b.w + n) b.h (.slice ad L cap0) g L cap fp N rs m' ((i + 1) % L) (x + 1) (set5at w' g (i * 5) nr (.slice ta tn tc)) us) := HGi.out hr
          clear HSk HGi hr hrl
          go_wp2_with fail
          refine HR.out.mono ?_
          rintro e w1 ⟨rfl, hb1⟩
          have HB1 : Hid (Below wr.heap.size wr w1) := hb1
          clear q0 q1 q2 q3 q4 fz b4
          obtain ⟨fz, ⟨q0, q1, q2, q3, q4⟩, b4⟩ := HQ.out w1 hb1
          clear HR hb1
          go_wp2_with fail
          go_region_with (go_at_call 60; refine (HG.out _ (by first | exact (Below.refl _ _).drew | exact HB1.out.drew)).mono ?_; rintro e w2 ⟨nr, ta, tn, tc, us2, rfl, hb2, hd2⟩; obtain ⟨fz2, ⟨p0, p1, p2, p3, p4⟩, b42⟩ := HQ.out w2 hb2)
          all_goals (
            have HN2 : Hid (DealN w 2 b.w b.h (b.w + n) b.h (.slice ad L cap0) g L cap fp N rs m' ((i + 1) % L) (x + 1) (set5at w2 g (i * 5) nr (.slice ta tn tc)) us2) := hd2
            have x4 : (((((w2.setCell ⟨g, i * 5, none⟩ (.int .i64 nr.k)).setCell ⟨g, i * 5 + 1, none⟩ (.int .i64 nr.w)).setCell ⟨g, i * 5 + 2, none⟩ (.int .i64 nr.h)).setCell ⟨g, i * 5 + 3, none⟩ (.int .i64 nr.i)).setCell ⟨g, i * 5 + 4, none⟩ (.slice ta tn tc)).cell? ⟨w.heap.size + 1 + 1, 4, none⟩ = some (.slice (some ⟨g, 0, none⟩) L cap) := cell_atL hd2.mid.new 4
            clear hd2 hb2 fz2 p0 p1 p2 p3 p4 q0 q1 q2 q3 q4 fz HG HQ
            go_wp2
            try rw [step_val]
            exact ⟨leastM_is ⟨m', (i + 1) % L, (x + 1), us2, rfl, rfl, HN2.out⟩, Nat.lt_of_le_of_lt (leastM_le ⟨(i + 1) % L, (x + 1), us2, rfl, rfl, HN2.out⟩) (by rw [HM.out, Hm.out]; omega)⟩)

end Go.Proofs.Ytjnmjoigmbpodaa
