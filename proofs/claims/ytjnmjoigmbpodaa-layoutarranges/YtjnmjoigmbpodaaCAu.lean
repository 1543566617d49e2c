/-
  Layouts: the law of Arrange.
-/
import Derived.Test.YtjnmjoigmbpodaaCAt
namespace Go.Proofs.Ytjnmjoigmbpodaa
open Go.RowKit
set_option linter.unusedVariables false
set_option maxRecDepth 100000

set_option maxHeartbeats 4000000 in
theorem arrR_one (v : Value) (l : List CellV) (how sz : Int) (w : World) (h : CellsIn w v l) {t : Tree} (hF : readF l = some t) (hh : 1 ≤ how ∧ how ≤ 5) (hl1 : (idsOf l).length = 1) : Calls Try.prog 15 #[v, .int .i64 how, .int .i64 sz] w (ArrAns t w) := by
  have hO := arr_of hF
  have HT : Hid (Calls Try.prog 27 #[v] w (TreeYes t w)) := tree_yes v l w h hF
  have HCn : Hid ((nodeOf t).cnt ≤ 1000 ∧ (nodeOf t).ids = idsOf l) := ⟨by rw [cnt_of]; have := lay_size hO.lay; omega, by rw [ids_told t 0 hO.lay.kinds, hO.lay.tell]⟩
  have HK : Hid (t.kinds ∧ t.size ≤ 200 ∧ t.sound = true) := ⟨hO.lay.kinds, by have := lay_size hO.lay; omega, hO.lay.sound⟩
  have H1 : Hid ((idsOf l).length = 1) := hl1
  have hAns : ArrAns t w = Ans2 0 (laidL t) w := by funext e w'; unfold ArrAns; rw [if_pos HK.out.2.2]
  rw [hAns]
  obtain ⟨nk, hnk⟩ : ∃ x, (nodeOf t).k = x := ⟨_, rfl⟩
  obtain ⟨wd, hwd⟩ : ∃ x, (nodeOf t).w = x := ⟨_, rfl⟩
  obtain ⟨ht, hht⟩ : ∃ x, (nodeOf t).h = x := ⟨_, rfl⟩
  obtain ⟨ni, hni⟩ : ∃ x, (nodeOf t).i = x := ⟨_, rfl⟩
  have HNd : Hid ((nodeOf t).k = nk ∧ (nodeOf t).w = wd ∧ (nodeOf t).h = ht ∧ (nodeOf t).i = ni) := ⟨hnk, hwd, hht, hni⟩
  have d1 : decide (how < (1 : Int)) = false := decide_eq_false (by omega)
  have d2 : decide ((5 : Int) < how) = false := decide_eq_false (by omega)
  clear hF h hO hl1 hh hAns hnk hwd hht hni
  go_enter Try.func15, Try.ntmps15
  go_wp2_with fail
  refine HT.out.mono ?_
  rintro e w1 ⟨sa, sn, sc, fp, he, hIn, hb⟩
  have he2 : e = .returned (.tuple #[.agg #[.int .i64 nk, .int .i64 wd, .int .i64 ht, .int .i64 ni, .slice sa sn sc], .bool true]) := by
    rw [he, ← HNd.out.1, ← HNd.out.2.1, ← HNd.out.2.2.1, ← HNd.out.2.2.2]
    rfl
  subst he2
  obtain ⟨W, hW⟩ : ∃ W, w1.alloc (.cells #[.int .i64 nk, .int .i64 wd, .int .i64 ht, .int .i64 ni, .slice sa sn sc] 67) = W := ⟨_, rfl⟩
  have hbW : Below w1.heap.size w1 W := by rw [← hW]; exact zero_below _ _
  have HBW : Hid (Below w.heap.size w W) := below_step hb hbW
  have hM : W.heap[w1.heap.size]? = some (.cells #[.int .i64 nk, .int .i64 wd, .int .i64 ht, .int .i64 ni, .slice sa sn sc] 67 (0, 0)) := by rw [← hW]; exact heap_alloc_new _ _
  have HX : Hid (∀ X, Below W.heap.size W X → X.heap[w1.heap.size]? = some (.cells #[.int .i64 nk, .int .i64 wd, .int .i64 ht, .int .i64 ni, .slice sa sn sc] 67 (0, 0))) := fun X hX => (hX.block _ (lt_of_block hM)).trans hM
  have HW : Hid (w1.alloc (.cells #[.int .i64 nk, .int .i64 wd, .int .i64 ht, .int .i64 ni, .slice sa sn sc] 67) = W) := hW
  have HId : Hid (Calls Try.prog 28 #[.agg #[.int .i64 nk, .int .i64 wd, .int .i64 ht, .int .i64 ni, .slice sa sn sc]] W fun e w' => ∃ u, e = .returned u ∧ IOwns w' W.heap.size u (idsOf l) ∧ Below W.heap.size W w') := by
    have hg := ids_good (nodeOf t) HCn.out.1 _ fp W (hIn.below hbW)
    rw [HCn.out.2] at hg
    have e0 : nodeV (nodeOf t) (.slice sa sn sc) = #[.int .i64 nk, .int .i64 wd, .int .i64 ht, .int .i64 ni, .slice sa sn sc] := by
      rw [← HNd.out.1, ← HNd.out.2.1, ← HNd.out.2.2.1, ← HNd.out.2.2.2]
      rfl
    rw [e0] at hg
    exact hg
  have HLi : Hid (∀ X, Below W.heap.size W X → Calls Try.prog 33 #[.agg #[.int .i64 nk, .int .i64 wd, .int .i64 ht, .int .i64 ni, .slice sa sn sc]] X fun e w' => ∃ u, e = .returned u ∧ CeOwns w' X.heap.size u (laidL t) ∧ Below X.heap.size X w') := fun X hX => by
    have hg := list_end HK.out.2.2 HK.out.1 HK.out.2.1 ((hIn.below hbW).below hX)
    have e0 : nodeV (nodeOf t) (.slice sa sn sc) = #[.int .i64 nk, .int .i64 wd, .int .i64 ht, .int .i64 ni, .slice sa sn sc] := by
      rw [← HNd.out.1, ← HNd.out.2.1, ← HNd.out.2.2.1, ← HNd.out.2.2.2]
      rfl
    rw [e0] at hg
    exact hg
  clear he hb hIn hbW hM hW HT
  go_upto_region 2 with fail
  rw [HW.out]
  have hMW := HX.out W (Below.refl _ _)
  have n0 : W.cell? ⟨w1.heap.size, 0, none⟩ = some (.int .i64 nk) := cell_atL hMW 0
  have n1 : W.cell? ⟨w1.heap.size, 1, none⟩ = some (.int .i64 wd) := cell_atL hMW 1
  have n2 : W.cell? ⟨w1.heap.size, 2, none⟩ = some (.int .i64 ht) := cell_atL hMW 2
  have n3 : W.cell? ⟨w1.heap.size, 3, none⟩ = some (.int .i64 ni) := cell_atL hMW 3
  have n4 : W.cell? ⟨w1.heap.size, 4, none⟩ = some (.slice sa sn sc) := cell_atL hMW 4
  clear hMW
  go_wp2_with fail
  refine HId.out.mono ?_
  rintro e w2 ⟨u, rfl, hu, hb2⟩
  obtain ⟨ua, uc, rfl⟩ : ∃ a c, u = .slice a 1 c := by
    have h2 : w2.ownsRow W.heap.size 3 1 u (idsOf l).length ((idsOf l).map (Value.int .i64)) := hu
    rw [H1.out] at h2
    rcases h2.2 with ⟨_, h0⟩ | ⟨g', cap, cur, e, _⟩
    · cases h0
    · exact ⟨_, _, e⟩
  have HB2 : Hid (Below W.heap.size W w2) := hb2
  have HwW2 : Hid (Below w.heap.size w w2) := below_step HBW.out hb2
  clear hu hb2 n0 n1 n2 n3 n4 HId
  have hM2 := HX.out w2 HB2.out
  have n0 : w2.cell? ⟨w1.heap.size, 0, none⟩ = some (.int .i64 nk) := cell_atL hM2 0
  have n1 : w2.cell? ⟨w1.heap.size, 1, none⟩ = some (.int .i64 wd) := cell_atL hM2 1
  have n2 : w2.cell? ⟨w1.heap.size, 2, none⟩ = some (.int .i64 ht) := cell_atL hM2 2
  have n3 : w2.cell? ⟨w1.heap.size, 3, none⟩ = some (.int .i64 ni) := cell_atL hM2 3
  have n4 : w2.cell? ⟨w1.heap.size, 4, none⟩ = some (.slice sa sn sc) := cell_atL hM2 4
  clear hM2
  go_wp2_with fail
  refine (HLi.out _ HB2.out).mono ?_
  rintro e w5 ⟨q, rfl, hq, hb5⟩
  have H5 : Hid (CeOwns w5 w.heap.size q (laidL t) ∧ Below w.heap.size w w5) := ⟨hq.lower HwW2.out.size, below_step HwW2.out hb5⟩
  clear hq hb5
  go_wp2
  refine bodyPost_ret (v := .tuple #[q, .int .i64 0]) (by simp [results, Try.results15, go_sem]) rfl ?_
  exact ⟨_, rfl, H5.out.1, H5.out.2⟩

theorem arrR_many (v : Value) (l : List CellV) (how sz : Int) (w : World) (h : CellsIn w v l) {t : Tree} (hF : readF l = some t) (hh : 1 ≤ how ∧ how ≤ 5) (hsz : -9223372036854775808 ≤ sz ∧ sz ≤ 9223372036854775807) (z0 : Int) (zs : List Int) (hids : idsOf l = z0 :: zs) (h1 : 1 ≤ zs.length) : Calls Try.prog 15 #[v, .int .i64 how, .int .i64 sz] w (ArrAns (arrT how z0 zs ⟨0, 0, t.box.w, t.box.h⟩ sz) w) := by
  have hO := arr_of hF
  have HT : Hid (Calls Try.prog 27 #[v] w (TreeYes t w)) := tree_yes v l w h hF
  have HCn : Hid ((nodeOf t).cnt ≤ 1000 ∧ (nodeOf t).ids = idsOf l) := ⟨by rw [cnt_of]; have := lay_size hO.lay; omega, by rw [ids_told t 0 hO.lay.kinds, hO.lay.tell]⟩
  have HNd : Hid ((nodeOf t).k = (nodeOf t).k ∧ (nodeOf t).w = t.box.w ∧ (nodeOf t).h = t.box.h ∧ (nodeOf t).i = (nodeOf t).i) := ⟨rfl, nodeOf_w t, nodeOf_h t, rfl⟩
  have hfew := hO.few
  rw [hids, List.length_cons] at hfew
  have hz : ∀ z ∈ z0 :: zs, idB z = true := by rw [← hids]; exact hO.ids
  have hw := hO.sides.1
  have hhh := hO.sides.2
  have hne : zs ≠ [] := fun e => by rw [e] at h1; simp at h1
  have hdoc := arr_doc how hh z0 zs t.box.w t.box.h sz h1 (by omega) hz hw hhh
  have HK : Hid ((arrT how z0 zs ⟨0, 0, t.box.w, t.box.h⟩ sz).kinds ∧ (arrT how z0 zs ⟨0, 0, t.box.w, t.box.h⟩ sz).size ≤ 200) := ⟨arr_kinds _ _ _ _ _, by have := arr_size how z0 zs ⟨0, 0, t.box.w, t.box.h⟩ sz h1 (by omega); omega⟩
  have hc : how = 1 ∨ how = 2 ∨ how = 3 ∨ how = 4 ∨ how = 5 := by omega
  rcases hc with rfl | rfl | rfl | rfl | rfl
  · refine arrR_row v l sz w HT _ _ _ _ HNd HCn z0 zs hids zs.length rfl h1 HK fun u X hX => ?_
    have := shared_any 2 (.inl rfl) t.box.w t.box.h (z0 :: zs) u X hw.2 hhh.2 hX (by simp) (by rw [List.length_cons]; omega)
    rw [hdoc]
    exact this
  · refine arrR_col v l sz w HT _ _ _ _ HNd HCn z0 zs hids zs.length rfl h1 HK fun u X hX => ?_
    have := shared_any 3 (.inr rfl) t.box.w t.box.h (z0 :: zs) u X hw.2 hhh.2 hX (by simp) (by rw [List.length_cons]; omega)
    rw [hdoc]
    exact this
  · refine arrR_mrow v l sz w HT _ _ _ _ HNd HCn z0 zs hids zs.length rfl h1 HK fun u X hX => ?_
    have := leading_any 3 (.inr rfl) z0 zs t.box.w t.box.h sz u X hw hhh hsz hX hne (by omega)
    rw [hdoc]
    exact this
  · refine arrR_mcol v l sz w HT _ _ _ _ HNd HCn z0 zs hids zs.length rfl h1 HK fun u X hX => ?_
    have := leading_any 2 (.inl rfl) z0 zs t.box.w t.box.h sz u X hw hhh hsz hX hne (by omega)
    rw [hdoc]
    exact this
  · refine arrR_tile v l sz w HT _ _ _ _ HNd HCn z0 zs hids zs.length rfl h1 HK fun u X hX => ?_
    have := tiledR_any (z0 :: zs) t.box.w t.box.h u X hw hhh hX (by rw [List.length_cons]; omega) (by rw [List.length_cons]; omega)
    rw [hdoc]
    exact this
theorem ans_of (T : Tree) (hz : T.size ≤ 100) : ∃ er r, (r : List CellV).length ≤ 100 ∧ ∀ w, ArrAns T w = Ans2 er r w := by
  cases hs : T.sound with
  | true => exact ⟨0, laidL T, by rw [laidL_len]; exact hz, fun w => by funext e w'; unfold ArrAns; rw [if_pos hs]⟩
  | false => exact ⟨44, [], by simp, fun w => by funext e w'; unfold ArrAns; rw [if_neg (by rw [hs]; decide)]⟩
theorem arrange_any (l : List CellV) (how sz : Int) (hsz : -9223372036854775808 ≤ sz ∧ sz ≤ 9223372036854775807) : ∃ er r, (r : List CellV).length ≤ 100 ∧ (∀ v X, CellsIn X v l → Calls Try.prog 14 #[v, .int .i64 how, .int .i64 sz] X (Ans2 er r X)) ∧ (∀ v X, CellsIn X v l → Calls Try.prog 15 #[v, .int .i64 how, .int .i64 sz] X (Ans2 er r X)) := by
  cases hF : readF l with
  | none => exact ⟨40, [], by simp, fun v X h => arrP_none v l how sz X h hF, fun v X h => arrR_none v l how sz X h hF⟩
  | some t =>
    by_cases hh : 1 ≤ how ∧ how ≤ 5
    · have hO := arr_of hF
      match hi : idsOf l, hO.some with
      | [], h0 => simp at h0
      | [z], _ =>
        obtain ⟨er, r, h1, h2⟩ := ans_of t (by have := lay_size hO.lay; omega)
        exact ⟨er, r, h1, fun v X h => by rw [← h2]; exact arrP_one v l how sz X h hF hh (by rw [hi]; rfl), fun v X h => by rw [← h2]; exact arrR_one v l how sz X h hF hh (by rw [hi]; rfl)⟩
      | z0 :: z1 :: zs, _ =>
        have hfew := hO.few
        rw [hi] at hfew
        have hl : (z1 :: zs).length ≤ 31 := by simp at hfew ⊢; omega
        obtain ⟨er, r, h1, h2⟩ := ans_of (arrT how z0 (z1 :: zs) ⟨0, 0, t.box.w, t.box.h⟩ sz) (arr_size how z0 (z1 :: zs) _ sz (by simp) hl)
        exact ⟨er, r, h1, fun v X h => by rw [← h2]; exact arrP_many v l how sz X h hF hh hsz z0 (z1 :: zs) hi (by simp), fun v X h => by rw [← h2]; exact arrR_many v l how sz X h hF hh hsz z0 (z1 :: zs) hi (by simp)⟩
    · exact ⟨1, [], by simp, fun v X h => arrP_arg v l how sz X h hF hh, fun v X h => arrR_arg v l how sz X h hF hh⟩

set_option maxHeartbeats 1000000 in
theorem arranges_walk (v : Value) (l : List CellV) (pa pb : Int) (hpb : -9223372036854775808 ≤ pb ∧ pb ≤ 9223372036854775807) (w : World) (hv : CellsIn w v l) (hnil : v = .slice none 0 0 ∨ ∃ a n c, v = .slice (some a) n c) (hlen : l.length * 56 ≤ 140737488351232) : Calls Try.prog 5 #[v, .int .i64 pa, .int .i64 pb] w fun x w' => x = .returned (.bool true) ∧ Below w.heap.size w w' := by
  have HTw : Hid (Calls Try.prog 6 #[v] w fun e w' => ∃ g cap, e = .returned (.slice (some ⟨g, 0, none⟩) l.length cap) ∧ TwinAt w' g cap l ∧ w.heap.size ≤ g ∧ Below w.heap.size w w') := twin_any v l w hv hnil hlen
  obtain ⟨er, r, hrl, hPa, hRa⟩ := arrange_any l pa pb hpb
  have HP : Hid (∀ u X, CellsIn X u l → Calls Try.prog 14 #[u, .int .i64 pa, .int .i64 pb] X fun x w' => ∃ q, x = .returned (.tuple #[q, .int .i64 er]) ∧ CeOwns w' X.heap.size q r ∧ Below X.heap.size X w') := hPa
  have HR : Hid (∀ X, Below w.heap.size w X → Calls Try.prog 15 #[v, .int .i64 pa, .int .i64 pb] X fun x w' => ∃ q, x = .returned (.tuple #[q, .int .i64 er]) ∧ CeOwns w' X.heap.size q r ∧ Below X.heap.size X w') := fun X hX => hRa v X (hv.below hX)
  have HW : Hid (∀ W, Calls Try.prog 9 #[] W fun e w' => e = .returned (.bool true) ∧ Below W.heap.size W w') := works_true
  have HK : Hid (∀ g cap X, TwinAt X g cap l → Below w.heap.size w X → Calls Try.prog 11 #[.slice (some ⟨g, 0, none⟩) l.length cap, v] X fun e w' => e = .returned (.bool true) ∧ Below X.heap.size X w') := fun g cap X hT hX => kept_any v g cap l X hT (hv.below hX) hlen
  have HS : Hid (∀ u v W, CellsIn W u r → CellsIn W v r → Calls Try.prog 10 #[u, v] W fun e w' => e = .returned (.bool true) ∧ Below W.heap.size W w') := fun u v W h1 h2 => by
    have := law_any u v _ _ W h1 h2 (by omega)
    rw [decide_eq_true rfl] at this
    exact this
  obtain ⟨L, hL⟩ : ∃ L, l.length = L := ⟨_, rfl⟩
  rw [hL] at HTw HK
  have HL : Hid (l.length = L) := hL
  clear hv hnil hlen hL hrl hPa hRa hpb
  go_enter Try.func5, Try.ntmps5
  go_wp2_with fail
  refine HTw.out.mono ?_
  rintro x w1 ⟨g, cap, rfl, hT, _, hb1⟩
  have H1 : Hid (TwinAt w1 g cap l ∧ Below w.heap.size w w1) := ⟨hT, hb1⟩
  have HP1 : Hid (Calls Try.prog 14 #[.slice (some ⟨g, 0, none⟩) L cap, .int .i64 pa, .int .i64 pb] w1 fun x w' => ∃ q, x = .returned (.tuple #[q, .int .i64 er]) ∧ CeOwns w' w1.heap.size q r ∧ Below w1.heap.size w1 w') := HP.out _ w1 (by have := hT.cellsIn; rw [HL.out] at this; exact this)
  clear hT hb1 HTw HP
  go_wp2_with fail
  refine HP1.out.mono ?_
  rintro x w2 ⟨q, rfl, hq, hb2⟩
  have H2 : Hid (TwinAt w2 g cap l ∧ Below w.heap.size w w2 ∧ CellsIn w2 q r) := ⟨H1.out.1.below hb2, below_step H1.out.2 hb2, hq.cellsIn⟩
  clear hb2 H1 HP1 hq
  go_wp2_with fail
  refine (HR.out _ H2.out.2.1).mono ?_
  rintro x w3 ⟨q', rfl, hq', hb3⟩
  have H3 : Hid (TwinAt w3 g cap l ∧ Below w.heap.size w w3 ∧ CellsIn w3 q r ∧ CellsIn w3 q' r) := ⟨H2.out.1.below hb3, below_step H2.out.2.1 hb3, H2.out.2.2.below hb3, hq'.cellsIn⟩
  clear hb3 H2 HR hq'
  go_wp2_with fail
  refine (HW.out _).mono ?_
  rintro x w4 ⟨rfl, hb4⟩
  have H4 : Hid (TwinAt w4 g cap l ∧ Below w.heap.size w w4 ∧ CellsIn w4 q r ∧ CellsIn w4 q' r) := ⟨H3.out.1.below hb4, below_step H3.out.2.1 hb4, H3.out.2.2.1.below hb4, H3.out.2.2.2.below hb4⟩
  clear hb4 H3 HW
  go_wp2_with fail
  refine (HS.out _ _ _ H4.out.2.2.1 H4.out.2.2.2).mono ?_
  rintro x w5 ⟨rfl, hb5⟩
  have H5 : Hid (TwinAt w5 g cap l ∧ Below w.heap.size w w5) := ⟨H4.out.1.below hb5, below_step H4.out.2.1 hb5⟩
  clear hb5 H4 HS
  go_wp2_with fail
  refine (HK.out _ _ _ H5.out.1 H5.out.2).mono ?_
  rintro x w6 ⟨rfl, hb6⟩
  have H6 : Hid (Below w.heap.size w w6) := below_step H5.out.2 hb6
  clear hb6 H5
  go_wp2
  go_ret
  exact ⟨rfl, H6.out⟩

end Go.Proofs.Ytjnmjoigmbpodaa
