/-
  Layouts: the document's Arrange, way by way.
-/
import Derived.Test.YtjnmjoigmbpodaaCAo
namespace Go.Proofs.Ytjnmjoigmbpodaa
open Go.RowKit
set_option linter.unusedVariables false
set_option maxRecDepth 100000

theorem ahead_plain {Y2 X : World} (h : Below (Y2.alloc (.cells #[.int .i64 0, .int .i64 0, .int .i64 0, .int .i64 0, .slice none 0 0] 67)).heap.size (Y2.alloc (.cells #[.int .i64 0, .int .i64 0, .int .i64 0, .int .i64 0, .slice none 0 0] 67)) X) : AheadAt Y2 X Y2.heap.size := ⟨below_step (zero_below _ _) h, (h.block _ (by simp)).trans (heap_alloc_new _ _), Nat.le_refl _⟩
structure NodeIs (n : Node) (nk wd ht ni : Int) : Prop where
  k : n.k = nk
  w : n.w = wd
  h : n.h = ht
  i : n.i = ni

set_option maxHeartbeats 8000000 in
theorem arrR_row (v : Value) (l : List CellV) (sz : Int) (w : World) {t AT : Tree} (HT : Hid (Calls Try.prog 27 #[v] w (TreeYes t w))) (wd ht nk ni : Int) (HNd : Hid ((nodeOf t).k = nk ∧ (nodeOf t).w = wd ∧ (nodeOf t).h = ht ∧ (nodeOf t).i = ni)) (HCn : Hid ((nodeOf t).cnt ≤ 1000 ∧ (nodeOf t).ids = idsOf l)) (z0 : Int) (zs : List Int) (HIl : Hid (idsOf l = z0 :: zs)) (m : Nat) (HM : Hid (zs.length = m)) (h1 : 1 ≤ m) (HK : Hid (AT.kinds ∧ AT.size ≤ 200))
    (HDo : Hid (∀ u X, IdsIn X u (z0 :: zs) → Calls Try.prog 41 #[u, .int .i64 2, .int .i64 wd, .int .i64 ht] X (DocA AT.sound (nodeOf AT) X))) : Calls Try.prog 15 #[v, .int .i64 1, .int .i64 sz] w (ArrAns AT w) := by
  have hm1 : ((m : Int) + 1 == 1) = false := by
    have : (m : Int) + 1 ≠ 1 := by omega
    simpa using this
  go_enter Try.func15, Try.ntmps15
  go_wp2_with fail
  refine HT.out.mono ?_
  rintro e w1 ⟨sa, sn, sc, fp, he, hIn, hb⟩
  have he2 : e = .returned (.tuple #[.agg #[.int .i64 nk, .int .i64 wd, .int .i64 ht, .int .i64 ni, .slice sa sn sc], .bool true]) := by
    rw [he, ← HNd.out.1, ← HNd.out.2.1, ← HNd.out.2.2.1, ← HNd.out.2.2.2]
    rfl
  subst he2
  obtain ⟨W, hW⟩ : ∃ W, w1.alloc (.cells #[.int .i64 nk, .int .i64 wd, .int .i64 ht, .int .i64 ni, .slice sa sn sc] 67) = W := ⟨_, rfl⟩
  have hbW : Below w1.heap.size w1 W := by rw [← hW]; exact zero_below _ _
  have HBW : Hid (Below w.heap.size w W) := below_step hb hbW
  have hM : W.heap[w1.heap.size]? = some (.cells #[.int .i64 nk, .int .i64 wd, .int .i64 ht, .int .i64 ni, .slice sa sn sc] 67 (0, 0)) := by rw [← hW]; exact heap_alloc_new _ _
  have HX : Hid (∀ X, Below W.heap.size W X → X.heap[w1.heap.size]? = some (.cells #[.int .i64 nk, .int .i64 wd, .int .i64 ht, .int .i64 ni, .slice sa sn sc] 67 (0, 0))) := fun X hX => (hX.block _ (lt_of_block hM)).trans hM
  have HW : Hid (w1.alloc (.cells #[.int .i64 nk, .int .i64 wd, .int .i64 ht, .int .i64 ni, .slice sa sn sc] 67) = W) := hW
  have HId : Hid (Calls Try.prog 28 #[.agg #[.int .i64 nk, .int .i64 wd, .int .i64 ht, .int .i64 ni, .slice sa sn sc]] W fun e w' => ∃ u, e = .returned u ∧ IOwns w' W.heap.size u (idsOf l) ∧ Below W.heap.size W w') := by
    have hg := ids_good (nodeOf t) HCn.out.1 _ fp W (hIn.below hbW)
    rw [HCn.out.2] at hg
    have e0 : nodeV (nodeOf t) (.slice sa sn sc) = #[.int .i64 nk, .int .i64 wd, .int .i64 ht, .int .i64 ni, .slice sa sn sc] := by
      rw [← HNd.out.1, ← HNd.out.2.1, ← HNd.out.2.2.1, ← HNd.out.2.2.2]
      rfl
    rw [e0] at hg
    exact hg
  clear he hb hIn hbW hM hW HT
  go_upto_region 2 with fail
  rw [HW.out]
  have hMW := HX.out W (Below.refl _ _)
  have n0 : W.cell? ⟨w1.heap.size, 0, none⟩ = some (.int .i64 nk) := cell_atL hMW 0
  have n1 : W.cell? ⟨w1.heap.size, 1, none⟩ = some (.int .i64 wd) := cell_atL hMW 1
  have n2 : W.cell? ⟨w1.heap.size, 2, none⟩ = some (.int .i64 ht) := cell_atL hMW 2
  have n3 : W.cell? ⟨w1.heap.size, 3, none⟩ = some (.int .i64 ni) := cell_atL hMW 3
  have n4 : W.cell? ⟨w1.heap.size, 4, none⟩ = some (.slice sa sn sc) := cell_atL hMW 4
  clear hMW
  go_wp2_with fail
  refine HId.out.mono ?_
  rintro e w2 ⟨u, rfl, hu, hb2⟩
  rw [HIl.out] at hu
  have HU : Hid (IdsIn w2 u (z0 :: zs)) := hu.ids (by simp)
  obtain ⟨gu, ou, cu, hue, _⟩ := HU.out
  rw [List.length_cons, HM.out] at hue
  subst hue
  have HB2 : Hid (Below W.heap.size W w2) := hb2
  have HwW2 : Hid (Below w.heap.size w w2) := below_step HBW.out hb2
  clear hu hb2 n0 n1 n2 n3 n4 HId
  obtain ⟨Y, hY⟩ : ∃ Y, w2.alloc (.cells #[.int .i64 0, .int .i64 0, .int .i64 0, .int .i64 0, .slice none 0 0] 67) = Y := ⟨_, rfl⟩
  have hbY : Below w2.heap.size w2 Y := by rw [← hY]; exact zero_below _ _
  have hMY := HX.out Y (below_step HB2.out hbY)
  have n1 : Y.cell? ⟨w1.heap.size, 1, none⟩ = some (.int .i64 wd) := cell_atL hMY 1
  have n2 : Y.cell? ⟨w1.heap.size, 2, none⟩ = some (.int .i64 ht) := cell_atL hMY 2
  have HYd : Hid (Calls Try.prog 41 #[.slice (some ⟨gu, ou, none⟩) (m + 1) cu, .int .i64 2, .int .i64 wd, .int .i64 ht] Y (DocA AT.sound (nodeOf AT) Y)) := HDo.out _ Y (HU.out.below hbY)
  have HYb : Hid (w2.alloc (.cells #[.int .i64 0, .int .i64 0, .int .i64 0, .int .i64 0, .slice none 0 0] 67) = Y) := hY
  clear hY hbY hMY
  go_upto_region 10 with fail
  rw [HYb.out]
  go_wp2_with fail
  refine HYd.out.mono ?_
  rintro e X hD
  obtain ⟨k4, w4, h4, i4, sa', sn', sc', rfl, hD2, hD3⟩ := hD.open
  rw [← HYb.out] at hD3
  have HAh : Hid (AheadAt w2 X w2.heap.size) := ahead_plain hD3
  obtain ⟨⟨t0, t1, t2, t3, t4⟩, t5, t6, t7, t8, t9⟩ := HAh.out.cells
  have HPu : Hid (PutAt w2 (set5 X w2.heap.size (.int .i64 k4) (.int .i64 w4) (.int .i64 h4) (.int .i64 i4) (.slice sa' sn' sc')) w2.heap.size #[.int .i64 k4, .int .i64 w4, .int .i64 h4, .int .i64 i4, .slice sa' sn' sc']) := put_ahead HAh.out _ _ _ _ _
  have HD : Hid (AT.sound = true → (k4 = (nodeOf AT).k ∧ w4 = (nodeOf AT).w ∧ h4 = (nodeOf AT).h ∧ i4 = (nodeOf AT).i) ∧ ∃ fp, (nodeOf AT).In (set5 X w2.heap.size (.int .i64 k4) (.int .i64 w4) (.int .i64 h4) (.int .i64 i4) (.slice sa' sn' sc')) (.slice sa' sn' sc') fp) := fun h => by
    obtain ⟨a1, fp', a2, a3⟩ := hD2 h
    refine ⟨a1, fp', in_set5 a2 _ (fun q hq => ?_) _ _ _ _ _⟩
    have h6 := a3 q hq
    have h7 : Y.heap.size = w2.heap.size + 1 := by rw [← HYb.out]; simp
    omega
  clear hD hD2 hD3 n1 n2
  go_upto_region 20 with fail
  obtain ⟨Z, hZ⟩ : ∃ Z, set5 X w2.heap.size (.int .i64 k4) (.int .i64 w4) (.int .i64 h4) (.int .i64 i4) (.slice sa' sn' sc') = Z := ⟨_, rfl⟩
  rw [hZ] at HPu HD
  unfold set5 at hZ
  rw [hZ]
  have HwZ : Hid (Below w.heap.size w Z) := below_step HwW2.out HPu.out.below
  clear hZ t0 t1 t2 t3 t4 t5 t6 t7 t8 t9
  obtain ⟨sd, hsd⟩ : ∃ s, AT.sound = s := ⟨_, rfl⟩
  have HSd : Hid (AT.sound = sd) := hsd
  rw [hsd] at HD ⊢
  clear hsd HYd HDo
  cases sd
  · go_wp2
    refine bodyPost_ret (v := .tuple #[.slice none 0 0, .int .i64 44]) (by simp [results, Try.results15, go_sem]) rfl ?_
    unfold ArrAns
    rw [if_neg (by rw [HSd.out]; decide)]
    exact ⟨_, rfl, World.ownsRow_nil _ _ _ _, HwZ.out⟩
  · obtain ⟨⟨rfl, rfl, rfl, rfl⟩, fp', hIn'⟩ := HD.out (by first | rfl | trivial)
    have hP := HPu.out.at_
    have p0 : Z.cell? ⟨w2.heap.size, 0, none⟩ = some (.int .i64 (nodeOf AT).k) := cell_atL hP 0
    have p1 : Z.cell? ⟨w2.heap.size, 1, none⟩ = some (.int .i64 (nodeOf AT).w) := cell_atL hP 1
    have p2 : Z.cell? ⟨w2.heap.size, 2, none⟩ = some (.int .i64 (nodeOf AT).h) := cell_atL hP 2
    have p3 : Z.cell? ⟨w2.heap.size, 3, none⟩ = some (.int .i64 (nodeOf AT).i) := cell_atL hP 3
    have p4 : Z.cell? ⟨w2.heap.size, 4, none⟩ = some (.slice sa' sn' sc') := cell_atL hP 4
    have HLi : Hid (Calls Try.prog 33 #[.agg #[.int .i64 (nodeOf AT).k, .int .i64 (nodeOf AT).w, .int .i64 (nodeOf AT).h, .int .i64 (nodeOf AT).i, .slice sa' sn' sc']] Z fun e w' => ∃ u, e = .returned u ∧ CeOwns w' Z.heap.size u (laidL AT) ∧ Below Z.heap.size Z w') := list_end HSd.out HK.out.1 HK.out.2 hIn'
    clear hIn' hP
    go_wp2_with fail
    refine HLi.out.mono ?_
    rintro e w5 ⟨q, rfl, hq, hb5⟩
    have H5 : Hid (CeOwns w5 w.heap.size q (laidL AT) ∧ Below w.heap.size w w5) := ⟨hq.lower HwZ.out.size, below_step HwZ.out hb5⟩
    clear hq hb5
    go_wp2
    refine bodyPost_ret (v := .tuple #[q, .int .i64 0]) (by simp [results, Try.results15, go_sem]) rfl ?_
    unfold ArrAns
    rw [if_pos HSd.out]
    exact ⟨_, rfl, H5.out.1, H5.out.2⟩

set_option maxHeartbeats 8000000 in
theorem arrR_col (v : Value) (l : List CellV) (sz : Int) (w : World) {t AT : Tree} (HT : Hid (Calls Try.prog 27 #[v] w (TreeYes t w))) (wd ht nk ni : Int) (HNd : Hid ((nodeOf t).k = nk ∧ (nodeOf t).w = wd ∧ (nodeOf t).h = ht ∧ (nodeOf t).i = ni)) (HCn : Hid ((nodeOf t).cnt ≤ 1000 ∧ (nodeOf t).ids = idsOf l)) (z0 : Int) (zs : List Int) (HIl : Hid (idsOf l = z0 :: zs)) (m : Nat) (HM : Hid (zs.length = m)) (h1 : 1 ≤ m) (HK : Hid (AT.kinds ∧ AT.size ≤ 200))
    (HDo : Hid (∀ u X, IdsIn X u (z0 :: zs) → Calls Try.prog 41 #[u, .int .i64 3, .int .i64 wd, .int .i64 ht] X (DocA AT.sound (nodeOf AT) X))) : Calls Try.prog 15 #[v, .int .i64 2, .int .i64 sz] w (ArrAns AT w) := by
  have hm1 : ((m : Int) + 1 == 1) = false := by
    have : (m : Int) + 1 ≠ 1 := by omega
    simpa using this
  go_enter Try.func15, Try.ntmps15
  go_wp2_with fail
  refine HT.out.mono ?_
  rintro e w1 ⟨sa, sn, sc, fp, he, hIn, hb⟩
  have he2 : e = .returned (.tuple #[.agg #[.int .i64 nk, .int .i64 wd, .int .i64 ht, .int .i64 ni, .slice sa sn sc], .bool true]) := by
    rw [he, ← HNd.out.1, ← HNd.out.2.1, ← HNd.out.2.2.1, ← HNd.out.2.2.2]
    rfl
  subst he2
  obtain ⟨W, hW⟩ : ∃ W, w1.alloc (.cells #[.int .i64 nk, .int .i64 wd, .int .i64 ht, .int .i64 ni, .slice sa sn sc] 67) = W := ⟨_, rfl⟩
  have hbW : Below w1.heap.size w1 W := by rw [← hW]; exact zero_below _ _
  have HBW : Hid (Below w.heap.size w W) := below_step hb hbW
  have hM : W.heap[w1.heap.size]? = some (.cells #[.int .i64 nk, .int .i64 wd, .int .i64 ht, .int .i64 ni, .slice sa sn sc] 67 (0, 0)) := by rw [← hW]; exact heap_alloc_new _ _
  have HX : Hid (∀ X, Below W.heap.size W X → X.heap[w1.heap.size]? = some (.cells #[.int .i64 nk, .int .i64 wd, .int .i64 ht, .int .i64 ni, .slice sa sn sc] 67 (0, 0))) := fun X hX => (hX.block _ (lt_of_block hM)).trans hM
  have HW : Hid (w1.alloc (.cells #[.int .i64 nk, .int .i64 wd, .int .i64 ht, .int .i64 ni, .slice sa sn sc] 67) = W) := hW
  have HId : Hid (Calls Try.prog 28 #[.agg #[.int .i64 nk, .int .i64 wd, .int .i64 ht, .int .i64 ni, .slice sa sn sc]] W fun e w' => ∃ u, e = .returned u ∧ IOwns w' W.heap.size u (idsOf l) ∧ Below W.heap.size W w') := by
    have hg := ids_good (nodeOf t) HCn.out.1 _ fp W (hIn.below hbW)
    rw [HCn.out.2] at hg
    have e0 : nodeV (nodeOf t) (.slice sa sn sc) = #[.int .i64 nk, .int .i64 wd, .int .i64 ht, .int .i64 ni, .slice sa sn sc] := by
      rw [← HNd.out.1, ← HNd.out.2.1, ← HNd.out.2.2.1, ← HNd.out.2.2.2]
      rfl
    rw [e0] at hg
    exact hg
  clear he hb hIn hbW hM hW HT
  go_upto_region 2 with fail
  rw [HW.out]
  have hMW := HX.out W (Below.refl _ _)
  have n0 : W.cell? ⟨w1.heap.size, 0, none⟩ = some (.int .i64 nk) := cell_atL hMW 0
  have n1 : W.cell? ⟨w1.heap.size, 1, none⟩ = some (.int .i64 wd) := cell_atL hMW 1
  have n2 : W.cell? ⟨w1.heap.size, 2, none⟩ = some (.int .i64 ht) := cell_atL hMW 2
  have n3 : W.cell? ⟨w1.heap.size, 3, none⟩ = some (.int .i64 ni) := cell_atL hMW 3
  have n4 : W.cell? ⟨w1.heap.size, 4, none⟩ = some (.slice sa sn sc) := cell_atL hMW 4
  clear hMW
  go_wp2_with fail
  refine HId.out.mono ?_
  rintro e w2 ⟨u, rfl, hu, hb2⟩
  rw [HIl.out] at hu
  have HU : Hid (IdsIn w2 u (z0 :: zs)) := hu.ids (by simp)
  obtain ⟨gu, ou, cu, hue, _⟩ := HU.out
  rw [List.length_cons, HM.out] at hue
  subst hue
  have HB2 : Hid (Below W.heap.size W w2) := hb2
  have HwW2 : Hid (Below w.heap.size w w2) := below_step HBW.out hb2
  clear hu hb2 n0 n1 n2 n3 n4 HId
  obtain ⟨Y, hY⟩ : ∃ Y, w2.alloc (.cells #[.int .i64 0, .int .i64 0, .int .i64 0, .int .i64 0, .slice none 0 0] 67) = Y := ⟨_, rfl⟩
  have hbY : Below w2.heap.size w2 Y := by rw [← hY]; exact zero_below _ _
  have hMY := HX.out Y (below_step HB2.out hbY)
  have n1 : Y.cell? ⟨w1.heap.size, 1, none⟩ = some (.int .i64 wd) := cell_atL hMY 1
  have n2 : Y.cell? ⟨w1.heap.size, 2, none⟩ = some (.int .i64 ht) := cell_atL hMY 2
  have HYd : Hid (Calls Try.prog 41 #[.slice (some ⟨gu, ou, none⟩) (m + 1) cu, .int .i64 3, .int .i64 wd, .int .i64 ht] Y (DocA AT.sound (nodeOf AT) Y)) := HDo.out _ Y (HU.out.below hbY)
  have HYb : Hid (w2.alloc (.cells #[.int .i64 0, .int .i64 0, .int .i64 0, .int .i64 0, .slice none 0 0] 67) = Y) := hY
  clear hY hbY hMY
  go_upto_region 10 with fail
  rw [HYb.out]
  go_wp2_with fail
  refine HYd.out.mono ?_
  rintro e X hD
  obtain ⟨k4, w4, h4, i4, sa', sn', sc', rfl, hD2, hD3⟩ := hD.open
  rw [← HYb.out] at hD3
  have HAh : Hid (AheadAt w2 X w2.heap.size) := ahead_plain hD3
  obtain ⟨⟨t0, t1, t2, t3, t4⟩, t5, t6, t7, t8, t9⟩ := HAh.out.cells
  have HPu : Hid (PutAt w2 (set5 X w2.heap.size (.int .i64 k4) (.int .i64 w4) (.int .i64 h4) (.int .i64 i4) (.slice sa' sn' sc')) w2.heap.size #[.int .i64 k4, .int .i64 w4, .int .i64 h4, .int .i64 i4, .slice sa' sn' sc']) := put_ahead HAh.out _ _ _ _ _
  have HD : Hid (AT.sound = true → (k4 = (nodeOf AT).k ∧ w4 = (nodeOf AT).w ∧ h4 = (nodeOf AT).h ∧ i4 = (nodeOf AT).i) ∧ ∃ fp, (nodeOf AT).In (set5 X w2.heap.size (.int .i64 k4) (.int .i64 w4) (.int .i64 h4) (.int .i64 i4) (.slice sa' sn' sc')) (.slice sa' sn' sc') fp) := fun h => by
    obtain ⟨a1, fp', a2, a3⟩ := hD2 h
    refine ⟨a1, fp', in_set5 a2 _ (fun q hq => ?_) _ _ _ _ _⟩
    have h6 := a3 q hq
    have h7 : Y.heap.size = w2.heap.size + 1 := by rw [← HYb.out]; simp
    omega
  clear hD hD2 hD3 n1 n2
  go_upto_region 20 with fail
  obtain ⟨Z, hZ⟩ : ∃ Z, set5 X w2.heap.size (.int .i64 k4) (.int .i64 w4) (.int .i64 h4) (.int .i64 i4) (.slice sa' sn' sc') = Z := ⟨_, rfl⟩
  rw [hZ] at HPu HD
  unfold set5 at hZ
  rw [hZ]
  have HwZ : Hid (Below w.heap.size w Z) := below_step HwW2.out HPu.out.below
  clear hZ t0 t1 t2 t3 t4 t5 t6 t7 t8 t9
  obtain ⟨sd, hsd⟩ : ∃ s, AT.sound = s := ⟨_, rfl⟩
  have HSd : Hid (AT.sound = sd) := hsd
  rw [hsd] at HD ⊢
  clear hsd HYd HDo
  cases sd
  · go_wp2
    refine bodyPost_ret (v := .tuple #[.slice none 0 0, .int .i64 44]) (by simp [results, Try.results15, go_sem]) rfl ?_
    unfold ArrAns
    rw [if_neg (by rw [HSd.out]; decide)]
    exact ⟨_, rfl, World.ownsRow_nil _ _ _ _, HwZ.out⟩
  · obtain ⟨⟨rfl, rfl, rfl, rfl⟩, fp', hIn'⟩ := HD.out (by first | rfl | trivial)
    have hP := HPu.out.at_
    have p0 : Z.cell? ⟨w2.heap.size, 0, none⟩ = some (.int .i64 (nodeOf AT).k) := cell_atL hP 0
    have p1 : Z.cell? ⟨w2.heap.size, 1, none⟩ = some (.int .i64 (nodeOf AT).w) := cell_atL hP 1
    have p2 : Z.cell? ⟨w2.heap.size, 2, none⟩ = some (.int .i64 (nodeOf AT).h) := cell_atL hP 2
    have p3 : Z.cell? ⟨w2.heap.size, 3, none⟩ = some (.int .i64 (nodeOf AT).i) := cell_atL hP 3
    have p4 : Z.cell? ⟨w2.heap.size, 4, none⟩ = some (.slice sa' sn' sc') := cell_atL hP 4
    have HLi : Hid (Calls Try.prog 33 #[.agg #[.int .i64 (nodeOf AT).k, .int .i64 (nodeOf AT).w, .int .i64 (nodeOf AT).h, .int .i64 (nodeOf AT).i, .slice sa' sn' sc']] Z fun e w' => ∃ u, e = .returned u ∧ CeOwns w' Z.heap.size u (laidL AT) ∧ Below Z.heap.size Z w') := list_end HSd.out HK.out.1 HK.out.2 hIn'
    clear hIn' hP
    go_wp2_with fail
    refine HLi.out.mono ?_
    rintro e w5 ⟨q, rfl, hq, hb5⟩
    have H5 : Hid (CeOwns w5 w.heap.size q (laidL AT) ∧ Below w.heap.size w w5) := ⟨hq.lower HwZ.out.size, below_step HwZ.out hb5⟩
    clear hq hb5
    go_wp2
    refine bodyPost_ret (v := .tuple #[q, .int .i64 0]) (by simp [results, Try.results15, go_sem]) rfl ?_
    unfold ArrAns
    rw [if_pos HSd.out]
    exact ⟨_, rfl, H5.out.1, H5.out.2⟩

set_option maxHeartbeats 8000000 in
theorem arrR_mrow (v : Value) (l : List CellV) (sz : Int) (w : World) {t AT : Tree} (HT : Hid (Calls Try.prog 27 #[v] w (TreeYes t w))) (wd ht nk ni : Int) (HNd : Hid ((nodeOf t).k = nk ∧ (nodeOf t).w = wd ∧ (nodeOf t).h = ht ∧ (nodeOf t).i = ni)) (HCn : Hid ((nodeOf t).cnt ≤ 1000 ∧ (nodeOf t).ids = idsOf l)) (z0 : Int) (zs : List Int) (HIl : Hid (idsOf l = z0 :: zs)) (m : Nat) (HM : Hid (zs.length = m)) (h1 : 1 ≤ m) (HK : Hid (AT.kinds ∧ AT.size ≤ 200))
    (HDo : Hid (∀ u X, IdsIn X u (z0 :: zs) → Calls Try.prog 42 #[u, .int .i64 3, .int .i64 wd, .int .i64 ht, .int .i64 sz] X (DocA AT.sound (nodeOf AT) X))) : Calls Try.prog 15 #[v, .int .i64 3, .int .i64 sz] w (ArrAns AT w) := by
  have hm1 : ((m : Int) + 1 == 1) = false := by
    have : (m : Int) + 1 ≠ 1 := by omega
    simpa using this
  go_enter Try.func15, Try.ntmps15
  go_wp2_with fail
  refine HT.out.mono ?_
  rintro e w1 ⟨sa, sn, sc, fp, he, hIn, hb⟩
  have he2 : e = .returned (.tuple #[.agg #[.int .i64 nk, .int .i64 wd, .int .i64 ht, .int .i64 ni, .slice sa sn sc], .bool true]) := by
    rw [he, ← HNd.out.1, ← HNd.out.2.1, ← HNd.out.2.2.1, ← HNd.out.2.2.2]
    rfl
  subst he2
  obtain ⟨W, hW⟩ : ∃ W, w1.alloc (.cells #[.int .i64 nk, .int .i64 wd, .int .i64 ht, .int .i64 ni, .slice sa sn sc] 67) = W := ⟨_, rfl⟩
  have hbW : Below w1.heap.size w1 W := by rw [← hW]; exact zero_below _ _
  have HBW : Hid (Below w.heap.size w W) := below_step hb hbW
  have hM : W.heap[w1.heap.size]? = some (.cells #[.int .i64 nk, .int .i64 wd, .int .i64 ht, .int .i64 ni, .slice sa sn sc] 67 (0, 0)) := by rw [← hW]; exact heap_alloc_new _ _
  have HX : Hid (∀ X, Below W.heap.size W X → X.heap[w1.heap.size]? = some (.cells #[.int .i64 nk, .int .i64 wd, .int .i64 ht, .int .i64 ni, .slice sa sn sc] 67 (0, 0))) := fun X hX => (hX.block _ (lt_of_block hM)).trans hM
  have HW : Hid (w1.alloc (.cells #[.int .i64 nk, .int .i64 wd, .int .i64 ht, .int .i64 ni, .slice sa sn sc] 67) = W) := hW
  have HId : Hid (Calls Try.prog 28 #[.agg #[.int .i64 nk, .int .i64 wd, .int .i64 ht, .int .i64 ni, .slice sa sn sc]] W fun e w' => ∃ u, e = .returned u ∧ IOwns w' W.heap.size u (idsOf l) ∧ Below W.heap.size W w') := by
    have hg := ids_good (nodeOf t) HCn.out.1 _ fp W (hIn.below hbW)
    rw [HCn.out.2] at hg
    have e0 : nodeV (nodeOf t) (.slice sa sn sc) = #[.int .i64 nk, .int .i64 wd, .int .i64 ht, .int .i64 ni, .slice sa sn sc] := by
      rw [← HNd.out.1, ← HNd.out.2.1, ← HNd.out.2.2.1, ← HNd.out.2.2.2]
      rfl
    rw [e0] at hg
    exact hg
  clear he hb hIn hbW hM hW HT
  go_upto_region 2 with fail
  rw [HW.out]
  have hMW := HX.out W (Below.refl _ _)
  have n0 : W.cell? ⟨w1.heap.size, 0, none⟩ = some (.int .i64 nk) := cell_atL hMW 0
  have n1 : W.cell? ⟨w1.heap.size, 1, none⟩ = some (.int .i64 wd) := cell_atL hMW 1
  have n2 : W.cell? ⟨w1.heap.size, 2, none⟩ = some (.int .i64 ht) := cell_atL hMW 2
  have n3 : W.cell? ⟨w1.heap.size, 3, none⟩ = some (.int .i64 ni) := cell_atL hMW 3
  have n4 : W.cell? ⟨w1.heap.size, 4, none⟩ = some (.slice sa sn sc) := cell_atL hMW 4
  clear hMW
  go_wp2_with fail
  refine HId.out.mono ?_
  rintro e w2 ⟨u, rfl, hu, hb2⟩
  rw [HIl.out] at hu
  have HU : Hid (IdsIn w2 u (z0 :: zs)) := hu.ids (by simp)
  obtain ⟨gu, ou, cu, hue, _⟩ := HU.out
  rw [List.length_cons, HM.out] at hue
  subst hue
  have HB2 : Hid (Below W.heap.size W w2) := hb2
  have HwW2 : Hid (Below w.heap.size w w2) := below_step HBW.out hb2
  clear hu hb2 n0 n1 n2 n3 n4 HId
  obtain ⟨Y, hY⟩ : ∃ Y, w2.alloc (.cells #[.int .i64 0, .int .i64 0, .int .i64 0, .int .i64 0, .slice none 0 0] 67) = Y := ⟨_, rfl⟩
  have hbY : Below w2.heap.size w2 Y := by rw [← hY]; exact zero_below _ _
  have hMY := HX.out Y (below_step HB2.out hbY)
  have n1 : Y.cell? ⟨w1.heap.size, 1, none⟩ = some (.int .i64 wd) := cell_atL hMY 1
  have n2 : Y.cell? ⟨w1.heap.size, 2, none⟩ = some (.int .i64 ht) := cell_atL hMY 2
  have HYd : Hid (Calls Try.prog 42 #[.slice (some ⟨gu, ou, none⟩) (m + 1) cu, .int .i64 3, .int .i64 wd, .int .i64 ht, .int .i64 sz] Y (DocA AT.sound (nodeOf AT) Y)) := HDo.out _ Y (HU.out.below hbY)
  have HYb : Hid (w2.alloc (.cells #[.int .i64 0, .int .i64 0, .int .i64 0, .int .i64 0, .slice none 0 0] 67) = Y) := hY
  clear hY hbY hMY
  go_upto_region 10 with fail
  rw [HYb.out]
  go_wp2_with fail
  refine HYd.out.mono ?_
  rintro e X hD
  obtain ⟨k4, w4, h4, i4, sa', sn', sc', rfl, hD2, hD3⟩ := hD.open
  rw [← HYb.out] at hD3
  have HAh : Hid (AheadAt w2 X w2.heap.size) := ahead_plain hD3
  obtain ⟨⟨t0, t1, t2, t3, t4⟩, t5, t6, t7, t8, t9⟩ := HAh.out.cells
  have HPu : Hid (PutAt w2 (set5 X w2.heap.size (.int .i64 k4) (.int .i64 w4) (.int .i64 h4) (.int .i64 i4) (.slice sa' sn' sc')) w2.heap.size #[.int .i64 k4, .int .i64 w4, .int .i64 h4, .int .i64 i4, .slice sa' sn' sc']) := put_ahead HAh.out _ _ _ _ _
  have HD : Hid (AT.sound = true → (k4 = (nodeOf AT).k ∧ w4 = (nodeOf AT).w ∧ h4 = (nodeOf AT).h ∧ i4 = (nodeOf AT).i) ∧ ∃ fp, (nodeOf AT).In (set5 X w2.heap.size (.int .i64 k4) (.int .i64 w4) (.int .i64 h4) (.int .i64 i4) (.slice sa' sn' sc')) (.slice sa' sn' sc') fp) := fun h => by
    obtain ⟨a1, fp', a2, a3⟩ := hD2 h
    refine ⟨a1, fp', in_set5 a2 _ (fun q hq => ?_) _ _ _ _ _⟩
    have h6 := a3 q hq
    have h7 : Y.heap.size = w2.heap.size + 1 := by rw [← HYb.out]; simp
    omega
  clear hD hD2 hD3 n1 n2
  go_upto_region 20 with fail
  obtain ⟨Z, hZ⟩ : ∃ Z, set5 X w2.heap.size (.int .i64 k4) (.int .i64 w4) (.int .i64 h4) (.int .i64 i4) (.slice sa' sn' sc') = Z := ⟨_, rfl⟩
  rw [hZ] at HPu HD
  unfold set5 at hZ
  rw [hZ]
  have HwZ : Hid (Below w.heap.size w Z) := below_step HwW2.out HPu.out.below
  clear hZ t0 t1 t2 t3 t4 t5 t6 t7 t8 t9
  obtain ⟨sd, hsd⟩ : ∃ s, AT.sound = s := ⟨_, rfl⟩
  have HSd : Hid (AT.sound = sd) := hsd
  rw [hsd] at HD ⊢
  clear hsd HYd HDo
  cases sd
  · go_wp2
    refine bodyPost_ret (v := .tuple #[.slice none 0 0, .int .i64 44]) (by simp [results, Try.results15, go_sem]) rfl ?_
    unfold ArrAns
    rw [if_neg (by rw [HSd.out]; decide)]
    exact ⟨_, rfl, World.ownsRow_nil _ _ _ _, HwZ.out⟩
  · obtain ⟨⟨rfl, rfl, rfl, rfl⟩, fp', hIn'⟩ := HD.out (by first | rfl | trivial)
    have hP := HPu.out.at_
    have p0 : Z.cell? ⟨w2.heap.size, 0, none⟩ = some (.int .i64 (nodeOf AT).k) := cell_atL hP 0
    have p1 : Z.cell? ⟨w2.heap.size, 1, none⟩ = some (.int .i64 (nodeOf AT).w) := cell_atL hP 1
    have p2 : Z.cell? ⟨w2.heap.size, 2, none⟩ = some (.int .i64 (nodeOf AT).h) := cell_atL hP 2
    have p3 : Z.cell? ⟨w2.heap.size, 3, none⟩ = some (.int .i64 (nodeOf AT).i) := cell_atL hP 3
    have p4 : Z.cell? ⟨w2.heap.size, 4, none⟩ = some (.slice sa' sn' sc') := cell_atL hP 4
    have HLi : Hid (Calls Try.prog 33 #[.agg #[.int .i64 (nodeOf AT).k, .int .i64 (nodeOf AT).w, .int .i64 (nodeOf AT).h, .int .i64 (nodeOf AT).i, .slice sa' sn' sc']] Z fun e w' => ∃ u, e = .returned u ∧ CeOwns w' Z.heap.size u (laidL AT) ∧ Below Z.heap.size Z w') := list_end HSd.out HK.out.1 HK.out.2 hIn'
    clear hIn' hP
    go_wp2_with fail
    refine HLi.out.mono ?_
    rintro e w5 ⟨q, rfl, hq, hb5⟩
    have H5 : Hid (CeOwns w5 w.heap.size q (laidL AT) ∧ Below w.heap.size w w5) := ⟨hq.lower HwZ.out.size, below_step HwZ.out hb5⟩
    clear hq hb5
    go_wp2
    refine bodyPost_ret (v := .tuple #[q, .int .i64 0]) (by simp [results, Try.results15, go_sem]) rfl ?_
    unfold ArrAns
    rw [if_pos HSd.out]
    exact ⟨_, rfl, H5.out.1, H5.out.2⟩

set_option maxHeartbeats 8000000 in
theorem arrR_mcol (v : Value) (l : List CellV) (sz : Int) (w : World) {t AT : Tree} (HT : Hid (Calls Try.prog 27 #[v] w (TreeYes t w))) (wd ht nk ni : Int) (HNd : Hid ((nodeOf t).k = nk ∧ (nodeOf t).w = wd ∧ (nodeOf t).h = ht ∧ (nodeOf t).i = ni)) (HCn : Hid ((nodeOf t).cnt ≤ 1000 ∧ (nodeOf t).ids = idsOf l)) (z0 : Int) (zs : List Int) (HIl : Hid (idsOf l = z0 :: zs)) (m : Nat) (HM : Hid (zs.length = m)) (h1 : 1 ≤ m) (HK : Hid (AT.kinds ∧ AT.size ≤ 200))
    (HDo : Hid (∀ u X, IdsIn X u (z0 :: zs) → Calls Try.prog 42 #[u, .int .i64 2, .int .i64 wd, .int .i64 ht, .int .i64 sz] X (DocA AT.sound (nodeOf AT) X))) : Calls Try.prog 15 #[v, .int .i64 4, .int .i64 sz] w (ArrAns AT w) := by
  have hm1 : ((m : Int) + 1 == 1) = false := by
    have : (m : Int) + 1 ≠ 1 := by omega
    simpa using this
  go_enter Try.func15, Try.ntmps15
  go_wp2_with fail
  refine HT.out.mono ?_
  rintro e w1 ⟨sa, sn, sc, fp, he, hIn, hb⟩
  have he2 : e = .returned (.tuple #[.agg #[.int .i64 nk, .int .i64 wd, .int .i64 ht, .int .i64 ni, .slice sa sn sc], .bool true]) := by
    rw [he, ← HNd.out.1, ← HNd.out.2.1, ← HNd.out.2.2.1, ← HNd.out.2.2.2]
    rfl
  subst he2
  obtain ⟨W, hW⟩ : ∃ W, w1.alloc (.cells #[.int .i64 nk, .int .i64 wd, .int .i64 ht, .int .i64 ni, .slice sa sn sc] 67) = W := ⟨_, rfl⟩
  have hbW : Below w1.heap.size w1 W := by rw [← hW]; exact zero_below _ _
  have HBW : Hid (Below w.heap.size w W) := below_step hb hbW
  have hM : W.heap[w1.heap.size]? = some (.cells #[.int .i64 nk, .int .i64 wd, .int .i64 ht, .int .i64 ni, .slice sa sn sc] 67 (0, 0)) := by rw [← hW]; exact heap_alloc_new _ _
  have HX : Hid (∀ X, Below W.heap.size W X → X.heap[w1.heap.size]? = some (.cells #[.int .i64 nk, .int .i64 wd, .int .i64 ht, .int .i64 ni, .slice sa sn sc] 67 (0, 0))) := fun X hX => (hX.block _ (lt_of_block hM)).trans hM
  have HW : Hid (w1.alloc (.cells #[.int .i64 nk, .int .i64 wd, .int .i64 ht, .int .i64 ni, .slice sa sn sc] 67) = W) := hW
  have HId : Hid (Calls Try.prog 28 #[.agg #[.int .i64 nk, .int .i64 wd, .int .i64 ht, .int .i64 ni, .slice sa sn sc]] W fun e w' => ∃ u, e = .returned u ∧ IOwns w' W.heap.size u (idsOf l) ∧ Below W.heap.size W w') := by
    have hg := ids_good (nodeOf t) HCn.out.1 _ fp W (hIn.below hbW)
    rw [HCn.out.2] at hg
    have e0 : nodeV (nodeOf t) (.slice sa sn sc) = #[.int .i64 nk, .int .i64 wd, .int .i64 ht, .int .i64 ni, .slice sa sn sc] := by
      rw [← HNd.out.1, ← HNd.out.2.1, ← HNd.out.2.2.1, ← HNd.out.2.2.2]
      rfl
    rw [e0] at hg
    exact hg
  clear he hb hIn hbW hM hW HT
  go_upto_region 2 with fail
  rw [HW.out]
  have hMW := HX.out W (Below.refl _ _)
  have n0 : W.cell? ⟨w1.heap.size, 0, none⟩ = some (.int .i64 nk) := cell_atL hMW 0
  have n1 : W.cell? ⟨w1.heap.size, 1, none⟩ = some (.int .i64 wd) := cell_atL hMW 1
  have n2 : W.cell? ⟨w1.heap.size, 2, none⟩ = some (.int .i64 ht) := cell_atL hMW 2
  have n3 : W.cell? ⟨w1.heap.size, 3, none⟩ = some (.int .i64 ni) := cell_atL hMW 3
  have n4 : W.cell? ⟨w1.heap.size, 4, none⟩ = some (.slice sa sn sc) := cell_atL hMW 4
  clear hMW
  go_wp2_with fail
  refine HId.out.mono ?_
  rintro e w2 ⟨u, rfl, hu, hb2⟩
  rw [HIl.out] at hu
  have HU : Hid (IdsIn w2 u (z0 :: zs)) := hu.ids (by simp)
  obtain ⟨gu, ou, cu, hue, _⟩ := HU.out
  rw [List.length_cons, HM.out] at hue
  subst hue
  have HB2 : Hid (Below W.heap.size W w2) := hb2
  have HwW2 : Hid (Below w.heap.size w w2) := below_step HBW.out hb2
  clear hu hb2 n0 n1 n2 n3 n4 HId
  obtain ⟨Y, hY⟩ : ∃ Y, w2.alloc (.cells #[.int .i64 0, .int .i64 0, .int .i64 0, .int .i64 0, .slice none 0 0] 67) = Y := ⟨_, rfl⟩
  have hbY : Below w2.heap.size w2 Y := by rw [← hY]; exact zero_below _ _
  have hMY := HX.out Y (below_step HB2.out hbY)
  have n1 : Y.cell? ⟨w1.heap.size, 1, none⟩ = some (.int .i64 wd) := cell_atL hMY 1
  have n2 : Y.cell? ⟨w1.heap.size, 2, none⟩ = some (.int .i64 ht) := cell_atL hMY 2
  have HYd : Hid (Calls Try.prog 42 #[.slice (some ⟨gu, ou, none⟩) (m + 1) cu, .int .i64 2, .int .i64 wd, .int .i64 ht, .int .i64 sz] Y (DocA AT.sound (nodeOf AT) Y)) := HDo.out _ Y (HU.out.below hbY)
  have HYb : Hid (w2.alloc (.cells #[.int .i64 0, .int .i64 0, .int .i64 0, .int .i64 0, .slice none 0 0] 67) = Y) := hY
  clear hY hbY hMY
  go_upto_region 10 with fail
  rw [HYb.out]
  go_wp2_with fail
  refine HYd.out.mono ?_
  rintro e X hD
  obtain ⟨k4, w4, h4, i4, sa', sn', sc', rfl, hD2, hD3⟩ := hD.open
  rw [← HYb.out] at hD3
  have HAh : Hid (AheadAt w2 X w2.heap.size) := ahead_plain hD3
  obtain ⟨⟨t0, t1, t2, t3, t4⟩, t5, t6, t7, t8, t9⟩ := HAh.out.cells
  have HPu : Hid (PutAt w2 (set5 X w2.heap.size (.int .i64 k4) (.int .i64 w4) (.int .i64 h4) (.int .i64 i4) (.slice sa' sn' sc')) w2.heap.size #[.int .i64 k4, .int .i64 w4, .int .i64 h4, .int .i64 i4, .slice sa' sn' sc']) := put_ahead HAh.out _ _ _ _ _
  have HD : Hid (AT.sound = true → (k4 = (nodeOf AT).k ∧ w4 = (nodeOf AT).w ∧ h4 = (nodeOf AT).h ∧ i4 = (nodeOf AT).i) ∧ ∃ fp, (nodeOf AT).In (set5 X w2.heap.size (.int .i64 k4) (.int .i64 w4) (.int .i64 h4) (.int .i64 i4) (.slice sa' sn' sc')) (.slice sa' sn' sc') fp) := fun h => by
    obtain ⟨a1, fp', a2, a3⟩ := hD2 h
    refine ⟨a1, fp', in_set5 a2 _ (fun q hq => ?_) _ _ _ _ _⟩
    have h6 := a3 q hq
    have h7 : Y.heap.size = w2.heap.size + 1 := by rw [← HYb.out]; simp
    omega
  clear hD hD2 hD3 n1 n2
  go_upto_region 20 with fail
  obtain ⟨Z, hZ⟩ : ∃ Z, set5 X w2.heap.size (.int .i64 k4) (.int .i64 w4) (.int .i64 h4) (.int .i64 i4) (.slice sa' sn' sc') = Z := ⟨_, rfl⟩
  rw [hZ] at HPu HD
  unfold set5 at hZ
  rw [hZ]
  have HwZ : Hid (Below w.heap.size w Z) := below_step HwW2.out HPu.out.below
  clear hZ t0 t1 t2 t3 t4 t5 t6 t7 t8 t9
  obtain ⟨sd, hsd⟩ : ∃ s, AT.sound = s := ⟨_, rfl⟩
  have HSd : Hid (AT.sound = sd) := hsd
  rw [hsd] at HD ⊢
  clear hsd HYd HDo
  cases sd
  · go_wp2
    refine bodyPost_ret (v := .tuple #[.slice none 0 0, .int .i64 44]) (by simp [results, Try.results15, go_sem]) rfl ?_
    unfold ArrAns
    rw [if_neg (by rw [HSd.out]; decide)]
    exact ⟨_, rfl, World.ownsRow_nil _ _ _ _, HwZ.out⟩
  · obtain ⟨⟨rfl, rfl, rfl, rfl⟩, fp', hIn'⟩ := HD.out (by first | rfl | trivial)
    have hP := HPu.out.at_
    have p0 : Z.cell? ⟨w2.heap.size, 0, none⟩ = some (.int .i64 (nodeOf AT).k) := cell_atL hP 0
    have p1 : Z.cell? ⟨w2.heap.size, 1, none⟩ = some (.int .i64 (nodeOf AT).w) := cell_atL hP 1
    have p2 : Z.cell? ⟨w2.heap.size, 2, none⟩ = some (.int .i64 (nodeOf AT).h) := cell_atL hP 2
    have p3 : Z.cell? ⟨w2.heap.size, 3, none⟩ = some (.int .i64 (nodeOf AT).i) := cell_atL hP 3
    have p4 : Z.cell? ⟨w2.heap.size, 4, none⟩ = some (.slice sa' sn' sc') := cell_atL hP 4
    have HLi : Hid (Calls Try.prog 33 #[.agg #[.int .i64 (nodeOf AT).k, .int .i64 (nodeOf AT).w, .int .i64 (nodeOf AT).h, .int .i64 (nodeOf AT).i, .slice sa' sn' sc']] Z fun e w' => ∃ u, e = .returned u ∧ CeOwns w' Z.heap.size u (laidL AT) ∧ Below Z.heap.size Z w') := list_end HSd.out HK.out.1 HK.out.2 hIn'
    clear hIn' hP
    go_wp2_with fail
    refine HLi.out.mono ?_
    rintro e w5 ⟨q, rfl, hq, hb5⟩
    have H5 : Hid (CeOwns w5 w.heap.size q (laidL AT) ∧ Below w.heap.size w w5) := ⟨hq.lower HwZ.out.size, below_step HwZ.out hb5⟩
    clear hq hb5
    go_wp2
    refine bodyPost_ret (v := .tuple #[q, .int .i64 0]) (by simp [results, Try.results15, go_sem]) rfl ?_
    unfold ArrAns
    rw [if_pos HSd.out]
    exact ⟨_, rfl, H5.out.1, H5.out.2⟩

set_option maxHeartbeats 8000000 in
theorem arrR_tile (v : Value) (l : List CellV) (sz : Int) (w : World) {t AT : Tree} (HT : Hid (Calls Try.prog 27 #[v] w (TreeYes t w))) (wd ht nk ni : Int) (HNd : Hid ((nodeOf t).k = nk ∧ (nodeOf t).w = wd ∧ (nodeOf t).h = ht ∧ (nodeOf t).i = ni)) (HCn : Hid ((nodeOf t).cnt ≤ 1000 ∧ (nodeOf t).ids = idsOf l)) (z0 : Int) (zs : List Int) (HIl : Hid (idsOf l = z0 :: zs)) (m : Nat) (HM : Hid (zs.length = m)) (h1 : 1 ≤ m) (HK : Hid (AT.kinds ∧ AT.size ≤ 200))
    (HDo : Hid (∀ u X, IdsIn X u (z0 :: zs) → Calls Try.prog 43 #[u, .int .i64 wd, .int .i64 ht] X (DocA AT.sound (nodeOf AT) X))) : Calls Try.prog 15 #[v, .int .i64 5, .int .i64 sz] w (ArrAns AT w) := by
  have hm1 : ((m : Int) + 1 == 1) = false := by
    have : (m : Int) + 1 ≠ 1 := by omega
    simpa using this
  go_enter Try.func15, Try.ntmps15
  go_wp2_with fail
  refine HT.out.mono ?_
  rintro e w1 ⟨sa, sn, sc, fp, he, hIn, hb⟩
  have he2 : e = .returned (.tuple #[.agg #[.int .i64 nk, .int .i64 wd, .int .i64 ht, .int .i64 ni, .slice sa sn sc], .bool true]) := by
    rw [he, ← HNd.out.1, ← HNd.out.2.1, ← HNd.out.2.2.1, ← HNd.out.2.2.2]
    rfl
  subst he2
  obtain ⟨W, hW⟩ : ∃ W, w1.alloc (.cells #[.int .i64 nk, .int .i64 wd, .int .i64 ht, .int .i64 ni, .slice sa sn sc] 67) = W := ⟨_, rfl⟩
  have hbW : Below w1.heap.size w1 W := by rw [← hW]; exact zero_below _ _
  have HBW : Hid (Below w.heap.size w W) := below_step hb hbW
  have hM : W.heap[w1.heap.size]? = some (.cells #[.int .i64 nk, .int .i64 wd, .int .i64 ht, .int .i64 ni, .slice sa sn sc] 67 (0, 0)) := by rw [← hW]; exact heap_alloc_new _ _
  have HX : Hid (∀ X, Below W.heap.size W X → X.heap[w1.heap.size]? = some (.cells #[.int .i64 nk, .int .i64 wd, .int .i64 ht, .int .i64 ni, .slice sa sn sc] 67 (0, 0))) := fun X hX => (hX.block _ (lt_of_block hM)).trans hM
  have HW : Hid (w1.alloc (.cells #[.int .i64 nk, .int .i64 wd, .int .i64 ht, .int .i64 ni, .slice sa sn sc] 67) = W) := hW
  have HId : Hid (Calls Try.prog 28 #[.agg #[.int .i64 nk, .int .i64 wd, .int .i64 ht, .int .i64 ni, .slice sa sn sc]] W fun e w' => ∃ u, e = .returned u ∧ IOwns w' W.heap.size u (idsOf l) ∧ Below W.heap.size W w') := by
    have hg := ids_good (nodeOf t) HCn.out.1 _ fp W (hIn.below hbW)
    rw [HCn.out.2] at hg
    have e0 : nodeV (nodeOf t) (.slice sa sn sc) = #[.int .i64 nk, .int .i64 wd, .int .i64 ht, .int .i64 ni, .slice sa sn sc] := by
      rw [← HNd.out.1, ← HNd.out.2.1, ← HNd.out.2.2.1, ← HNd.out.2.2.2]
      rfl
    rw [e0] at hg
    exact hg
  clear he hb hIn hbW hM hW HT
  go_upto_region 2 with fail
  rw [HW.out]
  have hMW := HX.out W (Below.refl _ _)
  have n0 : W.cell? ⟨w1.heap.size, 0, none⟩ = some (.int .i64 nk) := cell_atL hMW 0
  have n1 : W.cell? ⟨w1.heap.size, 1, none⟩ = some (.int .i64 wd) := cell_atL hMW 1
  have n2 : W.cell? ⟨w1.heap.size, 2, none⟩ = some (.int .i64 ht) := cell_atL hMW 2
  have n3 : W.cell? ⟨w1.heap.size, 3, none⟩ = some (.int .i64 ni) := cell_atL hMW 3
  have n4 : W.cell? ⟨w1.heap.size, 4, none⟩ = some (.slice sa sn sc) := cell_atL hMW 4
  clear hMW
  go_wp2_with fail
  refine HId.out.mono ?_
  rintro e w2 ⟨u, rfl, hu, hb2⟩
  rw [HIl.out] at hu
  have HU : Hid (IdsIn w2 u (z0 :: zs)) := hu.ids (by simp)
  obtain ⟨gu, ou, cu, hue, _⟩ := HU.out
  rw [List.length_cons, HM.out] at hue
  subst hue
  have HB2 : Hid (Below W.heap.size W w2) := hb2
  have HwW2 : Hid (Below w.heap.size w w2) := below_step HBW.out hb2
  clear hu hb2 n0 n1 n2 n3 n4 HId
  obtain ⟨Y, hY⟩ : ∃ Y, w2.alloc (.cells #[.int .i64 0, .int .i64 0, .int .i64 0, .int .i64 0, .slice none 0 0] 67) = Y := ⟨_, rfl⟩
  have hbY : Below w2.heap.size w2 Y := by rw [← hY]; exact zero_below _ _
  have hMY := HX.out Y (below_step HB2.out hbY)
  have n1 : Y.cell? ⟨w1.heap.size, 1, none⟩ = some (.int .i64 wd) := cell_atL hMY 1
  have n2 : Y.cell? ⟨w1.heap.size, 2, none⟩ = some (.int .i64 ht) := cell_atL hMY 2
  have HYd : Hid (Calls Try.prog 43 #[.slice (some ⟨gu, ou, none⟩) (m + 1) cu, .int .i64 wd, .int .i64 ht] Y (DocA AT.sound (nodeOf AT) Y)) := HDo.out _ Y (HU.out.below hbY)
  have HYb : Hid (w2.alloc (.cells #[.int .i64 0, .int .i64 0, .int .i64 0, .int .i64 0, .slice none 0 0] 67) = Y) := hY
  clear hY hbY hMY
  go_upto_region 10 with fail
  rw [HYb.out]
  go_wp2_with fail
  refine HYd.out.mono ?_
  rintro e X hD
  obtain ⟨k4, w4, h4, i4, sa', sn', sc', rfl, hD2, hD3⟩ := hD.open
  rw [← HYb.out] at hD3
  have HAh : Hid (AheadAt w2 X w2.heap.size) := ahead_plain hD3
  obtain ⟨⟨t0, t1, t2, t3, t4⟩, t5, t6, t7, t8, t9⟩ := HAh.out.cells
  have HPu : Hid (PutAt w2 (set5 X w2.heap.size (.int .i64 k4) (.int .i64 w4) (.int .i64 h4) (.int .i64 i4) (.slice sa' sn' sc')) w2.heap.size #[.int .i64 k4, .int .i64 w4, .int .i64 h4, .int .i64 i4, .slice sa' sn' sc']) := put_ahead HAh.out _ _ _ _ _
  have HD : Hid (AT.sound = true → (k4 = (nodeOf AT).k ∧ w4 = (nodeOf AT).w ∧ h4 = (nodeOf AT).h ∧ i4 = (nodeOf AT).i) ∧ ∃ fp, (nodeOf AT).In (set5 X w2.heap.size (.int .i64 k4) (.int .i64 w4) (.int .i64 h4) (.int .i64 i4) (.slice sa' sn' sc')) (.slice sa' sn' sc') fp) := fun h => by
    obtain ⟨a1, fp', a2, a3⟩ := hD2 h
    refine ⟨a1, fp', in_set5 a2 _ (fun q hq => ?_) _ _ _ _ _⟩
    have h6 := a3 q hq
    have h7 : Y.heap.size = w2.heap.size + 1 := by rw [← HYb.out]; simp
    omega
  clear hD hD2 hD3 n1 n2
  go_upto_region 20 with fail
  obtain ⟨Z, hZ⟩ : ∃ Z, set5 X w2.heap.size (.int .i64 k4) (.int .i64 w4) (.int .i64 h4) (.int .i64 i4) (.slice sa' sn' sc') = Z := ⟨_, rfl⟩
  rw [hZ] at HPu HD
  unfold set5 at hZ
  rw [hZ]
  have HwZ : Hid (Below w.heap.size w Z) := below_step HwW2.out HPu.out.below
  clear hZ t0 t1 t2 t3 t4 t5 t6 t7 t8 t9
  obtain ⟨sd, hsd⟩ : ∃ s, AT.sound = s := ⟨_, rfl⟩
  have HSd : Hid (AT.sound = sd) := hsd
  rw [hsd] at HD ⊢
  clear hsd HYd HDo
  cases sd
  · go_wp2
    refine bodyPost_ret (v := .tuple #[.slice none 0 0, .int .i64 44]) (by simp [results, Try.results15, go_sem]) rfl ?_
    unfold ArrAns
    rw [if_neg (by rw [HSd.out]; decide)]
    exact ⟨_, rfl, World.ownsRow_nil _ _ _ _, HwZ.out⟩
  · obtain ⟨⟨rfl, rfl, rfl, rfl⟩, fp', hIn'⟩ := HD.out (by first | rfl | trivial)
    have hP := HPu.out.at_
    have p0 : Z.cell? ⟨w2.heap.size, 0, none⟩ = some (.int .i64 (nodeOf AT).k) := cell_atL hP 0
    have p1 : Z.cell? ⟨w2.heap.size, 1, none⟩ = some (.int .i64 (nodeOf AT).w) := cell_atL hP 1
    have p2 : Z.cell? ⟨w2.heap.size, 2, none⟩ = some (.int .i64 (nodeOf AT).h) := cell_atL hP 2
    have p3 : Z.cell? ⟨w2.heap.size, 3, none⟩ = some (.int .i64 (nodeOf AT).i) := cell_atL hP 3
    have p4 : Z.cell? ⟨w2.heap.size, 4, none⟩ = some (.slice sa' sn' sc') := cell_atL hP 4
    have HLi : Hid (Calls Try.prog 33 #[.agg #[.int .i64 (nodeOf AT).k, .int .i64 (nodeOf AT).w, .int .i64 (nodeOf AT).h, .int .i64 (nodeOf AT).i, .slice sa' sn' sc']] Z fun e w' => ∃ u, e = .returned u ∧ CeOwns w' Z.heap.size u (laidL AT) ∧ Below Z.heap.size Z w') := list_end HSd.out HK.out.1 HK.out.2 hIn'
    clear hIn' hP
    go_wp2_with fail
    refine HLi.out.mono ?_
    rintro e w5 ⟨q, rfl, hq, hb5⟩
    have H5 : Hid (CeOwns w5 w.heap.size q (laidL AT) ∧ Below w.heap.size w w5) := ⟨hq.lower HwZ.out.size, below_step HwZ.out hb5⟩
    clear hq hb5
    go_wp2
    refine bodyPost_ret (v := .tuple #[q, .int .i64 0]) (by simp [results, Try.results15, go_sem]) rfl ?_
    unfold ArrAns
    rw [if_pos HSd.out]
    exact ⟨_, rfl, H5.out.1, H5.out.2⟩

end Go.Proofs.Ytjnmjoigmbpodaa
