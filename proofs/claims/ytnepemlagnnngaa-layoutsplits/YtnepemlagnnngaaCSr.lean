/-
  Layouts: Split in the document, where it says no.
  Layouts: Split in the document, where the pane is too small and where it is cut.
-/
import Derived.Test.YtnepemlagnnngaaCFs
import Derived.Test.YtnepemlagnnngaaCFi
import Derived.Test.YtnepemlagnnngaaCCl
namespace Go.Proofs.Ytnepemlagnnngaa
open Go.RowKit
set_option linter.unusedVariables false
set_option maxRecDepth 100000

theorem splR_none (v : Value) (l : List CellV) (q k z id : Int) (bf : Bool) (w : World) (h : CellsIn w v l) (hF : readF l = none) : Calls Try.prog 9 #[v, .int .i64 q, .int .i64 k, .int .i64 z, .bool bf, .int .i64 id] w (Ans2 40 [] w) := by
  have HT : Hid (Calls Try.prog 35 #[v] w fun e w' => e = .returned (.tuple #[.agg zeroN, .bool false]) ∧ Below w.heap.size w w') := tree_no v l w h hF
  clear h hF
  go_enter Try.func9, Try.ntmps9
  go_wp2_with fail
  refine HT.out.mono ?_
  rintro e w1 ⟨rfl, hb⟩
  have HB : Hid (∀ o, Below w.heap.size w (w1.alloc o)) := alloc_below hb
  unfold zeroN
  clear hb
  go_wp2
  go_ret2
  exact ⟨_, rfl, World.ownsRow_nil _ _ _ _, HB.out _⟩

theorem splR_arg (v : Value) (l : List CellV) (q k z id : Int) (bf : Bool) (w : World) (h : CellsIn w v l) {t : Tree} (hF : readF l = some t) (hk : ¬ (k = 2 ∨ k = 3)) : Calls Try.prog 9 #[v, .int .i64 q, .int .i64 k, .int .i64 z, .bool bf, .int .i64 id] w (Ans2 1 [] w) := by
  have HT : Hid (Calls Try.prog 35 #[v] w (TreeYes t w)) := tree_yes v l w h hF
  have k2 : (k != 2) = true := by
    have : k ≠ 2 := fun e => hk (.inl e)
    simpa using this
  have k3 : (k != 3) = true := by
    have : k ≠ 3 := fun e => hk (.inr e)
    simpa using this
  clear h hF hk
  go_enter Try.func9, Try.ntmps9
  go_wp2_with fail
  refine HT.out.mono ?_
  rintro e w1 ⟨sa, sn, sc, fp, rfl, hIn, hb⟩
  have HB : Hid (∀ o, Below w.heap.size w (w1.alloc o)) := alloc_below hb
  obtain ⟨nn, hnn⟩ : ∃ x, nodeOf t = x := ⟨_, rfl⟩
  rw [hnn]
  unfold nodeV
  clear hb hIn hnn
  go_wp2
  all_goals go_ret2
  all_goals exact ⟨_, rfl, World.ownsRow_nil _ _ _ _, HB.out _⟩

set_option maxHeartbeats 1000000 in
theorem splR_miss (v : Value) (l : List CellV) (q k z id : Int) (bf : Bool) (w : World) (h : CellsIn w v l) {t : Tree} (hF : readF l = some t) (hk : k = 2 ∨ k = 3) (hq : q ∉ idsOf l) : Calls Try.prog 9 #[v, .int .i64 q, .int .i64 k, .int .i64 z, .bool bf, .int .i64 id] w (Ans2 42 [] w) := by
  have HT : Hid (Calls Try.prog 35 #[v] w (TreeYes t w)) := tree_yes v l w h hF
  have hids := lay_ids hF
  have HLt : Hid (IsLay l t) := readF_lay hF
  have HIds : Hid ((nodeOf t).ids = idsOf l ∧ 1 ≤ (idsOf l).length ∧ (idsOf l).length ≤ 32 ∧ (nodeOf t).cnt ≤ 1000) := ⟨hids.1, hids.2.1, hids.2.2.1, hids.2.2.2.2⟩
  have HHs : Hid (∀ u B W, IOwns W B u (idsOf l) → Calls Try.prog 37 #[u, .int .i64 q] W fun e w' => e = .returned (.bool false) ∧ W = w') := fun u B W hu => by
    have := has_any u (idsOf l) B q W hu (by omega) (by intro h0; rw [h0] at hids; exact absurd hids.2.1 (by decide))
    rw [decide_eq_false hq] at this
    exact this
  have HK : Hid (k = 2 ∨ k = 3) := hk
  have hkb : ((k != 2) = false) ∨ ((k != 2) = true ∧ (k != 3) = false) := by rcases hk with rfl | rfl <;> simp
  clear h hF hk hids hq
  go_enter Try.func9, Try.ntmps9
  go_wp2_with fail
  refine HT.out.mono ?_
  rintro e w1 ⟨sa, sn, sc, fp, rfl, hIn, hb⟩
  obtain ⟨W, hW⟩ : ∃ W, w1.alloc (.cells #[.int .i64 (nodeOf t).k, .int .i64 (nodeOf t).w, .int .i64 (nodeOf t).h, .int .i64 (nodeOf t).i, .slice sa sn sc] 80) = W := ⟨_, rfl⟩
  have hbW : Below w1.heap.size w1 W := by rw [← hW]; exact (Below.refl _ _).alloc (Nat.le_refl _) _
  have HBW : Hid (Below w.heap.size w W) := below_step hb hbW
  have hM : W.heap[w1.heap.size]? = some (.cells #[.int .i64 (nodeOf t).k, .int .i64 (nodeOf t).w, .int .i64 (nodeOf t).h, .int .i64 (nodeOf t).i, .slice sa sn sc] 80 (0, 0)) := by rw [← hW]; exact heap_alloc_new _ _
  have HX : Hid (∀ X, Below W.heap.size W X → X.heap[w1.heap.size]? = some (.cells #[.int .i64 (nodeOf t).k, .int .i64 (nodeOf t).w, .int .i64 (nodeOf t).h, .int .i64 (nodeOf t).i, .slice sa sn sc] 80 (0, 0))) := fun X hX => (hX.block _ (lt_of_block hM)).trans hM
  have HIn : Hid (∀ X, Below W.heap.size W X → (nodeOf t).In X (.slice sa sn sc) fp) := fun X hX => (hIn.below hbW).below hX
  have HW : Hid (w1.alloc (.cells #[.int .i64 (nodeOf t).k, .int .i64 (nodeOf t).w, .int .i64 (nodeOf t).h, .int .i64 (nodeOf t).i, .slice sa sn sc] 80) = W) := hW
  have HId : Hid (Calls Try.prog 36 #[.agg #[.int .i64 (nodeOf t).k, .int .i64 (nodeOf t).w, .int .i64 (nodeOf t).h, .int .i64 (nodeOf t).i, .slice sa sn sc]] W fun e w' => ∃ u, e = .returned u ∧ IOwns w' W.heap.size u (idsOf l) ∧ Below W.heap.size W w') := by
    refine (ids_good (nodeOf t) HIds.out.2.2.2 _ fp W (HIn.out W (Below.refl _ _))).mono ?_
    rintro e w' ⟨u, rfl, h1, h2⟩
    rw [HIds.out.1] at h1
    exact ⟨u, rfl, h1, h2⟩
  have HNn : Hid ((nodeOf t).w = t.box.w ∧ (nodeOf t).h = t.box.h) := ⟨nodeOf_w t, nodeOf_h t⟩
  obtain ⟨nn, hnn⟩ : ∃ x, nodeOf t = x := ⟨_, rfl⟩
  have HNo : Hid (nodeOf t = nn) := hnn
  rw [hnn] at HX HW HId HNn ⊢
  have HC5 : Hid (∀ X, Below W.heap.size W X → X.cell? ⟨w1.heap.size, 0, none⟩ = some (.int .i64 nn.k) ∧ X.cell? ⟨w1.heap.size, 1, none⟩ = some (.int .i64 nn.w) ∧ X.cell? ⟨w1.heap.size, 2, none⟩ = some (.int .i64 nn.h) ∧ X.cell? ⟨w1.heap.size, 3, none⟩ = some (.int .i64 nn.i) ∧ X.cell? ⟨w1.heap.size, 4, none⟩ = some (.slice sa sn sc)) := fun X hX => ⟨cell_atL (HX.out X hX) 0, cell_atL (HX.out X hX) 1, cell_atL (HX.out X hX) 2, cell_atL (HX.out X hX) 3, cell_atL (HX.out X hX) 4⟩
  unfold nodeV
  clear hb hIn hbW hM hW hnn HT
  rcases hkb with kb | ⟨kb, kb'⟩
  all_goals (
    go_upto_region 6 with fail
    rw [HW.out]
    obtain ⟨m0, m1, m2, m3, m4⟩ := HC5.out W (Below.refl _ _)
    go_wp2_with fail
    refine HId.out.mono ?_
    rintro e w2 ⟨u, rfl, hu, hb2⟩
    have HHs2 : Hid (Calls Try.prog 37 #[u, .int .i64 q] w2 fun e w' => e = .returned (.bool false) ∧ w2 = w') := HHs.out u _ w2 hu
    have HB2 : Hid (Below W.heap.size W w2) := hb2
    clear hu hb2 HId HHs m0 m1 m2 m3 m4
    go_wp2_with fail
    refine HHs2.out.mono ?_
    rintro e w9 ⟨rfl, rfl⟩
    have HB3 : Hid (Below w.heap.size w w2) := below_step HBW.out HB2.out
    go_wp2
    all_goals go_ret2
    all_goals exact ⟨_, rfl, World.ownsRow_nil _ _ _ _, HB3.out⟩)

set_option maxHeartbeats 1000000 in
theorem splR_join (v : Value) (l : List CellV) (q k z id : Int) (bf : Bool) (w : World) (h : CellsIn w v l) {t : Tree} (hF : readF l = some t) (hk : k = 2 ∨ k = 3) (hq : q ∈ idsOf l) (er : Int) (her : joinE l id = er) (h0 : er ≠ 0) : Calls Try.prog 9 #[v, .int .i64 q, .int .i64 k, .int .i64 z, .bool bf, .int .i64 id] w (Ans2 er [] w) := by
  have HT : Hid (Calls Try.prog 35 #[v] w (TreeYes t w)) := tree_yes v l w h hF
  have hids := lay_ids hF
  have HLt : Hid (IsLay l t) := readF_lay hF
  have HIds : Hid ((nodeOf t).ids = idsOf l ∧ 1 ≤ (idsOf l).length ∧ (idsOf l).length ≤ 32 ∧ (nodeOf t).cnt ≤ 1000) := ⟨hids.1, hids.2.1, hids.2.2.1, hids.2.2.2.2⟩
  have HFr : Hid (∀ u B W, IOwns W B u (idsOf l) → Calls Try.prog 38 #[u, .int .i64 id] W fun e w' => e = .returned (.int .i64 er) ∧ W = w') := fun u B W hu => her ▸ fresh_any u l id B W hu hids.2.1 hids.2.2.1
  have HHs : Hid (∀ u B W, IOwns W B u (idsOf l) → Calls Try.prog 37 #[u, .int .i64 q] W fun e w' => e = .returned (.bool true) ∧ W = w') := fun u B W hu => by
    have := has_any u (idsOf l) B q W hu (by omega) (by intro h0; rw [h0] at hids; exact absurd hids.2.1 (by decide))
    rw [decide_eq_true hq] at this
    exact this
  have HK : Hid (k = 2 ∨ k = 3) := hk
  have hkb : ((k != 2) = false) ∨ ((k != 2) = true ∧ (k != 3) = false) := by rcases hk with rfl | rfl <;> simp
  have h0' : (er != 0) = true := by simpa using h0
  clear h hF hk her h0 hids hq
  go_enter Try.func9, Try.ntmps9
  go_wp2_with fail
  refine HT.out.mono ?_
  rintro e w1 ⟨sa, sn, sc, fp, rfl, hIn, hb⟩
  obtain ⟨W, hW⟩ : ∃ W, w1.alloc (.cells #[.int .i64 (nodeOf t).k, .int .i64 (nodeOf t).w, .int .i64 (nodeOf t).h, .int .i64 (nodeOf t).i, .slice sa sn sc] 80) = W := ⟨_, rfl⟩
  have hbW : Below w1.heap.size w1 W := by rw [← hW]; exact (Below.refl _ _).alloc (Nat.le_refl _) _
  have HBW : Hid (Below w.heap.size w W) := below_step hb hbW
  have hM : W.heap[w1.heap.size]? = some (.cells #[.int .i64 (nodeOf t).k, .int .i64 (nodeOf t).w, .int .i64 (nodeOf t).h, .int .i64 (nodeOf t).i, .slice sa sn sc] 80 (0, 0)) := by rw [← hW]; exact heap_alloc_new _ _
  have HX : Hid (∀ X, Below W.heap.size W X → X.heap[w1.heap.size]? = some (.cells #[.int .i64 (nodeOf t).k, .int .i64 (nodeOf t).w, .int .i64 (nodeOf t).h, .int .i64 (nodeOf t).i, .slice sa sn sc] 80 (0, 0))) := fun X hX => (hX.block _ (lt_of_block hM)).trans hM
  have HIn : Hid (∀ X, Below W.heap.size W X → (nodeOf t).In X (.slice sa sn sc) fp) := fun X hX => (hIn.below hbW).below hX
  have HW : Hid (w1.alloc (.cells #[.int .i64 (nodeOf t).k, .int .i64 (nodeOf t).w, .int .i64 (nodeOf t).h, .int .i64 (nodeOf t).i, .slice sa sn sc] 80) = W) := hW
  have HId : Hid (Calls Try.prog 36 #[.agg #[.int .i64 (nodeOf t).k, .int .i64 (nodeOf t).w, .int .i64 (nodeOf t).h, .int .i64 (nodeOf t).i, .slice sa sn sc]] W fun e w' => ∃ u, e = .returned u ∧ IOwns w' W.heap.size u (idsOf l) ∧ Below W.heap.size W w') := by
    refine (ids_good (nodeOf t) HIds.out.2.2.2 _ fp W (HIn.out W (Below.refl _ _))).mono ?_
    rintro e w' ⟨u, rfl, h1, h2⟩
    rw [HIds.out.1] at h1
    exact ⟨u, rfl, h1, h2⟩
  have HNn : Hid ((nodeOf t).w = t.box.w ∧ (nodeOf t).h = t.box.h) := ⟨nodeOf_w t, nodeOf_h t⟩
  obtain ⟨nn, hnn⟩ : ∃ x, nodeOf t = x := ⟨_, rfl⟩
  have HNo : Hid (nodeOf t = nn) := hnn
  rw [hnn] at HX HW HId HNn ⊢
  have HC5 : Hid (∀ X, Below W.heap.size W X → X.cell? ⟨w1.heap.size, 0, none⟩ = some (.int .i64 nn.k) ∧ X.cell? ⟨w1.heap.size, 1, none⟩ = some (.int .i64 nn.w) ∧ X.cell? ⟨w1.heap.size, 2, none⟩ = some (.int .i64 nn.h) ∧ X.cell? ⟨w1.heap.size, 3, none⟩ = some (.int .i64 nn.i) ∧ X.cell? ⟨w1.heap.size, 4, none⟩ = some (.slice sa sn sc)) := fun X hX => ⟨cell_atL (HX.out X hX) 0, cell_atL (HX.out X hX) 1, cell_atL (HX.out X hX) 2, cell_atL (HX.out X hX) 3, cell_atL (HX.out X hX) 4⟩
  unfold nodeV
  clear hb hIn hbW hM hW hnn HT
  rcases hkb with kb | ⟨kb, kb'⟩
  all_goals (
    go_upto_region 6 with fail
    rw [HW.out]
    obtain ⟨m0, m1, m2, m3, m4⟩ := HC5.out W (Below.refl _ _)
    go_wp2_with fail
    refine HId.out.mono ?_
    rintro e w2 ⟨u, rfl, hu, hb2⟩
    have HHs2 : Hid (Calls Try.prog 37 #[u, .int .i64 q] w2 fun e w' => e = .returned (.bool true) ∧ w2 = w') := HHs.out u _ w2 hu
    have HFr2 : Hid (Calls Try.prog 38 #[u, .int .i64 id] w2 fun e w' => e = .returned (.int .i64 er) ∧ w2 = w') := HFr.out u _ w2 hu
    have HB2 : Hid (Below W.heap.size W w2) := hb2
    clear hu hb2 HId HFr HHs m0 m1 m2 m3 m4
    go_wp2_with fail
    refine HHs2.out.mono ?_
    rintro e w9 ⟨rfl, rfl⟩
    go_wp2_with fail
    refine HFr2.out.mono ?_
    rintro e w3 ⟨rfl, rfl⟩
    have HB3 : Hid (Below w.heap.size w w2) := below_step HBW.out HB2.out
    go_wp2
    all_goals go_ret2
    all_goals exact ⟨_, rfl, World.ownsRow_nil _ _ _ _, HB3.out⟩)

end Go.Proofs.Ytnepemlagnnngaa

namespace Go.Proofs.Ytnepemlagnnngaa
open Go.RowKit
set_option linter.unusedVariables false
set_option maxRecDepth 100000

set_option maxHeartbeats 1000000 in
theorem splR_rest (v : Value) (l : List CellV) (q k z id : Int) (bf : Bool) (w : World) (h : CellsIn w v l) {t : Tree} (hF : readF l = some t) (hk : k = 2 ∨ k = 3) (hq : q ∈ idsOf l) (hj : joinE l id = 0) {ps : List Nat} {bl : Box} (hp : t.path q = some ps) (hsub : t.subAt ps = some (.leaf bl q)) (er : Int) (r : List CellV) (hcase : (bl.ext k < 3 ∧ er = 44 ∧ r = []) ∨ (3 ≤ bl.ext k ∧ er = 0 ∧ ∃ t', r = laidL t' ∧ t'.sound = true ∧ t'.kinds ∧ t'.size ≤ 200 ∧ CutG q k z id bf t t')) : Calls Try.prog 9 #[v, .int .i64 q, .int .i64 k, .int .i64 z, .bool bf, .int .i64 id] w (Ans2 er r w) := by
  have HT : Hid (Calls Try.prog 35 #[v] w (TreeYes t w)) := tree_yes v l w h hF
  have hids := lay_ids hF
  have HLt : Hid (IsLay l t) := readF_lay hF
  have HIds : Hid ((nodeOf t).ids = idsOf l ∧ 1 ≤ (idsOf l).length ∧ (idsOf l).length ≤ 32 ∧ (nodeOf t).cnt ≤ 1000) := ⟨hids.1, hids.2.1, hids.2.2.1, hids.2.2.2.2⟩
  have HFr : Hid (∀ u B W, IOwns W B u (idsOf l) → Calls Try.prog 38 #[u, .int .i64 id] W fun e w' => e = .returned (.int .i64 0) ∧ W = w') := fun u B W hu => hj ▸ fresh_any u l id B W hu hids.2.1 hids.2.2.1
  have HHs : Hid (∀ u B W, IOwns W B u (idsOf l) → Calls Try.prog 37 #[u, .int .i64 q] W fun e w' => e = .returned (.bool true) ∧ W = w') := fun u B W hu => by
    have := has_any u (idsOf l) B q W hu (by omega) (by intro h0; rw [h0] at hids; exact absurd hids.2.1 (by decide))
    rw [decide_eq_true hq] at this
    exact this
  have HK : Hid (k = 2 ∨ k = 3) := hk
  have hkb : ((k != 2) = false) ∨ ((k != 2) = true ∧ (k != 3) = false) := by rcases hk with rfl | rfl <;> simp
  have hCe : CellG q bl t := cell_any q bl ps t HLt.out.sound HLt.out.kinds (by have := lay_size HLt.out; omega) (by rw [idl_told t 0 HLt.out.kinds, HLt.out.tell]; exact hids.2.2.2.1) hp hsub
  obtain ⟨E, hE⟩ : ∃ x, bl.ext k = x := ⟨_, rfl⟩
  rw [hE] at hcase
  have HEx : Hid (∀ sa sn sc X, Calls Try.prog 39 #[.agg #[.int .i64 1, .int .i64 bl.w, .int .i64 bl.h, .int .i64 q, .slice sa sn sc], .int .i64 k] X fun e w' => e = .returned (.int .i64 E) ∧ Below X.heap.size X w') := fun sa sn sc X => by
    have := ref_extent (.mk 1 bl.w bl.h q []) sa sn sc k X
    rw [← hE]
    exact this
  have HCs : Hid ((E < 3 ∧ er = 44 ∧ r = []) ∨ (3 ≤ E ∧ er = 0 ∧ ∃ t', r = laidL t' ∧ t'.sound = true ∧ t'.kinds ∧ t'.size ≤ 200 ∧ CutG q k z id bf t t')) := hcase
  have HCe : Hid (CellG q bl t) := hCe
  clear h hF hk hids hq hj hp hsub hcase hE hCe
  go_enter Try.func9, Try.ntmps9
  go_wp2_with fail
  refine HT.out.mono ?_
  rintro e w1 ⟨sa, sn, sc, fp, rfl, hIn, hb⟩
  obtain ⟨W, hW⟩ : ∃ W, w1.alloc (.cells #[.int .i64 (nodeOf t).k, .int .i64 (nodeOf t).w, .int .i64 (nodeOf t).h, .int .i64 (nodeOf t).i, .slice sa sn sc] 80) = W := ⟨_, rfl⟩
  have hbW : Below w1.heap.size w1 W := by rw [← hW]; exact (Below.refl _ _).alloc (Nat.le_refl _) _
  have HBW : Hid (Below w.heap.size w W) := below_step hb hbW
  have hM : W.heap[w1.heap.size]? = some (.cells #[.int .i64 (nodeOf t).k, .int .i64 (nodeOf t).w, .int .i64 (nodeOf t).h, .int .i64 (nodeOf t).i, .slice sa sn sc] 80 (0, 0)) := by rw [← hW]; exact heap_alloc_new _ _
  have HX : Hid (∀ X, Below W.heap.size W X → X.heap[w1.heap.size]? = some (.cells #[.int .i64 (nodeOf t).k, .int .i64 (nodeOf t).w, .int .i64 (nodeOf t).h, .int .i64 (nodeOf t).i, .slice sa sn sc] 80 (0, 0))) := fun X hX => (hX.block _ (lt_of_block hM)).trans hM
  have HIn : Hid (∀ X, Below W.heap.size W X → (nodeOf t).In X (.slice sa sn sc) fp) := fun X hX => (hIn.below hbW).below hX
  have HW : Hid (w1.alloc (.cells #[.int .i64 (nodeOf t).k, .int .i64 (nodeOf t).w, .int .i64 (nodeOf t).h, .int .i64 (nodeOf t).i, .slice sa sn sc] 80) = W) := hW
  have HId : Hid (Calls Try.prog 36 #[.agg #[.int .i64 (nodeOf t).k, .int .i64 (nodeOf t).w, .int .i64 (nodeOf t).h, .int .i64 (nodeOf t).i, .slice sa sn sc]] W fun e w' => ∃ u, e = .returned u ∧ IOwns w' W.heap.size u (idsOf l) ∧ Below W.heap.size W w') := by
    refine (ids_good (nodeOf t) HIds.out.2.2.2 _ fp W (HIn.out W (Below.refl _ _))).mono ?_
    rintro e w' ⟨u, rfl, h1, h2⟩
    rw [HIds.out.1] at h1
    exact ⟨u, rfl, h1, h2⟩
  have HCl : Hid (∀ X, Below W.heap.size W X → Calls Try.prog 40 #[.agg #[.int .i64 (nodeOf t).k, .int .i64 (nodeOf t).w, .int .i64 (nodeOf t).h, .int .i64 (nodeOf t).i, .slice sa sn sc], .int .i64 q] X (CellA bl q X)) := fun X hX => HCe.out _ fp X (HIn.out X hX)
  have HEn : Hid (∀ t' X, CutG q k z id bf t t' → t'.sound = true → t'.kinds → t'.size ≤ 200 → Below W.heap.size W X → Calls Try.prog 42 #[.agg #[.int .i64 (nodeOf t).k, .int .i64 (nodeOf t).w, .int .i64 (nodeOf t).h, .int .i64 (nodeOf t).i, .slice sa sn sc], .int .i64 q, .int .i64 k, .int .i64 z, .bool bf, .int .i64 id] X fun e w' => ∃ (nr : Node), ∃ ua un uc, e = .returned (.agg #[.int .i64 nr.k, .int .i64 nr.w, .int .i64 nr.h, .int .i64 nr.i, .slice ua un uc]) ∧ Below w.heap.size w w' ∧ Calls Try.prog 41 #[.agg #[.int .i64 nr.k, .int .i64 nr.w, .int .i64 nr.h, .int .i64 nr.i, .slice ua un uc]] w' fun e w'' => ∃ u, e = .returned u ∧ CeOwns w'' w.heap.size u (laidL t') ∧ Below w.heap.size w w'') := fun t' X hS h1 h2 h3 hX => by
    refine (hS _ fp X (HIn.out X hX)).mono ?_
    rintro e w' ⟨ua, un, uc, f', he, hi', _, hb'⟩
    have hbb : Below w.heap.size w w' := below_step (below_step HBW.out hX) hb'
    refine ⟨nodeOf t', ua, un, uc, he, hbb, (list_end h1 h2 h3 hi').mono ?_⟩
    rintro e w'' ⟨u, rfl, hu, hb''⟩
    exact ⟨u, rfl, hu.lower hbb.size, below_step hbb hb''⟩
  have HNn : Hid ((nodeOf t).w = t.box.w ∧ (nodeOf t).h = t.box.h) := ⟨nodeOf_w t, nodeOf_h t⟩
  obtain ⟨nn, hnn⟩ : ∃ x, nodeOf t = x := ⟨_, rfl⟩
  have HNo : Hid (nodeOf t = nn) := hnn
  rw [hnn] at HX HW HId HNn HCl HEn ⊢
  have HC5 : Hid (∀ X, Below W.heap.size W X → X.cell? ⟨w1.heap.size, 0, none⟩ = some (.int .i64 nn.k) ∧ X.cell? ⟨w1.heap.size, 1, none⟩ = some (.int .i64 nn.w) ∧ X.cell? ⟨w1.heap.size, 2, none⟩ = some (.int .i64 nn.h) ∧ X.cell? ⟨w1.heap.size, 3, none⟩ = some (.int .i64 nn.i) ∧ X.cell? ⟨w1.heap.size, 4, none⟩ = some (.slice sa sn sc)) := fun X hX => ⟨cell_atL (HX.out X hX) 0, cell_atL (HX.out X hX) 1, cell_atL (HX.out X hX) 2, cell_atL (HX.out X hX) 3, cell_atL (HX.out X hX) 4⟩
  unfold nodeV
  clear hb hIn hbW hM hW hnn HT
  rcases hkb with kb | ⟨kb, kb'⟩
  all_goals (
    go_upto_region 6 with fail
    rw [HW.out]
    obtain ⟨m0, m1, m2, m3, m4⟩ := HC5.out W (Below.refl _ _)
    go_wp2_with fail
    refine HId.out.mono ?_
    rintro e w2 ⟨u, rfl, hu, hb2⟩
    have HHs2 : Hid (Calls Try.prog 37 #[u, .int .i64 q] w2 fun e w' => e = .returned (.bool true) ∧ w2 = w') := HHs.out u _ w2 hu
    have HFr2 : Hid (Calls Try.prog 38 #[u, .int .i64 id] w2 fun e w' => e = .returned (.int .i64 0) ∧ w2 = w') := HFr.out u _ w2 hu
    have HB2 : Hid (Below W.heap.size W w2) := hb2
    clear hu hb2 HId HFr HHs m0 m1 m2 m3 m4
    go_wp2_with fail
    refine HHs2.out.mono ?_
    rintro e w9 ⟨rfl, rfl⟩
    go_wp2_with fail
    refine HFr2.out.mono ?_
    rintro e w3 ⟨rfl, rfl⟩
    have HB3 : Hid (Below w.heap.size w w2) := below_step HBW.out HB2.out
    have HCl2 := hiddenC (HCl.out w2 HB2.out)
    obtain ⟨m0, m1, m2, m3, m4⟩ := HC5.out w2 HB2.out
    clear HHs2 HFr2 HCl HCe
    go_wp2_with fail
    refine HCl2.out.mono ?_
    rintro e w4 ⟨ca, cn, cc, rfl, hb4⟩
    have HB4 : Hid (Below W.heap.size W w4) := below_step HB2.out hb4
    clear hb4 HCl2 m0 m1 m2 m3 m4
    go_wp2_with fail
    refine (HEx.out _ _ _ _).mono ?_
    rintro e w5 ⟨rfl, hb5⟩
    have HB5 : Hid (Below W.heap.size W w5) := below_step HB4.out hb5
    clear hb5 HEx HB4
    rcases HCs.out with ⟨h1, rfl, rfl⟩ | ⟨h1, rfl, t', rfl, h3, h4, h5, h6⟩
    · have HZ : Hid (Below w.heap.size w w5) := below_step HBW.out HB5.out
      go_wp2
      go_ret2
      exact ⟨_, rfl, World.ownsRow_nil _ _ _ _, HZ.out⟩
    · have HE := hiddenC (HEn.out t' w5 h6 h3 h4 h5 HB5.out)
      have h1' : ¬ E < 3 := by omega
      obtain ⟨m0, m1, m2, m3, m4⟩ := HC5.out w5 HB5.out
      clear h1 h3 h4 h5 h6 HEn HCs
      go_wp2_with fail
      refine HE.out.mono ?_
      rintro e w6 ⟨nr, xa, xn, xc, rfl, hb6, hL⟩
      have HL := hiddenC hL
      clear m0 m1 m2 m3 m4 hL hb6 HE
      go_wp2_with fail
      refine HL.out.mono ?_
      rintro e w7 ⟨u, rfl, hu, hb7⟩
      have HZ : Hid (CeOwns w7 w.heap.size u (laidL t') ∧ Below w.heap.size w w7) := ⟨hu, hb7⟩
      clear hu hb7 HL
      go_wp2
      go_ret2
      exact ⟨_, rfl, HZ.out.1, HZ.out.2⟩)

end Go.Proofs.Ytnepemlagnnngaa
