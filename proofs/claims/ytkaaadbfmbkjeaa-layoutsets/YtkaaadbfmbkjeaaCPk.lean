/-
  Layouts: Push in the document (mkpushk.py).
  Layouts: the law of Push.
-/
import Derived.Test.YtkaaadbfmbkjeaaCPm
import Derived.Test.YtkaaadbfmbkjeaaCPn
import Derived.Test.YtkaaadbfmbkjeaaCFi
import Derived.Test.YtkaaadbfmbkjeaaCWo
import Derived.Test.YtkaaadbfmbkjeaaCOp
namespace Go.Proofs.Ytkaaadbfmbkjeaa
open Go.RowKit
set_option linter.unusedVariables false
set_option maxRecDepth 100000

theorem pushR_none (v : Value) (l : List CellV) (q k n : Int) (w : World) (h : CellsIn w v l) (hF : readF l = none) : Calls Try.prog 19 #[v, .int .i64 q, .int .i64 k, .int .i64 n] w (Ans3 0 40 [] w) := by
  have HT : Hid (Calls Try.prog 33 #[v] w fun e w' => e = .returned (.tuple #[.agg zeroN, .bool false]) ∧ Below w.heap.size w w') := tree_no v l w h hF
  clear h hF
  go_enter Try.func19, Try.ntmps19
  go_wp2_with fail
  refine HT.out.mono ?_
  rintro e w1 ⟨rfl, hb⟩
  have HB : Hid (∀ o, Below w.heap.size w (w1.alloc o)) := alloc_below hb
  unfold zeroN
  clear hb
  go_wp2
  exact bodyPost_ret (v := .tuple #[.slice none 0 0, .int .i64 0, .int .i64 40]) (by simp [results, Try.results19, go_sem]) rfl ⟨_, rfl, World.ownsRow_nil _ _ _ _, HB.out _⟩

theorem pushR_arg (v : Value) (l : List CellV) (q k n : Int) (w : World) (h : CellsIn w v l) {t : Tree} (hF : readF l = some t) (hk : ¬ (k = 2 ∨ k = 3)) : Calls Try.prog 19 #[v, .int .i64 q, .int .i64 k, .int .i64 n] w (Ans3 0 1 [] w) := by
  have HT : Hid (Calls Try.prog 33 #[v] w (TreeYes t w)) := tree_yes v l w h hF
  have k2 : (k != 2) = true := by
    have : k ≠ 2 := fun e => hk (.inl e)
    simpa using this
  have k3 : (k != 3) = true := by
    have : k ≠ 3 := fun e => hk (.inr e)
    simpa using this
  clear h hF hk
  go_enter Try.func19, Try.ntmps19
  go_wp2_with fail
  refine HT.out.mono ?_
  rintro e w1 ⟨sa, sn, sc, fp, rfl, hIn, hb⟩
  have HB : Hid (∀ o, Below w.heap.size w (w1.alloc o)) := alloc_below hb
  obtain ⟨nn, hnn⟩ : ∃ x, nodeOf t = x := ⟨_, rfl⟩
  rw [hnn]
  unfold nodeV
  clear hb hIn hnn
  go_wp2
  exact bodyPost_ret (v := .tuple #[.slice none 0 0, .int .i64 0, .int .i64 1]) (by simp [results, Try.results19, go_sem]) rfl ⟨_, rfl, World.ownsRow_nil _ _ _ _, HB.out _⟩

set_option maxHeartbeats 2000000 in
theorem pushR_pane (v : Value) (l : List CellV) (q k n : Int) (w : World) (h : CellsIn w v l) {t : Tree} (hF : readF l = some t) (hk : k = 2 ∨ k = 3) (hp : t.path q = none) : Calls Try.prog 19 #[v, .int .i64 q, .int .i64 k, .int .i64 n] w (Ans3 0 42 [] w) := by
  have HT : Hid (Calls Try.prog 33 #[v] w (TreeYes t w)) := tree_yes v l w h hF
  have hids := lay_ids hF
  have hlay := readF_lay hF
  have hzl := lay_size hlay
  have HIds : Hid ((nodeOf t).ids = t.idl ∧ t.idl.length ≤ 32 ∧ t.idl ≠ [] ∧ (nodeOf t).cnt ≤ 1000) := by
    have h1 := ids_idl t hlay.kinds
    refine ⟨h1, ?_, ?_, hids.2.2.2.2⟩
    · rw [← h1, hids.1]; exact hids.2.2.1
    · rw [← h1]; exact idl_ne t hlay.kinds hlay.sound
  have hkb : ((k != 2) = false) ∨ ((k != 2) = true ∧ (k != 3) = false) := by rcases hk with rfl | rfl <;> simp
  have HQ : Hid (decide (q ∈ t.idl) = false) := decide_eq_false ((path_mem t q).1 hp)
  clear h hF hk hids hlay hzl hp
  go_enter Try.func19, Try.ntmps19
  go_wp2_with fail
  refine HT.out.mono ?_
  rintro e w1 ⟨sa, sn, sc, fp, rfl, hIn, hb⟩
  obtain ⟨W, hW⟩ : ∃ W, w1.alloc (.cells #[.int .i64 (nodeOf t).k, .int .i64 (nodeOf t).w, .int .i64 (nodeOf t).h, .int .i64 (nodeOf t).i, .slice sa sn sc] 73) = W := ⟨_, rfl⟩
  have hbW : Below w1.heap.size w1 W := by rw [← hW]; exact (Below.refl _ _).alloc (Nat.le_refl _) _
  have HBW : Hid (Below w.heap.size w W) := below_step hb hbW
  have hM : W.heap[w1.heap.size]? = some (.cells #[.int .i64 (nodeOf t).k, .int .i64 (nodeOf t).w, .int .i64 (nodeOf t).h, .int .i64 (nodeOf t).i, .slice sa sn sc] 73 (0, 0)) := by rw [← hW]; exact heap_alloc_new _ _
  have HX : Hid (∀ X, Below W.heap.size W X → X.heap[w1.heap.size]? = some (.cells #[.int .i64 (nodeOf t).k, .int .i64 (nodeOf t).w, .int .i64 (nodeOf t).h, .int .i64 (nodeOf t).i, .slice sa sn sc] 73 (0, 0))) := fun X hX => (hX.block _ (lt_of_block hM)).trans hM
  have HIn : Hid (∀ X, Below W.heap.size W X → (nodeOf t).In X (.slice sa sn sc) fp) := fun X hX => (hIn.below hbW).below hX
  have HW : Hid (w1.alloc (.cells #[.int .i64 (nodeOf t).k, .int .i64 (nodeOf t).w, .int .i64 (nodeOf t).h, .int .i64 (nodeOf t).i, .slice sa sn sc] 73) = W) := hW
  have HId : Hid (Calls Try.prog 34 #[.agg #[.int .i64 (nodeOf t).k, .int .i64 (nodeOf t).w, .int .i64 (nodeOf t).h, .int .i64 (nodeOf t).i, .slice sa sn sc]] W fun e w' => ∃ u, e = .returned u ∧ IOwns w' W.heap.size u t.idl ∧ Below W.heap.size W w') := by
    refine (ids_good (nodeOf t) HIds.out.2.2.2 _ fp W (HIn.out W (Below.refl _ _))).mono ?_
    rintro e w' ⟨u, rfl, h1, h2⟩
    rw [HIds.out.1] at h1
    exact ⟨u, rfl, h1, h2⟩
  obtain ⟨nn, hnn⟩ : ∃ x, nodeOf t = x := ⟨_, rfl⟩
  have HNo : Hid (nodeOf t = nn) := hnn
  rw [hnn] at HX HW HId ⊢
  have HC5 : Hid (∀ X, Below W.heap.size W X → X.cell? ⟨w1.heap.size, 0, none⟩ = some (.int .i64 nn.k) ∧ X.cell? ⟨w1.heap.size, 1, none⟩ = some (.int .i64 nn.w) ∧ X.cell? ⟨w1.heap.size, 2, none⟩ = some (.int .i64 nn.h) ∧ X.cell? ⟨w1.heap.size, 3, none⟩ = some (.int .i64 nn.i) ∧ X.cell? ⟨w1.heap.size, 4, none⟩ = some (.slice sa sn sc)) := fun X hX => ⟨cell_atL (HX.out X hX) 0, cell_atL (HX.out X hX) 1, cell_atL (HX.out X hX) 2, cell_atL (HX.out X hX) 3, cell_atL (HX.out X hX) 4⟩
  unfold nodeV
  clear hb hIn hbW hM hW hnn HT
  rcases hkb with kb | ⟨kb, kb'⟩
  all_goals (
    go_upto_region 6 with fail
    rw [HW.out]
    obtain ⟨m0, m1, m2, m3, m4⟩ := HC5.out W (Below.refl _ _)
    go_wp2_with fail
    refine HId.out.mono ?_
    rintro e w2 ⟨u, rfl, hu, hb2⟩
    have HHa : Hid (Calls Try.prog 35 #[u, .int .i64 q] w2 fun e w' => e = .returned (.bool false) ∧ w2 = w') := by
      have := has_any u t.idl _ q w2 hu (by have := HIds.out.2.1; omega) HIds.out.2.2.1
      rw [HQ.out] at this
      exact this
    have HB2 : Hid (Below W.heap.size W w2) := hb2
    clear hu hb2 HId m0 m1 m2 m3 m4
    go_wp2_with fail
    refine HHa.out.mono ?_
    rintro e w3 ⟨rfl, rfl⟩
    have HB3 : Hid (Below w.heap.size w w2) := below_step HBW.out HB2.out
    go_wp2
    exact bodyPost_ret (v := .tuple #[.slice none 0 0, .int .i64 0, .int .i64 42]) (by simp [results, Try.results19, go_sem]) rfl ⟨_, rfl, World.ownsRow_nil _ _ _ _, HB3.out⟩)

set_option maxHeartbeats 2000000 in
theorem pushR_alone (v : Value) (l : List CellV) (q k n : Int) (w : World) (h : CellsIn w v l) {t : Tree} (hF : readF l = some t) (hk : k = 2 ∨ k = 3) {ps : List Nat} (hp : t.path q = some ps) {s' : Tree} {mv : Int} (hG : PuGood false (max (-1000) (min n 1000)) k q t s' mv false) : Calls Try.prog 19 #[v, .int .i64 q, .int .i64 k, .int .i64 n] w (Ans3 0 47 [] w) := by
  have HT : Hid (Calls Try.prog 33 #[v] w (TreeYes t w)) := tree_yes v l w h hF
  have hids := lay_ids hF
  have hlay := readF_lay hF
  have hzl := lay_size hlay
  have HIds : Hid ((nodeOf t).ids = t.idl ∧ t.idl.length ≤ 32 ∧ t.idl ≠ [] ∧ (nodeOf t).cnt ≤ 1000) := by
    have h1 := ids_idl t hlay.kinds
    refine ⟨h1, ?_, ?_, hids.2.2.2.2⟩
    · rw [← h1, hids.1]; exact hids.2.2.1
    · rw [← h1]; exact idl_ne t hlay.kinds hlay.sound
  have hkb : ((k != 2) = false) ∨ ((k != 2) = true ∧ (k != 3) = false) := by rcases hk with rfl | rfl <;> simp
  have HQ : Hid (decide (q ∈ t.idl) = true) := decide_eq_true (by
    by_cases e : q ∈ t.idl
    · exact e
    · rw [(path_mem t q).2 e] at hp
      cases hp)
  obtain ⟨nc, hnc⟩ : ∃ x, max (-1000) (min n 1000) = x := ⟨_, rfl⟩
  rw [hnc] at hG
  obtain ⟨nt, hnt⟩ : ∃ x, nodeOf s' = x := ⟨_, rfl⟩
  have HG : Hid (PuGood false nc k q t s' mv false) := hG
  have HNt : Hid (nodeOf s' = nt) := hnt
  clear h hF hk hids hlay hzl hp hG hnt
  go_enter Try.func19, Try.ntmps19
  go_wp2_with fail
  refine HT.out.mono ?_
  rintro e w1 ⟨sa, sn, sc, fp, rfl, hIn, hb⟩
  obtain ⟨W, hW⟩ : ∃ W, w1.alloc (.cells #[.int .i64 (nodeOf t).k, .int .i64 (nodeOf t).w, .int .i64 (nodeOf t).h, .int .i64 (nodeOf t).i, .slice sa sn sc] 73) = W := ⟨_, rfl⟩
  have hbW : Below w1.heap.size w1 W := by rw [← hW]; exact (Below.refl _ _).alloc (Nat.le_refl _) _
  have HBW : Hid (Below w.heap.size w W) := below_step hb hbW
  have hM : W.heap[w1.heap.size]? = some (.cells #[.int .i64 (nodeOf t).k, .int .i64 (nodeOf t).w, .int .i64 (nodeOf t).h, .int .i64 (nodeOf t).i, .slice sa sn sc] 73 (0, 0)) := by rw [← hW]; exact heap_alloc_new _ _
  have HX : Hid (∀ X, Below W.heap.size W X → X.heap[w1.heap.size]? = some (.cells #[.int .i64 (nodeOf t).k, .int .i64 (nodeOf t).w, .int .i64 (nodeOf t).h, .int .i64 (nodeOf t).i, .slice sa sn sc] 73 (0, 0))) := fun X hX => (hX.block _ (lt_of_block hM)).trans hM
  have HIn : Hid (∀ X, Below W.heap.size W X → (nodeOf t).In X (.slice sa sn sc) fp) := fun X hX => (hIn.below hbW).below hX
  have HW : Hid (w1.alloc (.cells #[.int .i64 (nodeOf t).k, .int .i64 (nodeOf t).w, .int .i64 (nodeOf t).h, .int .i64 (nodeOf t).i, .slice sa sn sc] 73) = W) := hW
  have HId : Hid (Calls Try.prog 34 #[.agg #[.int .i64 (nodeOf t).k, .int .i64 (nodeOf t).w, .int .i64 (nodeOf t).h, .int .i64 (nodeOf t).i, .slice sa sn sc]] W fun e w' => ∃ u, e = .returned u ∧ IOwns w' W.heap.size u t.idl ∧ Below W.heap.size W w') := by
    refine (ids_good (nodeOf t) HIds.out.2.2.2 _ fp W (HIn.out W (Below.refl _ _))).mono ?_
    rintro e w' ⟨u, rfl, h1, h2⟩
    rw [HIds.out.1] at h1
    exact ⟨u, rfl, h1, h2⟩
  have HPu : Hid (∀ X, Below W.heap.size W X → Calls Try.prog 52 #[.agg #[.int .i64 (nodeOf t).k, .int .i64 (nodeOf t).w, .int .i64 (nodeOf t).h, .int .i64 (nodeOf t).i, .slice sa sn sc], .int .i64 q, .int .i64 k, .int .i64 nc, .bool false] X fun e w' => ∃ ta tn tc fp', e = .returned (.tuple #[.agg (nodeV nt (.slice ta tn tc)), .int .i64 mv, .bool false]) ∧ (nodeOf s').In w' (.slice ta tn tc) fp' ∧ Below W.heap.size W w') := fun X hX => by
    refine (HG.out _ fp X (HIn.out X hX)).mono ?_
    rintro e w' ⟨ta, tn, tc, fp', rfl, e1, e2, e3⟩
    exact ⟨ta, tn, tc, fp', by rw [HNt.out], e1, below_step hX e3⟩
  obtain ⟨nn, hnn⟩ : ∃ x, nodeOf t = x := ⟨_, rfl⟩
  have HNo : Hid (nodeOf t = nn) := hnn
  rw [hnn] at HX HW HId HPu ⊢
  have HC5 : Hid (∀ X, Below W.heap.size W X → X.cell? ⟨w1.heap.size, 0, none⟩ = some (.int .i64 nn.k) ∧ X.cell? ⟨w1.heap.size, 1, none⟩ = some (.int .i64 nn.w) ∧ X.cell? ⟨w1.heap.size, 2, none⟩ = some (.int .i64 nn.h) ∧ X.cell? ⟨w1.heap.size, 3, none⟩ = some (.int .i64 nn.i) ∧ X.cell? ⟨w1.heap.size, 4, none⟩ = some (.slice sa sn sc)) := fun X hX => ⟨cell_atL (HX.out X hX) 0, cell_atL (HX.out X hX) 1, cell_atL (HX.out X hX) 2, cell_atL (HX.out X hX) 3, cell_atL (HX.out X hX) 4⟩
  unfold nodeV
  clear hb hIn hbW hM hW hnn HT
  rcases hkb with kb | ⟨kb, kb'⟩
  all_goals (
    go_upto_region 6 with fail
    rw [HW.out]
    obtain ⟨m0, m1, m2, m3, m4⟩ := HC5.out W (Below.refl _ _)
    go_wp2_with fail
    refine HId.out.mono ?_
    rintro e w2 ⟨u, rfl, hu, hb2⟩
    have HHa : Hid (Calls Try.prog 35 #[u, .int .i64 q] w2 fun e w' => e = .returned (.bool true) ∧ w2 = w') := by
      have := has_any u t.idl _ q w2 hu (by have := HIds.out.2.1; omega) HIds.out.2.2.1
      rw [HQ.out] at this
      exact this
    have HB2 : Hid (Below W.heap.size W w2) := hb2
    clear hu hb2 HId m0 m1 m2 m3 m4
    go_wp2_with fail
    refine HHa.out.mono ?_
    rintro e w3 ⟨rfl, rfl⟩
    obtain ⟨m0, m1, m2, m3, m4⟩ := HC5.out w2 HB2.out
    go_wp2_with fail
    refine (HPu.out _ HB2.out).mono ?_
    rintro e w4 ⟨ta, tn, tc, fp', rfl, hIn', hb4⟩
    unfold nodeV
    clear m0 m1 m2 m3 m4
    have HB4 : Hid (∀ o, Below w.heap.size w (w4.alloc o)) := alloc_below (below_step HBW.out hb4)
    clear hb4 hIn'
    go_wp2
    exact bodyPost_ret (v := .tuple #[.slice none 0 0, .int .i64 0, .int .i64 47]) (by simp [results, Try.results19, go_sem]) rfl ⟨_, rfl, World.ownsRow_nil _ _ _ _, HB4.out _⟩)

set_option maxHeartbeats 2000000 in
theorem pushR_ok (v : Value) (l : List CellV) (q k n : Int) (w : World) (h : CellsIn w v l) {t : Tree} (hF : readF l = some t) (hk : k = 2 ∨ k = 3) {ps : List Nat} (hp : t.path q = some ps) {s' : Tree} {mv : Int} (hG : PuGood false (max (-1000) (min n 1000)) k q t s' mv true) (hs : s'.sound = true) (hks : s'.kinds) (hz : s'.size ≤ 200) : Calls Try.prog 19 #[v, .int .i64 q, .int .i64 k, .int .i64 n] w (Ans3 mv 0 (laidL s') w) := by
  have HT : Hid (Calls Try.prog 33 #[v] w (TreeYes t w)) := tree_yes v l w h hF
  have hids := lay_ids hF
  have hlay := readF_lay hF
  have hzl := lay_size hlay
  have HIds : Hid ((nodeOf t).ids = t.idl ∧ t.idl.length ≤ 32 ∧ t.idl ≠ [] ∧ (nodeOf t).cnt ≤ 1000) := by
    have h1 := ids_idl t hlay.kinds
    refine ⟨h1, ?_, ?_, hids.2.2.2.2⟩
    · rw [← h1, hids.1]; exact hids.2.2.1
    · rw [← h1]; exact idl_ne t hlay.kinds hlay.sound
  have hkb : ((k != 2) = false) ∨ ((k != 2) = true ∧ (k != 3) = false) := by rcases hk with rfl | rfl <;> simp
  have HQ : Hid (decide (q ∈ t.idl) = true) := decide_eq_true (by
    by_cases e : q ∈ t.idl
    · exact e
    · rw [(path_mem t q).2 e] at hp
      cases hp)
  obtain ⟨nc, hnc⟩ : ∃ x, max (-1000) (min n 1000) = x := ⟨_, rfl⟩
  rw [hnc] at hG
  obtain ⟨nt, hnt⟩ : ∃ x, nodeOf s' = x := ⟨_, rfl⟩
  have HG : Hid (PuGood false nc k q t s' mv true) := hG
  have HNt : Hid (nodeOf s' = nt) := hnt
  obtain ⟨LT, hLT⟩ : ∃ x, laidL s' = x := ⟨_, rfl⟩
  have HLi : Hid (∀ X ta tn tc fp', (nodeOf s').In X (.slice ta tn tc) fp' → Calls Try.prog 39 #[.agg #[.int .i64 nt.k, .int .i64 nt.w, .int .i64 nt.h, .int .i64 nt.i, .slice ta tn tc]] X fun e w' => ∃ u, e = .returned u ∧ CeOwns w' X.heap.size u LT ∧ Below X.heap.size X w') := fun X ta tn tc fp' hX => by
    have := list_end hs hks hz hX
    rw [hnt, hLT] at this
    exact this
  rw [hLT]
  clear h hF hk hids hlay hzl hp hG hnt hs hks hz hLT
  go_enter Try.func19, Try.ntmps19
  go_wp2_with fail
  refine HT.out.mono ?_
  rintro e w1 ⟨sa, sn, sc, fp, rfl, hIn, hb⟩
  obtain ⟨W, hW⟩ : ∃ W, w1.alloc (.cells #[.int .i64 (nodeOf t).k, .int .i64 (nodeOf t).w, .int .i64 (nodeOf t).h, .int .i64 (nodeOf t).i, .slice sa sn sc] 73) = W := ⟨_, rfl⟩
  have hbW : Below w1.heap.size w1 W := by rw [← hW]; exact (Below.refl _ _).alloc (Nat.le_refl _) _
  have HBW : Hid (Below w.heap.size w W) := below_step hb hbW
  have hM : W.heap[w1.heap.size]? = some (.cells #[.int .i64 (nodeOf t).k, .int .i64 (nodeOf t).w, .int .i64 (nodeOf t).h, .int .i64 (nodeOf t).i, .slice sa sn sc] 73 (0, 0)) := by rw [← hW]; exact heap_alloc_new _ _
  have HX : Hid (∀ X, Below W.heap.size W X → X.heap[w1.heap.size]? = some (.cells #[.int .i64 (nodeOf t).k, .int .i64 (nodeOf t).w, .int .i64 (nodeOf t).h, .int .i64 (nodeOf t).i, .slice sa sn sc] 73 (0, 0))) := fun X hX => (hX.block _ (lt_of_block hM)).trans hM
  have HIn : Hid (∀ X, Below W.heap.size W X → (nodeOf t).In X (.slice sa sn sc) fp) := fun X hX => (hIn.below hbW).below hX
  have HW : Hid (w1.alloc (.cells #[.int .i64 (nodeOf t).k, .int .i64 (nodeOf t).w, .int .i64 (nodeOf t).h, .int .i64 (nodeOf t).i, .slice sa sn sc] 73) = W) := hW
  have HId : Hid (Calls Try.prog 34 #[.agg #[.int .i64 (nodeOf t).k, .int .i64 (nodeOf t).w, .int .i64 (nodeOf t).h, .int .i64 (nodeOf t).i, .slice sa sn sc]] W fun e w' => ∃ u, e = .returned u ∧ IOwns w' W.heap.size u t.idl ∧ Below W.heap.size W w') := by
    refine (ids_good (nodeOf t) HIds.out.2.2.2 _ fp W (HIn.out W (Below.refl _ _))).mono ?_
    rintro e w' ⟨u, rfl, h1, h2⟩
    rw [HIds.out.1] at h1
    exact ⟨u, rfl, h1, h2⟩
  have HPu : Hid (∀ X, Below W.heap.size W X → Calls Try.prog 52 #[.agg #[.int .i64 (nodeOf t).k, .int .i64 (nodeOf t).w, .int .i64 (nodeOf t).h, .int .i64 (nodeOf t).i, .slice sa sn sc], .int .i64 q, .int .i64 k, .int .i64 nc, .bool false] X fun e w' => ∃ ta tn tc fp', e = .returned (.tuple #[.agg (nodeV nt (.slice ta tn tc)), .int .i64 mv, .bool true]) ∧ (nodeOf s').In w' (.slice ta tn tc) fp' ∧ Below W.heap.size W w') := fun X hX => by
    refine (HG.out _ fp X (HIn.out X hX)).mono ?_
    rintro e w' ⟨ta, tn, tc, fp', rfl, e1, e2, e3⟩
    exact ⟨ta, tn, tc, fp', by rw [HNt.out], e1, below_step hX e3⟩
  obtain ⟨nn, hnn⟩ : ∃ x, nodeOf t = x := ⟨_, rfl⟩
  have HNo : Hid (nodeOf t = nn) := hnn
  rw [hnn] at HX HW HId HPu ⊢
  have HC5 : Hid (∀ X, Below W.heap.size W X → X.cell? ⟨w1.heap.size, 0, none⟩ = some (.int .i64 nn.k) ∧ X.cell? ⟨w1.heap.size, 1, none⟩ = some (.int .i64 nn.w) ∧ X.cell? ⟨w1.heap.size, 2, none⟩ = some (.int .i64 nn.h) ∧ X.cell? ⟨w1.heap.size, 3, none⟩ = some (.int .i64 nn.i) ∧ X.cell? ⟨w1.heap.size, 4, none⟩ = some (.slice sa sn sc)) := fun X hX => ⟨cell_atL (HX.out X hX) 0, cell_atL (HX.out X hX) 1, cell_atL (HX.out X hX) 2, cell_atL (HX.out X hX) 3, cell_atL (HX.out X hX) 4⟩
  unfold nodeV
  clear hb hIn hbW hM hW hnn HT
  rcases hkb with kb | ⟨kb, kb'⟩
  all_goals (
    go_upto_region 6 with fail
    rw [HW.out]
    obtain ⟨m0, m1, m2, m3, m4⟩ := HC5.out W (Below.refl _ _)
    go_wp2_with fail
    refine HId.out.mono ?_
    rintro e w2 ⟨u, rfl, hu, hb2⟩
    have HHa : Hid (Calls Try.prog 35 #[u, .int .i64 q] w2 fun e w' => e = .returned (.bool true) ∧ w2 = w') := by
      have := has_any u t.idl _ q w2 hu (by have := HIds.out.2.1; omega) HIds.out.2.2.1
      rw [HQ.out] at this
      exact this
    have HB2 : Hid (Below W.heap.size W w2) := hb2
    clear hu hb2 HId m0 m1 m2 m3 m4
    go_wp2_with fail
    refine HHa.out.mono ?_
    rintro e w3 ⟨rfl, rfl⟩
    obtain ⟨m0, m1, m2, m3, m4⟩ := HC5.out w2 HB2.out
    go_wp2_with fail
    refine (HPu.out _ HB2.out).mono ?_
    rintro e w4 ⟨ta, tn, tc, fp', rfl, hIn', hb4⟩
    unfold nodeV
    clear m0 m1 m2 m3 m4
    obtain ⟨Z, hZ⟩ : ∃ Z, w4.alloc (.cells #[.int .i64 nt.k, .int .i64 nt.w, .int .i64 nt.h, .int .i64 nt.i, .slice ta tn tc] 73) = Z := ⟨_, rfl⟩
    have hbZ : Below w4.heap.size w4 Z := by rw [← hZ]; exact (Below.refl _ _).alloc (Nat.le_refl _) _
    have hMZ : Z.heap[w4.heap.size]? = some (.cells #[.int .i64 nt.k, .int .i64 nt.w, .int .i64 nt.h, .int .i64 nt.i, .slice ta tn tc] 73 (0, 0)) := by rw [← hZ]; exact heap_alloc_new _ _
    have HL2 : Hid (Calls Try.prog 39 #[.agg #[.int .i64 nt.k, .int .i64 nt.w, .int .i64 nt.h, .int .i64 nt.i, .slice ta tn tc]] Z fun e w' => ∃ u, e = .returned u ∧ CeOwns w' w.heap.size u LT ∧ Below w.heap.size w w') := by
      have hwZ := below_step (below_step HBW.out hb4) hbZ
      refine (HLi.out Z ta tn tc fp' (hIn'.below hbZ)).mono ?_
      rintro e w' ⟨u, rfl, h1, h2⟩
      exact ⟨u, rfl, h1.lower hwZ.size, below_step hwZ h2⟩
    have z0 := cell_atL hMZ 0
    have z1 := cell_atL hMZ 1
    have z2 := cell_atL hMZ 2
    have z3 := cell_atL hMZ 3
    have z4 := cell_atL hMZ 4
    have HZ : Hid (w4.alloc (.cells #[.int .i64 nt.k, .int .i64 nt.w, .int .i64 nt.h, .int .i64 nt.i, .slice ta tn tc] 73) = Z) := hZ
    clear hb4 hIn' hbZ hMZ hZ
    go_upto_region 14 with fail
    rw [HZ.out]
    go_wp2_with fail
    refine HL2.out.mono ?_
    rintro e w5 ⟨u5, rfl, h5, hb5⟩
    have H5 : Hid (CeOwns w5 w.heap.size u5 LT ∧ Below w.heap.size w w5) := ⟨h5, hb5⟩
    clear h5 hb5 z0 z1 z2 z3 z4
    go_wp2
    exact bodyPost_ret (v := .tuple #[u5, .int .i64 mv, .int .i64 0]) (by simp [results, Try.results19, go_sem]) rfl ⟨u5, rfl, H5.out.1, H5.out.2⟩)

end Go.Proofs.Ytkaaadbfmbkjeaa

namespace Go.Proofs.Ytkaaadbfmbkjeaa
open Go.RowKit
set_option linter.unusedVariables false
set_option maxRecDepth 100000

theorem laidP_len (t : Tree) : (laidL t).length = t.size := by
  unfold laidL
  rw [Tree.tell_length, Tree.size_moved]
theorem push_moved (k : Int) (ts : List Tree) (n : Int) (rs : List Tree) (c : Nat) (got : Int) (h : PushG k ts n rs c got) : Moved k ts (max (-1000) (min n 1000)) rs c got ∧ movedI (max (-1000) (min n 1000)) got = movedI n got := by
  obtain ⟨h1, h2⟩ := h.draw
  have e1 : 0 ≤ n → max (-1000) (min n 1000) = min n 1000 := fun e => by omega
  have e2 : n < 0 → max (-1000) (min n 1000) = max n (-1000) := fun e => by omega
  refine ⟨⟨by omega, by omega, fun e => ?_, fun e => ?_⟩, ?_⟩
  · have h0 : 0 ≤ n := by omega
    rw [e1 h0]
    exact h1 h0
  · have h0 : n < 0 := by omega
    rw [e2 h0]
    exact h2 h0
  · unfold movedI
    by_cases h0 : 0 ≤ n
    · rw [if_pos h0, if_pos (by omega)]
    · rw [if_neg h0, if_neg (by omega)]
theorem push_any (l : List CellV) (q k n : Int) (hn : -9223372036854775808 ≤ n ∧ n ≤ 9223372036854775807) : ∃ mv er r, (r : List CellV).length ≤ 200 ∧ (∀ v X, CellsIn X v l → Calls Try.prog 18 #[v, .int .i64 q, .int .i64 k, .int .i64 n] X (Ans3 mv er r X)) ∧ (∀ v X, CellsIn X v l → Calls Try.prog 19 #[v, .int .i64 q, .int .i64 k, .int .i64 n] X (Ans3 mv er r X)) := by
  cases hF : readF l with
  | none => exact ⟨0, 40, [], by simp, fun v X h => pushP_err v q k n 40 X (near_none v l q k X h hF) (by decide), fun v X h => pushR_none v l q k n X h hF⟩
  | some t =>
    have hl := readF_lay hF
    have hz := lay_size hl
    by_cases hk : k = 2 ∨ k = 3
    · cases hp : t.path q with
      | none => exact ⟨0, 42, [], by simp, fun v X h => pushP_err v q k n 42 X (near_pane v l q k X h hF hk hp) (by decide), fun v X h => pushR_pane v l q k n X h hF hk hp⟩
      | some ps =>
        have hpl := path_len t q ps hp
        cases hn' : nearF k t ps with
        | none =>
          have hpu := pu_none false (max (-1000) (min n 1000)) k ps t q hp hn'
          exact ⟨0, 47, [], by simp, fun v X h => pushP_err v q k n 47 X (near_alone v l q k X h hF hk ps hp (by omega) hn') (by decide), fun v X h => pushR_alone v l q k n X h hF hk hp (pushed_any hpu hp hl.sound hl.kinds (by omega) (fun e => by cases e))⟩
        | some r =>
          obtain ⟨qs, a⟩ := r
          obtain ⟨b, ts, hsub, ha⟩ := near_sub k ps t qs a hn'
          obtain ⟨s1, s2, s3⟩ := sub_sound qs t _ hsub hl.sound hl.kinds
          obtain ⟨rs, c, got, hT, hG, _⟩ := push_both b k ts a n s1 s2 (by omega) ha
          obtain ⟨hM, hmv⟩ := push_moved k ts n rs c got hG
          obtain ⟨s, hs⟩ : ∃ s, ts[a]? = some s := ⟨_, List.getElem?_eq_getElem ha⟩
          have hpu := pu_some false (max (-1000) (min n 1000)) k ps t q qs a b ts s rs c got hp hn' hsub hs hT.mid hM
          have hbo : byOf false (max (-1000) (min n 1000)) k ts a s = max (-1000) (min n 1000) := by simp [byOf]
          rw [hbo, hmv] at hpu
          have hsm := put_same qs t _ _ hsub (same_split b k ts rs hT.same)
          have hz2 : (t.putAt qs (.split b k rs)).size = t.size := hsm.size
          refine ⟨movedI n got, 0, laidL (t.putAt qs (.split b k rs)), ?_, fun v X h => pushP_ok v q k n X (near_found v l q k X h hF hk ps hp (by omega) qs a hn') hl.sound hl.kinds (by omega) hsub hT hn, fun v X h => pushR_ok v l q k n X h hF hk hp (pushed_any hpu hp hl.sound hl.kinds (by omega) (fun e => by cases e)) (hsm.sound hl.sound) (hsm.kinds hl.kinds) (by omega)⟩
          rw [laidP_len]
          omega
    · exact ⟨0, 1, [], by simp, fun v X h => pushP_err v q k n 1 X (near_arg v l q k X h hF hk) (by decide), fun v X h => pushR_arg v l q k n X h hF hk⟩

set_option maxHeartbeats 1000000 in
theorem pushes_walk (v : Value) (l : List CellV) (pane k z : Int) (bf : Bool) (id : Int) (w : World) (hv : CellsIn w v l) (hnil : v = .slice none 0 0 ∨ ∃ a n c, v = .slice (some a) n c) (hlen : l.length * 56 ≤ 140737488351232) (hz : -9223372036854775808 ≤ z ∧ z ≤ 9223372036854775807) : Calls Try.prog 6 #[v, .agg #[.int .i64 pane, .int .i64 k, .int .i64 z, .bool bf, .int .i64 id]] w fun x w' => x = .returned (.bool true) ∧ Below w.heap.size w w' := by
  obtain ⟨W, hW⟩ : ∃ W, w.alloc (.cells #[.int .i64 pane, .int .i64 k, .int .i64 z, .bool bf, .int .i64 id] 24) = W := ⟨_, rfl⟩
  have hbW : Below w.heap.size w W := by rw [← hW]; exact (Below.refl _ _).alloc (Nat.le_refl _) _
  have hM : W.heap[w.heap.size]? = some (.cells #[.int .i64 pane, .int .i64 k, .int .i64 z, .bool bf, .int .i64 id] 24 (0, 0)) := by rw [← hW]; exact heap_alloc_new _ _
  have HC5 : Hid (∀ X, Below W.heap.size W X → X.cell? ⟨w.heap.size, 0, none⟩ = some (.int .i64 pane) ∧ X.cell? ⟨w.heap.size, 1, none⟩ = some (.int .i64 k) ∧ X.cell? ⟨w.heap.size, 2, none⟩ = some (.int .i64 z)) := fun X hX => by
    have h := (hX.block _ (lt_of_block hM)).trans hM
    exact ⟨cell_atL h 0, cell_atL h 1, cell_atL h 2⟩
  have hvW := hv.below hbW
  have HW0 : Hid (w.alloc (.cells #[.int .i64 pane, .int .i64 k, .int .i64 z, .bool bf, .int .i64 id] 24) = W) := hW
  have HBW : Hid (Below w.heap.size w W) := hbW
  have HTw : Hid (Calls Try.prog 8 #[v] W fun e w' => ∃ g cap, e = .returned (.slice (some ⟨g, 0, none⟩) l.length cap) ∧ TwinAt w' g cap l ∧ W.heap.size ≤ g ∧ Below W.heap.size W w') := twin_any v l W hvW hnil hlen
  obtain ⟨mv, er, r, hrl, hPa, hRa⟩ := push_any l pane k z hz
  have HP : Hid (∀ u X, CellsIn X u l → Calls Try.prog 18 #[u, .int .i64 pane, .int .i64 k, .int .i64 z] X fun x w' => ∃ q, x = .returned (.tuple #[q, .int .i64 mv, .int .i64 er]) ∧ CeOwns w' X.heap.size q r ∧ Below X.heap.size X w') := hPa
  have HR : Hid (∀ X, Below W.heap.size W X → Calls Try.prog 19 #[v, .int .i64 pane, .int .i64 k, .int .i64 z] X fun x w' => ∃ q, x = .returned (.tuple #[q, .int .i64 mv, .int .i64 er]) ∧ CeOwns w' X.heap.size q r ∧ Below X.heap.size X w') := fun X hX => hRa v X (hvW.below hX)
  have HWo : Hid (∀ W, Calls Try.prog 11 #[] W fun e w' => e = .returned (.bool true) ∧ Below W.heap.size W w') := works_true
  have HK : Hid (∀ g cap X, TwinAt X g cap l → Below W.heap.size W X → Calls Try.prog 13 #[.slice (some ⟨g, 0, none⟩) l.length cap, v] X fun e w' => e = .returned (.bool true) ∧ Below X.heap.size X w') := fun g cap X hT hX => kept_any v g cap l X hT (hvW.below hX) hlen
  have HS : Hid (∀ u v W, CellsIn W u r → CellsIn W v r → Calls Try.prog 12 #[u, v] W fun e w' => e = .returned (.bool true) ∧ Below W.heap.size W w') := fun u v W h1 h2 => by
    have := law_any u v _ _ W h1 h2 (by omega)
    rw [decide_eq_true rfl] at this
    exact this
  obtain ⟨L, hL⟩ : ∃ L, l.length = L := ⟨_, rfl⟩
  rw [hL] at HTw HK
  have HL : Hid (l.length = L) := hL
  clear hv hnil hlen hL hrl hPa hRa hW hbW hM hvW hz
  go_enter Try.func6, Try.ntmps6
  go_upto_region 1 with fail
  rw [HW0.out]
  go_wp2_with fail
  refine HTw.out.mono ?_
  rintro x w1 ⟨g, cap, rfl, hT, _, hb1⟩
  have H1 : Hid (TwinAt w1 g cap l ∧ Below W.heap.size W w1) := ⟨hT, hb1⟩
  have HP1 : Hid (Calls Try.prog 18 #[.slice (some ⟨g, 0, none⟩) L cap, .int .i64 pane, .int .i64 k, .int .i64 z] w1 fun x w' => ∃ q, x = .returned (.tuple #[q, .int .i64 mv, .int .i64 er]) ∧ CeOwns w' w1.heap.size q r ∧ Below w1.heap.size w1 w') := HP.out _ w1 (by have := hT.cellsIn; rw [HL.out] at this; exact this)
  obtain ⟨c0, c1, c2⟩ := HC5.out w1 hb1
  clear hT hb1 HTw HP
  go_wp2_with fail
  refine HP1.out.mono ?_
  rintro x w2 ⟨q, rfl, hq, hb2⟩
  have H2 : Hid (TwinAt w2 g cap l ∧ Below W.heap.size W w2 ∧ CellsIn w2 q r) := ⟨H1.out.1.below hb2, below_step H1.out.2 hb2, hq.cellsIn⟩
  clear hb2 H1 HP1 hq c0 c1 c2
  obtain ⟨c0, c1, c2⟩ := HC5.out w2 H2.out.2.1
  go_wp2_with fail
  refine (HR.out _ H2.out.2.1).mono ?_
  rintro x w3 ⟨q', rfl, hq', hb3⟩
  have H3 : Hid (TwinAt w3 g cap l ∧ Below W.heap.size W w3 ∧ CellsIn w3 q r ∧ CellsIn w3 q' r) := ⟨H2.out.1.below hb3, below_step H2.out.2.1 hb3, H2.out.2.2.below hb3, hq'.cellsIn⟩
  clear hb3 H2 HR hq' c0 c1 c2
  go_wp2_with fail
  refine (HWo.out _).mono ?_
  rintro x w4 ⟨rfl, hb4⟩
  have H4 : Hid (TwinAt w4 g cap l ∧ Below W.heap.size W w4 ∧ CellsIn w4 q r ∧ CellsIn w4 q' r) := ⟨H3.out.1.below hb4, below_step H3.out.2.1 hb4, H3.out.2.2.1.below hb4, H3.out.2.2.2.below hb4⟩
  clear hb4 H3 HWo
  go_wp2_with fail
  refine (HS.out _ _ _ H4.out.2.2.1 H4.out.2.2.2).mono ?_
  rintro x w5 ⟨rfl, hb5⟩
  have H5 : Hid (TwinAt w5 g cap l ∧ Below W.heap.size W w5) := ⟨H4.out.1.below hb5, below_step H4.out.2.1 hb5⟩
  clear hb5 H4 HS
  go_wp2_with fail
  refine (HK.out _ _ _ H5.out.1 H5.out.2).mono ?_
  rintro x w6 ⟨rfl, hb6⟩
  have H6 : Hid (Below w.heap.size w w6) := below_step HBW.out (below_step H5.out.2 hb6)
  clear hb6 H5
  go_wp2
  go_ret
  exact ⟨rfl, H6.out⟩

end Go.Proofs.Ytkaaadbfmbkjeaa
