/-
  Layouts: the document's pair of a stretched whole and a new pane.
  Layouts: Full in the document.
-/
import Derived.Test.YtfmlebimlacdpaaCFd
import Derived.Test.YtfmlebimlacdpaaCRr
namespace Go.Proofs.Ytfmlebimlacdpaa
open Go.RowKit
set_option linter.unusedVariables false
set_option maxRecDepth 100000

theorem ks_length (t : Tree) (hz : t.size ≤ 500) : (nodeOf t).ks.length ≤ 500 := by
  cases t with
  | leaf b p => exact Nat.zero_le _
  | split b k ts =>
    show (nodesOf ts).length ≤ 500
    change 1 + sizes ts ≤ 500 at hz
    have := length_sizes ts
    rw [nodesOf_length]
    omega
theorem pair_beside {l : List CellV} {t t1 : Tree} {k z n id : Int} {bf : Bool} (hU : Fulled l t t1 k z n id bf) (sa : Option Addr) (sn sc : Nat) (f : List Nat) (w : World) (hIn : (nodeOf t1).In w (.slice sa sn sc) f) :
    Calls Try.prog 59 #[.int .i64 k, .agg (nodeV (nodeOf t1) (.slice sa sn sc)), .agg #[.int .i64 1, .int .i64 (fullB t k n).w, .int .i64 (fullB t k n).h, .int .i64 id, .slice none 0 0], .bool bf] w fun e w' => ∃ ta tn tc fp', e = .returned (.agg (nodeV (nodeOf (besideT k bf t1 (.leaf (fullB t k n) id))) (.slice ta tn tc))) ∧ (nodeOf (besideT k bf t1 (.leaf (fullB t k n) id))).In w' (.slice ta tn tc) fp' ∧ Below w.heap.size w w' := by
  have hB := hU.beside
  have hz := lay_size hU.lay
  have hk1 := ks_length t1 (by rw [hU.z1]; omega)
  have hs1 := t1.sound_sides hU.s1
  have hts := t.sound_sides hU.lay.sound
  have hlow := hU.low
  have hfb := fullB_eq t k n hU.kind
  have hb1 := hU.box1
  have hLin : (Node.mk 1 (fullB t k n).w (fullB t k n).h id []).In w (.slice none 0 0) [] := ⟨[], [], World.ownsRow_nil _ _ _ _, ⟨rfl, rfl⟩, rfl⟩
  have hlf : nodeOf (.leaf (fullB t k n) id) = .mk 1 (fullB t k n).w (fullB t k n).h id [] := rfl
  rw [← nodeOf_w, ← nodeOf_h] at hs1
  have key : ∀ (N : Node), N = nodeOf (besideT k bf t1 (.leaf (fullB t k n) id)) → ∀ e w', PairN N (f ++ []) w e w' → ∃ ta tn tc fp', e = .returned (.agg (nodeV (nodeOf (besideT k bf t1 (.leaf (fullB t k n) id))) (.slice ta tn tc))) ∧ (nodeOf (besideT k bf t1 (.leaf (fullB t k n) id))).In w' (.slice ta tn tc) fp' ∧ Below w.heap.size w w' := by
    rintro N rfl e w' ⟨ta, tn, tc, fp', h1, h2, _, h3⟩
    exact ⟨ta, tn, tc, fp', h1, h2, h3⟩
  have hnd := hB.node
  rcases hU.kind with hk | hk
  · subst hk
    have hb : fullB t 2 n = ⟨0, 0, n, t.box.h⟩ := hfb
    have h1h : t1.box.h = t.box.h := by rw [hb1]; rfl
    have nb : (0 ≤ (fullB t 2 n).w ∧ (fullB t 2 n).w ≤ 1000) ∧ (0 ≤ (fullB t 2 n).h ∧ (fullB t 2 n).h ≤ 1000) := by
      rw [hb]
      show (0 ≤ n ∧ n ≤ 1000) ∧ (0 ≤ t.box.h ∧ t.box.h ≤ 1000)
      omega
    cases bf with
    | false =>
      refine (pair_beh2 (nodeOf t1) (.mk 1 (fullB t 2 n).w (fullB t 2 n).h id []) sa sn sc none 0 0 f [] w hIn hLin hk1 (by simp [Node.ks]) (by omega) nb).mono (key _ ?_)
      rw [hnd, flatN_of 2 (.inl rfl), ← hlf, flatN_of 2 (.inl rfl), nodeOf_w, nodeOf_h, ← nodesOf_append]
      rfl
    | true =>
      refine (pair_bef2 (nodeOf t1) (.mk 1 (fullB t 2 n).w (fullB t 2 n).h id []) sa sn sc none 0 0 f [] w hIn hLin hk1 (by simp [Node.ks]) (by omega) nb).mono (key _ ?_)
      rw [hnd, flatN_of 2 (.inl rfl), ← hlf, flatN_of 2 (.inl rfl), nodeOf_w, nodeOf_h, nodeOf_w, ← nodesOf_append]
      show Node.mk 2 ((fullB t 2 n).w + t1.box.w + 1) (fullB t 2 n).h 0 _ = Node.mk 2 (t1.box.w + (fullB t 2 n).w + 1) t1.box.h 0 _
      rw [h1h, show (fullB t 2 n).h = t.box.h by rw [hb], Int.add_comm (fullB t 2 n).w t1.box.w]
      rfl
  · subst hk
    have hb : fullB t 3 n = ⟨0, 0, t.box.w, n⟩ := hfb
    have h1w : t1.box.w = t.box.w := by rw [hb1]; rfl
    have nb : (0 ≤ (fullB t 3 n).w ∧ (fullB t 3 n).w ≤ 1000) ∧ (0 ≤ (fullB t 3 n).h ∧ (fullB t 3 n).h ≤ 1000) := by
      rw [hb]
      show (0 ≤ t.box.w ∧ t.box.w ≤ 1000) ∧ (0 ≤ n ∧ n ≤ 1000)
      omega
    cases bf with
    | false =>
      refine (pair_beh3 (nodeOf t1) (.mk 1 (fullB t 3 n).w (fullB t 3 n).h id []) sa sn sc none 0 0 f [] w hIn hLin hk1 (by simp [Node.ks]) (by omega) nb).mono (key _ ?_)
      rw [hnd, flatN_of 3 (.inr rfl), ← hlf, flatN_of 3 (.inr rfl), nodeOf_w, nodeOf_h, ← nodesOf_append]
      rfl
    | true =>
      refine (pair_bef3 (nodeOf t1) (.mk 1 (fullB t 3 n).w (fullB t 3 n).h id []) sa sn sc none 0 0 f [] w hIn hLin hk1 (by simp [Node.ks]) (by omega) nb).mono (key _ ?_)
      rw [hnd, flatN_of 3 (.inr rfl), ← hlf, flatN_of 3 (.inr rfl), nodeOf_w, nodeOf_h, nodeOf_h, ← nodesOf_append]
      show Node.mk 3 (fullB t 3 n).w ((fullB t 3 n).h + t1.box.h + 1) 0 _ = Node.mk 3 t1.box.w (t1.box.h + (fullB t 3 n).h + 1) 0 _
      rw [h1w, show (fullB t 3 n).w = t.box.w by rw [hb], Int.add_comm (fullB t 3 n).h t1.box.h]
      rfl

end Go.Proofs.Ytfmlebimlacdpaa

namespace Go.Proofs.Ytfmlebimlacdpaa
open Go.RowKit
set_option linter.unusedVariables false
set_option maxRecDepth 100000

theorem fulR_none (v : Value) (l : List CellV) (k z id : Int) (bf : Bool) (w : World) (h : CellsIn w v l) (hF : readF l = none) : Calls Try.prog 22 #[v, .int .i64 k, .int .i64 z, .bool bf, .int .i64 id] w (Ans2 40 [] w) := by
  have HT : Hid (Calls Try.prog 36 #[v] w fun e w' => e = .returned (.tuple #[.agg zeroN, .bool false]) ∧ Below w.heap.size w w') := tree_no v l w h hF
  clear h hF
  go_enter Try.func22, Try.ntmps22
  go_wp2_with fail
  refine HT.out.mono ?_
  rintro e w1 ⟨rfl, hb⟩
  have HB : Hid (∀ o, Below w.heap.size w (w1.alloc o)) := alloc_below hb
  unfold zeroN
  clear hb
  go_wp2
  go_ret2
  exact ⟨_, rfl, World.ownsRow_nil _ _ _ _, HB.out _⟩

theorem fulR_arg (v : Value) (l : List CellV) (k z id : Int) (bf : Bool) (w : World) (h : CellsIn w v l) {t : Tree} (hF : readF l = some t) (hk : ¬ (k = 2 ∨ k = 3)) : Calls Try.prog 22 #[v, .int .i64 k, .int .i64 z, .bool bf, .int .i64 id] w (Ans2 1 [] w) := by
  have HT : Hid (Calls Try.prog 36 #[v] w (TreeYes t w)) := tree_yes v l w h hF
  have k2 : (k != 2) = true := by
    have : k ≠ 2 := fun e => hk (.inl e)
    simpa using this
  have k3 : (k != 3) = true := by
    have : k ≠ 3 := fun e => hk (.inr e)
    simpa using this
  clear h hF hk
  go_enter Try.func22, Try.ntmps22
  go_wp2_with fail
  refine HT.out.mono ?_
  rintro e w1 ⟨sa, sn, sc, fp, rfl, hIn, hb⟩
  have HB : Hid (∀ o, Below w.heap.size w (w1.alloc o)) := alloc_below hb
  obtain ⟨nn, hnn⟩ : ∃ x, nodeOf t = x := ⟨_, rfl⟩
  rw [hnn]
  unfold nodeV
  clear hb hIn hnn
  go_wp2
  all_goals go_ret2
  all_goals exact ⟨_, rfl, World.ownsRow_nil _ _ _ _, HB.out _⟩

set_option maxHeartbeats 1000000 in
theorem fulR_join (v : Value) (l : List CellV) (k z id : Int) (bf : Bool) (w : World) (h : CellsIn w v l) {t : Tree} (hF : readF l = some t) (hk : k = 2 ∨ k = 3) (er : Int) (her : joinE l id = er) (h0 : er ≠ 0) : Calls Try.prog 22 #[v, .int .i64 k, .int .i64 z, .bool bf, .int .i64 id] w (Ans2 er [] w) := by
  have HT : Hid (Calls Try.prog 36 #[v] w (TreeYes t w)) := tree_yes v l w h hF
  have hids := lay_ids hF
  have HLt : Hid (IsLay l t) := readF_lay hF
  have HIds : Hid ((nodeOf t).ids = idsOf l ∧ 1 ≤ (idsOf l).length ∧ (idsOf l).length ≤ 32 ∧ (nodeOf t).cnt ≤ 1000) := ⟨hids.1, hids.2.1, hids.2.2.1, hids.2.2.2.2⟩
  have HFr : Hid (∀ u B W, IOwns W B u (idsOf l) → Calls Try.prog 39 #[u, .int .i64 id] W fun e w' => e = .returned (.int .i64 er) ∧ W = w') := fun u B W hu => her ▸ fresh_any u l id B W hu hids.2.1 hids.2.2.1
  have HK : Hid (k = 2 ∨ k = 3) := hk
  have hkb : ((k != 2) = false) ∨ ((k != 2) = true ∧ (k != 3) = false) := by rcases hk with rfl | rfl <;> simp
  have h0' : (er != 0) = true := by simpa using h0
  clear h hF hk her h0 hids
  go_enter Try.func22, Try.ntmps22
  go_wp2_with fail
  refine HT.out.mono ?_
  rintro e w1 ⟨sa, sn, sc, fp, rfl, hIn, hb⟩
  obtain ⟨W, hW⟩ : ∃ W, w1.alloc (.cells #[.int .i64 (nodeOf t).k, .int .i64 (nodeOf t).w, .int .i64 (nodeOf t).h, .int .i64 (nodeOf t).i, .slice sa sn sc] 73) = W := ⟨_, rfl⟩
  have hbW : Below w1.heap.size w1 W := by rw [← hW]; exact (Below.refl _ _).alloc (Nat.le_refl _) _
  have HBW : Hid (Below w.heap.size w W) := below_step hb hbW
  have hM : W.heap[w1.heap.size]? = some (.cells #[.int .i64 (nodeOf t).k, .int .i64 (nodeOf t).w, .int .i64 (nodeOf t).h, .int .i64 (nodeOf t).i, .slice sa sn sc] 73 (0, 0)) := by rw [← hW]; exact heap_alloc_new _ _
  have HX : Hid (∀ X, Below W.heap.size W X → X.heap[w1.heap.size]? = some (.cells #[.int .i64 (nodeOf t).k, .int .i64 (nodeOf t).w, .int .i64 (nodeOf t).h, .int .i64 (nodeOf t).i, .slice sa sn sc] 73 (0, 0))) := fun X hX => (hX.block _ (lt_of_block hM)).trans hM
  have HIn : Hid (∀ X, Below W.heap.size W X → (nodeOf t).In X (.slice sa sn sc) fp) := fun X hX => (hIn.below hbW).below hX
  have HW : Hid (w1.alloc (.cells #[.int .i64 (nodeOf t).k, .int .i64 (nodeOf t).w, .int .i64 (nodeOf t).h, .int .i64 (nodeOf t).i, .slice sa sn sc] 73) = W) := hW
  have HId : Hid (Calls Try.prog 37 #[.agg #[.int .i64 (nodeOf t).k, .int .i64 (nodeOf t).w, .int .i64 (nodeOf t).h, .int .i64 (nodeOf t).i, .slice sa sn sc]] W fun e w' => ∃ u, e = .returned u ∧ IOwns w' W.heap.size u (idsOf l) ∧ Below W.heap.size W w') := by
    refine (ids_good (nodeOf t) HIds.out.2.2.2 _ fp W (HIn.out W (Below.refl _ _))).mono ?_
    rintro e w' ⟨u, rfl, h1, h2⟩
    rw [HIds.out.1] at h1
    exact ⟨u, rfl, h1, h2⟩
  have HRm : Hid (∀ X, Below W.heap.size W X → Calls Try.prog 48 #[.agg #[.int .i64 (nodeOf t).k, .int .i64 (nodeOf t).w, .int .i64 (nodeOf t).h, .int .i64 (nodeOf t).i, .slice sa sn sc], .int .i64 k] X fun e w' => e = .returned (.int .i64 (t.room k)) ∧ Below W.heap.size W w') := fun X hX => (room_good t HLt.out.kinds HLt.out.sound (by have := lay_size HLt.out; omega) _ fp X k (HIn.out X hX)).mono fun e w' h2 => ⟨h2.1, below_step hX h2.2⟩
  have HNn : Hid ((nodeOf t).w = t.box.w ∧ (nodeOf t).h = t.box.h) := ⟨nodeOf_w t, nodeOf_h t⟩
  obtain ⟨nn, hnn⟩ : ∃ x, nodeOf t = x := ⟨_, rfl⟩
  have HNo : Hid (nodeOf t = nn) := hnn
  rw [hnn] at HX HW HId HRm HNn ⊢
  have HC5 : Hid (∀ X, Below W.heap.size W X → X.cell? ⟨w1.heap.size, 0, none⟩ = some (.int .i64 nn.k) ∧ X.cell? ⟨w1.heap.size, 1, none⟩ = some (.int .i64 nn.w) ∧ X.cell? ⟨w1.heap.size, 2, none⟩ = some (.int .i64 nn.h) ∧ X.cell? ⟨w1.heap.size, 3, none⟩ = some (.int .i64 nn.i) ∧ X.cell? ⟨w1.heap.size, 4, none⟩ = some (.slice sa sn sc)) := fun X hX => ⟨cell_atL (HX.out X hX) 0, cell_atL (HX.out X hX) 1, cell_atL (HX.out X hX) 2, cell_atL (HX.out X hX) 3, cell_atL (HX.out X hX) 4⟩
  unfold nodeV
  clear hb hIn hbW hM hW hnn HT
  rcases hkb with kb | ⟨kb, kb'⟩
  all_goals (
    go_upto_region 6 with fail
    rw [HW.out]
    obtain ⟨m0, m1, m2, m3, m4⟩ := HC5.out W (Below.refl _ _)
    go_wp2_with fail
    refine HId.out.mono ?_
    rintro e w2 ⟨u, rfl, hu, hb2⟩
    have HFr2 : Hid (Calls Try.prog 39 #[u, .int .i64 id] w2 fun e w' => e = .returned (.int .i64 er) ∧ w2 = w') := HFr.out u _ w2 hu
    have HB2 : Hid (Below W.heap.size W w2) := hb2
    clear hu hb2 HId HFr m0 m1 m2 m3 m4
    go_wp2_with fail
    refine HFr2.out.mono ?_
    rintro e w3 ⟨rfl, rfl⟩
    have HB3 : Hid (Below w.heap.size w w2) := below_step HBW.out HB2.out
    go_wp2
    all_goals go_ret2
    all_goals exact ⟨_, rfl, World.ownsRow_nil _ _ _ _, HB3.out⟩)

set_option maxHeartbeats 1000000 in
theorem fulR_small (v : Value) (l : List CellV) (k z id : Int) (bf : Bool) (w : World) (h : CellsIn w v l) {t : Tree} (hF : readF l = some t) (hk : k = 2 ∨ k = 3) (hj : joinE l id = 0) (hr : t.room k < 2) : Calls Try.prog 22 #[v, .int .i64 k, .int .i64 z, .bool bf, .int .i64 id] w (Ans2 44 [] w) := by
  have HT : Hid (Calls Try.prog 36 #[v] w (TreeYes t w)) := tree_yes v l w h hF
  have hids := lay_ids hF
  have HLt : Hid (IsLay l t) := readF_lay hF
  have HIds : Hid ((nodeOf t).ids = idsOf l ∧ 1 ≤ (idsOf l).length ∧ (idsOf l).length ≤ 32 ∧ (nodeOf t).cnt ≤ 1000) := ⟨hids.1, hids.2.1, hids.2.2.1, hids.2.2.2.2⟩
  have HFr : Hid (∀ u B W, IOwns W B u (idsOf l) → Calls Try.prog 39 #[u, .int .i64 id] W fun e w' => e = .returned (.int .i64 0) ∧ W = w') := fun u B W hu => hj ▸ fresh_any u l id B W hu hids.2.1 hids.2.2.1
  have HK : Hid (k = 2 ∨ k = 3) := hk
  have hkb : ((k != 2) = false) ∨ ((k != 2) = true ∧ (k != 3) = false) := by rcases hk with rfl | rfl <;> simp
  clear h hF hk hj hids
  go_enter Try.func22, Try.ntmps22
  go_wp2_with fail
  refine HT.out.mono ?_
  rintro e w1 ⟨sa, sn, sc, fp, rfl, hIn, hb⟩
  obtain ⟨W, hW⟩ : ∃ W, w1.alloc (.cells #[.int .i64 (nodeOf t).k, .int .i64 (nodeOf t).w, .int .i64 (nodeOf t).h, .int .i64 (nodeOf t).i, .slice sa sn sc] 73) = W := ⟨_, rfl⟩
  have hbW : Below w1.heap.size w1 W := by rw [← hW]; exact (Below.refl _ _).alloc (Nat.le_refl _) _
  have HBW : Hid (Below w.heap.size w W) := below_step hb hbW
  have hM : W.heap[w1.heap.size]? = some (.cells #[.int .i64 (nodeOf t).k, .int .i64 (nodeOf t).w, .int .i64 (nodeOf t).h, .int .i64 (nodeOf t).i, .slice sa sn sc] 73 (0, 0)) := by rw [← hW]; exact heap_alloc_new _ _
  have HX : Hid (∀ X, Below W.heap.size W X → X.heap[w1.heap.size]? = some (.cells #[.int .i64 (nodeOf t).k, .int .i64 (nodeOf t).w, .int .i64 (nodeOf t).h, .int .i64 (nodeOf t).i, .slice sa sn sc] 73 (0, 0))) := fun X hX => (hX.block _ (lt_of_block hM)).trans hM
  have HIn : Hid (∀ X, Below W.heap.size W X → (nodeOf t).In X (.slice sa sn sc) fp) := fun X hX => (hIn.below hbW).below hX
  have HW : Hid (w1.alloc (.cells #[.int .i64 (nodeOf t).k, .int .i64 (nodeOf t).w, .int .i64 (nodeOf t).h, .int .i64 (nodeOf t).i, .slice sa sn sc] 73) = W) := hW
  have HId : Hid (Calls Try.prog 37 #[.agg #[.int .i64 (nodeOf t).k, .int .i64 (nodeOf t).w, .int .i64 (nodeOf t).h, .int .i64 (nodeOf t).i, .slice sa sn sc]] W fun e w' => ∃ u, e = .returned u ∧ IOwns w' W.heap.size u (idsOf l) ∧ Below W.heap.size W w') := by
    refine (ids_good (nodeOf t) HIds.out.2.2.2 _ fp W (HIn.out W (Below.refl _ _))).mono ?_
    rintro e w' ⟨u, rfl, h1, h2⟩
    rw [HIds.out.1] at h1
    exact ⟨u, rfl, h1, h2⟩
  have HRm : Hid (∀ X, Below W.heap.size W X → Calls Try.prog 48 #[.agg #[.int .i64 (nodeOf t).k, .int .i64 (nodeOf t).w, .int .i64 (nodeOf t).h, .int .i64 (nodeOf t).i, .slice sa sn sc], .int .i64 k] X fun e w' => e = .returned (.int .i64 (t.room k)) ∧ Below W.heap.size W w') := fun X hX => (room_good t HLt.out.kinds HLt.out.sound (by have := lay_size HLt.out; omega) _ fp X k (HIn.out X hX)).mono fun e w' h2 => ⟨h2.1, below_step hX h2.2⟩
  have HNn : Hid ((nodeOf t).w = t.box.w ∧ (nodeOf t).h = t.box.h) := ⟨nodeOf_w t, nodeOf_h t⟩
  obtain ⟨r, hrr⟩ : ∃ r, t.room k = r := ⟨_, rfl⟩
  rw [hrr] at HRm hr
  clear hrr
  obtain ⟨nn, hnn⟩ : ∃ x, nodeOf t = x := ⟨_, rfl⟩
  have HNo : Hid (nodeOf t = nn) := hnn
  rw [hnn] at HX HW HId HRm HNn ⊢
  have HC5 : Hid (∀ X, Below W.heap.size W X → X.cell? ⟨w1.heap.size, 0, none⟩ = some (.int .i64 nn.k) ∧ X.cell? ⟨w1.heap.size, 1, none⟩ = some (.int .i64 nn.w) ∧ X.cell? ⟨w1.heap.size, 2, none⟩ = some (.int .i64 nn.h) ∧ X.cell? ⟨w1.heap.size, 3, none⟩ = some (.int .i64 nn.i) ∧ X.cell? ⟨w1.heap.size, 4, none⟩ = some (.slice sa sn sc)) := fun X hX => ⟨cell_atL (HX.out X hX) 0, cell_atL (HX.out X hX) 1, cell_atL (HX.out X hX) 2, cell_atL (HX.out X hX) 3, cell_atL (HX.out X hX) 4⟩
  unfold nodeV
  clear hb hIn hbW hM hW hnn HT
  rcases hkb with kb | ⟨kb, kb'⟩
  all_goals (
    go_upto_region 6 with fail
    rw [HW.out]
    obtain ⟨m0, m1, m2, m3, m4⟩ := HC5.out W (Below.refl _ _)
    go_wp2_with fail
    refine HId.out.mono ?_
    rintro e w2 ⟨u, rfl, hu, hb2⟩
    have HFr2 : Hid (Calls Try.prog 39 #[u, .int .i64 id] w2 fun e w' => e = .returned (.int .i64 0) ∧ w2 = w') := HFr.out u _ w2 hu
    have HB2 : Hid (Below W.heap.size W w2) := hb2
    clear hu hb2 HId HFr m0 m1 m2 m3 m4
    go_wp2_with fail
    refine HFr2.out.mono ?_
    rintro e w3 ⟨rfl, rfl⟩
    obtain ⟨m0, m1, m2, m3, m4⟩ := HC5.out w2 HB2.out
    go_wp2_with fail
    refine (HRm.out w2 HB2.out).mono ?_
    rintro e w4 ⟨rfl, hb4⟩
    have HB4 : Hid (Below W.heap.size W w4) := hb4
    clear hb4 HRm m0 m1 m2 m3 m4
    have HB5 : Hid (Below w.heap.size w w4) := below_step HBW.out HB4.out
    go_wp2
    all_goals go_ret2
    all_goals exact ⟨_, rfl, World.ownsRow_nil _ _ _ _, HB5.out⟩)

set_option maxHeartbeats 2000000 in
theorem fulR_ok (v : Value) (l : List CellV) (k z id : Int) (bf : Bool) (w : World) (h : CellsIn w v l) {t t1 : Tree} {n : Int} (hF : readF l = some t) (hU : Fulled l t t1 k z n id bf) : Calls Try.prog 22 #[v, .int .i64 k, .int .i64 z, .bool bf, .int .i64 id] w (Ans2 0 (laidL (besideT k bf t1 (.leaf (fullB t k n) id))) w) := by
  have hk := hU.kind
  have HT : Hid (Calls Try.prog 36 #[v] w (TreeYes t w)) := tree_yes v l w h hF
  have hids := lay_ids hF
  have HLt : Hid (IsLay l t) := readF_lay hF
  have HIds : Hid ((nodeOf t).ids = idsOf l ∧ 1 ≤ (idsOf l).length ∧ (idsOf l).length ≤ 32 ∧ (nodeOf t).cnt ≤ 1000) := ⟨hids.1, hids.2.1, hids.2.2.1, hids.2.2.2.2⟩
  have HFr : Hid (∀ u B W, IOwns W B u (idsOf l) → Calls Try.prog 39 #[u, .int .i64 id] W fun e w' => e = .returned (.int .i64 0) ∧ W = w') := fun u B W hu => hU.join ▸ fresh_any u l id B W hu hids.2.1 hids.2.2.1
  have HK : Hid (k = 2 ∨ k = 3) := hk
  have hkb : ((k != 2) = false) ∨ ((k != 2) = true ∧ (k != 3) = false) := by rcases hk with rfl | rfl <;> simp
  have HU : Hid (Fulled l t t1 k z n id bf) := hU
  have hnum := hU.num
  have hr2 := hU.room
  have hlow := hU.low
  have hrb := room_bound t k HLt.out.sound
  have hse := sides_ext t.box k (t.sound_sides HLt.out.sound)
  have hszl := lay_size HLt.out
  obtain ⟨r, hrr⟩ : ∃ r, t.room k = r := ⟨_, rfl⟩
  obtain ⟨E, hE⟩ : ∃ r, t.box.ext k = r := ⟨_, rfl⟩
  obtain ⟨lw, hlw⟩ : ∃ x, (fullB t k n).w = x := ⟨_, rfl⟩
  obtain ⟨lh, hlh⟩ : ∃ x, (fullB t k n).h = x := ⟨_, rfl⟩
  obtain ⟨n1, hn1⟩ : ∃ x, nodeOf t1 = x := ⟨_, rfl⟩
  obtain ⟨n2, hn2⟩ : ∃ x, nodeOf (besideT k bf t1 (.leaf (fullB t k n) id)) = x := ⟨_, rfl⟩
  obtain ⟨LT, hLT⟩ : ∃ x, laidL (besideT k bf t1 (.leaf (fullB t k n) id)) = x := ⟨_, rfl⟩
  have HEE : Hid (t.box.ext k = E) := hE
  have HLw : Hid ((fullB t k n).w = lw) := hlw
  have HLh : Hid ((fullB t k n).h = lh) := hlh
  have HN1 : Hid (nodeOf t1 = n1) := hn1
  have HN2 : Hid (nodeOf (besideT k bf t1 (.leaf (fullB t k n) id)) = n2) := hn2
  have HLT : Hid (laidL (besideT k bf t1 (.leaf (fullB t k n) id)) = LT) := hLT
  rw [hrr, hE] at hnum
  rw [hrr] at hr2 hrb
  rw [hE] at hse
  rw [hLT]
  have x1 : IntKind.i64.wrap (E - 1) = E - 1 := by rw [IntKind.wrap_i64]; omega
  have x2 : (E - 1).tdiv 2 = halfF E := by unfold halfF; rw [Int.tdiv_eq_ediv_of_nonneg (by omega)]
  have x3 : IntKind.i64.wrap (halfF E) = halfF E := by rw [IntKind.wrap_i64]; unfold halfF; omega
  have x4 : IntKind.i64.wrap (r - 1) = r - 1 := by rw [IntKind.wrap_i64]; omega
  have x5 : IntKind.i64.wrap (-n) = -n := by rw [IntKind.wrap_i64]; omega
  have x6 : IntKind.i64.wrap (-n - 1) = -n - 1 := by rw [IntKind.wrap_i64]; omega
  have hrl : ¬ r < 2 := by omega
  obtain ⟨hv, hhv⟩ : ∃ x, halfF E = x := ⟨_, rfl⟩
  have HMn : Hid ((z < 1 → min hv (r - 1) = n) ∧ (¬ z < 1 → min z (r - 1) = n)) := by
    refine ⟨fun e => ?_, fun e => ?_⟩
    · rw [hnum, ← hhv]
      unfold wantedF
      rw [if_pos e]
    · rw [hnum]
      unfold wantedF
      rw [if_neg e]
  rw [hhv] at x2 x3
  clear h hF hk hids hU hnum hr2 hlow hrb hse hszl hE hlw hlh hn1 hn2 hLT hhv
  go_enter Try.func22, Try.ntmps22
  go_wp2_with fail
  refine HT.out.mono ?_
  rintro e w1 ⟨sa, sn, sc, fp, rfl, hIn, hb⟩
  obtain ⟨W, hW⟩ : ∃ W, w1.alloc (.cells #[.int .i64 (nodeOf t).k, .int .i64 (nodeOf t).w, .int .i64 (nodeOf t).h, .int .i64 (nodeOf t).i, .slice sa sn sc] 73) = W := ⟨_, rfl⟩
  have hbW : Below w1.heap.size w1 W := by rw [← hW]; exact (Below.refl _ _).alloc (Nat.le_refl _) _
  have HBW : Hid (Below w.heap.size w W) := below_step hb hbW
  have hM : W.heap[w1.heap.size]? = some (.cells #[.int .i64 (nodeOf t).k, .int .i64 (nodeOf t).w, .int .i64 (nodeOf t).h, .int .i64 (nodeOf t).i, .slice sa sn sc] 73 (0, 0)) := by rw [← hW]; exact heap_alloc_new _ _
  have HX : Hid (∀ X, Below W.heap.size W X → X.heap[w1.heap.size]? = some (.cells #[.int .i64 (nodeOf t).k, .int .i64 (nodeOf t).w, .int .i64 (nodeOf t).h, .int .i64 (nodeOf t).i, .slice sa sn sc] 73 (0, 0))) := fun X hX => (hX.block _ (lt_of_block hM)).trans hM
  have HIn : Hid (∀ X, Below W.heap.size W X → (nodeOf t).In X (.slice sa sn sc) fp) := fun X hX => (hIn.below hbW).below hX
  have HW : Hid (w1.alloc (.cells #[.int .i64 (nodeOf t).k, .int .i64 (nodeOf t).w, .int .i64 (nodeOf t).h, .int .i64 (nodeOf t).i, .slice sa sn sc] 73) = W) := hW
  have HId : Hid (Calls Try.prog 37 #[.agg #[.int .i64 (nodeOf t).k, .int .i64 (nodeOf t).w, .int .i64 (nodeOf t).h, .int .i64 (nodeOf t).i, .slice sa sn sc]] W fun e w' => ∃ u, e = .returned u ∧ IOwns w' W.heap.size u (idsOf l) ∧ Below W.heap.size W w') := by
    refine (ids_good (nodeOf t) HIds.out.2.2.2 _ fp W (HIn.out W (Below.refl _ _))).mono ?_
    rintro e w' ⟨u, rfl, h1, h2⟩
    rw [HIds.out.1] at h1
    exact ⟨u, rfl, h1, h2⟩
  have HRm : Hid (∀ X, Below W.heap.size W X → Calls Try.prog 48 #[.agg #[.int .i64 (nodeOf t).k, .int .i64 (nodeOf t).w, .int .i64 (nodeOf t).h, .int .i64 (nodeOf t).i, .slice sa sn sc], .int .i64 k] X fun e w' => e = .returned (.int .i64 (t.room k)) ∧ Below W.heap.size W w') := fun X hX => (room_good t HLt.out.kinds HLt.out.sound (by have := lay_size HLt.out; omega) _ fp X k (HIn.out X hX)).mono fun e w' h2 => ⟨h2.1, below_step hX h2.2⟩
  have HNn : Hid ((nodeOf t).w = t.box.w ∧ (nodeOf t).h = t.box.h) := ⟨nodeOf_w t, nodeOf_h t⟩
  rw [hrr] at HRm
  clear hrr
  have HEx : Hid (∀ X, Calls Try.prog 40 #[.agg #[.int .i64 (nodeOf t).k, .int .i64 (nodeOf t).w, .int .i64 (nodeOf t).h, .int .i64 (nodeOf t).i, .slice sa sn sc], .int .i64 k] X fun e w' => e = .returned (.int .i64 E) ∧ Below X.heap.size X w') := fun X => by
    have h := ref_extent (nodeOf t) sa sn sc k X
    rw [show (nodeOf t).ext k = E by rw [← HEE.out]; unfold Node.ext Box.ext; rw [nodeOf_w, nodeOf_h]] at h
    exact h
  have HSz : Hid (∀ X, Calls Try.prog 58 #[.agg #[.int .i64 (nodeOf t).k, .int .i64 (nodeOf t).w, .int .i64 (nodeOf t).h, .int .i64 (nodeOf t).i, .slice sa sn sc], .int .i64 id, .int .i64 k, .int .i64 n] X fun e w' => e = .returned (.agg #[.int .i64 1, .int .i64 lw, .int .i64 lh, .int .i64 id, .slice none 0 0]) ∧ Below X.heap.size X w') := fun X => by
    have h := sized_any (nodeOf t) sa sn sc id k n HK.out X
    have e1 : (if k = 2 then n else (nodeOf t).w) = lw := by rw [← HLw.out, fullB_eq t k n HK.out, nodeOf_w]; split <;> rfl
    have e2 : (if k = 2 then (nodeOf t).h else n) = lh := by rw [← HLh.out, fullB_eq t k n HK.out, nodeOf_h]; split <;> rfl
    rw [e1, e2] at h
    exact h
  have HS1 : Hid (∀ X, Below W.heap.size W X → Calls Try.prog 49 #[.agg #[.int .i64 (nodeOf t).k, .int .i64 (nodeOf t).w, .int .i64 (nodeOf t).h, .int .i64 (nodeOf t).i, .slice sa sn sc], .int .i64 k, .int .i64 (-n - 1)] X fun e w' => ∃ ta tn tc, e = .returned (.agg (nodeV n1 (.slice ta tn tc))) ∧ Below X.heap.size X w' ∧ Calls Try.prog 59 #[.int .i64 k, .agg (nodeV n1 (.slice ta tn tc)), .agg #[.int .i64 1, .int .i64 lw, .int .i64 lh, .int .i64 id, .slice none 0 0], .bool bf] w' fun e w'' => ∃ ua un uc, e = .returned (.agg (nodeV n2 (.slice ua un uc))) ∧ Below w'.heap.size w' w'' ∧ Calls Try.prog 42 #[.agg (nodeV n2 (.slice ua un uc))] w'' fun e w3 => ∃ u, e = .returned u ∧ CeOwns w3 w''.heap.size u LT ∧ Below w''.heap.size w'' w3) := fun X hX => by
    refine (str_good t k (-n - 1) t1 (.slice sa sn sc) fp X HU.out.one (HIn.out X hX)).mono ?_
    rintro e w' ⟨ta, tn, tc, f, he, h2, _, h3⟩
    rw [HN1.out] at he
    refine ⟨ta, tn, tc, he, h3, ?_⟩
    have hp := pair_beside HU.out ta tn tc f w' h2
    rw [HN1.out, HN2.out, HLw.out, HLh.out] at hp
    refine hp.mono ?_
    rintro e2 w'' ⟨ua, un, uc, f2, he2, h4, h5⟩
    refine ⟨ua, un, uc, he2, h5, ?_⟩
    have hB := HU.out.beside
    have hl := list_end hB.sound hB.kinds (by have := hB.size; have := lay_size HLt.out; have := HU.out.z1; omega) (HN2.out.symm ▸ h4)
    rw [HN2.out, HLT.out] at hl
    exact hl
  obtain ⟨nn, hnn⟩ : ∃ x, nodeOf t = x := ⟨_, rfl⟩
  have HNo : Hid (nodeOf t = nn) := hnn
  rw [hnn] at HX HW HId HRm HNn HEx HSz HS1 ⊢
  have HC5 : Hid (∀ X, Below W.heap.size W X → X.cell? ⟨w1.heap.size, 0, none⟩ = some (.int .i64 nn.k) ∧ X.cell? ⟨w1.heap.size, 1, none⟩ = some (.int .i64 nn.w) ∧ X.cell? ⟨w1.heap.size, 2, none⟩ = some (.int .i64 nn.h) ∧ X.cell? ⟨w1.heap.size, 3, none⟩ = some (.int .i64 nn.i) ∧ X.cell? ⟨w1.heap.size, 4, none⟩ = some (.slice sa sn sc)) := fun X hX => ⟨cell_atL (HX.out X hX) 0, cell_atL (HX.out X hX) 1, cell_atL (HX.out X hX) 2, cell_atL (HX.out X hX) 3, cell_atL (HX.out X hX) 4⟩
  unfold nodeV
  clear hb hIn hbW hM hW hnn HT HU HN1 HN2 HLT HLw HLh HEE
  rcases hkb with kb | ⟨kb, kb'⟩
  all_goals (
    go_upto_region 6 with fail
    rw [HW.out]
    obtain ⟨m0, m1, m2, m3, m4⟩ := HC5.out W (Below.refl _ _)
    go_wp2_with fail
    refine HId.out.mono ?_
    rintro e w2 ⟨u, rfl, hu, hb2⟩
    have HFr2 : Hid (Calls Try.prog 39 #[u, .int .i64 id] w2 fun e w' => e = .returned (.int .i64 0) ∧ w2 = w') := HFr.out u _ w2 hu
    have HB2 : Hid (Below W.heap.size W w2) := hb2
    clear hu hb2 HId HFr m0 m1 m2 m3 m4
    go_wp2_with fail
    refine HFr2.out.mono ?_
    rintro e w3 ⟨rfl, rfl⟩
    obtain ⟨m0, m1, m2, m3, m4⟩ := HC5.out w2 HB2.out
    go_wp2_with fail
    refine (HRm.out w2 HB2.out).mono ?_
    rintro e w4 ⟨rfl, hb4⟩
    have HB4 : Hid (Below W.heap.size W w4) := hb4
    clear hb4 HRm m0 m1 m2 m3 m4
    obtain ⟨m0, m1, m2, m3, m4⟩ := HC5.out w4 HB4.out
    go_wp2_with fail
    refine (HEx.out w4).mono ?_
    rintro e w5 ⟨rfl, hb5⟩
    have HB5 : Hid (Below W.heap.size W w5) := below_step HB4.out hb5
    clear hb5 HEx m0 m1 m2 m3 m4
    obtain ⟨m0, m1, m2, m3, m4⟩ := HC5.out w5 HB5.out
    by_cases hz : z < 1
    · have hz1 : ¬ 1 ≤ z := by omega
      have HMm : Hid (min hv (r - 1) = n) := HMn.out.1 (by omega)
      clear hz HMn
      go_upto_region 16 with fail
      rw [HMm.out]
      go_wp2_with fail
      refine (HSz.out w5).mono ?_
      rintro e w6 ⟨rfl, hb6⟩
      obtain ⟨Wp, hWp⟩ : ∃ X, w6.alloc (.cells #[.int .i64 1, .int .i64 lw, .int .i64 lh, .int .i64 id, .slice none 0 0] 73) = X := ⟨_, rfl⟩
      have hbp : Below W.heap.size W Wp := below_step (below_step HB5.out hb6) (by rw [← hWp]; exact (Below.refl _ _).alloc (Nat.le_refl _) _)
      have hMp : Wp.heap[w6.heap.size]? = some (.cells #[.int .i64 1, .int .i64 lw, .int .i64 lh, .int .i64 id, .slice none 0 0] 73 (0, 0)) := by rw [← hWp]; exact heap_alloc_new _ _
      have HBp : Hid (Below W.heap.size W Wp) := hbp
      have HC6 : Hid (∀ X, Below Wp.heap.size Wp X → X.cell? ⟨w1.heap.size, 0, none⟩ = some (.int .i64 nn.k) ∧ X.cell? ⟨w1.heap.size, 1, none⟩ = some (.int .i64 nn.w) ∧ X.cell? ⟨w1.heap.size, 2, none⟩ = some (.int .i64 nn.h) ∧ X.cell? ⟨w1.heap.size, 3, none⟩ = some (.int .i64 nn.i) ∧ X.cell? ⟨w1.heap.size, 4, none⟩ = some (.slice sa sn sc) ∧ X.cell? ⟨w6.heap.size, 0, none⟩ = some (.int .i64 1) ∧ X.cell? ⟨w6.heap.size, 1, none⟩ = some (.int .i64 lw) ∧ X.cell? ⟨w6.heap.size, 2, none⟩ = some (.int .i64 lh) ∧ X.cell? ⟨w6.heap.size, 3, none⟩ = some (.int .i64 id) ∧ X.cell? ⟨w6.heap.size, 4, none⟩ = some (.slice none 0 0)) := fun X hX => by
        have h := (hX.block _ (lt_of_block hMp)).trans hMp
        have h5 := HC5.out X (below_step hbp hX)
        exact ⟨h5.1, h5.2.1, h5.2.2.1, h5.2.2.2.1, h5.2.2.2.2, cell_atL h 0, cell_atL h 1, cell_atL h 2, cell_atL h 3, cell_atL h 4⟩
      have HSA : Hid (Calls Try.prog 49 #[.agg #[.int .i64 nn.k, .int .i64 nn.w, .int .i64 nn.h, .int .i64 nn.i, .slice sa sn sc], .int .i64 k, .int .i64 (-n - 1)] Wp.drew fun e w' => ∃ ta tn tc, e = .returned (.agg #[.int .i64 n1.k, .int .i64 n1.w, .int .i64 n1.h, .int .i64 n1.i, .slice ta tn tc]) ∧ Below Wp.heap.size Wp w' ∧ Calls Try.prog 59 #[.int .i64 k, .agg #[.int .i64 n1.k, .int .i64 n1.w, .int .i64 n1.h, .int .i64 n1.i, .slice ta tn tc], .agg #[.int .i64 1, .int .i64 lw, .int .i64 lh, .int .i64 id, .slice none 0 0], .bool bf] w' fun e w'' => ∃ ua un uc, e = .returned (.agg #[.int .i64 n2.k, .int .i64 n2.w, .int .i64 n2.h, .int .i64 n2.i, .slice ua un uc]) ∧ Below w'.heap.size w' w'' ∧ Calls Try.prog 42 #[.agg #[.int .i64 n2.k, .int .i64 n2.w, .int .i64 n2.h, .int .i64 n2.i, .slice ua un uc]] w'' fun e w3 => ∃ u, e = .returned u ∧ CeOwns w3 w''.heap.size u LT ∧ Below w''.heap.size w'' w3) := (HS1.out Wp.drew hbp.drew).mono fun e w' h => by
        obtain ⟨ta, tn, tc, h1, h2, h3⟩ := h
        exact ⟨ta, tn, tc, h1, ⟨h2.os, h2.tape, h2.output, h2.size, h2.block⟩, h3⟩
      have HWp : Hid (w6.alloc (.cells #[.int .i64 1, .int .i64 lw, .int .i64 lh, .int .i64 id, .slice none 0 0] 73) = Wp) := hWp
      clear hb6 hbp hMp hWp HSz HS1 m0 m1 m2 m3 m4
      go_upto_region 17 with fail
      rw [HWp.out]
      obtain ⟨m0, m1, m2, m3, m4, p0, p1, p2, p3, p4⟩ := HC6.out Wp (Below.refl _ _)
      go_region_held3 (fun X => X.cell? ⟨w1.heap.size, 0, none⟩ = some (.int .i64 nn.k) ∧ X.cell? ⟨w1.heap.size, 1, none⟩ = some (.int .i64 nn.w) ∧ X.cell? ⟨w1.heap.size, 2, none⟩ = some (.int .i64 nn.h) ∧ X.cell? ⟨w1.heap.size, 3, none⟩ = some (.int .i64 nn.i) ∧ X.cell? ⟨w1.heap.size, 4, none⟩ = some (.slice sa sn sc) ∧ X.cell? ⟨w6.heap.size, 0, none⟩ = some (.int .i64 1) ∧ X.cell? ⟨w6.heap.size, 1, none⟩ = some (.int .i64 lw) ∧ X.cell? ⟨w6.heap.size, 2, none⟩ = some (.int .i64 lh) ∧ X.cell? ⟨w6.heap.size, 3, none⟩ = some (.int .i64 id) ∧ X.cell? ⟨w6.heap.size, 4, none⟩ = some (.slice none 0 0)) (go_keep) (first
        | (go_at_call 42; refine HL9.out.mono ?_; rintro e w9 ⟨u, rfl, hu, hb9⟩; have HU9 : Hid (CeOwns w9 w.heap.size u LT) := hu.lower (below_step HBW.out (below_step HBp.out HB8.out)).size; have HB9 : Hid (Below w.heap.size w w9) := below_step (below_step HBW.out (below_step HBp.out HB8.out)) hb9; obtain ⟨m0, m1, m2, m3, m4, p0, p1, p2, p3, p4⟩ := HC6.out w9 (below_step HB8.out hb9); clear hu hb9)
        | (go_at_call 59; refine HP8.out.mono ?_; rintro e w8 ⟨ua, un, uc, rfl, hb8, hL8⟩; have HB8 : Hid (Below Wp.heap.size Wp w8) := below_step HB7.out hb8; have HL9 : Hid (Calls Try.prog 42 #[.agg #[.int .i64 n2.k, .int .i64 n2.w, .int .i64 n2.h, .int .i64 n2.i, .slice ua un uc]] w8 fun e w3 => ∃ u, e = .returned u ∧ CeOwns w3 w8.heap.size u LT ∧ Below w8.heap.size w8 w3) := hL8; obtain ⟨m0, m1, m2, m3, m4, p0, p1, p2, p3, p4⟩ := HC6.out w8 HB8.out; clear hb8 hL8)
        | (go_at_call 49; refine HSA.out.mono ?_; rintro e w7 ⟨ta, tn, tc, rfl, hb7, hP7⟩; have HB7 : Hid (Below Wp.heap.size Wp w7) := hb7; have HP8 : Hid (Calls Try.prog 59 #[.int .i64 k, .agg #[.int .i64 n1.k, .int .i64 n1.w, .int .i64 n1.h, .int .i64 n1.i, .slice ta tn tc], .agg #[.int .i64 1, .int .i64 lw, .int .i64 lh, .int .i64 id, .slice none 0 0], .bool bf] w7 fun e w'' => ∃ ua un uc, e = .returned (.agg #[.int .i64 n2.k, .int .i64 n2.w, .int .i64 n2.h, .int .i64 n2.i, .slice ua un uc]) ∧ Below w7.heap.size w7 w'' ∧ Calls Try.prog 42 #[.agg #[.int .i64 n2.k, .int .i64 n2.w, .int .i64 n2.h, .int .i64 n2.i, .slice ua un uc]] w'' fun e w3 => ∃ u, e = .returned u ∧ CeOwns w3 w''.heap.size u LT ∧ Below w''.heap.size w'' w3) := hP7; obtain ⟨m0, m1, m2, m3, m4, p0, p1, p2, p3, p4⟩ := HC6.out w7 hb7; clear hb7 hP7))
      all_goals go_wp2
      all_goals go_ret2
      all_goals exact ⟨u, rfl, HU9.out, HB9.out⟩
    · have hz1 : 1 ≤ z := by omega
      have HMm : Hid (min z (r - 1) = n) := HMn.out.2 (by omega)
      clear hz HMn
      go_upto_region 16 with fail
      rw [HMm.out]
      go_wp2_with fail
      refine (HSz.out w5).mono ?_
      rintro e w6 ⟨rfl, hb6⟩
      obtain ⟨Wp, hWp⟩ : ∃ X, w6.alloc (.cells #[.int .i64 1, .int .i64 lw, .int .i64 lh, .int .i64 id, .slice none 0 0] 73) = X := ⟨_, rfl⟩
      have hbp : Below W.heap.size W Wp := below_step (below_step HB5.out hb6) (by rw [← hWp]; exact (Below.refl _ _).alloc (Nat.le_refl _) _)
      have hMp : Wp.heap[w6.heap.size]? = some (.cells #[.int .i64 1, .int .i64 lw, .int .i64 lh, .int .i64 id, .slice none 0 0] 73 (0, 0)) := by rw [← hWp]; exact heap_alloc_new _ _
      have HBp : Hid (Below W.heap.size W Wp) := hbp
      have HC6 : Hid (∀ X, Below Wp.heap.size Wp X → X.cell? ⟨w1.heap.size, 0, none⟩ = some (.int .i64 nn.k) ∧ X.cell? ⟨w1.heap.size, 1, none⟩ = some (.int .i64 nn.w) ∧ X.cell? ⟨w1.heap.size, 2, none⟩ = some (.int .i64 nn.h) ∧ X.cell? ⟨w1.heap.size, 3, none⟩ = some (.int .i64 nn.i) ∧ X.cell? ⟨w1.heap.size, 4, none⟩ = some (.slice sa sn sc) ∧ X.cell? ⟨w6.heap.size, 0, none⟩ = some (.int .i64 1) ∧ X.cell? ⟨w6.heap.size, 1, none⟩ = some (.int .i64 lw) ∧ X.cell? ⟨w6.heap.size, 2, none⟩ = some (.int .i64 lh) ∧ X.cell? ⟨w6.heap.size, 3, none⟩ = some (.int .i64 id) ∧ X.cell? ⟨w6.heap.size, 4, none⟩ = some (.slice none 0 0)) := fun X hX => by
        have h := (hX.block _ (lt_of_block hMp)).trans hMp
        have h5 := HC5.out X (below_step hbp hX)
        exact ⟨h5.1, h5.2.1, h5.2.2.1, h5.2.2.2.1, h5.2.2.2.2, cell_atL h 0, cell_atL h 1, cell_atL h 2, cell_atL h 3, cell_atL h 4⟩
      have HSA : Hid (Calls Try.prog 49 #[.agg #[.int .i64 nn.k, .int .i64 nn.w, .int .i64 nn.h, .int .i64 nn.i, .slice sa sn sc], .int .i64 k, .int .i64 (-n - 1)] Wp.drew fun e w' => ∃ ta tn tc, e = .returned (.agg #[.int .i64 n1.k, .int .i64 n1.w, .int .i64 n1.h, .int .i64 n1.i, .slice ta tn tc]) ∧ Below Wp.heap.size Wp w' ∧ Calls Try.prog 59 #[.int .i64 k, .agg #[.int .i64 n1.k, .int .i64 n1.w, .int .i64 n1.h, .int .i64 n1.i, .slice ta tn tc], .agg #[.int .i64 1, .int .i64 lw, .int .i64 lh, .int .i64 id, .slice none 0 0], .bool bf] w' fun e w'' => ∃ ua un uc, e = .returned (.agg #[.int .i64 n2.k, .int .i64 n2.w, .int .i64 n2.h, .int .i64 n2.i, .slice ua un uc]) ∧ Below w'.heap.size w' w'' ∧ Calls Try.prog 42 #[.agg #[.int .i64 n2.k, .int .i64 n2.w, .int .i64 n2.h, .int .i64 n2.i, .slice ua un uc]] w'' fun e w3 => ∃ u, e = .returned u ∧ CeOwns w3 w''.heap.size u LT ∧ Below w''.heap.size w'' w3) := (HS1.out Wp.drew hbp.drew).mono fun e w' h => by
        obtain ⟨ta, tn, tc, h1, h2, h3⟩ := h
        exact ⟨ta, tn, tc, h1, ⟨h2.os, h2.tape, h2.output, h2.size, h2.block⟩, h3⟩
      have HWp : Hid (w6.alloc (.cells #[.int .i64 1, .int .i64 lw, .int .i64 lh, .int .i64 id, .slice none 0 0] 73) = Wp) := hWp
      clear hb6 hbp hMp hWp HSz HS1 m0 m1 m2 m3 m4
      go_upto_region 17 with fail
      rw [HWp.out]
      obtain ⟨m0, m1, m2, m3, m4, p0, p1, p2, p3, p4⟩ := HC6.out Wp (Below.refl _ _)
      go_region_held3 (fun X => X.cell? ⟨w1.heap.size, 0, none⟩ = some (.int .i64 nn.k) ∧ X.cell? ⟨w1.heap.size, 1, none⟩ = some (.int .i64 nn.w) ∧ X.cell? ⟨w1.heap.size, 2, none⟩ = some (.int .i64 nn.h) ∧ X.cell? ⟨w1.heap.size, 3, none⟩ = some (.int .i64 nn.i) ∧ X.cell? ⟨w1.heap.size, 4, none⟩ = some (.slice sa sn sc) ∧ X.cell? ⟨w6.heap.size, 0, none⟩ = some (.int .i64 1) ∧ X.cell? ⟨w6.heap.size, 1, none⟩ = some (.int .i64 lw) ∧ X.cell? ⟨w6.heap.size, 2, none⟩ = some (.int .i64 lh) ∧ X.cell? ⟨w6.heap.size, 3, none⟩ = some (.int .i64 id) ∧ X.cell? ⟨w6.heap.size, 4, none⟩ = some (.slice none 0 0)) (go_keep) (first
        | (go_at_call 42; refine HL9.out.mono ?_; rintro e w9 ⟨u, rfl, hu, hb9⟩; have HU9 : Hid (CeOwns w9 w.heap.size u LT) := hu.lower (below_step HBW.out (below_step HBp.out HB8.out)).size; have HB9 : Hid (Below w.heap.size w w9) := below_step (below_step HBW.out (below_step HBp.out HB8.out)) hb9; obtain ⟨m0, m1, m2, m3, m4, p0, p1, p2, p3, p4⟩ := HC6.out w9 (below_step HB8.out hb9); clear hu hb9)
        | (go_at_call 59; refine HP8.out.mono ?_; rintro e w8 ⟨ua, un, uc, rfl, hb8, hL8⟩; have HB8 : Hid (Below Wp.heap.size Wp w8) := below_step HB7.out hb8; have HL9 : Hid (Calls Try.prog 42 #[.agg #[.int .i64 n2.k, .int .i64 n2.w, .int .i64 n2.h, .int .i64 n2.i, .slice ua un uc]] w8 fun e w3 => ∃ u, e = .returned u ∧ CeOwns w3 w8.heap.size u LT ∧ Below w8.heap.size w8 w3) := hL8; obtain ⟨m0, m1, m2, m3, m4, p0, p1, p2, p3, p4⟩ := HC6.out w8 HB8.out; clear hb8 hL8)
        | (go_at_call 49; refine HSA.out.mono ?_; rintro e w7 ⟨ta, tn, tc, rfl, hb7, hP7⟩; have HB7 : Hid (Below Wp.heap.size Wp w7) := hb7; have HP8 : Hid (Calls Try.prog 59 #[.int .i64 k, .agg #[.int .i64 n1.k, .int .i64 n1.w, .int .i64 n1.h, .int .i64 n1.i, .slice ta tn tc], .agg #[.int .i64 1, .int .i64 lw, .int .i64 lh, .int .i64 id, .slice none 0 0], .bool bf] w7 fun e w'' => ∃ ua un uc, e = .returned (.agg #[.int .i64 n2.k, .int .i64 n2.w, .int .i64 n2.h, .int .i64 n2.i, .slice ua un uc]) ∧ Below w7.heap.size w7 w'' ∧ Calls Try.prog 42 #[.agg #[.int .i64 n2.k, .int .i64 n2.w, .int .i64 n2.h, .int .i64 n2.i, .slice ua un uc]] w'' fun e w3 => ∃ u, e = .returned u ∧ CeOwns w3 w''.heap.size u LT ∧ Below w''.heap.size w'' w3) := hP7; obtain ⟨m0, m1, m2, m3, m4, p0, p1, p2, p3, p4⟩ := HC6.out w7 hb7; clear hb7 hP7))
      all_goals go_wp2
      all_goals go_ret2
      all_goals exact ⟨u, rfl, HU9.out, HB9.out⟩)

end Go.Proofs.Ytfmlebimlacdpaa
