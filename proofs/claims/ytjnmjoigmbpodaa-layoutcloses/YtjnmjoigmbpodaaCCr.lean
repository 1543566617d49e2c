/-
  Layouts: Close in the document.
-/
import Derived.Test.YtjnmjoigmbpodaaCWg
import Derived.Test.YtjnmjoigmbpodaaCFi
namespace Go.Proofs.Ytjnmjoigmbpodaa
open Go.RowKit
set_option linter.unusedVariables false
set_option maxRecDepth 100000

theorem hidden {p : Prop} (h : p) : Hid p := h

theorem cloR_none (v : Value) (l : List CellV) (q : Int) (w : World) (h : CellsIn w v l) (hF : readF l = none) : Calls Try.prog 13 #[v, .int .i64 q] w (Ans2 40 [] w) := by
  have HT : Hid (Calls Try.prog 27 #[v] w fun e w' => e = .returned (.tuple #[.agg zeroN, .bool false]) ∧ Below w.heap.size w w') := tree_no v l w h hF
  clear h hF
  go_enter Try.func13, Try.ntmps13
  go_wp2_with fail
  refine HT.out.mono ?_
  rintro e w1 ⟨rfl, hb⟩
  have HB : Hid (∀ o, Below w.heap.size w (w1.alloc o)) := alloc_below hb
  unfold zeroN
  clear hb
  go_wp2
  go_ret2
  exact ⟨_, rfl, World.ownsRow_nil _ _ _ _, HB.out _⟩

set_option maxHeartbeats 1000000 in
theorem cloR_some (v : Value) (l : List CellV) (q : Int) (w : World) (h : CellsIn w v l) {t : Tree} (hF : readF l = some t) (er : Int) (r : List CellV)
    (hcase : (q ∉ idsOf l ∧ er = 42 ∧ r = []) ∨ (q ∈ idsOf l ∧ (idsOf l).length = 1 ∧ er = 46 ∧ r = []) ∨ (q ∈ idsOf l ∧ (idsOf l).length ≠ 1 ∧ er = 0 ∧ ∃ t', r = laidL t' ∧ t'.sound = true ∧ t'.kinds ∧ t'.size ≤ 200 ∧ Shut q t t' ∧ ∃ b k ts, t = .split b k ts)) :
    Calls Try.prog 13 #[v, .int .i64 q] w (Ans2 er r w) := by
  have HT : Hid (Calls Try.prog 27 #[v] w (TreeYes t w)) := tree_yes v l w h hF
  have hids := lay_ids hF
  have HLt : Hid (IsLay l t) := readF_lay hF
  have HIds : Hid ((nodeOf t).ids = idsOf l ∧ 1 ≤ (idsOf l).length ∧ (idsOf l).length ≤ 32 ∧ (nodeOf t).cnt ≤ 1000) := ⟨hids.1, hids.2.1, hids.2.2.1, hids.2.2.2.2⟩
  have HHs : Hid (∀ u B W, IOwns W B u (idsOf l) → Calls Try.prog 29 #[u, .int .i64 q] W fun e w' => e = .returned (.bool (decide (q ∈ idsOf l))) ∧ W = w') := fun u B W hu => has_any u (idsOf l) B q W hu (by omega) (by intro h0; rw [h0] at hids; exact absurd hids.2.1 (by decide))
  obtain ⟨nl, hnl⟩ : ∃ n, (idsOf l).length = n := ⟨_, rfl⟩
  have HNl : Hid ((idsOf l).length = nl) := hnl
  have hnb : 1 ≤ nl ∧ nl ≤ 32 := by rw [← hnl]; exact ⟨hids.2.1, hids.2.2.1⟩
  rw [hnl] at hcase
  obtain ⟨hb1, hbe⟩ : ∃ x, decide (q ∈ idsOf l) = x := ⟨_, rfl⟩
  rw [hbe] at HHs
  have HWt : Hid (∀ t', Shut q t t' → (∃ b k ts, t = .split b k ts) → ∀ sl fp X, (nodeOf t).In X sl fp → Calls Try.prog 38 #[.agg (nodeV (nodeOf t) sl), .int .i64 q] X (StrN t' fp X)) := fun t' hS hsp sl fp X hX => by
    have hz := lay_size HLt.out
    exact with_good q t.size t (Nat.le_refl _) (by omega) hsp HLt.out.sound HLt.out.kinds t' hS sl fp X hX
  clear h hF hids hnl
  go_enter Try.func13, Try.ntmps13
  go_wp2_with fail
  refine HT.out.mono ?_
  rintro e w1 ⟨sa, sn, sc, fp, rfl, hIn, hb⟩
  obtain ⟨W, hW⟩ : ∃ W, w1.alloc (.cells #[.int .i64 (nodeOf t).k, .int .i64 (nodeOf t).w, .int .i64 (nodeOf t).h, .int .i64 (nodeOf t).i, .slice sa sn sc] 67) = W := ⟨_, rfl⟩
  have hbW : Below w1.heap.size w1 W := by rw [← hW]; exact (Below.refl _ _).alloc (Nat.le_refl _) _
  have HBW : Hid (Below w.heap.size w W) := below_step hb hbW
  have hM : W.heap[w1.heap.size]? = some (.cells #[.int .i64 (nodeOf t).k, .int .i64 (nodeOf t).w, .int .i64 (nodeOf t).h, .int .i64 (nodeOf t).i, .slice sa sn sc] 67 (0, 0)) := by rw [← hW]; exact heap_alloc_new _ _
  have HX : Hid (∀ X, Below W.heap.size W X → X.heap[w1.heap.size]? = some (.cells #[.int .i64 (nodeOf t).k, .int .i64 (nodeOf t).w, .int .i64 (nodeOf t).h, .int .i64 (nodeOf t).i, .slice sa sn sc] 67 (0, 0))) := fun X hX => (hX.block _ (lt_of_block hM)).trans hM
  have HIn : Hid (∀ X, Below W.heap.size W X → (nodeOf t).In X (.slice sa sn sc) fp) := fun X hX => (hIn.below hbW).below hX
  have HW : Hid (w1.alloc (.cells #[.int .i64 (nodeOf t).k, .int .i64 (nodeOf t).w, .int .i64 (nodeOf t).h, .int .i64 (nodeOf t).i, .slice sa sn sc] 67) = W) := hW
  have HId : Hid (Calls Try.prog 28 #[.agg #[.int .i64 (nodeOf t).k, .int .i64 (nodeOf t).w, .int .i64 (nodeOf t).h, .int .i64 (nodeOf t).i, .slice sa sn sc]] W fun e w' => ∃ ua uc, e = .returned (.slice ua nl uc) ∧ IOwns w' W.heap.size (.slice ua nl uc) (idsOf l) ∧ Below W.heap.size W w') := by
    refine (ids_good (nodeOf t) HIds.out.2.2.2 _ fp W (HIn.out W (Below.refl _ _))).mono ?_
    rintro e w' ⟨u, rfl, h1, h2⟩
    rw [HIds.out.1] at h1
    obtain ⟨ua, uc, e0⟩ := own_sl5 h1
    subst e0
    rw [HNl.out] at h1 ⊢
    exact ⟨ua, uc, rfl, h1, h2⟩
  have HEn : Hid (∀ t' X, Shut q t t' → (∃ b k ts, t = .split b k ts) → t'.sound = true → t'.kinds → t'.size ≤ 200 → Below W.heap.size W X → Calls Try.prog 38 #[.agg #[.int .i64 (nodeOf t).k, .int .i64 (nodeOf t).w, .int .i64 (nodeOf t).h, .int .i64 (nodeOf t).i, .slice sa sn sc], .int .i64 q] X fun e w' => ∃ (nr : Node), ∃ ua un uc, e = .returned (.agg #[.int .i64 nr.k, .int .i64 nr.w, .int .i64 nr.h, .int .i64 nr.i, .slice ua un uc]) ∧ Below w.heap.size w w' ∧ Calls Try.prog 33 #[.agg #[.int .i64 nr.k, .int .i64 nr.w, .int .i64 nr.h, .int .i64 nr.i, .slice ua un uc]] w' fun e w'' => ∃ u, e = .returned u ∧ CeOwns w'' w.heap.size u (laidL t') ∧ Below w.heap.size w w'') := fun t' X hS hsp h1 h2 h3 hX => by
    refine (HWt.out t' hS hsp _ fp X (HIn.out X hX)).mono ?_
    rintro e w' ⟨ua, un, uc, f', he, hi', _, hb'⟩
    have hbb : Below w.heap.size w w' := below_step (below_step HBW.out hX) hb'
    refine ⟨nodeOf t', ua, un, uc, he, hbb, (list_end h1 h2 h3 hi').mono ?_⟩
    rintro e w'' ⟨u, rfl, hu, hb''⟩
    exact ⟨u, rfl, hu.lower hbb.size, below_step hbb hb''⟩
  obtain ⟨nn, hnn⟩ : ∃ x, nodeOf t = x := ⟨_, rfl⟩
  rw [hnn] at HX HW HId HEn ⊢
  have HC5 : Hid (∀ X, Below W.heap.size W X → X.cell? ⟨w1.heap.size, 0, none⟩ = some (.int .i64 nn.k) ∧ X.cell? ⟨w1.heap.size, 1, none⟩ = some (.int .i64 nn.w) ∧ X.cell? ⟨w1.heap.size, 2, none⟩ = some (.int .i64 nn.h) ∧ X.cell? ⟨w1.heap.size, 3, none⟩ = some (.int .i64 nn.i) ∧ X.cell? ⟨w1.heap.size, 4, none⟩ = some (.slice sa sn sc)) := fun X hX => ⟨cell_atL (HX.out X hX) 0, cell_atL (HX.out X hX) 1, cell_atL (HX.out X hX) 2, cell_atL (HX.out X hX) 3, cell_atL (HX.out X hX) 4⟩
  unfold nodeV
  clear hb hIn hbW hM hW hnn HT HIn HWt HX
  have HCs : Hid ((q ∉ idsOf l ∧ er = 42 ∧ r = []) ∨ (q ∈ idsOf l ∧ nl = 1 ∧ er = 46 ∧ r = []) ∨ (q ∈ idsOf l ∧ nl ≠ 1 ∧ er = 0 ∧ ∃ t', r = laidL t' ∧ t'.sound = true ∧ t'.kinds ∧ t'.size ≤ 200 ∧ Shut q t t' ∧ ∃ b k ts, t = .split b k ts)) := hcase
  have HBe : Hid (decide (q ∈ idsOf l) = hb1) := hbe
  clear hcase hbe
  go_wp2_with fail
  rw [HW.out]
  obtain ⟨m0, m1, m2, m3, m4⟩ := HC5.out W (Below.refl _ _)
  go_wp2_with fail
  refine HId.out.mono ?_
  rintro e w2 ⟨ua, uc, rfl, hu, hbI⟩
  clear m0 m1 m2 m3 m4
  have HB2 : Hid (Below W.heap.size W w2) := hbI
  have HU : Hid (IOwns w2 W.heap.size (.slice ua nl uc) (idsOf l)) := hu
  clear hu hbI
  go_wp2_with fail
  refine (HHs.out _ _ w2 HU.out).mono ?_
  rintro e w3 ⟨rfl, rfl⟩
  clear HHs HU HId HW
  rcases HCs.out with ⟨h1, rfl, rfl⟩ | ⟨h1, h2, rfl, rfl⟩ | ⟨h1, h2, rfl, t', rfl, h3, h4, h5, h6, h7⟩
  · have hf : hb1 = false := by rw [← HBe.out]; exact decide_eq_false h1
    have HZ : Hid (Below w.heap.size w w2) := below_step HBW.out HB2.out
    subst hf
    clear h1
    go_wp2
    go_ret2
    exact ⟨_, rfl, World.ownsRow_nil _ _ _ _, HZ.out⟩
  · have hf : hb1 = true := by rw [← HBe.out]; exact decide_eq_true h1
    have HZ : Hid (Below w.heap.size w w2) := below_step HBW.out HB2.out
    subst hf
    subst h2
    clear h1
    go_wp2
    go_ret2
    exact ⟨_, rfl, World.ownsRow_nil _ _ _ _, HZ.out⟩
  · have hf : hb1 = true := by rw [← HBe.out]; exact decide_eq_true h1
    have hk : ¬ (nl : Int) = 1 := by omega
    have hk2 : ((nl : Int) == 1) = false := by simpa using hk
    have HE := hidden (HEn.out t' w2 h6 h7 h3 h4 h5 HB2.out)
    subst hf
    obtain ⟨m0, m1, m2, m3, m4⟩ := HC5.out w2 HB2.out
    clear h1 h2 h3 h4 h5 h6 h7 HEn HCs
    go_wp2_with fail
    refine HE.out.mono ?_
    rintro e w4 ⟨nr, xa, xn, xc, rfl, hb4, hL⟩
    have HL := hidden hL
    clear m0 m1 m2 m3 m4 hL hb4 HE
    go_wp2_with fail
    refine HL.out.mono ?_
    rintro e w5 ⟨u, rfl, hu, hb5⟩
    have HZ : Hid (CeOwns w5 w.heap.size u (laidL t') ∧ Below w.heap.size w w5) := ⟨hu, hb5⟩
    clear hu hb5 HL
    go_wp2
    go_ret2
    exact ⟨_, rfl, HZ.out.1, HZ.out.2⟩

end Go.Proofs.Ytjnmjoigmbpodaa
