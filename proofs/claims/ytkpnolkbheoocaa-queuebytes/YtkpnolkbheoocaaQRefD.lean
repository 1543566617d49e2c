/-
  The document's queue: PutAll, Put, Out, End.
-/
import Derived.Test.YtkpnolkbheoocaaQRefC
import Derived.WalkKit
import Derived.Test.YtkpnolkbheoocaaTQuiet
import Derived.Deep.RegionLaw
namespace Go.Proofs.Ytkpnolkbheoocaa
open Go.RowKit
set_option linter.unusedVariables false
set_option maxRecDepth 100000

theorem wrap_ok {x : Int} (h1 : -9223372036854775808 ≤ x) (h2 : x ≤ 9223372036854775807) : IntKind.i64.wrap x = x := by
  rw [IntKind.wrap_i64]
  omega
/-- What a call leaves of the document's queue. -/
def RWent (w w' : World) (vi vi' : Value) (q : Qs) : Prop := ∃ its, RIn w' vi' its q ∧ Below w.heap.size w w' ∧ ∀ g, vi'.ownBlock = some g → vi.ownBlock = some g ∨ w.heap.size ≤ g
theorem RWent.of {w w' W : World} {vi : Value} {its : List Item} {q : Qs} {R : Nat} (h : RIn w vi its q) (hb : Below w.heap.size w W) (hR : w.heap.size ≤ R) (h1 : ∀ k, k ≠ R → w'.heap[k]? = W.heap[k]?) (h2 : ∀ B, B ≤ R → Below B W w') : RWent w w' vi vi q :=
  ⟨its, (h.below hb).keep fun g hg => h1 g (by have := h.row.lt g hg; omega), hb.trans (h2 _ hR), fun g hg => .inl hg⟩
/-- The blocks that such a call makes first: the queue that was handed in, the one that is given back. -/
structure RCall (w W0 : World) (N0 : Nat) (l0 : Int) (vi : Value) (cl : Bool) : Prop where
  below : Below w.heap.size w W0
  n0 : w.heap.size = N0
  size : N0 + 2 = W0.heap.size
  par : W0.heap[N0]? = some (.cells #[.int .i64 l0, vi, .bool cl] 26 (0, 0))
  res : W0.heap[N0 + 1]? = some (.cells #[.int .i64 0, .slice none 0 0, .bool false] 26 (0, 0))
theorem RCall.start (w : World) (l0 : Int) (vi : Value) (cl : Bool) : RCall w ((w.alloc (.cells #[.int .i64 l0, vi, .bool cl] 26)).alloc (.cells #[.int .i64 0, .slice none 0 0, .bool false] 26)) w.heap.size l0 vi cl := by
  obtain ⟨t1, t2, t3, t4⟩ := heap_two w (.cells #[.int .i64 l0, vi, .bool cl] 26) (.cells #[.int .i64 0, .slice none 0 0, .bool false] 26)
  exact ⟨t4, rfl, t3.symm, t1, t2⟩
theorem RCall.at {w W0 W : World} {N0 : Nat} {l0 : Int} {vi : Value} {cl : Bool} (h : RCall w W0 N0 l0 vi cl) (hW : Below W0.heap.size W0 W) :
    W.cell? ⟨N0, 0, none⟩ = some (.int .i64 l0) ∧ W.cell? ⟨N0, 1, none⟩ = some vi ∧ W.cell? ⟨N0, 2, none⟩ = some (.bool cl) ∧ W.heap[N0 + 1]? = some (.cells #[.int .i64 0, .slice none 0 0, .bool false] 26 (0, 0)) ∧ Below w.heap.size w W := by
  have hs := h.size
  have hn := h.n0
  have h1 := (hW.block N0 (by omega)).trans h.par
  exact ⟨cell_atT h1 0, cell_atT h1 1, cell_atT h1 2, (hW.block (N0 + 1) (by omega)).trans h.res, h.below.trans (hW.mono (by omega))⟩
theorem res_cells {W : World} {R : Nat} {t : TypeId} (h : W.heap[R]? = some (.cells #[.int .i64 0, .slice none 0 0, .bool false] t (0, 0))) : W.cell? ⟨R, 0, none⟩ = some (.int .i64 0) ∧ W.cell? ⟨R, 1, none⟩ = some (.slice none 0 0) ∧ W.cell? ⟨R, 2, none⟩ = some (.bool false) ∧ ∀ o, W.frozen? ⟨R, o, none⟩ = false :=
  ⟨cell_atT h 0, cell_atT h 1, cell_atT h 2, fun o => free_atT h o⟩

set_option maxHeartbeats 4000000 in
theorem refPutAll_any {w : World} {vi v : Value} {its : List Item} {q : Qs} {ls : List (List UInt8)} (h : RIn w vi its q) (hq : q.Ok) (hs : Strs w v ls) :
    Calls Try.prog 36 #[refV q vi, v] w fun e w' => ∃ vi', e = .returned (.tuple #[refV (putQ q ls) vi', .int .i64 (putE q ls)]) ∧ RWent w w' vi vi' (putQ q ls) := by
  obtain ⟨ai, ni, ci, hvi, hni, -⟩ := h.shape
  subst hvi
  obtain ⟨W0, hW0⟩ : ∃ W0, (w.alloc (.cells #[.int .i64 (q.lim : Int), .slice ai ni ci, .bool q.cl] 26)).alloc (.cells #[.int .i64 0, .slice none 0 0, .bool false] 26) = W0 := ⟨_, rfl⟩
  obtain ⟨N0, hN0⟩ : ∃ N0, w.heap.size = N0 := ⟨_, rfl⟩
  have HC : Hid (RCall w W0 N0 (q.lim : Int) (.slice ai ni ci) q.cl) := by show RCall _ _ _ _ _ _; rw [← hW0, ← hN0]; exact RCall.start _ _ _ _
  have HW0 : Hid ((w.alloc (.cells #[.int .i64 (q.lim : Int), .slice ai ni ci, .bool q.cl] 26)).alloc (.cells #[.int .i64 0, .slice none 0 0, .bool false] 26) = W0) := hW0
  have HN0 : Hid (w.heap.size = N0) := hN0
  have HLi : Hid (Calls Try.prog 44 #[v] W0 fun x w' => ∃ z : Int, x = .returned (.tuple #[.bool (linesB ls), .int .i64 z]) ∧ (linesB ls = true → z = (sumF ls : Int)) ∧ W0 = w') := refLines_any (hs.below HC.out.below)
  have HSz : Hid (∀ W, Below W0.heap.size W0 W → Calls Try.prog 30 #[.agg #[.int .i64 (q.lim : Int), .slice ai ni ci, .bool q.cl]] W fun x w' => x = .returned (.int .i64 (q.bs.length : Int)) ∧ Below W0.heap.size W0 w') := fun W hW => (refSize_any (h.below (HC.out.at hW).2.2.2.2) hq).mono fun x w' h9 => ⟨h9.1, hW.trans (h9.2.mono hW.size)⟩
  have HLd : Hid (∀ W, Below W0.heap.size W0 W → q.bs.length + sumF ls ≤ 1000000 → Calls Try.prog 45 #[.agg #[.int .i64 (q.lim : Int), .slice ai ni ci, .bool q.cl], v, .int .i64 0, .int .i64 0] W fun e w' => ∃ vi', e = .returned (.agg #[.int .i64 (q.lim : Int), vi', .bool q.cl]) ∧ RIn w' vi' (its ++ newI (0, 0) ls) (layF q (0, 0) ls) ∧ Below W.heap.size W w' ∧ ∀ g, vi'.ownBlock = some g → W.heap.size ≤ g) := fun W hW hsm => refLaid_any (h.below (HC.out.at hW).2.2.2.2) hq (hs.below (HC.out.at hW).2.2.2.2) 0 0 hsm
  obtain ⟨ad, n, cap, rfl, hn, hn1, -⟩ := hs.shape
  have HR : Hid (RIn w (.slice ai ni ci) its q) := h
  obtain ⟨p0, p1, p2, pz, -⟩ := HC.out.at (Below.refl _ _)
  obtain ⟨z0, z1, z2, zf⟩ := res_cells pz
  have hlim := hq.lim
  have hfew := hq.few
  have HNo : Hid (∀ W, Below W0.heap.size W0 W → RWent w (((W.setCell ⟨N0 + 1, 0, none⟩ (.int .i64 (q.lim : Int))).setCell ⟨N0 + 1, 1, none⟩ (.slice ai ni ci)).setCell ⟨N0 + 1, 2, none⟩ (.bool q.cl)) (.slice ai ni ci) (.slice ai ni ci) q) := fun W hW => by
    have ST := stored3 (x := .int .i64 (q.lim : Int)) (y := .slice ai ni ci) (z := .bool q.cl) (HC.out.at hW).2.2.2.1
    exact RWent.of h (HC.out.at hW).2.2.2.2 (by rw [hN0]; omega) ST.2.1 ST.2.2
  show Calls _ _ _ _ (fun e w' => ∃ vi', e = .returned (.tuple #[refV (layQ q ((q.lim : Int) + 32768) 140 (0, 0) ls) vi', .int .i64 (layE q ((q.lim : Int) + 32768) 140 ls)]) ∧ RWent w w' (.slice ai ni ci) vi' (layQ q ((q.lim : Int) + 32768) 140 (0, 0) ls))
  cases hb : linesB ls
  · rw [hb] at HLi
    have e1 : layE q ((q.lim : Int) + 32768) 140 ls = 1 := by unfold layE; rw [if_pos hb]
    have e2 : layQ q ((q.lim : Int) + 32768) 140 (0, 0) ls = q := by unfold layQ; rw [e1]; rfl
    rw [e1, e2]
    unfold refV
    clear h hs pz hW0 hN0 hn HLd HSz e1 e2
    go_enter Try.func36, Try.ntmps36
    go_wp2_with fail
    rw [HW0.out, HN0.out]
    refine HLi.out.mono ?_
    rintro x w1 ⟨z, rfl, -, rfl⟩
    go_wp2_with fail
    all_goals refine bodyPost_ret (v := .tuple #[.agg #[.int .i64 (q.lim : Int), .slice ai ni ci, .bool q.cl], .int .i64 1]) (by simp [results, Try.results36, go_sem, z0, z1, z2]) rfl ?_
    all_goals exact ⟨_, rfl, HNo.out _ (Below.refl _ _)⟩
  · rw [hb] at HLi
    have eb : ¬ linesB ls = false := by rw [hb]; simp
    cases hcl : q.cl
    · obtain ⟨S, hS⟩ : ∃ S, sumF ls = S := ⟨_, rfl⟩
      have hSb : S ≤ n * 8193 := by
        have h1 := sum_short hb
        rwa [hS, hn] at h1
      rw [hcl] at HSz HLd HNo p2 HW0
      have HSS : Hid (sumF ls = S) := hS
      have dw1 : IntKind.i64.wrap ((q.bs.length : Int) + (S : Int)) = (q.bs.length : Int) + (S : Int) := wrap_ok (by omega) (by omega)
      have dw2 : IntKind.i64.wrap ((q.lim : Int) + 32768) = (q.lim : Int) + 32768 := wrap_ok (by omega) (by omega)
      by_cases hov : 0 < S ∧ (q.bs.length : Int) + (S : Int) > ((q.lim : Int) + 32768)
      · have e1 : layE q ((q.lim : Int) + 32768) 140 ls = 140 := by unfold layE; rw [if_neg eb, if_neg (by rw [hcl]; simp), hS, if_neg (by omega), if_pos hov.2]
        have e2 : layQ q ((q.lim : Int) + 32768) 140 (0, 0) ls = q := by unfold layQ; rw [e1]; rfl
        rw [e1, e2]
        obtain ⟨hov1, hov2⟩ := hov
        have d1 : 0 < S := by omega
        have dw3 : decide (((q.lim : Int) + 32768) < (q.bs.length : Int) + (S : Int)) = true := decide_eq_true (by omega)
        unfold refV
        rw [hcl]
        clear h hs pz hW0 hN0 hn HLd e1 e2 eb hS
        go_enter Try.func36, Try.ntmps36
        go_wp2_with fail
        rw [HW0.out, HN0.out]
        refine HLi.out.mono ?_
        rintro x w1 ⟨z, rfl, hz, rfl⟩
        rw [hz (by first | rfl | trivial), HSS.out]
        clear hz
        go_wp2_with fail
        refine wp_region_qw (fun X => Below W0.heap.size W0 X) (by kernel_rfl) (by kernel_rfl) ((Below.refl _ _).drew) ?_
        repeat (first
          | (refine qw_take (v := ?_) (by rfl) (fun X hX => ?_) ?_
             rotate_left
             · skip
               obtain ⟨x0, x1, x2, -, -⟩ := HC.out.at hX
               rw [hcl] at x2
               go_simp
               all_goals first | with_reducible rfl | with_reducible exact HSz.out X hX
             intro K hK
             go_simp
             try simp only [dw1, dw2, dw3]
             refine hK.out _ ?_
             clear hK K)
          | (refine qw_skip (by rfl) ?_
             intro K hK
             go_simp
             refine hK.out _ ?_
             clear hK K))
        refine qw_nil ?_
        intro w1 hb1
        obtain ⟨p0', p1', p2', pz', -⟩ := HC.out.at hb1
        rw [hcl] at p2'
        obtain ⟨z0', z1', z2', zf'⟩ := res_cells pz'
        have HN1 := HNo.out w1 hb1
        have HN2 : Hid (RWent w (((w1.setCell ⟨N0 + 1, 0, none⟩ (.int .i64 (q.lim : Int))).setCell ⟨N0 + 1, 1, none⟩ (.slice ai ni ci)).setCell ⟨N0 + 1, 2, none⟩ (.bool false)) (.slice ai ni ci) (.slice ai ni ci) q) := HN1
        clear pz' hb1 HN1 p0 p1 p2 z0 z1 z2 zf
        go_wp2_with fail
        all_goals refine bodyPost_ret (v := .tuple #[.agg #[.int .i64 (q.lim : Int), .slice ai ni ci, .bool false], .int .i64 140]) (by simp [results, Try.results36, go_sem, z0', z1', z2']) rfl ?_
        all_goals exact ⟨_, rfl, HN2.out⟩
      · have e1 : layE q ((q.lim : Int) + 32768) 140 ls = 0 := by
          unfold layE
          rw [if_neg eb, if_neg (by rw [hcl]; simp), hS]
          by_cases h0 : S = 0
          · rw [if_pos h0]
          · rw [if_neg h0, if_neg (by omega)]
        have e2 : layQ q ((q.lim : Int) + 32768) 140 (0, 0) ls = layF q (0, 0) ls := by unfold layQ; rw [e1, if_pos rfl]
        have hsm : q.bs.length + sumF ls ≤ 1000000 := by rw [hS]; omega
        rw [e1, e2]
        have HFin : Hid (∀ W w' vi', Below W0.heap.size W0 W → Below W.heap.size W w' → (∀ g, vi'.ownBlock = some g → W.heap.size ≤ g) → RIn w' vi' (its ++ newI (0, 0) ls) (layF q (0, 0) ls) → RWent w (((w'.setCell ⟨N0 + 1, 0, none⟩ (.int .i64 (q.lim : Int))).setCell ⟨N0 + 1, 1, none⟩ vi').setCell ⟨N0 + 1, 2, none⟩ (.bool false)) (.slice ai ni ci) vi' (layF q (0, 0) ls) ∧ w'.heap[N0 + 1]? = some (.cells #[.int .i64 0, .slice none 0 0, .bool false] 26 (0, 0))) := by
          intro W w' vi' h1 h2 h3 h4
          have h5 : Below W0.heap.size W0 w' := h1.trans (h2.mono h1.size)
          obtain ⟨-, -, -, k4, k5⟩ := HC.out.at h5
          have ST := stored3 (x := .int .i64 (q.lim : Int)) (y := vi') (z := .bool false) k4
          refine ⟨⟨_, h4.keep fun g hg => ST.2.1 g (fun e => ?_), k5.trans (ST.2.2 _ (by have := HN0.out; omega)), fun g hg => .inr ?_⟩, k4⟩
          · have h6 := h3 g hg
            have h7 := h1.size
            have h8 := HC.out.size
            omega
          · have h6 := h3 g hg
            have h7 := h1.size
            have h8 := HC.out.size
            have h9 := HN0.out
            omega
        unfold refV
        show Calls _ _ _ _ (fun e w' => ∃ vi', e = .returned (.tuple #[.agg #[.int .i64 (q.lim : Int), vi', .bool q.cl], .int .i64 0]) ∧ RWent w w' (.slice ai ni ci) vi' (layF q (0, 0) ls))
        rw [hcl]
        clear h hs pz hW0 hN0 hn e1 e2 eb hS HNo
        by_cases h0 : S = 0
        · subst h0
          have dw3 : True := trivial
          go_enter Try.func36, Try.ntmps36
          go_wp2_with fail
          rw [HW0.out, HN0.out]
          refine HLi.out.mono ?_
          rintro x w1 ⟨z, rfl, hz, rfl⟩
          rw [hz (by first | rfl | trivial), HSS.out]
          clear hz
          go_wp2_with fail
          refine wp_region_qw (fun X => Below W0.heap.size W0 X) (by kernel_rfl) (by kernel_rfl) ((Below.refl _ _).drew) ?_
          repeat (first
            | (refine qw_take (v := ?_) (by rfl) (fun X hX => ?_) ?_
               rotate_left
               · skip
                 obtain ⟨x0, x1, x2, -, -⟩ := HC.out.at hX
                 rw [hcl] at x2
                 go_simp
                 all_goals first | with_reducible rfl | with_reducible exact HSz.out X hX
               intro K hK
               go_simp
               try simp only [dw1, dw2, dw3]
               refine hK.out _ ?_
               clear hK K)
            | (refine qw_skip (by rfl) ?_
               intro K hK
               go_simp
               refine hK.out _ ?_
               clear hK K))
          refine qw_nil ?_
          intro w1 hb1
          obtain ⟨p0', p1', p2', pz', -⟩ := HC.out.at hb1
          rw [hcl] at p2'
          have HB1 : Hid (Below W0.heap.size W0 w1) := hb1
          clear p0 p1 p2 z0 z1 z2 zf hb1 pz'
          go_wp2_with fail
          refine (HLd.out _ HB1.out hsm).mono ?_
          rintro x w2 ⟨vi', rfl, hri, hb2, hy2⟩
          obtain ⟨hfin, hres⟩ := HFin.out _ w2 vi' HB1.out hb2 hy2 hri
          obtain ⟨z0', z1', z2', zf'⟩ := res_cells hres
          obtain ⟨a3, n3, c3, rfl, -, -⟩ := hri.shape
          have HF : Hid (RWent w (((w2.setCell ⟨N0 + 1, 0, none⟩ (.int .i64 (q.lim : Int))).setCell ⟨N0 + 1, 1, none⟩ (.slice a3 n3 c3)).setCell ⟨N0 + 1, 2, none⟩ (.bool false)) (.slice ai ni ci) (.slice a3 n3 c3) (layF q (0, 0) ls)) := hfin
          clear hri hb2 hy2 hfin hres
          go_wp2_with fail
          all_goals refine bodyPost_ret (v := .tuple #[.agg #[.int .i64 (q.lim : Int), .slice a3 n3 c3, .bool false], .int .i64 0]) (by simp [results, Try.results36, go_sem, z0', z1', z2']) rfl ?_
          all_goals exact ⟨_, rfl, HF.out⟩
        · have d1 : 0 < S := by omega
          have dw3 : decide (((q.lim : Int) + 32768) < (q.bs.length : Int) + (S : Int)) = false := decide_eq_false (by omega)
          have d2 : ¬ (q.bs.length : Int) + (S : Int) > ((q.lim : Int) + 32768) := by omega
          clear hov
          go_enter Try.func36, Try.ntmps36
          go_wp2_with fail
          rw [HW0.out, HN0.out]
          refine HLi.out.mono ?_
          rintro x w1 ⟨z, rfl, hz, rfl⟩
          rw [hz (by first | rfl | trivial), HSS.out]
          clear hz
          go_wp2_with fail
          refine wp_region_qw (fun X => Below W0.heap.size W0 X) (by kernel_rfl) (by kernel_rfl) ((Below.refl _ _).drew) ?_
          repeat (first
            | (refine qw_take (v := ?_) (by rfl) (fun X hX => ?_) ?_
               rotate_left
               · skip
                 obtain ⟨x0, x1, x2, -, -⟩ := HC.out.at hX
                 rw [hcl] at x2
                 go_simp
                 all_goals first | with_reducible rfl | with_reducible exact HSz.out X hX
               intro K hK
               go_simp
               try simp only [dw1, dw2, dw3]
               refine hK.out _ ?_
               clear hK K)
            | (refine qw_skip (by rfl) ?_
               intro K hK
               go_simp
               refine hK.out _ ?_
               clear hK K))
          refine qw_nil ?_
          intro w1 hb1
          obtain ⟨p0', p1', p2', pz', -⟩ := HC.out.at hb1
          rw [hcl] at p2'
          have HB1 : Hid (Below W0.heap.size W0 w1) := hb1
          clear p0 p1 p2 z0 z1 z2 zf hb1 pz'
          go_wp2_with fail
          refine (HLd.out _ HB1.out hsm).mono ?_
          rintro x w2 ⟨vi', rfl, hri, hb2, hy2⟩
          obtain ⟨hfin, hres⟩ := HFin.out _ w2 vi' HB1.out hb2 hy2 hri
          obtain ⟨z0', z1', z2', zf'⟩ := res_cells hres
          obtain ⟨a3, n3, c3, rfl, -, -⟩ := hri.shape
          have HF : Hid (RWent w (((w2.setCell ⟨N0 + 1, 0, none⟩ (.int .i64 (q.lim : Int))).setCell ⟨N0 + 1, 1, none⟩ (.slice a3 n3 c3)).setCell ⟨N0 + 1, 2, none⟩ (.bool false)) (.slice ai ni ci) (.slice a3 n3 c3) (layF q (0, 0) ls)) := hfin
          clear hri hb2 hy2 hfin hres p0' p1' p2'
          go_wp2_with fail
          all_goals refine bodyPost_ret (v := .tuple #[.agg #[.int .i64 (q.lim : Int), .slice a3 n3 c3, .bool false], .int .i64 0]) (by simp [results, Try.results36, go_sem, z0', z1', z2']) rfl ?_
          all_goals exact ⟨_, rfl, HF.out⟩
    · have e1 : layE q ((q.lim : Int) + 32768) 140 ls = 141 := by unfold layE; rw [if_neg eb, if_pos hcl]
      have e2 : layQ q ((q.lim : Int) + 32768) 140 (0, 0) ls = q := by unfold layQ; rw [e1]; rfl
      rw [e1, e2]
      unfold refV
      rw [hcl]
      rw [hcl] at HNo p2 HW0
      clear h hs pz hW0 hN0 hn HLd HSz e1 e2 eb
      go_enter Try.func36, Try.ntmps36
      go_wp2_with fail
      rw [HW0.out, HN0.out]
      refine HLi.out.mono ?_
      rintro x w1 ⟨z, rfl, -, rfl⟩
      go_wp2_with fail
      all_goals refine bodyPost_ret (v := .tuple #[.agg #[.int .i64 (q.lim : Int), .slice ai ni ci, .bool true], .int .i64 141]) (by simp [results, Try.results36, go_sem, z0, z1, z2]) rfl ?_
      all_goals exact ⟨_, rfl, HNo.out _ (Below.refl _ _)⟩

end Go.Proofs.Ytkpnolkbheoocaa
