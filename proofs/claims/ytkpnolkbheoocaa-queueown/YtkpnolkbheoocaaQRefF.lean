/-
  The document's queue: Put, End.
-/
import Derived.Test.YtkpnolkbheoocaaQRefD
import Derived.Test.YtkpnolkbheoocaaQPut
import Derived.WalkKit
namespace Go.Proofs.Ytkpnolkbheoocaa
open Go.RowKit
set_option linter.unusedVariables false
set_option maxRecDepth 100000

theorem RWent.more {w w' w2 : World} {vi vi' : Value} {q : Qs} (h : RWent w w' vi vi' q) (hb : Below w'.heap.size w' w2) : RWent w w2 vi vi' q := by
  obtain ⟨its, h1, h2, h3⟩ := h
  exact ⟨its, h1.below hb, h2.trans (hb.mono h2.size), h3⟩
theorem cells_more {w : World} {R : Nat} {x y z : Value} {t : TypeId} (h : w.heap[R]? = some (.cells #[x, y, z] t (0, 0))) (o : Obj) : (w.alloc o).cell? ⟨R, 0, none⟩ = some x ∧ (w.alloc o).cell? ⟨R, 1, none⟩ = some y ∧ (w.alloc o).cell? ⟨R, 2, none⟩ = some z := by
  have h2 : (w.alloc o).heap[R]? = some (.cells #[x, y, z] t (0, 0)) := by rw [Below.heap_alloc _ _ _ (lt_of_block h)]; exact h
  exact ⟨cell_atT h2 0, cell_atT h2 1, cell_atT h2 2⟩
set_option maxHeartbeats 4000000 in
theorem refPut_any {w : World} {vi : Value} {its : List Item} {q : Qs} {l : List UInt8} (h : RIn w vi its q) (hq : q.Ok) (hl : l.length ≤ 9223372036854775807) :
    Calls Try.prog 35 #[refV q vi, .string (str l)] w fun e w' => ∃ vi', e = .returned (.tuple #[refV (putQ q [l]) vi', .int .i64 (putE q [l])]) ∧ RWent w w' vi vi' (putQ q [l]) := by
  obtain ⟨ai, ni, ci, hvi, hni, -⟩ := h.shape
  subst hvi
  obtain ⟨W0, hW0⟩ : ∃ W0, (w.alloc (.cells #[.int .i64 (q.lim : Int), .slice ai ni ci, .bool q.cl] 26)).alloc (.cells #[.int .i64 0, .slice none 0 0, .bool false] 26) = W0 := ⟨_, rfl⟩
  obtain ⟨N0, hN0⟩ : ∃ N0, w.heap.size = N0 := ⟨_, rfl⟩
  have HC : Hid (RCall w W0 N0 (q.lim : Int) (.slice ai ni ci) q.cl) := by show RCall _ _ _ _ _ _; rw [← hW0, ← hN0]; exact RCall.start _ _ _ _
  have HW0 : Hid ((w.alloc (.cells #[.int .i64 (q.lim : Int), .slice ai ni ci, .bool q.cl] 26)).alloc (.cells #[.int .i64 0, .slice none 0 0, .bool false] 26) = W0) := hW0
  have HN0 : Hid (w.heap.size = N0) := hN0
  have hbA : Below W0.heap.size W0 (W0.alloc (.cells #[.string (str l)] 9)) := (Below.refl _ _).alloc (Nat.le_refl _) _
  have HPa : Hid (Calls Try.prog 36 #[.agg #[.int .i64 (q.lim : Int), .slice ai ni ci, .bool q.cl], .slice (some ⟨N0 + 1 + 1, 0, none⟩) 1 1] (W0.alloc (.cells #[.string (str l)] 9)) fun e w' => ∃ vi', e = .returned (.tuple #[refV (putQ q [l]) vi', .int .i64 (putE q [l])]) ∧ RWent (W0.alloc (.cells #[.string (str l)] 9)) w' (.slice ai ni ci) vi' (putQ q [l])) := by
    have h9 := refPutAll_any (h.below (HC.out.at hbA).2.2.2.2) hq (Strs.one (w := W0) hl)
    rw [← HC.out.size] at h9
    exact h9
  obtain ⟨p0, p1, p2, pz, -⟩ := HC.out.at (Below.refl _ _)
  have HFin : Hid (∀ w' vi', RWent (W0.alloc (.cells #[.string (str l)] 9)) w' (.slice ai ni ci) vi' (putQ q [l]) → w'.heap[N0 + 1]? = some (.cells #[.int .i64 0, .slice none 0 0, .bool false] 26 (0, 0)) ∧ (∃ a n c, vi' = .slice a n c) ∧ RWent w (((w'.setCell ⟨N0 + 1, 0, none⟩ (.int .i64 ((putQ q [l]).lim : Int))).setCell ⟨N0 + 1, 1, none⟩ vi').setCell ⟨N0 + 1, 2, none⟩ (.bool (putQ q [l]).cl)) (.slice ai ni ci) vi' (putQ q [l])) := by
    rintro w' vi' ⟨its', h1, h2, h3⟩
    have h5 : Below W0.heap.size W0 w' := hbA.trans (h2.mono hbA.size)
    obtain ⟨-, -, -, k4, k5⟩ := HC.out.at h5
    have ST := stored3 (x := .int .i64 ((putQ q [l]).lim : Int)) (y := vi') (z := .bool (putQ q [l]).cl) k4
    have hs := HC.out.size
    have hn := HN0.out
    have hA : W0.heap.size ≤ (W0.alloc (.cells #[.string (str l)] 9)).heap.size := hbA.size
    obtain ⟨a, n, c, hv, -, -⟩ := h1.shape
    refine ⟨k4, ⟨a, n, c, hv⟩, _, h1.keep fun g hg => ST.2.1 g (fun e => ?_), k5.trans (ST.2.2 _ (by omega)), fun g hg => ?_⟩
    · rcases h3 g hg with e' | e'
      · have := h.row.lt g e'
        omega
      · omega
    · rcases h3 g hg with e' | e'
      · exact .inl e'
      · exact .inr (by omega)
  obtain ⟨z, hz⟩ : ∃ z, str l = z := ⟨_, rfl⟩
  rw [hz] at HPa HFin ⊢
  unfold refV at HPa ⊢
  obtain ⟨Q, hQ⟩ : ∃ Q, putQ q [l] = Q := ⟨_, rfl⟩
  obtain ⟨E, hE⟩ : ∃ E, putE q [l] = E := ⟨_, rfl⟩
  rw [hQ, hE] at HPa ⊢
  rw [hQ] at HFin
  clear h pz hW0 hN0 hz hbA hQ hE
  go_enter Try.func35, Try.ntmps35
  go_wp2_with fail
  rw [HW0.out, HN0.out]
  refine HPa.out.mono ?_
  rintro x w1 ⟨vi', rfl, hrw⟩
  obtain ⟨hres, ⟨a3, n3, c3, rfl⟩, hfin⟩ := HFin.out w1 vi' hrw
  obtain ⟨z0', z1', z2', zf'⟩ := res_cells hres
  have HF : Hid (RWent w (((w1.setCell ⟨N0 + 1, 0, none⟩ (.int .i64 (Q.lim : Int))).setCell ⟨N0 + 1, 1, none⟩ (.slice a3 n3 c3)).setCell ⟨N0 + 1, 2, none⟩ (.bool Q.cl)) (.slice ai ni ci) (.slice a3 n3 c3) Q) := hfin
  clear hrw hfin hres p0 p1 p2
  go_wp2_with fail
  all_goals refine bodyPost_ret (v := .tuple #[.agg #[.int .i64 (Q.lim : Int), .slice a3 n3 c3, .bool Q.cl], .int .i64 E]) (by simp [results, Try.results35, go_sem, z0', z1', z2']) rfl ?_
  all_goals exact ⟨_, rfl, HF.out⟩

set_option maxHeartbeats 4000000 in
theorem refEnd_any {w : World} {vi : Value} {its : List Item} {q : Qs} {l : List UInt8} (h : RIn w vi its q) (hq : q.Ok) (hl : l.length ≤ 9223372036854775807) :
    Calls Try.prog 38 #[refV q vi, .string (str l)] w fun e w' => ∃ vi', e = .returned (.tuple #[refV (endQ q l) vi', .int .i64 (endE q l)]) ∧ RWent w w' vi vi' (endQ q l) := by
  obtain ⟨ai, ni, ci, hvi, hni, -⟩ := h.shape
  subst hvi
  obtain ⟨W0, hW0⟩ : ∃ W0, (w.alloc (.cells #[.int .i64 (q.lim : Int), .slice ai ni ci, .bool q.cl] 26)).alloc (.cells #[.int .i64 0, .slice none 0 0, .bool false] 26) = W0 := ⟨_, rfl⟩
  obtain ⟨N0, hN0⟩ : ∃ N0, w.heap.size = N0 := ⟨_, rfl⟩
  have HC : Hid (RCall w W0 N0 (q.lim : Int) (.slice ai ni ci) q.cl) := by show RCall _ _ _ _ _ _; rw [← hW0, ← hN0]; exact RCall.start _ _ _ _
  have HW0 : Hid ((w.alloc (.cells #[.int .i64 (q.lim : Int), .slice ai ni ci, .bool q.cl] 26)).alloc (.cells #[.int .i64 0, .slice none 0 0, .bool false] 26) = W0) := hW0
  have HN0 : Hid (w.heap.size = N0) := hN0
  have HLi : Hid (Calls Try.prog 46 #[.string (str l)] W0 fun x w' => x = .returned (.bool (lineB l)) ∧ W0 = w') := refIsLine_any l W0 hl
  have hbA : Below W0.heap.size W0 (W0.alloc (.cells #[.string (str l)] 9)) := (Below.refl _ _).alloc (Nat.le_refl _) _
  have HNo : Hid (RWent w (((W0.setCell ⟨N0 + 1, 0, none⟩ (.int .i64 (q.lim : Int))).setCell ⟨N0 + 1, 1, none⟩ (.slice ai ni ci)).setCell ⟨N0 + 1, 2, none⟩ (.bool q.cl)) (.slice ai ni ci) (.slice ai ni ci) q) := by
    have ST := stored3 (x := .int .i64 (q.lim : Int)) (y := .slice ai ni ci) (z := .bool q.cl) (HC.out.at (Below.refl _ _)).2.2.2.1
    exact RWent.of h HC.out.below (by rw [hN0]; omega) ST.2.1 ST.2.2
  obtain ⟨p0, p1, p2, pz, -⟩ := HC.out.at (Below.refl _ _)
  obtain ⟨z0, z1, z2, zf⟩ := res_cells pz
  cases hb : lineB l
  · rw [hb] at HLi
    have e1 : endE q l = 1 := by unfold endE; rw [if_pos hb]
    have e2 : endQ q l = q := by unfold endQ; rw [e1]; rfl
    rw [e1, e2]
    unfold refV
    obtain ⟨z, hz⟩ : ∃ z, str l = z := ⟨_, rfl⟩
    rw [hz] at HLi ⊢
    clear h pz hW0 hN0 hbA hz e1 e2
    go_enter Try.func38, Try.ntmps38
    go_wp2_with fail
    rw [HW0.out, HN0.out]
    refine HLi.out.mono ?_
    rintro x w1 ⟨rfl, rfl⟩
    go_wp2_with fail
    all_goals refine bodyPost_ret (v := .tuple #[.agg #[.int .i64 (q.lim : Int), .slice ai ni ci, .bool q.cl], .int .i64 1]) (by simp [results, Try.results38, go_sem, z0, z1, z2]) rfl ?_
    all_goals exact ⟨_, rfl, HNo.out⟩
  · rw [hb] at HLi
    have eb : ¬ lineB l = false := by rw [hb]; simp
    cases hcl : q.cl
    · rw [hcl] at HNo p2 HW0
      have e1 : endE q l = 0 := by unfold endE; rw [if_neg eb, if_neg (by rw [hcl]; simp)]
      have e2 : endQ q l = ⟨q.lim, true, q.bs ++ (l ++ [10]), q.os ++ List.replicate (l.length + 1) (0, 0)⟩ := by unfold endQ; rw [e1, if_pos rfl]
      have hll := line_short hb
      have hfew := hq.few
      have HLd : Hid (Calls Try.prog 45 #[.agg #[.int .i64 (q.lim : Int), .slice ai ni ci, .bool false], .slice (some ⟨W0.heap.size, 0, none⟩) 1 1, .int .i64 0, .int .i64 0] (W0.alloc (.cells #[.string (str l)] 9)) fun e w' => ∃ vi', e = .returned (.agg #[.int .i64 (q.lim : Int), vi', .bool false]) ∧ RIn w' vi' (its ++ newI (0, 0) [l]) (layF q (0, 0) [l]) ∧ Below (W0.alloc (.cells #[.string (str l)] 9)).heap.size (W0.alloc (.cells #[.string (str l)] 9)) w' ∧ ∀ g, vi'.ownBlock = some g → (W0.alloc (.cells #[.string (str l)] 9)).heap.size ≤ g) := by
        have h9 := refLaid_any (h.below (HC.out.at hbA).2.2.2.2) hq (Strs.one (w := W0) hl) 0 0 (by rw [sum_one]; omega)
        unfold refV at h9
        rw [hcl] at h9
        exact h9
      have HFin : Hid (∀ w' X vi', Below (W0.alloc (.cells #[.string (str l)] 9)).heap.size (W0.alloc (.cells #[.string (str l)] 9)) w' → RIn w' vi' (its ++ newI (0, 0) [l]) (layF q (0, 0) [l]) → (∀ g, vi'.ownBlock = some g → (W0.alloc (.cells #[.string (str l)] 9)).heap.size ≤ g) → Below w'.heap.size w' X → X.heap[N0 + 1]? = some (.cells #[.int .i64 0, .slice none 0 0, .bool false] 26 (0, 0)) ∧ RWent w (((X.setCell ⟨N0 + 1, 0, none⟩ (.int .i64 (q.lim : Int))).setCell ⟨N0 + 1, 1, none⟩ vi').setCell ⟨N0 + 1, 2, none⟩ (.bool true)) (.slice ai ni ci) vi' ⟨q.lim, true, q.bs ++ (l ++ [10]), q.os ++ List.replicate (l.length + 1) (0, 0)⟩) := by
        intro w' X vi' h1 h2 h3 h4
        have h5 : Below W0.heap.size W0 X := (hbA.trans (h1.mono hbA.size)).trans (h4.mono (Nat.le_trans hbA.size h1.size))
        obtain ⟨-, -, -, k4, k5⟩ := HC.out.at h5
        have ST := stored3 (x := .int .i64 (q.lim : Int)) (y := vi') (z := .bool true) k4
        have hs := HC.out.size
        have hn := HN0.out
        have hA := hbA.size
        have h6 := h2.below h4
        refine ⟨k4, its ++ newI (0, 0) [l], ⟨h6.row.keep fun g hg => ST.2.1 g (fun e => by have := h3 g hg; omega), h6.pos, ?_, ?_⟩, k5.trans (ST.2.2 _ (by omega)), fun g hg => .inr (by have := h3 g hg; omega)⟩
        · rw [h6.bs]
          simp [layF, flatF]
        · rw [h6.os]
          simp [layF, sum_one]
      rw [e1, e2]
      unfold refV
      show Calls _ _ _ _ (fun e w' => ∃ vi', e = .returned (.tuple #[.agg #[.int .i64 (q.lim : Int), vi', .bool true], .int .i64 0]) ∧ RWent w w' (.slice ai ni ci) vi' ⟨q.lim, true, q.bs ++ (l ++ [10]), q.os ++ List.replicate (l.length + 1) (0, 0)⟩)
      rw [hcl]
      obtain ⟨z, hz⟩ : ∃ z, str l = z := ⟨_, rfl⟩
      rw [hz] at HLi HLd HFin ⊢
      clear h pz hW0 hN0 hbA hz e1 e2 eb
      go_enter Try.func38, Try.ntmps38
      go_wp2_with fail
      rw [HW0.out, HN0.out]
      refine HLi.out.mono ?_
      rintro x w1 ⟨rfl, rfl⟩
      go_wp2_with fail
      refine HLd.out.mono ?_
      rintro x w2 ⟨vi', rfl, hri, hb2, hy2⟩
      obtain ⟨a3, n3, c3, rfl, -, -⟩ := hri.shape
      have HFi : Hid (∀ X, Below w2.heap.size w2 X → X.heap[N0 + 1]? = some (.cells #[.int .i64 0, .slice none 0 0, .bool false] 26 (0, 0)) ∧ RWent w (((X.setCell ⟨N0 + 1, 0, none⟩ (.int .i64 (q.lim : Int))).setCell ⟨N0 + 1, 1, none⟩ (.slice a3 n3 c3)).setCell ⟨N0 + 1, 2, none⟩ (.bool true)) (.slice ai ni ci) (.slice a3 n3 c3) ⟨q.lim, true, q.bs ++ (l ++ [10]), q.os ++ List.replicate (l.length + 1) (0, 0)⟩) := fun X hX => HFin.out w2 X _ hb2 hri hy2 hX
      have hne : N0 + 1 ≠ w2.heap.size := fun e => by
        have h1 := hb2.size
        have h2 : (W0.alloc (Obj.cells #[.string z] 9)).heap.size = W0.heap.size + 1 := by simp
        have h3 := HC.out.size
        omega
      have hne2 : w2.heap.size ≠ N0 + 1 := Ne.symm hne
      have hlt2 : N0 + 1 < w2.heap.size := by
        have h1 := hb2.size
        have h2 : (W0.alloc (Obj.cells #[.string z] 9)).heap.size = W0.heap.size + 1 := by simp
        have h3 := HC.out.size
        omega
      obtain ⟨z0', z1', z2', zf'⟩ := res_cells (HFi.out w2 (Below.refl _ _)).1
      have SF := stored3 (x := .int .i64 (q.lim : Int)) (y := .slice a3 n3 c3) (z := .bool true) (HFi.out w2 (Below.refl _ _)).1
      have HSF : Hid (∀ o, ((((w2.setCell ⟨N0 + 1, 0, none⟩ (.int .i64 (q.lim : Int))).setCell ⟨N0 + 1, 1, none⟩ (.slice a3 n3 c3)).setCell ⟨N0 + 1, 2, none⟩ (.bool true)).alloc o).cell? ⟨N0 + 1, 0, none⟩ = some (.int .i64 (q.lim : Int)) ∧ ((((w2.setCell ⟨N0 + 1, 0, none⟩ (.int .i64 (q.lim : Int))).setCell ⟨N0 + 1, 1, none⟩ (.slice a3 n3 c3)).setCell ⟨N0 + 1, 2, none⟩ (.bool true)).alloc o).cell? ⟨N0 + 1, 1, none⟩ = some (.slice a3 n3 c3) ∧ ((((w2.setCell ⟨N0 + 1, 0, none⟩ (.int .i64 (q.lim : Int))).setCell ⟨N0 + 1, 1, none⟩ (.slice a3 n3 c3)).setCell ⟨N0 + 1, 2, none⟩ (.bool true)).alloc o).cell? ⟨N0 + 1, 2, none⟩ = some (.bool true)) := fun o => cells_more SF.1 o
      clear hri hb2 hy2 p0 p1 p2 z0 z1 z2 zf HFin SF
      go_wp2_with fail
      obtain ⟨t0, t1, t2⟩ := HSF.out (.cells #[.int .i64 (q.lim : Int), .slice a3 n3 c3, .bool true] 26)
      refine bodyPost_ret (v := .tuple #[.agg #[.int .i64 (q.lim : Int), .slice a3 n3 c3, .bool true], .int .i64 0]) (by simp [results, Try.results38, go_sem, t0, t1, t2]) rfl ?_
      exact ⟨_, rfl, (HFi.out w2 (Below.refl _ _)).2.more ((Below.refl _ _).alloc (Nat.le_refl _) _)⟩
    · have e1 : endE q l = 141 := by unfold endE; rw [if_neg eb, if_pos hcl]
      have e2 : endQ q l = q := by unfold endQ; rw [e1]; rfl
      rw [e1, e2]
      rw [hcl] at HNo p2 HW0
      unfold refV
      rw [hcl]
      obtain ⟨z, hz⟩ : ∃ z, str l = z := ⟨_, rfl⟩
      rw [hz] at HLi ⊢
      clear h pz hW0 hN0 hbA hz e1 e2 eb
      go_enter Try.func38, Try.ntmps38
      go_wp2_with fail
      rw [HW0.out, HN0.out]
      refine HLi.out.mono ?_
      rintro x w1 ⟨rfl, rfl⟩
      go_wp2_with fail
      all_goals refine bodyPost_ret (v := .tuple #[.agg #[.int .i64 (q.lim : Int), .slice ai ni ci, .bool true], .int .i64 141]) (by simp [results, Try.results38, go_sem, z0, z1, z2]) rfl ?_
      all_goals exact ⟨_, rfl, HNo.out⟩

end Go.Proofs.Ytkpnolkbheoocaa
