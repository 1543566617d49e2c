/-
  Plans: behind Repane nothing but the panes has changed: the statement, walked.
-/
import Derived.Test.YtglncninkocgaaaGreatDoorDM
namespace Go.Proofs.YtglncninkocgaaaGreatDoor
open Go.RowKit
set_option linter.unusedVariables false
set_option maxRecDepth 100000

theorem rep_cases (l : List CellV) (ps : List Int) : (repE l ps ≠ 0 ∧ repR l ps = []) ∨ (repE l ps = 0 ∧ repR l ps = repL l ps ∧ checkE (repL l ps) = 0 ∧ panesL (repL l ps) = ps ∧ ps.length = (idsOf l).length ∧ 1 ≤ l.length ∧ l.length ≤ 63) := by
  cases hr : readF l with
  | none => obtain ⟨e1, e2⟩ := rep_none ps hr; exact .inl ⟨by rw [e1]; decide, e2⟩
  | some t =>
    by_cases hl : ps.length = (idsOf l).length
    · cases hm : mayPut ps with
      | false => obtain ⟨e1, e2, _⟩ := rep_bad hr hl hm; exact .inl ⟨by rw [e1]; decide, e2⟩
      | true =>
        obtain ⟨e1, e2, e3⟩ := rep_good hr hl hm
        have hf := lay_fit hr
        refine .inr ⟨e1, e2, e3, ?_, hl, hf.pos, hf.len⟩
        unfold panesL
        rw [if_pos, repL_ids l ps hl]
        unfold checkE at e3
        cases hq : readF (repL l ps) with
        | none => rw [hq] at e3; simp at e3
        | some u => rfl
    · obtain ⟨e1, e2⟩ := rep_len hr hl; exact .inl ⟨by rw [e1]; decide, e2⟩

set_option maxHeartbeats 4000000 in
theorem planOrder_walk (v u : Value) (l : List CellV) (ps : List Int) (w : World) (hv : CellsIn w v l) (hu : IntsIn w u ps) (hlp : ps.length * 8 ≤ 140737488351232) (hN : NumV w) : Calls Tryz.prog 5 #[v, u] w fun e w' => e = .returned (.bool true) ∧ Below w.heap.size w w' := by
  obtain ⟨E, hE⟩ : ∃ E, repE l ps = E := ⟨_, rfl⟩
  have HRp : Hid (Calls Tryz.prog 14 #[v, u] w fun e w' => ∃ sl, e = .returned (.tuple #[sl, .int .i64 E]) ∧ CeOwns w' w.heap.size sl (repR l ps) ∧ Below w.heap.size w w') := by rw [← hE]; exact repane_any v u l ps w hv hu (by omega)
  have HS : Hid (∀ X, Below w.heap.size w X → Calls Tryz.prog 10 #[] X fun e w' => e = .returned (.bool true) ∧ Below X.heap.size X w') := fun X hX => sure_true X (hN.below hX)
  rcases rep_cases l ps with ⟨h1, h2⟩ | ⟨h1, h2, h3, h4, h5, h6, h7⟩
  · rw [hE] at h1
    have hE2 : (E != 0) = true := by simpa using h1
    have HR2 := hidden h2
    clear hv hu hN hE h2
    go_enter Tryz.func5, Tryz.ntmps5
    go_wp2_with (first
      | (go_at_call 14; refine HRp.out.mono ?_; rintro e w3 ⟨sl3, rfl, ho3, hb3⟩; rw [HR2.out] at ho3; obtain ⟨ra, rc, rfl⟩ := ho3.cellsIn.nil; have H3 := hidden hb3; clear ho3 hb3)
      | (go_at_call 10; refine (HS.out _ H3.out).mono ?_; rintro e w8 ⟨rfl, hb8⟩))
    all_goals go_ret
    exact ⟨rfl, below_step H3.out hb8⟩
  · rw [hE] at h1
    subst h1
    rw [h2] at HRp
    have HPn : Hid (∀ x X, CellsIn X x (repL l ps) → Calls Tryz.prog 15 #[x] X fun e w' => ∃ z c, e = .returned (.slice z ps.length c) ∧ IOwns w' X.heap.size (.slice z ps.length c) ps ∧ Below X.heap.size X w') := fun x X hX => by
      refine (panes_any x _ X hX).mono ?_
      rintro e w' ⟨z, m, c, rfl, a1, a2, a3⟩
      rw [h4] at a1 a2
      subst a1
      exact ⟨z, c, rfl, a2, a3⟩
    have HCk : Hid (∀ x X, CellsIn X x (repL l ps) → Calls Tryz.prog 16 #[x] X fun e w' => e = .returned (.int .i64 0) ∧ Below X.heap.size X w') := fun x X hX => by rw [← h3]; exact check_ref x _ X hX
    have hne : l ≠ [] := by rintro rfl; simp at h6
    obtain ⟨b, o, cp, rfl, _, hs⟩ := hv.seen hne
    have HSn : Hid (∀ X, Below w.heap.size w X → SeenIn X b o l) := fun X hX => hs.below hX
    obtain ⟨n, hn⟩ : ∃ n, l.length = n := ⟨_, rfl⟩
    have HLn := hidden hn
    rw [hn] at h6 h7 HRp ⊢
    obtain ⟨ad, cu, rfl, hus⟩ := hu.shape
    obtain ⟨M, hM⟩ : ∃ M, ps.length = M := ⟨_, rfl⟩
    have HM := hidden hM
    have hMb : M ≤ 100000000000000 := by omega
    rw [hM] at HRp HPn hu ⊢
    have HUs := hidden hu
    have hMM : ((M : Int) != (M : Int)) = false := by simp
    have hnn : ((n : Int) != (n : Int)) = false := by simp
    have HRg : Hid (Calls Tryz.prog 14 #[.slice (some ⟨b, o, none⟩) n cp, .slice ad M cu] w fun e w' => ∃ g c, e = .returned (.tuple #[.slice (some ⟨g, 0, none⟩) n c, .int .i64 0]) ∧ CeOwns w' w.heap.size (.slice (some ⟨g, 0, none⟩) n c) (repL l ps) ∧ Below w.heap.size w w') := by
      refine HRp.out.mono ?_
      rintro e w' ⟨sl, rfl, ho, hb⟩
      have hlen : (repL l ps).length = n := by rw [repL_length, hn]
      rcases ho.2 with ⟨_, h0⟩ | ⟨g, c, cur, rfl, r⟩
      · omega
      · rw [hlen] at ho ⊢
        exact ⟨g, c, rfl, ho, hb⟩
    clear hv hu hN hE h2 h3 h4 h5 hne hs hn hM hus HRp hlp
    go_enter Tryz.func5, Tryz.ntmps5
    go_wp2_with (first
      | (go_at_call 14; refine HRg.out.mono ?_; rintro e w3 ⟨g, c3, rfl, ho3, hb3⟩; have H3 := hidden hb3; have HO3 := hidden ho3; clear ho3 hb3)
      | (go_at_call 15; refine (HPn.out _ _ HO3.out.cellsIn).mono ?_; rintro e w4 ⟨z, cz, rfl, hi4, hb4⟩; have HI4 := hidden hi4; have HO4 := hidden (HO3.out.below hb4); have H4 := hidden (below_step H3.out hb4); clear hi4 hb4)
      | (go_at_call 16; refine (HCk.out _ _ HO4.out.cellsIn).mono ?_; rintro e w5 ⟨rfl, hb5⟩; have HI5 := hidden (HI4.out.below hb5); have HO5 := hidden (HO4.out.below hb5); have H5 := hidden (below_step H4.out hb5); clear hb5))
    go_loopw [8] (fun s wr => ∃ i : Nat, i ≤ M ∧ s = .int .i64 i ∧ Hid (Below w5.heap.size w5 wr)) (fun s _ => M - (intOf s).toNat)
    case atStart => exact ⟨0, Nat.zero_le _, rfl, Below.refl _ _⟩
    case round =>
      obtain ⟨i, hi, rfl, HB⟩ := hrel
      by_cases hlt : i < M
      · obtain ⟨p, hp⟩ : ∃ p, ps[i]? = some p := ⟨_, List.getElem?_eq_getElem (by rw [HM.out]; exact hlt)⟩
        obtain ⟨ad1, cap1, e1, f1⟩ := (HUs.out.below (below_step H5.out HB.out)).shape
        obtain ⟨ad2, cap2, e2, f2⟩ := (HI5.out.below HB.out).intsIn.shape
        have hne : ps ≠ [] := by rintro rfl; cases hp
        rcases f1 with f1 | ⟨b1, o1, rfl, f1⟩
        · exact absurd f1 hne
        rcases f2 with f2 | ⟨b2, o2, rfl, f2⟩
        · exact absurd f2 hne
        injection e1 with e1 _ _
        injection e2 with e2 _ _
        subst e1
        subst e2
        have p1 := f1 i p hp
        have p2 := f2 i p hp
        have hiz : (i : Int) < (M : Int) := by omega
        have hpp : (p != p) = false := by simp
        clear hp hne f1 f2
        go_wp2
        go_quiet (fail)
        go_wp2
        go_roundw
        case rel => exact ⟨i + 1, by omega, by first | rfl | go_num, below_drewN HB.out _⟩
        case measure => simp [intOf]; omega
      · have hiM : i = M := by omega
        subst hiM
        have H6 := hidden (below_step H5.out HB.out)
        have HO6 := hidden (HO5.out.below HB.out)
        go_wp2
        go_loopw [9] (fun s wx => ∃ j : Nat, j ≤ n ∧ s = .int .i64 j ∧ Hid (Below w.heap.size w wx) ∧ Hid (CeOwns wx w.heap.size (.slice (some ⟨g, 0, none⟩) n c3) (repL l ps))) (fun s _ => n - (intOf s).toNat)
        case atStart => exact ⟨0, Nat.zero_le _, rfl, H6.out, HO6.out⟩
        case round =>
          obtain ⟨j, hj, rfl, HBj, HOj⟩ := hrel
          by_cases hjn : j < n
          · obtain ⟨c, hc⟩ : ∃ c, l[j]? = some c := ⟨_, List.getElem?_eq_getElem (by rw [HLn.out]; exact hjn)⟩
            obtain ⟨mc, hmc⟩ : ∃ c, (repL l ps)[j]? = some c := ⟨_, List.getElem?_eq_getElem (by rw [repL_length, HLn.out]; exact hjn)⟩
            have hat := repL_at l ps j c mc hc hmc
            obtain ⟨q, hq⟩ : ∃ q, mc = repC c q := ⟨mc.p, by rw [← hat]; rfl⟩
            subst hq
            have t0 := (ce_cells HOj.out j _ hmc 0 (.int .i64 c.depth) rfl).1
            have t1 := (ce_cells HOj.out j _ hmc 1 (.int .i64 c.kind) rfl).1
            have t2 := (ce_cells HOj.out j _ hmc 2 (.int .i64 c.x) rfl).1
            have t3 := (ce_cells HOj.out j _ hmc 3 (.int .i64 c.y) rfl).1
            have t4 := (ce_cells HOj.out j _ hmc 4 (.int .i64 c.w) rfl).1
            have t5 := (ce_cells HOj.out j _ hmc 5 (.int .i64 c.h) rfl).1
            have t6 := (ce_cells HOj.out j _ hmc 6 (.int .i64 q) rfl).1
            rw [Nat.add_zero] at t0
            obtain ⟨A, hA⟩ : ∃ A, wr.alloc (.cells #[.int .i64 c.depth, .int .i64 c.kind, .int .i64 c.x, .int .i64 c.y, .int .i64 c.w, .int .i64 c.h, .int .i64 q] 39) = A := ⟨_, rfl⟩
            have hA0 : A.heap[wr.heap.size]? = some (.cells (repC c q).vals 39 (0, 0)) := by rw [← hA]; exact blk_new wr (repC c q)
            obtain ⟨a0, a1, a2, a3, a4, a5, a6, a7⟩ := blk_cells hA0
            have hs2 := blk_set hA0 c.p
            obtain ⟨z0, z1, z2, z3, z4, z5, z6, z7⟩ := blk_cells hs2
            simp only [repC] at a0 a1 a2 a3 a4 a5 a6 z0 z1 z2 z3 z4 z5 z6
            have HBa : Hid (Below wr.heap.size wr A) := by rw [← hA]; exact (Below.refl _ _).alloc (Nat.le_refl _) _
            have HBs : Hid (Below wr.heap.size wr (A.setCell ⟨wr.heap.size, 6, none⟩ (.int .i64 c.p))) := Below.setCell HBa.out (Nat.le_refl _) _
            obtain ⟨_, _, _, _, _, _, y6⟩ := HSn.out _ (below_step HBj.out HBa.out) j c hc
            obtain ⟨A2, hA2⟩ : ∃ A2, A.setCell ⟨wr.heap.size, 6, none⟩ (.int .i64 c.p) = A2 := ⟨_, rfl⟩
            rw [hA2] at HBs z0 z1 z2 z3 z4 z5 z6 z7
            obtain ⟨p0, p1, p2, p3, p4, p5, p6⟩ := HSn.out _ (below_step HBj.out HBs.out) j c hc
            have HNx := hidden (below_step HBj.out HBs.out)
            have HON := hidden (HOj.out.below HBs.out)
            have hEq : ∀ W : World, (Op.equalIn 10000 39 (.agg #[.int .i64 c.depth, .int .i64 c.kind, .int .i64 c.x, .int .i64 c.y, .int .i64 c.w, .int .i64 c.h, .int .i64 c.p]) (.agg #[.int .i64 c.depth, .int .i64 c.kind, .int .i64 c.x, .int .i64 c.y, .int .i64 c.w, .int .i64 c.h, .int .i64 c.p])).run Tryz.prog W = .ok true W := fun W => by
              have := eqCe c c W
              rw [(ceEq_iff c c).2 rfl] at this
              exact this
            have hjz : (j : Int) < (n : Int) := by omega
            clear hc hmc hat hA0 hs2 z7
            go_wp2
            go_quiet (fail)
            go_wp2
            go_roundw
            case rel => exact ⟨j + 1, by omega, by first | rfl | go_num, below_drewN HNx.out _, HON.out.below (below_drewN (Below.refl _ _) _)⟩
            case measure => simp [intOf]; omega
          · have hjn2 : j = n := by omega
            subst hjn2
            go_wp2_with (go_at_call 10; refine (HS.out _ HBj.out).mono ?_; rintro e w8 ⟨rfl, hb8⟩)
            all_goals go_ret
            exact ⟨rfl, below_step HBj.out hb8⟩
end Go.Proofs.YtglncninkocgaaaGreatDoor
