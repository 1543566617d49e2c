/-
  Plans: the document's Repane, for every list and every panes.
  Plans: the document's Repane, walked.
-/
import Derived.Test.YtglncninkocgaabGreatDoorDK
import Derived.Test.YtglncninkocgaabGreatDoorCY
import Derived.BigQuiet
namespace Go.Proofs.YtglncninkocgaabGreatDoor
open Go.RowKit
set_option linter.unusedVariables false
set_option maxRecDepth 20000

/-- A cell in a block of its own. -/
theorem blk_new (w : World) (c : CellV) : (w.alloc (.cells c.vals 36)).heap[w.heap.size]? = some (.cells c.vals 36 (0, 0)) := (MapKept.heap_alloc w _).1
theorem blk_set {w : World} {g : Nat} {c : CellV} (h : w.heap[g]? = some (.cells c.vals 36 (0, 0))) (p : Int) : (w.setCell ⟨g, 6, none⟩ (.int .i64 p)).heap[g]? = some (.cells (repC c p).vals 36 (0, 0)) := by
  have hlt := lt_of_someN h
  have h' : w.heap[g] = .cells c.vals 36 (0, 0) := by simpa [Array.getElem?_eq_getElem hlt] using h
  show (w.heap.modify g _)[g]? = _
  rw [Array.getElem?_eq_getElem (by simpa using hlt), Array.getElem_modify_self, h']
  rfl
theorem blk_cells {w : World} {g : Nat} {c : CellV} (h : w.heap[g]? = some (.cells c.vals 36 (0, 0))) : w.cell? ⟨g, 0, none⟩ = some (.int .i64 c.depth) ∧ w.cell? ⟨g, 1, none⟩ = some (.int .i64 c.kind) ∧ w.cell? ⟨g, 2, none⟩ = some (.int .i64 c.x) ∧ w.cell? ⟨g, 3, none⟩ = some (.int .i64 c.y) ∧ w.cell? ⟨g, 4, none⟩ = some (.int .i64 c.w) ∧ w.cell? ⟨g, 5, none⟩ = some (.int .i64 c.h) ∧ w.cell? ⟨g, 6, none⟩ = some (.int .i64 c.p) ∧ w.frozen? ⟨g, 6, none⟩ = false :=
  ⟨cell_atN h 0, cell_atN h 1, cell_atN h 2, cell_atN h 3, cell_atN h 4, cell_atN h 5, cell_atN h 6, by simp [World.frozen?, h]⟩
theorem cellsIn_one (w : World) (c : CellV) : CellsIn (w.alloc (.cells c.vals 36)) (.slice (some ⟨w.heap.size, 0, none⟩) 1 1) [c] := by
  refine ⟨_, _, rfl, Nat.le_refl _, .inr ⟨w.heap.size, 0, rfl, fun j u hu => ?_⟩⟩
  rw [Nat.zero_add, cell_atN (blk_new w c) j]
  have e : ceCells [c] = c.vals.toList := by simp [ceCells]
  rw [e, Array.getElem?_toList] at hu
  exact hu

theorem may_take {ps : List Int} {i : Nat} {p : Int} (h : ps[i]? = some p) (h1 : ∀ j x, j < i → ps[j]? = some x → idB x = true) (h2 : ∀ j k x, j < k → k < i → ps[j]? = some x → ps[k]? ≠ some x) (h3 : ∀ j x, j < i → ps[j]? = some x → x ≠ p) : ∀ j k x, j < k → k < i + 1 → ps[j]? = some x → ps[k]? ≠ some x := by
  intro j k x hj hk hx e
  by_cases hki : k < i
  · exact h2 j k x hj hki hx e
  · have : k = i := by omega
    subst this
    rw [h] at e
    exact h3 j x hj hx (Option.some.inj e).symm
theorem may_all {ps : List Int} (h1 : ∀ j x, j < ps.length → ps[j]? = some x → idB x = true) (h2 : ∀ j k x, j < k → k < ps.length → ps[j]? = some x → ps[k]? ≠ some x) : mayPut ps = true := by
  unfold mayPut
  simp only [Bool.and_eq_true, List.all_eq_true, decide_eq_true_eq]
  refine ⟨fun x hx => ?_, ?_⟩
  · obtain ⟨j, hj, e⟩ := List.getElem_of_mem hx
    exact h1 j x hj (by rw [List.getElem?_eq_getElem hj, e])
  · rw [List.nodup_iff_pairwise_ne, List.pairwise_iff_getElem]
    intro j k hj hk hjk e
    exact h2 j k ps[j] hjk hk (List.getElem?_eq_getElem hj) (by rw [List.getElem?_eq_getElem hk, e])
theorem may_two {ps : List Int} {j k : Nat} {x : Int} (hjk : j < k) (h1 : ps[j]? = some x) (h2 : ps[k]? = some x) : mayPut ps = false := by
  rw [Bool.eq_false_iff]
  intro h
  unfold mayPut at h
  simp only [Bool.and_eq_true, decide_eq_true_eq] at h
  obtain ⟨a1, a2⟩ := List.getElem?_eq_some_iff.1 h1
  obtain ⟨b1, b2⟩ := List.getElem?_eq_some_iff.1 h2
  have hn := h.2
  rw [List.nodup_iff_pairwise_ne, List.pairwise_iff_getElem] at hn
  exact hn j k a1 b1 hjk (a2.trans b2.symm)
theorem may_out {ps : List Int} {j : Nat} {x : Int} (h1 : ps[j]? = some x) (h2 : idB x = false) : mayPut ps = false := by
  rw [Bool.eq_false_iff]
  intro h
  unfold mayPut at h
  simp only [Bool.and_eq_true, List.all_eq_true] at h
  rw [h.1 x (List.mem_of_getElem? h1)] at h2
  cases h2
end Go.Proofs.YtglncninkocgaabGreatDoor

namespace Go.Proofs.YtglncninkocgaabGreatDoor
open Go.RowKit
set_option linter.unusedVariables false
set_option maxRecDepth 20000

set_option maxHeartbeats 4000000 in
theorem refRepane_any (v u : Value) (l : List CellV) (ps : List Int) (w : World) (hv : CellsIn w v l) (hu : IntsIn w u ps) (hps : ps.length ≤ 1000000000000000) : Calls Tryz.prog 5 #[v, u] w fun e w' => ∃ sl, e = .returned (.tuple #[sl, .int .i64 (repE l ps)]) ∧ CeOwns w' w.heap.size sl (repR l ps) ∧ Below w.heap.size w w' := by
  have HC : Hid (Calls Tryz.prog 11 #[v] w fun e w' => e = .returned (.int .i64 (checkE l)) ∧ Below w.heap.size w w') := check_ref v l w hv
  obtain ⟨ad, cu, rfl, hus⟩ := hu.shape
  obtain ⟨M, hM⟩ : ∃ M, ps.length = M := ⟨_, rfl⟩
  have hMb : M ≤ 1000000000000000 := by rw [← hM]; exact hps
  rw [hM]
  cases hr : readF l with
  | none =>
    have hE : checkE l = 40 := by unfold checkE; rw [hr]; rfl
    obtain ⟨e1, e2⟩ := rep_none ps hr
    rw [hE] at HC
    rw [e1, e2]
    clear hr hE e1 e2 hv hu hus
    go_enter Tryz.func5, Tryz.ntmps5
    go_wp2_with (go_at_call 11; refine HC.out.mono ?_; rintro e w1 ⟨rfl, hb1⟩)
    all_goals go_ret2
    exact ⟨_, rfl, World.ownsRow_nil _ _ _ _, hb1⟩
  | some t =>
    have hE : checkE l = 0 := by unfold checkE; rw [hr]; rfl
    rw [hE] at HC
    have hpl : panesL l = idsOf l := by unfold panesL; rw [hr]; rfl
    obtain ⟨K, hK⟩ : ∃ K, (idsOf l).length = K := ⟨_, rfl⟩
    obtain ⟨_, hK1, hK2, _, _⟩ := lay_ids hr
    have HP : Hid (∀ X, Below w.heap.size w X → Calls Tryz.prog 15 #[v] X fun e w' => ∃ z c, e = .returned (.slice z K c) ∧ Below X.heap.size X w') := fun X hX => by
      refine (panes_ref v l X (hv.below hX)).mono ?_
      rintro e w' ⟨x, rfl, h1, h3⟩
      rw [hpl] at h1
      obtain ⟨z, c, hz⟩ := own_sl5 h1
      rw [hz, hK]
      exact ⟨z, c, rfl, h3⟩
    have hf := lay_fit hr
    have hne : l ≠ [] := by rintro rfl; have := hf.pos; simp at this
    obtain ⟨b, o, cp, rfl, hcp, hs⟩ := hv.seen hne
    obtain ⟨n, hn⟩ : ∃ n, l.length = n := ⟨_, rfl⟩
    have hn63 : n ≤ 63 := by rw [← hn]; exact hf.len
    rw [hn] at HC HP hv ⊢
    by_cases hlen : M = K
    · subst hlen
      have hl2 : ps.length = (idsOf l).length := by rw [hM, hK]
      obtain ⟨b2, o2, rfl, hpc⟩ : ∃ b2 o2, ad = some ⟨b2, o2, none⟩ ∧ ∀ (j : Nat) x, ps[j]? = some x → w.cell? ⟨b2, o2 + j, none⟩ = some (.int .i64 x) := by
        rcases hus with h0 | ⟨b2, o2, h1, h2⟩
        · rw [h0] at hM; simp at hM; omega
        · exact ⟨b2, o2, h1, h2⟩
      have HPs : Hid (∀ X, Below w.heap.size w X → ∀ (j : Nat) x, ps[j]? = some x → X.cell? ⟨b2, o2 + j, none⟩ = some (.int .i64 x)) := fun X hX j x hx => (hX.cell (p := ⟨b2, o2 + j, none⟩) (World.block_lt_of_cell? w _ (hpc j x hx))).trans (hpc j x hx)
      have HSn : Hid (∀ X, Below w.heap.size w X → SeenIn X b o l) := fun X hX => hs.below hX
      have HBad : Hid (mayPut ps = false → repE l ps = 1 ∧ repR l ps = []) := fun hm => by obtain ⟨x1, x2, x3⟩ := rep_bad hr hl2 hm; exact ⟨x1, x2⟩
      have HGood : Hid (mayPut ps = true → repE l ps = 0 ∧ repR l ps = repL l ps) := fun hm => by obtain ⟨x1, x2, x3⟩ := rep_good hr hl2 hm; exact ⟨x1, x2⟩
      have HLn := hidden hn
      have HPl := hidden hM
      have HId := hidden hl2
      have hMM : ((M : Int) != (M : Int)) = false := by simp
      obtain ⟨RE, hRE⟩ : ∃ R, repE l ps = R := ⟨_, rfl⟩
      obtain ⟨RR, hRR⟩ : ∃ R, repR l ps = R := ⟨_, rfl⟩
      rw [hRE, hRR] at HBad HGood
      rw [hRE, hRR]
      clear hr hE hpl hK hK1 hK2 hf hne hs hv hu hus hpc hM hl2 hn hcp hRE hRR hps
      go_enter Tryz.func5, Tryz.ntmps5
      go_wp2_with (first
        | (go_at_call 11; refine HC.out.mono ?_; rintro e w1 ⟨rfl, hb1⟩; have H1 := hidden hb1; clear hb1)
        | (go_at_call 15; refine (HP.out _ H1.out).mono ?_; rintro e w2 ⟨z, cz, rfl, hb2⟩; have H2 := hidden (below_step H1.out hb2); clear hb2))
      go_loopw [6] (fun s6 wr => ∃ i : Nat, i ≤ M ∧ s6 = .int .i64 i ∧ Hid (∀ j x, j < i → ps[j]? = some x → idB x = true) ∧ Hid (∀ j k x, j < k → k < i → ps[j]? = some x → ps[k]? ≠ some x) ∧ Hid (Below w.heap.size w wr)) (fun s6 _ => M - (intOf s6).toNat)
      case atStart => exact ⟨0, Nat.zero_le _, rfl, fun j x hj => by omega, fun j k x hj hk => by omega, H2.out⟩
      case round =>
        obtain ⟨i, hi, rfl, HA, HD, HB⟩ := hrel
        by_cases hlt : i < M
        · obtain ⟨p, hp⟩ : ∃ p, ps[i]? = some p := ⟨_, List.getElem?_eq_getElem (by rw [HPl.out]; exact hlt)⟩
          have HPi := hidden hp
          have hiz : (i : Int) < (M : Int) := by omega
          clear hp
          go_wp2
          go_loopw [7] (fun s7 wx => ∃ k : Nat, k ≤ i ∧ s7 = .int .i64 k ∧ Hid (∀ j x, j < k → ps[j]? = some x → x ≠ p) ∧ Hid (Below w.heap.size w wx)) (fun s7 _ => i - (intOf s7).toNat)
          case atStart => exact ⟨0, Nat.zero_le _, rfl, fun j x hj => by omega, HB.out⟩
          case round =>
            obtain ⟨k, hk, rfl, HJ, HBk⟩ := hrel
            have pi := HPs.out _ HBk.out i p HPi.out
            by_cases hkl : k < i
            · obtain ⟨x, hx⟩ : ∃ x, ps[k]? = some x := ⟨_, List.getElem?_eq_getElem (by rw [HPl.out]; omega)⟩
              have HX := hidden hx
              have pk := HPs.out _ HBk.out k x hx
              have hkz : (k : Int) < (i : Int) := by omega
              have hkm : (k : Int) < (M : Int) := by omega
              clear hx
              by_cases hxp : x = p
              · obtain ⟨x1, x2⟩ := HBad.out (may_two hkl HX.out (by rw [hxp]; exact HPi.out))
                subst x1
                subst x2
                subst hxp
                go_wp2
                go_quiet (fail)
                go_wp2
                go_ret2
                exact ⟨_, rfl, World.ownsRow_nil _ _ _ _, below_drewN HBk.out _⟩
              · have HNx : Hid (∀ j y, j < k + 1 → ps[j]? = some y → y ≠ p) := fun j y hj hy => by
                  by_cases hjk : j < k
                  · exact HJ.out j y hjk hy
                  · have : j = k := by omega
                    subst this
                    rw [HX.out] at hy
                    rw [← Option.some.inj hy]
                    exact hxp
                have hxb : (x == p) = false := by simpa using hxp
                go_wp2
                go_quiet (fail)
                go_wp2
                first
                  | (go_roundw
                     case rel => exact ⟨k + 1, by omega, by first | rfl | go_num, HNx, below_drewN HBk.out _⟩
                     case measure => simp [intOf]; omega)
                  | exact ⟨⟨k + 1, by omega, by first | rfl | go_num, HNx, below_drewN HBk.out _⟩, by simp [intOf]; omega⟩
            · have hki : k = i := by omega
              subst hki
              have hkz : ¬ (k : Int) < (k : Int) := by omega
              by_cases hp1 : p < 1
              · obtain ⟨x1, x2⟩ := HBad.out (may_out HPi.out (by unfold idB; simp; omega))
                subst x1
                subst x2
                go_wp2
                all_goals go_ret2
                exact ⟨_, rfl, World.ownsRow_nil _ _ _ _, by first | exact HBk.out | exact below_drewN HBk.out _⟩
              · by_cases hp2 : (4611686018427387904 : Int) < p
                · obtain ⟨x1, x2⟩ := HBad.out (may_out HPi.out (by unfold idB; simp; omega))
                  subst x1
                  subst x2
                  go_wp2
                  all_goals go_ret2
                  exact ⟨_, rfl, World.ownsRow_nil _ _ _ _, by first | exact HBk.out | exact below_drewN HBk.out _⟩
                · have HA2 : Hid (∀ j x, j < k + 1 → ps[j]? = some x → idB x = true) := fun j x hj hx => by
                    by_cases hjk : j < k
                    · exact HA.out j x hjk hx
                    · have : j = k := by omega
                      subst this
                      rw [HPi.out] at hx
                      rw [← Option.some.inj hx]
                      unfold idB
                      simp
                      omega
                  have HD2 : Hid (∀ j q x, j < q → q < k + 1 → ps[j]? = some x → ps[q]? ≠ some x) := may_take HPi.out HA.out HD.out HJ.out
                  go_wp2
                  first
                    | (go_roundw
                       case rel => exact ⟨k + 1, by omega, by first | rfl | go_num, HA2, HD2, by first | exact HBk.out | exact below_drewN HBk.out _⟩
                       case measure => simp [intOf]; omega)
                    | exact ⟨⟨k + 1, by omega, by first | rfl | go_num, HA2, HD2, by first | exact HBk.out | exact below_drewN HBk.out _⟩, by simp [intOf]; omega⟩
        · have hiM : i = M := by omega
          subst hiM
          obtain ⟨x1, x2⟩ := HGood.out (may_all (by rw [HPl.out]; exact HA.out) (by rw [HPl.out]; exact HD.out))
          subst x1
          have HRR := hidden x2
          clear x2
          go_wp2
          go_loopw [8, 9, 10] (fun s8 s9 s10 wx => ∃ (j k : Nat) (sa : Option Addr) (sn sc : Nat), j ≤ n ∧ s10 = .int .i64 j ∧ s9 = .int .i64 k ∧ k ≤ i ∧ Hid ((idsOf (l.take j)).length = k) ∧ s8 = .slice sa sn sc ∧ Hid (CeOwns wx w.heap.size (.slice sa sn sc) (repL (l.take j) ps)) ∧ Hid (Below w.heap.size w wx)) (fun _ _ s10 _ => n - (intOf s10).toNat)
          case atStart => exact ⟨0, 0, none, 0, 0, Nat.zero_le _, rfl, rfl, Nat.zero_le _, rfl, rfl, World.ownsRow_nil _ _ _ _, HB.out⟩
          case round =>
            obtain ⟨j, k, sa, sn, sc, hj, rfl, rfl, hk, HKi, rfl, HO, HBj⟩ := hrel
            by_cases hjn : j < n
            · obtain ⟨c, hc⟩ : ∃ c, l[j]? = some c := ⟨_, List.getElem?_eq_getElem (by rw [HLn.out]; exact hjn)⟩
              obtain ⟨q0, q1, q2, q3, q4, q5, q6⟩ := HSn.out _ HBj.out j c hc
              obtain ⟨hst, hct⟩ := rep_step ps hc
              have hjz : (j : Int) < (n : Int) := by omega
              have hjl : (repL (l.take j) ps).length ≤ 63 := by rw [repL_length, List.length_take]; omega
              have HJL := hidden hjl
              by_cases hkd : c.kind = 1
              · have hkm : k < i := by
                  have := ids_more hc hkd
                  rw [HKi.out, ← HId.out, HPl.out] at this
                  exact this
                have HKM := hidden hkm
                have hkz : (k : Int) < (i : Int) := by omega
                obtain ⟨p, hp⟩ : ∃ p, ps[k]? = some p := ⟨_, List.getElem?_eq_getElem (by rw [HPl.out]; exact hkm)⟩
                have HBn := hidden (below_step HBj.out ((Below.refl _ _).alloc (Nat.le_refl _) (.cells c.vals 36)))
                have pk : (wr.alloc (.cells #[.int .i64 c.depth, .int .i64 1, .int .i64 c.x, .int .i64 c.y, .int .i64 c.w, .int .i64 c.h, .int .i64 c.p] 36)).cell? ⟨b2, o2 + k, none⟩ = some (.int .i64 p) := by
                  have h := HPs.out _ HBn.out k p hp
                  unfold CellV.vals at h
                  rw [hkd] at h
                  exact h
                have HOne : Hid (repL (l.take (j + 1)) ps = repL (l.take j) ps ++ [repC c p]) := by
                  show _ = _
                  rw [hst, if_pos hkd, HKi.out]
                  have h1 := (List.getElem?_eq_some_iff.1 hp).1
                  have h2 := (List.getElem?_eq_some_iff.1 hp).2
                  rw [← List.getElem_cons_drop h1, h2]
                  rfl
                have HKn : Hid ((idsOf (l.take (j + 1))).length = k + 1) := by show _ = _; rw [hct, if_pos hkd, HKi.out]
                obtain ⟨A, hA⟩ : ∃ A, wr.alloc (.cells #[.int .i64 c.depth, .int .i64 1, .int .i64 c.x, .int .i64 c.y, .int .i64 c.w, .int .i64 c.h, .int .i64 c.p] 36) = A := ⟨_, rfl⟩
                have hA0 : A.heap[wr.heap.size]? = some (.cells c.vals 36 (0, 0)) := by
                  rw [← hA]
                  have h := blk_new wr c
                  unfold CellV.vals at h ⊢
                  rw [hkd] at h ⊢
                  exact h
                obtain ⟨a0, a1, a2, a3, a4, a5, a6, a7⟩ := blk_cells hA0
                obtain ⟨z0, z1, z2, z3, z4, z5, z6, z7⟩ := blk_cells (blk_set hA0 p)
                simp only [repC] at z0 z1 z2 z3 z4 z5 z6
                rw [hkd] at q1 a1 z1
                rw [hA] at pk
                have HBa : Hid (Below wr.heap.size wr A) := by rw [← hA]; exact (Below.refl _ _).alloc (Nat.le_refl _) _
                have HBs : Hid (Below wr.heap.size wr (A.setCell ⟨wr.heap.size, 6, none⟩ (.int .i64 p))) := Below.setCell HBa.out (Nat.le_refl _) _
                obtain ⟨A2, hA2⟩ : ∃ A2, A.setCell ⟨wr.heap.size, 6, none⟩ (.int .i64 p) = A2 := ⟨_, rfl⟩
                rw [hA2] at HBs z0 z1 z2 z3 z4 z5 z6 z7
                have HO2 : Hid (CeOwns (A2.alloc (.cells (repC c p).vals 36)) w.heap.size (.slice sa sn sc) (repL (l.take j) ps)) := (HO.out.below HBs.out).below ((Below.refl _ _).alloc (Nat.le_refl _) _)
                have HC1 : Hid (CellsIn (A2.alloc (.cells (repC c p).vals 36)) (.slice (some ⟨A2.heap.size, 0, none⟩) 1 1) [repC c p]) := cellsIn_one A2 (repC c p)
                have HB3 : Hid (Below w.heap.size w (A2.alloc (.cells (repC c p).vals 36))) := below_step (below_step HBj.out HBs.out) ((Below.refl _ _).alloc (Nat.le_refl _) _)
                unfold CellV.vals repC at HO2 HC1 HB3
                simp only [] at HO2 HC1 HB3
                rw [hkd] at HO2 HC1 HB3
                have HOne2 : Hid (repL (l.take (j + 1)) ps = repL (l.take j) ps ++ [⟨c.depth, 1, c.x, c.y, c.w, c.h, p⟩]) := by show _ = _; rw [HOne.out]; unfold repC; rw [hkd]
                have HSz : Hid (w.heap.size ≤ (A2.alloc (.cells #[.int .i64 c.depth, .int .i64 1, .int .i64 c.x, .int .i64 c.y, .int .i64 c.w, .int .i64 c.h, .int .i64 p] 36)).heap.size) := HB3.out.size
                clear hst hct hkd hc hp hA0 hjl hkm HBn
                go_wp2_with (at_builtin; refine wpList_append_cells _ rfl _ _ rfl w.heap.size (.slice sa sn sc) (repL (l.take j) ps) ?y1 HO2.out HSz.out (.slice (some ⟨A2.heap.size, 0, none⟩) 1 1) [⟨c.depth, 1, c.x, c.y, c.w, c.h, p⟩] ?y2 HC1.out (.inr ⟨_, _, _, rfl⟩) ?y3 ?_; (case y1 => simp [Act.eval]); (case y2 => simp [Act.eval]); (case y3 => have := HJL.out; simp; omega); intro v' w' k2 k3; obtain ⟨sa2, sn2, sc2, rfl⟩ := ce_slice k2; have HN : Hid (CeOwns w' w.heap.size (.slice sa2 sn2 sc2) (repL (l.take (j + 1)) ps)) := (by rw [HOne2.out]; exact k2); have HB4 : Hid (Below w.heap.size w w') := HB3.out.grown k3 HB3.out.size (fun q hq => (World.ownsRow.lt HO2.out q hq).1); clear k2 k3)
                first
                  | (go_roundw
                     case rel => exact ⟨j + 1, k + 1, sa2, sn2, sc2, by omega, by first | rfl | go_num, by first | rfl | go_num, HKM.out, HKn, rfl, HN, HB4⟩
                     case measure => simp [intOf]; omega)
                  | exact ⟨⟨j + 1, k + 1, sa2, sn2, sc2, by omega, by first | rfl | go_num, by first | rfl | go_num, HKM.out, HKn, rfl, HN, HB4⟩, by simp [intOf]; omega⟩
              · obtain ⟨kd, hkk⟩ : ∃ kd, c.kind = kd := ⟨_, rfl⟩
                have HKM := hidden hk
                have hnk : ¬ kd = 1 := by rw [← hkk]; exact hkd
                have hnb : (kd == 1) = false := by simpa using hnk
                have HKn : Hid ((idsOf (l.take (j + 1))).length = k) := by show _ = _; rw [hct, if_neg hkd, HKi.out]; rfl
                have HOne2 : Hid (repL (l.take (j + 1)) ps = repL (l.take j) ps ++ [⟨c.depth, kd, c.x, c.y, c.w, c.h, c.p⟩]) := by show _ = _; rw [hst, if_neg hkd, ← hkk]
                obtain ⟨A, hA⟩ : ∃ A, wr.alloc (.cells #[.int .i64 c.depth, .int .i64 kd, .int .i64 c.x, .int .i64 c.y, .int .i64 c.w, .int .i64 c.h, .int .i64 c.p] 36) = A := ⟨_, rfl⟩
                have hA0 : A.heap[wr.heap.size]? = some (.cells c.vals 36 (0, 0)) := by
                  rw [← hA]
                  have h := blk_new wr c
                  unfold CellV.vals at h ⊢
                  rw [hkk] at h ⊢
                  exact h
                obtain ⟨a0, a1, a2, a3, a4, a5, a6, a7⟩ := blk_cells hA0
                rw [hkk] at q1 a1
                have HBa : Hid (Below wr.heap.size wr A) := by rw [← hA]; exact (Below.refl _ _).alloc (Nat.le_refl _) _
                have HO2 : Hid (CeOwns (A.alloc (.cells c.vals 36)) w.heap.size (.slice sa sn sc) (repL (l.take j) ps)) := (HO.out.below HBa.out).below ((Below.refl _ _).alloc (Nat.le_refl _) _)
                have HC1 : Hid (CellsIn (A.alloc (.cells c.vals 36)) (.slice (some ⟨A.heap.size, 0, none⟩) 1 1) [⟨c.depth, c.kind, c.x, c.y, c.w, c.h, c.p⟩]) := cellsIn_one A c
                have HB3 : Hid (Below w.heap.size w (A.alloc (.cells c.vals 36))) := below_step (below_step HBj.out HBa.out) ((Below.refl _ _).alloc (Nat.le_refl _) _)
                unfold CellV.vals at HO2 HC1 HB3
                rw [hkk] at HO2 HC1 HB3
                have HSz : Hid (w.heap.size ≤ (A.alloc (.cells #[.int .i64 c.depth, .int .i64 kd, .int .i64 c.x, .int .i64 c.y, .int .i64 c.w, .int .i64 c.h, .int .i64 c.p] 36)).heap.size) := HB3.out.size
                clear hst hct hkd hc hA0 hjl hkk
                go_wp2_with (at_builtin; refine wpList_append_cells _ rfl _ _ rfl w.heap.size (.slice sa sn sc) (repL (l.take j) ps) ?y1 HO2.out HSz.out (.slice (some ⟨A.heap.size, 0, none⟩) 1 1) [⟨c.depth, kd, c.x, c.y, c.w, c.h, c.p⟩] ?y2 HC1.out (.inr ⟨_, _, _, rfl⟩) ?y3 ?_; (case y1 => simp [Act.eval]); (case y2 => simp [Act.eval]); (case y3 => have := HJL.out; simp; omega); intro v' w' k2 k3; obtain ⟨sa2, sn2, sc2, rfl⟩ := ce_slice k2; have HN : Hid (CeOwns w' w.heap.size (.slice sa2 sn2 sc2) (repL (l.take (j + 1)) ps)) := (by rw [HOne2.out]; exact k2); have HB4 : Hid (Below w.heap.size w w') := HB3.out.grown k3 HB3.out.size (fun q hq => (World.ownsRow.lt HO2.out q hq).1); clear k2 k3)
                first
                  | (go_roundw
                     case rel => exact ⟨j + 1, k, sa2, sn2, sc2, by omega, by first | rfl | go_num, by first | rfl | go_num, HKM.out, HKn, rfl, HN, HB4⟩
                     case measure => simp [intOf]; omega)
                  | exact ⟨⟨j + 1, k, sa2, sn2, sc2, by omega, by first | rfl | go_num, by first | rfl | go_num, HKM.out, HKn, rfl, HN, HB4⟩, by simp [intOf]; omega⟩
            · have hjn2 : j = n := by omega
              subst hjn2
              have HF : Hid (CeOwns wr w.heap.size (.slice sa sn sc) RR) := by
                have h := HO.out
                rw [List.take_of_length_le (by rw [HLn.out]; omega)] at h
                rw [HRR.out]
                exact h
              go_wp2
              all_goals go_ret2
              exact ⟨_, rfl, HF.out, HBj.out⟩
    · obtain ⟨x1, x2⟩ := rep_len hr (ps := ps) (by rw [hM, hK]; exact hlen)
      rw [x1, x2]
      have hMM : ((K : Int) != (M : Int)) = true := by simp; omega
      have hMK : ¬ (K : Int) = (M : Int) := by omega
      clear hr hE hpl hK hK1 hK2 hf hne hs hv hu hus hM x1 x2 hn hcp hlen
      go_enter Tryz.func5, Tryz.ntmps5
      go_wp2_with (first
        | (go_at_call 11; refine HC.out.mono ?_; rintro e w1 ⟨rfl, hb1⟩; have H1 := hidden hb1; clear hb1)
        | (go_at_call 15; refine (HP.out _ H1.out).mono ?_; rintro e w2 ⟨z, cz, rfl, hb2⟩; have H2 := hidden (below_step H1.out hb2); clear hb2))
      all_goals go_ret2
      exact ⟨_, rfl, World.ownsRow_nil _ _ _ _, H2.out⟩
end Go.Proofs.YtglncninkocgaabGreatDoor
