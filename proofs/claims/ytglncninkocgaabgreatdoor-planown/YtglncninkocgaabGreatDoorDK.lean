/-
  Plans: Repane of the program, for every list and every panes.
  Plans: Repane of the program, walked.
-/
import Derived.Test.YtglncninkocgaabGreatDoorDE
namespace Go.Proofs.YtglncninkocgaabGreatDoor
open Go.RowKit
set_option linter.unusedVariables false
set_option maxRecDepth 20000

/-- Repane's error, and its list. -/
def repE (l : List CellV) (ps : List Int) : Int := if (readF l).isNone then 40 else if ps.length ≠ (idsOf l).length then 1 else if mayPut ps then 0 else 1
def repR (l : List CellV) (ps : List Int) : List CellV := if repE l ps = 0 then repL l ps else []
theorem rep_none {l : List CellV} (ps : List Int) (h : readF l = none) : repE l ps = 40 ∧ repR l ps = [] := by
  have e : repE l ps = 40 := by unfold repE; rw [h]; rfl
  exact ⟨e, by unfold repR; rw [e]; rfl⟩
theorem rep_len {l : List CellV} {t : Tree} {ps : List Int} (h : readF l = some t) (hl : ps.length ≠ (idsOf l).length) : repE l ps = 1 ∧ repR l ps = [] := by
  have e : repE l ps = 1 := by unfold repE; rw [h, if_neg (by simp), if_pos hl]
  exact ⟨e, by unfold repR; rw [e]; rfl⟩
theorem rep_bad {l : List CellV} {t : Tree} {ps : List Int} (h : readF l = some t) (hl : ps.length = (idsOf l).length) (hm : mayPut ps = false) : repE l ps = 1 ∧ repR l ps = [] ∧ checkE (repL l ps) = 40 := by
  have e : repE l ps = 1 := by unfold repE; rw [h, if_neg (by simp), if_neg (by simpa using hl), if_neg (by simp [hm])]
  exact ⟨e, by unfold repR; rw [e]; rfl, by rw [rep_read h ps hl, if_neg (by simp [hm])]⟩
theorem rep_good {l : List CellV} {t : Tree} {ps : List Int} (h : readF l = some t) (hl : ps.length = (idsOf l).length) (hm : mayPut ps = true) : repE l ps = 0 ∧ repR l ps = repL l ps ∧ checkE (repL l ps) = 0 := by
  have e : repE l ps = 0 := by unfold repE; rw [h, if_neg (by simp), if_neg (by simpa using hl), if_pos hm]
  exact ⟨e, by unfold repR; rw [if_pos e], by rw [rep_read h ps hl, if_pos hm]⟩

theorem ownsRow_set {w : World} {B s g n cap : Nat} {e : TypeId} {xs : List Value} (h : w.ownsRow B e s (.slice (some ⟨g, 0, none⟩) n cap) n xs) (k : Nat) (hk : k < xs.length) (u : Value) : (w.setCell ⟨g, k, none⟩ u).ownsRow B e s (.slice (some ⟨g, 0, none⟩) n cap) n (xs.set k u) := by
  obtain ⟨h0, h1⟩ := h
  refine ⟨by rw [List.length_set]; exact h0, ?_⟩
  rcases h1 with ⟨h2, _⟩ | ⟨g', cap', cur, h2, h3, h4, h5, h6, h7, h8⟩
  · cases h2
  · cases h2
    have hlt := lt_of_someN h4
    have h' : w.heap[g] = .cells cur e (0, 0) := by simpa [Array.getElem?_eq_getElem hlt] using h4
    refine .inr ⟨g, cap, cur.setIfInBounds k u, rfl, h3, ?_, h5, h6, by simpa using h7, ?_⟩
    · show (w.heap.modify g _)[g]? = _
      rw [Array.getElem?_eq_getElem (by simpa using hlt), Array.getElem_modify_self, h']
      rfl
    · rw [Array.toList_setIfInBounds, List.take_set, h8]
theorem ceCells_set (a b : List CellV) (x : CellV) (p : Int) : (ceCells (a ++ x :: b)).set (a.length * 7 + 6) (.int .i64 p) = ceCells (a ++ repC x p :: b) := by
  rw [ceCells_append, ceCells_append, List.set_append_right _ _ (by rw [ceCells_length]; omega), ceCells_length]
  congr 1
  rw [show a.length * 7 + 6 - a.length * 7 = 6 by omega]
  rfl
theorem ce_set {w : World} {B g n cap : Nat} {a b : List CellV} {x : CellV} (h : CeOwns w B (.slice (some ⟨g, 0, none⟩) n cap) (a ++ x :: b)) (p : Int) : CeOwns (w.setCell ⟨g, a.length * 7 + 6, none⟩ (.int .i64 p)) B (.slice (some ⟨g, 0, none⟩) n cap) (a ++ repC x p :: b) := by
  have hn : n = (a ++ x :: b).length := by
    rcases h.2 with ⟨h2, _⟩ | ⟨g', cap', cur, h2, _⟩
    · cases h2
    · injection h2
  have h' := h
  unfold CeOwns at h'
  rw [← hn] at h'
  have := ownsRow_set h' (a.length * 7 + 6) (by rw [ceCells_length]; simp; omega) (.int .i64 p)
  rw [ceCells_set] at this
  unfold CeOwns
  have e : (a ++ repC x p :: b).length = n := by rw [hn]; simp
  rw [e]
  exact this
theorem ce_cells {w : World} {B g n cap : Nat} {l : List CellV} (h : CeOwns w B (.slice (some ⟨g, 0, none⟩) n cap) l) (i : Nat) (c : CellV) (hi : l[i]? = some c) (o : Nat) (u : Value) (hu : c.vals[o]? = some u) : w.cell? ⟨g, i * 7 + o, none⟩ = some u ∧ w.frozen? ⟨g, i * 7 + o, none⟩ = false := by
  rcases h.2 with ⟨h2, _⟩ | ⟨g', cap', cur, h2, h3, h4, h5, h6, h7, h8⟩
  · cases h2
  · cases h2
    refine ⟨?_, by simp [World.frozen?, h4]⟩
    have hin := (CeOwns.cellsIn h)
    have hne : l ≠ [] := by rintro rfl; cases hi
    obtain ⟨b', o', cp', e1, _, hs⟩ := hin.seen hne
    cases e1
    have := HeadIn.cells (hs i c hi) o u hu
    simpa using this

theorem list_at {l : List CellV} {i : Nat} {c : CellV} (h : l[i]? = some c) : l = l.take i ++ c :: l.drop (i + 1) := by
  have hlt := (List.getElem?_eq_some_iff.1 h).1
  have e := (List.getElem?_eq_some_iff.1 h).2
  rw [← e, List.getElem_cons_drop, List.take_append_drop]
theorem rep_step {l : List CellV} {i : Nat} {c : CellV} (ps : List Int) (h : l[i]? = some c) : repL (l.take (i + 1)) ps = repL (l.take i) ps ++ (if c.kind = 1 then [repC c ((ps.drop (idsOf (l.take i)).length).headD 0)] else [c]) ∧ (idsOf (l.take (i + 1))).length = (idsOf (l.take i)).length + (if c.kind = 1 then 1 else 0) := by
  have e : l.take (i + 1) = l.take i ++ [c] := by
    rw [List.take_add_one, h]; rfl
  rw [e, repL_app, idsOf_app, List.length_append, idsOf_cons]
  refine ⟨?_, by split <;> rfl⟩
  rw [repL_cons]
  split <;> rfl
theorem ids_more {l : List CellV} {i : Nat} {c : CellV} (h : l[i]? = some c) (hk : c.kind = 1) : (idsOf (l.take i)).length < (idsOf l).length := by
  have e := list_at h
  have : idsOf l = idsOf (l.take i) ++ (c.p :: idsOf (l.drop (i + 1))) := by
    conv => lhs; rw [e]
    rw [idsOf_app, idsOf_cons, if_pos hk]
  rw [this]
  simp
end Go.Proofs.YtglncninkocgaabGreatDoor

namespace Go.Proofs.YtglncninkocgaabGreatDoor
open Go.RowKit
set_option linter.unusedVariables false
set_option maxRecDepth 20000

set_option maxHeartbeats 2000000 in
theorem repane_any (v u : Value) (l : List CellV) (ps : List Int) (w : World) (hv : CellsIn w v l) (hu : IntsIn w u ps) (hps : ps.length ≤ 1000000000000000) : Calls Tryz.prog 8 #[v, u] w fun e w' => ∃ sl, e = .returned (.tuple #[sl, .int .i64 (repE l ps)]) ∧ CeOwns w' w.heap.size sl (repR l ps) ∧ Below w.heap.size w w' := by
  have HC : Hid (Calls Tryz.prog 22 #[v] w fun e w' => e = .returned (.int .i64 (checkE l)) ∧ Below w.heap.size w w') := check_any v l w hv
  obtain ⟨ad, cu, rfl, hus⟩ := hu.shape
  obtain ⟨M, hM⟩ : ∃ M, ps.length = M := ⟨_, rfl⟩
  have hMb : M ≤ 1000000000000000 := by rw [← hM]; exact hps
  rw [hM]
  cases hr : readF l with
  | none =>
    have hE : checkE l = 40 := by unfold checkE; rw [hr]; rfl
    obtain ⟨e1, e2⟩ := rep_none ps hr
    rw [hE] at HC
    rw [e1, e2]
    clear hr hE e1 e2 hv hu hus
    go_enter Tryz.func8, Tryz.ntmps8
    go_wp2_with (go_at_call 22; refine HC.out.mono ?_; rintro e w1 ⟨rfl, hb1⟩)
    all_goals go_ret2
    exact ⟨_, rfl, World.ownsRow_nil _ _ _ _, hb1⟩
  | some t =>
    have hE : checkE l = 0 := by unfold checkE; rw [hr]; rfl
    rw [hE] at HC
    have hpl : panesL l = idsOf l := by unfold panesL; rw [hr]; rfl
    obtain ⟨K, hK⟩ : ∃ K, (idsOf l).length = K := ⟨_, rfl⟩
    obtain ⟨_, hK1, hK2, _, _⟩ := lay_ids hr
    have HP : Hid (∀ X, Below w.heap.size w X → Calls Tryz.prog 23 #[v] X fun e w' => ∃ z c, e = .returned (.slice z K c) ∧ Below X.heap.size X w') := fun X hX => by
      refine (panes_any v l X (hv.below hX)).mono ?_
      rintro e w' ⟨z, m, c, rfl, h1, _, h3⟩
      rw [hpl, hK] at h1
      subst h1
      exact ⟨z, c, rfl, h3⟩
    have hf := lay_fit hr
    have hne : l ≠ [] := by rintro rfl; have := hf.pos; simp at this
    obtain ⟨b, o, cp, rfl, hcp, hs⟩ := hv.seen hne
    obtain ⟨n, hn⟩ : ∃ n, l.length = n := ⟨_, rfl⟩
    have hn63 : n ≤ 63 := by rw [← hn]; exact hf.len
    rw [hn] at HC HP hv ⊢
    by_cases hlen : M = K
    · subst hlen
      have hl2 : ps.length = (idsOf l).length := by rw [hM, hK]
      have HCl : Hid (∀ X, Below w.heap.size w X → Calls Tryz.prog 24 #[.slice (some ⟨b, o, none⟩) n cp] X fun e w' => ∃ g c, e = .returned (.slice (some ⟨g, 0, none⟩) n c) ∧ w.heap.size ≤ g ∧ CeOwns w' w.heap.size (.slice (some ⟨g, 0, none⟩) n c) l ∧ Below X.heap.size X w') := fun X hX => by
        refine (clone_cells b o n cp l X (hv.below hX) (by omega) hn).mono ?_
        rintro e w' ⟨sl, rfl, ho, hb⟩
        rcases ho.2 with ⟨_, h0⟩ | ⟨g, c, cur, rfl, hg, h4, h5, h6, h7, h8⟩
        · have := hf.pos; omega
        · have ho2 : CeOwns w' w.heap.size (.slice (some ⟨g, 0, none⟩) l.length c) l := ⟨ho.1, .inr ⟨g, c, cur, rfl, Nat.le_trans hX.size hg, h4, h5, h6, h7, h8⟩⟩
          rw [hn] at ho2 ⊢
          exact ⟨g, c, rfl, Nat.le_trans hX.size hg, ho2, hb⟩
      obtain ⟨b2, o2, rfl, hpc⟩ : ∃ b2 o2, ad = some ⟨b2, o2, none⟩ ∧ ∀ (j : Nat) x, ps[j]? = some x → w.cell? ⟨b2, o2 + j, none⟩ = some (.int .i64 x) := by
        rcases hus with h0 | ⟨b2, o2, h1, h2⟩
        · rw [h0] at hM; simp at hM; omega
        · exact ⟨b2, o2, h1, h2⟩
      have HPs : Hid (∀ X, Below w.heap.size w X → ∀ (j : Nat) x, ps[j]? = some x → X.cell? ⟨b2, o2 + j, none⟩ = some (.int .i64 x)) := fun X hX j x hx => (hX.cell (p := ⟨b2, o2 + j, none⟩) (World.block_lt_of_cell? w _ (hpc j x hx))).trans (hpc j x hx)
      obtain ⟨E, hEE⟩ : ∃ E, checkE (repL l ps) = E := ⟨_, rfl⟩
      have HC2 : Hid (∀ x X, CellsIn X x (repL l ps) → Calls Tryz.prog 22 #[x] X fun e w' => e = .returned (.int .i64 E) ∧ Below X.heap.size X w') := fun x X hX => by rw [← hEE]; exact check_any x _ X hX
      have HRes : Hid ((E = 40 ∧ repE l ps = 1 ∧ repR l ps = []) ∨ (E = 0 ∧ repE l ps = 0 ∧ repR l ps = repL l ps)) := by
        cases hm : mayPut ps with
        | false => obtain ⟨x1, x2, x3⟩ := rep_bad hr hl2 hm; exact .inl ⟨by rw [← hEE]; exact x3, x1, x2⟩
        | true => obtain ⟨x1, x2, x3⟩ := rep_good hr hl2 hm; exact .inr ⟨by rw [← hEE]; exact x3, x1, x2⟩
      have HLn := hidden hn
      have HPl := hidden hM
      have HId := hidden hl2
      have hMM : ((M : Int) != (M : Int)) = false := by simp
      obtain ⟨RE, hRE⟩ : ∃ R, repE l ps = R := ⟨_, rfl⟩
      obtain ⟨RR, hRR⟩ : ∃ R, repR l ps = R := ⟨_, rfl⟩
      rw [hRE, hRR] at HRes
      rw [hRE, hRR]
      clear hr hE hpl hK hK1 hK2 hf hne hs hv hu hus hpc hM hEE hl2 hn hcp hRE hRR
      go_enter Tryz.func8, Tryz.ntmps8
      go_wp2_with (first
        | (go_at_call 24; refine (HCl.out _ H2.out).mono ?_; rintro e w3 ⟨g, c3, rfl, hg, ho3, hb3⟩; have HO3 := hidden ho3; have H3 := hidden (below_step H2.out hb3); have HG := hidden hg; clear ho3 hb3 hg)
        | (go_at_call 22; refine HC.out.mono ?_; rintro e w1 ⟨rfl, hb1⟩; have H1 := hidden hb1; clear hb1)
        | (go_at_call 23; refine (HP.out _ H1.out).mono ?_; rintro e w2 ⟨z, cz, rfl, hb2⟩; have H2 := hidden (below_step H1.out hb2); clear hb2))
      go_loopw [7, 22] (fun s7 s22 wr => ∃ i k : Nat, i ≤ n ∧ s22 = .int .i64 i ∧ s7 = .int .i64 k ∧ k ≤ M ∧ Hid ((idsOf (l.take i)).length = k) ∧ Hid (CeOwns wr w.heap.size (.slice (some ⟨g, 0, none⟩) n c3) (repL (l.take i) ps ++ l.drop i)) ∧ Hid (Below w.heap.size w wr)) (fun _ s22 _ => n - (intOf s22).toNat)
      case atStart => exact ⟨0, 0, Nat.zero_le _, rfl, rfl, Nat.zero_le _, rfl, by simpa [repL, Hid] using HO3.out, H3.out⟩
      case round =>
        obtain ⟨i, k, hi, rfl, rfl, hk, HKi, HOi, HBi⟩ := hrel
        by_cases hlt : i < n
        · obtain ⟨c, hc⟩ : ∃ c, l[i]? = some c := ⟨_, List.getElem?_eq_getElem (by rw [HLn.out]; exact hlt)⟩
          have hil : (repL (l.take i) ps).length = i := by rw [repL_length, List.length_take, HLn.out]; omega
          have hdr : l.drop i = c :: l.drop (i + 1) := by
            have h1 := (List.getElem?_eq_some_iff.1 hc).1
            have h2 := (List.getElem?_eq_some_iff.1 hc).2
            rw [← h2, List.getElem_cons_drop]
          have hci : (repL (l.take i) ps ++ l.drop i)[i]? = some c := by rw [List.getElem?_append_right (by omega), hil, Nat.sub_self, hdr]; rfl
          have q1 := (ce_cells HOi.out i c hci 1 (.int .i64 c.kind) rfl).1
          have hiz : (i : Int) < (n : Int) := by omega
          obtain ⟨hst, hct⟩ := rep_step ps hc
          by_cases hkd : c.kind = 1
          · have hkm : k < M := by
              have := ids_more hc hkd
              rw [HKi.out, ← HId.out, HPl.out] at this
              exact this
            obtain ⟨p, hp⟩ : ∃ p, ps[k]? = some p := ⟨_, List.getElem?_eq_getElem (by rw [HPl.out]; exact hkm)⟩
            have pk := HPs.out wr HBi.out k p hp
            have q6 := (ce_cells HOi.out i c hci 6 (.int .i64 c.p) rfl).1
            have f6 := (ce_cells HOi.out i c hci 6 (.int .i64 c.p) rfl).2
            rw [hkd] at q1
            have hkz : (k : Int) < (M : Int) := by omega
            have HKM := hidden hkm
            have HNx : Hid (CeOwns (wr.setCell ⟨g, i * 7 + 6, none⟩ (.int .i64 p)) w.heap.size (.slice (some ⟨g, 0, none⟩) n c3) (repL (l.take (i + 1)) ps ++ l.drop (i + 1))) := by
              have h := HOi.out
              rw [hdr] at h
              have h2 := ce_set h p
              rw [hil] at h2
              rw [hst, if_pos hkd, HKi.out]
              have e : (ps.drop k).headD 0 = p := by
                have h1 := (List.getElem?_eq_some_iff.1 hp).1
                have h2 := (List.getElem?_eq_some_iff.1 hp).2
                rw [← List.getElem_cons_drop h1, h2]
                rfl
              rw [e, List.append_assoc]
              exact h2
            have HBn : Hid (Below w.heap.size w (wr.setCell ⟨g, i * 7 + 6, none⟩ (.int .i64 p))) := Below.setCell HBi.out HG.out _
            have HKn : Hid ((idsOf (l.take (i + 1))).length = k + 1) := by show _ = _; rw [hct, if_pos hkd, HKi.out]
            clear hst hct hkd hci hdr hil hp hc
            go_wp2
            first
              | (go_roundw
                 case rel => exact ⟨i + 1, k + 1, by omega, by first | rfl | go_num, by first | rfl | go_num, HKM.out, HKn, HNx, HBn⟩
                 case measure => simp [intOf]; omega)
              | exact ⟨⟨i + 1, k + 1, by omega, by first | rfl | go_num, by first | rfl | go_num, HKM.out, HKn, HNx, HBn⟩, by simp [intOf]; omega⟩
          · have HNx : Hid (CeOwns wr w.heap.size (.slice (some ⟨g, 0, none⟩) n c3) (repL (l.take (i + 1)) ps ++ l.drop (i + 1))) := by
              have h := HOi.out
              rw [hdr] at h
              rw [hst, if_neg hkd, List.append_assoc]
              exact h
            have HKn : Hid ((idsOf (l.take (i + 1))).length = k) := by show _ = _; rw [hct, if_neg hkd, HKi.out]; rfl
            obtain ⟨kd, hkk⟩ : ∃ kd, c.kind = kd := ⟨_, rfl⟩
            rw [hkk] at q1 hkd
            clear hst hct hci hdr hil hc hkk
            go_wp2
            first
              | (go_roundw
                 case rel => exact ⟨i + 1, k, by omega, by first | rfl | go_num, rfl, by omega, HKn, HNx, HBi⟩
                 case measure => simp [intOf]; omega)
              | exact ⟨⟨i + 1, k, by omega, by first | rfl | go_num, rfl, by omega, HKn, HNx, HBi⟩, by simp [intOf]; omega⟩
        · have hin : i = n := by omega
          subst hin
          have hoo : CeOwns wr w.heap.size (.slice (some ⟨g, 0, none⟩) i c3) (repL l ps) := by
            have h := HOi.out
            rw [List.take_of_length_le (by rw [HLn.out]; omega), List.drop_of_length_le (by rw [HLn.out]; omega), List.append_nil] at h
            exact h
          have HOo := hidden hoo
          clear hoo
          rcases HRes.out with ⟨rfl, rfl, rfl⟩ | ⟨rfl, rfl, hR⟩
          · go_wp2_with (go_at_call 22; refine (HC2.out _ _ HOo.out.cellsIn).mono ?_; rintro e w5 ⟨rfl, hb5⟩)
            all_goals go_ret2
            exact ⟨_, rfl, World.ownsRow_nil _ _ _ _, below_step HBi.out hb5⟩
          · have HR2 := hidden hR
            clear hR
            go_wp2_with (go_at_call 22; refine (HC2.out _ _ HOo.out.cellsIn).mono ?_; rintro e w5 ⟨rfl, hb5⟩)
            all_goals go_ret2
            exact ⟨_, rfl, by rw [HR2.out]; exact HOo.out.below hb5, below_step HBi.out hb5⟩
    · obtain ⟨x1, x2⟩ := rep_len hr (ps := ps) (by rw [hM, hK]; exact hlen)
      rw [x1, x2]
      have hMM : ((M : Int) != (K : Int)) = true := by simp; omega
      have hMK : ¬ (M : Int) = (K : Int) := by omega
      clear hr hE hpl hK hK1 hK2 hf hne hs hv hu hus hM x1 x2 hn hcp hlen
      go_enter Tryz.func8, Tryz.ntmps8
      go_wp2_with (first
        | (go_at_call 22; refine HC.out.mono ?_; rintro e w1 ⟨rfl, hb1⟩; have H1 := hidden hb1; clear hb1)
        | (go_at_call 23; refine (HP.out _ H1.out).mono ?_; rintro e w2 ⟨z, cz, rfl, hb2⟩; have H2 := hidden (below_step H1.out hb2); clear hb2))
      all_goals go_ret2
      exact ⟨_, rfl, World.ownsRow_nil _ _ _ _, H2.out⟩
end Go.Proofs.YtglncninkocgaabGreatDoor
