/-
  Layouts: the program's Swap, walked.
  Layouts: the document's Swap.
-/
import Derived.Test.YtlaelkcmeaiajaaCWa
namespace Go.Proofs.Ytlaelkcmeaiajaa
open Go.RowKit
set_option linter.unusedVariables false
set_option maxRecDepth 100000

set_option maxHeartbeats 2000000 in
theorem swap_prog (v : Value) (l : List CellV) (a b : Int) (w : World) (h : CellsIn w v l) : Calls Try.prog 10 #[v, .int .i64 a, .int .i64 b] w fun e w' => ∃ u, e = .returned (.tuple #[u, .int .i64 (swapE l a b)]) ∧ CeOwns w' w.heap.size u (swapL l a b) ∧ Below w.heap.size w w' := by
  have HR : Hid (Calls Try.prog 22 #[v] w (ReadGood l w)) := read_any v l w h
  clear h
  go_enter Try.func10, Try.ntmps10
  go_wp2_with fail
  refine HR.out.mono ?_
  rintro e w1 (⟨hF, rfl, hb1⟩ | ⟨t, T, g, fp, hF, rfl, hAt, hnd, hge, hb1⟩)
  · have HE : Hid (swapE l a b = 40 ∧ swapL l a b = []) := swap_none a b hF
    have HB : Hid (Below w.heap.size w w1) := hb1
    unfold nilPart
    clear hF hb1
    go_wp2
    go_ret2
    exact ⟨_, by rw [HE.out.1]; rfl, by rw [HE.out.2]; exact World.ownsRow_nil _ _ _ _, HB.out⟩
  · have hl := readF_lay hF
    have hz : t.size ≤ 63 := by
      have h1 := t.tell_length 0
      rw [hl.tell] at h1
      have h2 := (read_lenS (by rw [hF]; rfl : (readF l).isSome = true)).1
      omega
    have hids := idl_told t 0 hl.kinds
    rw [hl.tell] at hids
    obtain ⟨T', gi, Fw, hP⟩ := hAt.partW hl.sound (by omega)
    have hval := hP.val
    cases hval
    have m1 := hP.mW
    have m2 := hP.fW
    have HcA : Hid (Calls Try.prog Fw #[.pointer (some ⟨g, 0, none⟩), .int .i64 a] w1 (WayGood w1 (.iface T (.pointer (some ⟨g, 0, none⟩))) t a w1)) := hP.cW a w1 (Below.refl _ _)
    have HcB : Hid (∀ X, Below w1.heap.size w1 X → Calls Try.prog Fw #[.pointer (some ⟨g, 0, none⟩), .int .i64 b] X (WayGood w1 (.iface T (.pointer (some ⟨g, 0, none⟩))) t b X)) := fun X hX => hP.cW b X hX
    have HMa : Hid (t.path a = none → swapE l a b = 42 ∧ swapL l a b = []) := fun e => swap_miss a b hF fun k => (path_mem t a).1 e (hids ▸ k.1)
    have HMb : Hid (t.path b = none → swapE l a b = 42 ∧ swapL l a b = []) := fun e => swap_miss a b hF fun k => (path_mem t b).1 e (hids ▸ k.2)
    have HEnd : Hid (∀ W gl1 gl2 ps1 ps2 s1 s2, Below w1.heap.size w1 W → t.path a = some ps1 → Reach w1 (.iface T (.pointer (some ⟨g, 0, none⟩))) ps1 (leafI gl1) s1 → t.path b = some ps2 → Reach w1 (.iface T (.pointer (some ⟨g, 0, none⟩))) ps2 (leafI gl2) s2 → (∃ p, W.cell? ⟨gl1, 4, none⟩ = some (.int .i64 p)) ∧ W.frozen? ⟨gl1, 4, none⟩ = false ∧ (∃ p, (W.setCell ⟨gl1, 4, none⟩ (.int .i64 b)).cell? ⟨gl2, 4, none⟩ = some (.int .i64 p)) ∧ W.frozen? ⟨gl2, 4, none⟩ = false ∧ Calls Try.prog 23 #[.iface T (.pointer (some ⟨g, 0, none⟩))] ((W.setCell ⟨gl1, 4, none⟩ (.int .i64 b)).setCell ⟨gl2, 4, none⟩ (.int .i64 a)) fun e w' => ∃ u, e = .returned u ∧ CeOwns w' w.heap.size u (swapL l a b) ∧ Below w.heap.size w w') := fun W gl1 gl2 ps1 ps2 s1 s2 hW p1 r1 p2 r2 => swap_end hF hAt hnd hge hb1 hW p1 r1 p2 r2
    have HZ : Hid (t.path a ≠ none → t.path b ≠ none → swapE l a b = 0) := fun k1 k2 => (swap_both a b hF (hids ▸ Classical.byContradiction fun e => k1 ((path_mem t a).2 e)) (hids ▸ Classical.byContradiction fun e => k2 ((path_mem t b).2 e))).1
    have HB1 : Hid (Below w.heap.size w w1) := hb1
    clear hF hAt hnd hge hb1 hl hz hids hP
    go_wp2_with fail
    refine HcA.out.mono ?_
    rintro e w2 ⟨hb2, ⟨hp, rfl⟩ | ⟨ps1, gl1, s1, sa, sn, sc, hp1, hr1, rfl, hst1⟩⟩
    · have HE : Hid (swapE l a b = 42 ∧ swapL l a b = []) := HMa.out hp
      have HB2 : Hid (Below w1.heap.size w1 w2) := hb2
      clear hb2 hp HMa HMb HEnd HcA HZ
      go_wp2_with fail
      refine (HcB.out _ HB2.out).mono ?_
      rintro e w3 ⟨hb3, ⟨hp, rfl⟩ | ⟨ps2, gl2, s2, sa', sn', sc', hp2, hr2, rfl, hst2⟩⟩
      · have HB3 : Hid (Below w.heap.size w w3) := below_step (below_step HB1.out HB2.out) hb3
        clear hb3 hp
        go_wp2
        go_ret2
        exact ⟨_, by rw [HE.out.1]; rfl, by rw [HE.out.2]; exact World.ownsRow_nil _ _ _ _, HB3.out⟩
      · have HB3 : Hid (Below w.heap.size w w3) := below_step (below_step HB1.out HB2.out) hb3
        clear hb3 hp2 hr2 hst2
        go_wp2
        go_ret2
        exact ⟨_, by rw [HE.out.1]; rfl, by rw [HE.out.2]; exact World.ownsRow_nil _ _ _ _, HB3.out⟩
    · have HB2 : Hid (Below w1.heap.size w1 w2) := hb2
      have HP1 : Hid (t.path a = some ps1 ∧ Reach w1 (.iface T (.pointer (some ⟨g, 0, none⟩))) ps1 (leafI gl1) s1) := ⟨hp1, hr1⟩
      clear hb2 hp1 hr1 hst1 HMa HcA
      go_wp2_with fail
      refine (HcB.out _ HB2.out).mono ?_
      rintro e w3 ⟨hb3, ⟨hp, rfl⟩ | ⟨ps2, gl2, s2, sa', sn', sc', hp2, hr2, rfl, hst2⟩⟩
      · have HB3 : Hid (Below w.heap.size w w3) := below_step (below_step HB1.out HB2.out) hb3
        have HE : Hid (swapE l a b = 42 ∧ swapL l a b = []) := HMb.out hp
        clear hb3 hp HEnd HZ HMb
        go_wp2
        go_ret2
        exact ⟨_, by rw [HE.out.1]; rfl, by rw [HE.out.2]; exact World.ownsRow_nil _ _ _ _, HB3.out⟩
      · have HB3 : Hid (Below w1.heap.size w1 w3) := below_step HB2.out hb3
        obtain ⟨⟨p, c1⟩, f1, ⟨p', c2⟩, f2, hlay⟩ := HEnd.out w3 gl1 gl2 ps1 ps2 s1 s2 HB3.out HP1.out.1 HP1.out.2 hp2 hr2
        have HL : Hid (Calls Try.prog 23 #[.iface T (.pointer (some ⟨g, 0, none⟩))] ((w3.setCell ⟨gl1, 4, none⟩ (.int .i64 b)).setCell ⟨gl2, 4, none⟩ (.int .i64 a)) fun e w' => ∃ u, e = .returned u ∧ CeOwns w' w.heap.size u (swapL l a b) ∧ Below w.heap.size w w') := hlay
        have HE : Hid (swapE l a b = 0) := HZ.out (by rw [HP1.out.1]; simp) (by rw [hp2]; simp)
        have f2' : (w3.setCell ⟨gl1, 4, none⟩ (.int .i64 b)).frozen? ⟨gl2, 4, none⟩ = false := by rw [frozen_set]; exact f2
        clear hb3 hp2 hr2 hst2 hlay HEnd HZ HMb HP1 HcB HB2 HB3 f2
        go_wp2_with fail
        refine HL.out.mono ?_
        rintro e w4 ⟨u, rfl, hu, hb4⟩
        have HU : Hid (CeOwns w4 w.heap.size u (swapL l a b)) := hu
        clear hu c1 c2 f1 f2' HL
        go_wp2
        go_ret2
        exact ⟨u, by rw [HE.out]; rfl, HU.out, hb4⟩

end Go.Proofs.Ytlaelkcmeaiajaa

namespace Go.Proofs.Ytlaelkcmeaiajaa
open Go.RowKit
set_option linter.unusedVariables false
set_option maxRecDepth 100000

set_option maxHeartbeats 4000000 in
theorem swap_ref (v : Value) (l : List CellV) (a b : Int) (w : World) (h : CellsIn w v l) : Calls Try.prog 11 #[v, .int .i64 a, .int .i64 b] w fun e w' => ∃ u, e = .returned (.tuple #[u, .int .i64 (swapE l a b)]) ∧ CeOwns w' w.heap.size u (swapL l a b) ∧ Below w.heap.size w w' := by
  have HT : Hid (Calls Try.prog 24 #[v] w (TreeGood l w)) := tree_any v l w h
  have HV : Hid (CellsIn w v l) := h
  clear h
  go_enter Try.func11, Try.ntmps11
  go_wp2_with fail
  refine HT.out.mono ?_
  rintro e w1 ⟨hb, ⟨hr, rfl⟩ | ⟨t, sa, sn, sc, fp, hr, rfl, hIn⟩⟩
  · have HE : Hid (swapE l a b = 40 ∧ swapL l a b = []) := swap_none a b hr
    have HB : Hid (∀ o, Below w.heap.size w (w1.alloc o)) := fun o => below_step hb ((Below.refl _ _).alloc (Nat.le_refl _) o)
    unfold zeroN
    clear hr hb
    go_wp2
    go_ret2
    exact ⟨_, by rw [HE.out.1]; rfl, by rw [HE.out.2]; exact World.ownsRow_nil _ _ _ _, HB.out _⟩
  · obtain ⟨g1, g2, g3, g4, g5⟩ := lay_ids hr
    have HB : Hid (∀ o, Below w.heap.size w (w1.alloc o)) := fun o => below_step hb ((Below.refl _ _).alloc (Nat.le_refl _) o)
    obtain ⟨hl63, hne⟩ := read_lenS (by rw [hr]; rfl : (readF l).isSome = true)
    obtain ⟨bk, off, cap, ev, _, hse⟩ := HV.out.seen hne
    obtain ⟨n, hn⟩ : ∃ n, l.length = n := ⟨_, rfl⟩
    rw [hn] at ev hl63
    subst ev
    have HN : Hid (l.length = n) := hn
    have HSe : Hid (∀ X, Below w.heap.size w X → SeenIn X bk off l) := fun X hX => hse.below hX
    obtain ⟨nn, hnn⟩ : ∃ x, nodeOf t = x := ⟨_, rfl⟩
    rw [hnn] at hIn g1 g5 ⊢
    have HId : Hid (∀ o, Calls Try.prog 25 #[.agg #[.int .i64 nn.k, .int .i64 nn.w, .int .i64 nn.h, .int .i64 nn.i, .slice sa sn sc]] (w1.alloc o) fun e w' => ∃ u, e = .returned u ∧ IOwns w' w.heap.size u (idsOf l) ∧ Below w.heap.size w w') := fun o => by
      refine (ids_good nn g5 _ fp (w1.alloc o) (hIn.below ((Below.refl _ _).alloc (Nat.le_refl _) o))).mono ?_
      rintro e w' ⟨u, rfl, h1, h2⟩
      rw [g1] at h1
      exact ⟨u, rfl, h1.lower (HB.out o).size, below_step (HB.out o) h2⟩
    have HMiss : Hid (¬ (a ∈ idsOf l ∧ b ∈ idsOf l) → swapE l a b = 42 ∧ swapL l a b = []) := fun k => swap_miss a b hr k
    have HBoth : Hid (a ∈ idsOf l → b ∈ idsOf l → swapE l a b = 0 ∧ swapL l a b = l.map (swapC a b)) := fun k1 k2 => swap_both a b hr k1 k2
    have HLen : Hid ((idsOf l).length ≤ 1000 ∧ idsOf l ≠ []) := ⟨by omega, by intro e; rw [e] at g2; simp at g2⟩
    unfold nodeV
    clear hr hb hIn g1 g2 g3 g4 g5 hnn hn hse hne HV HB
    go_wp2_with fail
    refine (HId.out _).mono ?_
    rintro e w2 ⟨u, rfl, h1, hb2⟩
    have HcA : Hid (Calls Try.prog 26 #[u, .int .i64 a] w2 fun e w' => e = .returned (.bool (decide (a ∈ idsOf l))) ∧ w2 = w') := has_any u _ _ a w2 h1 HLen.out.1 HLen.out.2
    have HcB : Hid (Calls Try.prog 26 #[u, .int .i64 b] w2 fun e w' => e = .returned (.bool (decide (b ∈ idsOf l))) ∧ w2 = w') := has_any u _ _ b w2 h1 HLen.out.1 HLen.out.2
    have HB2 : Hid (Below w.heap.size w w2) := hb2
    obtain ⟨ra, hra⟩ : ∃ r, decide (a ∈ idsOf l) = r := ⟨_, rfl⟩
    obtain ⟨rb, hrb⟩ : ∃ r, decide (b ∈ idsOf l) = r := ⟨_, rfl⟩
    rw [hra] at HcA
    rw [hrb] at HcB
    have HRa : Hid (decide (a ∈ idsOf l) = ra) := hra
    have HRb : Hid (decide (b ∈ idsOf l) = rb) := hrb
    clear h1 hb2 HId hra hrb
    cases ra
    · have HE : Hid (swapE l a b = 42 ∧ swapL l a b = []) := HMiss.out fun k => of_decide_eq_false HRa.out k.1
      clear HMiss HBoth HcB
      go_wp2_with fail
      refine HcA.out.mono ?_
      rintro e w3 ⟨rfl, rfl⟩
      go_wp2
      go_ret2
      exact ⟨_, by rw [HE.out.1]; rfl, by rw [HE.out.2]; exact World.ownsRow_nil _ _ _ _, HB2.out⟩
    · go_wp2_with fail
      refine HcA.out.mono ?_
      rintro e w3 ⟨rfl, rfl⟩
      go_wp2_with fail
      refine HcB.out.mono ?_
      rintro e w3 ⟨rfl, rfl⟩
      cases rb
      · have HE : Hid (swapE l a b = 42 ∧ swapL l a b = []) := HMiss.out fun k => of_decide_eq_false HRb.out k.2
        clear HMiss HBoth HcB HcA
        go_wp2
        go_ret2
        exact ⟨_, by rw [HE.out.1]; rfl, by rw [HE.out.2]; exact World.ownsRow_nil _ _ _ _, HB2.out⟩
      · have HE : Hid (swapE l a b = 0 ∧ swapL l a b = l.map (swapC a b)) := HBoth.out (of_decide_eq_true HRa.out) (of_decide_eq_true HRb.out)
        clear HMiss HBoth HcB HcA HRa HRb
        go_wp2
        go_loopw [11, 12] (fun vo v wr => ∃ i sa sn sc, i ≤ n ∧ vo = .slice sa sn sc ∧ v = .int .i64 (i : Nat) ∧ Hid (CeOwns wr w.heap.size (.slice sa sn sc) ((l.take i).map (swapC a b))) ∧ Hid (Below w.heap.size w wr)) (fun _ v _ => n - (intOf v).toNat)
        case atStart => exact ⟨0, none, 0, 0, Nat.zero_le _, rfl, rfl, World.ownsRow_nil _ _ _ _, HB2⟩
        case round =>
          obtain ⟨i, sa, sn, sc, hi, rfl, rfl, HOw, HBr⟩ := hrel
          by_cases hlt : i < n
          · obtain ⟨z, hz⟩ : ∃ z, l[i]? = some z := ⟨_, List.getElem?_eq_getElem (by rw [HN.out]; exact hlt)⟩
            obtain ⟨q0, q1, q2, q3, q4, q5, q6⟩ := (HSe.out wr HBr.out) i z hz
            have HO : Hid (∀ o, CeOwns (wr.alloc o) w.heap.size (.slice sa sn sc) ((l.take i).map (swapC a b))) := fun o => World.ownsRow.alloc HOw.out _
            have HBa : Hid (∀ o, Below w.heap.size w (wr.alloc o)) := fun o => below_step HBr.out ((Below.refl _ _).alloc (Nat.le_refl _) o)
            have HSz : Hid (∀ o, w.heap.size ≤ (wr.alloc o).heap.size) := fun o => (HBa.out o).size
            have HLe : Hid (((l.take i).map (swapC a b)).length ≤ 16777216) := by show _ ≤ _; rw [List.length_map, List.length_take]; omega
            have HTk : Hid ((l.take (i + 1)).map (swapC a b) = (l.take i).map (swapC a b) ++ [swapC a b z]) := by show _ = _; rw [List.take_add_one, hz, List.map_append]; rfl
            obtain ⟨cur, hcur⟩ : ∃ c, (l.take i).map (swapC a b) = c := ⟨_, rfl⟩
            rw [hcur] at HO HLe HTk
            clear hz hcur HOw
            by_cases ea : z.p = a
            · have e1 : (z.p == a) = true := by simpa using ea
              have HSw : Hid (swapC a b z = ⟨z.depth, z.kind, z.x, z.y, z.w, z.h, b⟩) := by show _ = _; unfold swapC swapI; rw [if_pos ea]
              rw [HSw.out] at HTk
              clear ea
              go_wp2_with (at_builtin; refine wpList_append_ce (wr.alloc (.cells #[.int .i64 z.depth, .int .i64 z.kind, .int .i64 z.x, .int .i64 z.y, .int .i64 z.w, .int .i64 z.h, .int .i64 b] 35)) rfl (.tmp 55) (.tmp 57) rfl w.heap.size (.slice sa sn sc) cur ⟨z.depth, z.kind, z.x, z.y, z.w, z.h, b⟩ ?x1 ?x2 ?x3 ?x4 ?x5 ?x6)
              case x1 => rfl
              case x2 => exact HO.out _
              case x3 => simp [Act.eval]
              case x4 => exact HLe.out
              case x5 => exact HSz.out _
              case x6 =>
                intro u' w4 a1 a2
                have HB4 : Hid (Below w.heap.size w w4) := CeOwns.grownO a2 (HO.out _) w (HBa.out _) (HSz.out _)
                have HO4 : Hid (CeOwns w4 w.heap.size u' ((l.take (i + 1)).map (swapC a b))) := by
                  show CeOwns _ _ _ _
                  rw [HTk.out]
                  exact a1
                have hsl : ∃ x y z, u' = .slice x y z := (own_sl5 a1).elim fun x hx => hx.elim fun y hy => ⟨x, _, y, hy⟩
                clear a1 a2
                obtain ⟨sb, sm, sd, hsl'⟩ := hsl
                subst hsl'
                go_wp2
                go_roundw
                case rel => exact ⟨i + 1, _, _, _, by omega, rfl, by go_num, HO4, HB4⟩
                case measure => simp [intOf]; omega
            · have e1 : (z.p == a) = false := by simpa using ea
              by_cases eb : z.p = b
              · have e2 : (z.p == b) = true := by simpa using eb
                have HSw : Hid (swapC a b z = ⟨z.depth, z.kind, z.x, z.y, z.w, z.h, a⟩) := by show _ = _; unfold swapC swapI; rw [if_neg ea, if_pos eb]
                rw [HSw.out] at HTk
                clear ea eb
                go_wp2_with (at_builtin; refine wpList_append_ce (wr.alloc (.cells #[.int .i64 z.depth, .int .i64 z.kind, .int .i64 z.x, .int .i64 z.y, .int .i64 z.w, .int .i64 z.h, .int .i64 a] 35)) rfl (.tmp 55) (.tmp 57) rfl w.heap.size (.slice sa sn sc) cur ⟨z.depth, z.kind, z.x, z.y, z.w, z.h, a⟩ ?x1 ?x2 ?x3 ?x4 ?x5 ?x6)
                case x1 => rfl
                case x2 => exact HO.out _
                case x3 => simp [Act.eval]
                case x4 => exact HLe.out
                case x5 => exact HSz.out _
                case x6 =>
                  intro u' w4 a1 a2
                  have HB4 : Hid (Below w.heap.size w w4) := CeOwns.grownO a2 (HO.out _) w (HBa.out _) (HSz.out _)
                  have HO4 : Hid (CeOwns w4 w.heap.size u' ((l.take (i + 1)).map (swapC a b))) := by
                    show CeOwns _ _ _ _
                    rw [HTk.out]
                    exact a1
                  have hsl : ∃ x y z, u' = .slice x y z := (own_sl5 a1).elim fun x hx => hx.elim fun y hy => ⟨x, _, y, hy⟩
                  clear a1 a2
                  obtain ⟨sb, sm, sd, hsl'⟩ := hsl
                  subst hsl'
                  go_wp2
                  go_roundw
                  case rel => exact ⟨i + 1, _, _, _, by omega, rfl, by go_num, HO4, HB4⟩
                  case measure => simp [intOf]; omega
              · have e2 : (z.p == b) = false := by simpa using eb
                have HSw : Hid (swapC a b z = ⟨z.depth, z.kind, z.x, z.y, z.w, z.h, z.p⟩) := by show _ = _; unfold swapC swapI; rw [if_neg ea, if_neg eb]
                rw [HSw.out] at HTk
                clear ea eb
                go_wp2_with (at_builtin; refine wpList_append_ce (wr.alloc (.cells #[.int .i64 z.depth, .int .i64 z.kind, .int .i64 z.x, .int .i64 z.y, .int .i64 z.w, .int .i64 z.h, .int .i64 z.p] 35)) rfl (.tmp 55) (.tmp 57) rfl w.heap.size (.slice sa sn sc) cur ⟨z.depth, z.kind, z.x, z.y, z.w, z.h, z.p⟩ ?x1 ?x2 ?x3 ?x4 ?x5 ?x6)
                case x1 => rfl
                case x2 => exact HO.out _
                case x3 => simp [Act.eval]
                case x4 => exact HLe.out
                case x5 => exact HSz.out _
                case x6 =>
                  intro u' w4 a1 a2
                  have HB4 : Hid (Below w.heap.size w w4) := CeOwns.grownO a2 (HO.out _) w (HBa.out _) (HSz.out _)
                  have HO4 : Hid (CeOwns w4 w.heap.size u' ((l.take (i + 1)).map (swapC a b))) := by
                    show CeOwns _ _ _ _
                    rw [HTk.out]
                    exact a1
                  have hsl : ∃ x y z, u' = .slice x y z := (own_sl5 a1).elim fun x hx => hx.elim fun y hy => ⟨x, _, y, hy⟩
                  clear a1 a2
                  obtain ⟨sb, sm, sd, hsl'⟩ := hsl
                  subst hsl'
                  go_wp2
                  go_roundw
                  case rel => exact ⟨i + 1, _, _, _, by omega, rfl, by go_num, HO4, HB4⟩
                  case measure => simp [intOf]; omega
          · have hin : i = n := by omega
            subst hin
            have HL : Hid ((l.take i).map (swapC a b) = swapL l a b) := by show _ = _; rw [HE.out.2, List.take_of_length_le (by rw [HN.out]; exact Nat.le_refl _)]
            go_wp2
            go_ret2
            exact ⟨_, by rw [HE.out.1]; rfl, by rw [← HL.out]; exact HOw.out, HBr.out⟩

end Go.Proofs.Ytlaelkcmeaiajaa
