/-
  Layouts: the program's Swap, walked.
  Layouts: the law of what is cut and closed again, swapped and swapped back.
-/
import Derived.Test.YtnepemlagnnngaaCWa
import Derived.Test.YtnepemlagnnngaaCSz
import Derived.Test.YtnepemlagnnngaaCBp
import Derived.Test.YtnepemlagnnngaaCWo
import Derived.Test.YtnepemlagnnngaaCOp
namespace Go.Proofs.Ytnepemlagnnngaa
open Go.RowKit
set_option linter.unusedVariables false
set_option maxRecDepth 100000

set_option maxHeartbeats 2000000 in
theorem swap_prog (v : Value) (l : List CellV) (a b : Int) (w : World) (h : CellsIn w v l) : Calls Try.prog 23 #[v, .int .i64 a, .int .i64 b] w fun e w' => ∃ u, e = .returned (.tuple #[u, .int .i64 (swapE l a b)]) ∧ CeOwns w' w.heap.size u (swapL l a b) ∧ Below w.heap.size w w' := by
  have HR : Hid (Calls Try.prog 24 #[v] w (ReadGood l w)) := read_any v l w h
  clear h
  go_enter Try.func23, Try.ntmps23
  go_wp2_with fail
  refine HR.out.mono ?_
  rintro e w1 (⟨hF, rfl, hb1⟩ | ⟨t, T, g, fp, hF, rfl, hAt, hnd, hge, hb1⟩)
  · have HE : Hid (swapE l a b = 40 ∧ swapL l a b = []) := swap_none a b hF
    have HB : Hid (Below w.heap.size w w1) := hb1
    unfold nilPart
    clear hF hb1
    go_wp2
    go_ret2
    exact ⟨_, by rw [HE.out.1]; rfl, by rw [HE.out.2]; exact World.ownsRow_nil _ _ _ _, HB.out⟩
  · have hl := readF_lay hF
    have hz : t.size ≤ 63 := by
      have h1 := t.tell_length 0
      rw [hl.tell] at h1
      have h2 := (read_lenS (by rw [hF]; rfl : (readF l).isSome = true)).1
      omega
    have hids := idl_told t 0 hl.kinds
    rw [hl.tell] at hids
    obtain ⟨T', gi, Fw, hP⟩ := hAt.partW hl.sound (by omega)
    have hval := hP.val
    cases hval
    have m1 := hP.mW
    have m2 := hP.fW
    have HcA : Hid (Calls Try.prog Fw #[.pointer (some ⟨g, 0, none⟩), .int .i64 a] w1 (WayGood w1 (.iface T (.pointer (some ⟨g, 0, none⟩))) t a w1)) := hP.cW a w1 (Below.refl _ _)
    have HcB : Hid (∀ X, Below w1.heap.size w1 X → Calls Try.prog Fw #[.pointer (some ⟨g, 0, none⟩), .int .i64 b] X (WayGood w1 (.iface T (.pointer (some ⟨g, 0, none⟩))) t b X)) := fun X hX => hP.cW b X hX
    have HMa : Hid (t.path a = none → swapE l a b = 42 ∧ swapL l a b = []) := fun e => swap_miss a b hF fun k => (path_mem t a).1 e (hids ▸ k.1)
    have HMb : Hid (t.path b = none → swapE l a b = 42 ∧ swapL l a b = []) := fun e => swap_miss a b hF fun k => (path_mem t b).1 e (hids ▸ k.2)
    have HEnd : Hid (∀ W gl1 gl2 ps1 ps2 s1 s2, Below w1.heap.size w1 W → t.path a = some ps1 → Reach w1 (.iface T (.pointer (some ⟨g, 0, none⟩))) ps1 (leafI gl1) s1 → t.path b = some ps2 → Reach w1 (.iface T (.pointer (some ⟨g, 0, none⟩))) ps2 (leafI gl2) s2 → (∃ p, W.cell? ⟨gl1, 4, none⟩ = some (.int .i64 p)) ∧ W.frozen? ⟨gl1, 4, none⟩ = false ∧ (∃ p, (W.setCell ⟨gl1, 4, none⟩ (.int .i64 b)).cell? ⟨gl2, 4, none⟩ = some (.int .i64 p)) ∧ W.frozen? ⟨gl2, 4, none⟩ = false ∧ Calls Try.prog 31 #[.iface T (.pointer (some ⟨g, 0, none⟩))] ((W.setCell ⟨gl1, 4, none⟩ (.int .i64 b)).setCell ⟨gl2, 4, none⟩ (.int .i64 a)) fun e w' => ∃ u, e = .returned u ∧ CeOwns w' w.heap.size u (swapL l a b) ∧ Below w.heap.size w w') := fun W gl1 gl2 ps1 ps2 s1 s2 hW p1 r1 p2 r2 => swap_end hF hAt hnd hge hb1 hW p1 r1 p2 r2
    have HZ : Hid (t.path a ≠ none → t.path b ≠ none → swapE l a b = 0) := fun k1 k2 => (swap_both a b hF (hids ▸ Classical.byContradiction fun e => k1 ((path_mem t a).2 e)) (hids ▸ Classical.byContradiction fun e => k2 ((path_mem t b).2 e))).1
    have HB1 : Hid (Below w.heap.size w w1) := hb1
    clear hF hAt hnd hge hb1 hl hz hids hP
    go_wp2_with fail
    refine HcA.out.mono ?_
    rintro e w2 ⟨hb2, ⟨hp, rfl⟩ | ⟨ps1, gl1, s1, sa, sn, sc, hp1, hr1, rfl, hst1⟩⟩
    · have HE : Hid (swapE l a b = 42 ∧ swapL l a b = []) := HMa.out hp
      have HB2 : Hid (Below w1.heap.size w1 w2) := hb2
      clear hb2 hp HMa HMb HEnd HcA HZ
      go_wp2_with fail
      refine (HcB.out _ HB2.out).mono ?_
      rintro e w3 ⟨hb3, ⟨hp, rfl⟩ | ⟨ps2, gl2, s2, sa', sn', sc', hp2, hr2, rfl, hst2⟩⟩
      · have HB3 : Hid (Below w.heap.size w w3) := below_step (below_step HB1.out HB2.out) hb3
        clear hb3 hp
        go_wp2
        go_ret2
        exact ⟨_, by rw [HE.out.1]; rfl, by rw [HE.out.2]; exact World.ownsRow_nil _ _ _ _, HB3.out⟩
      · have HB3 : Hid (Below w.heap.size w w3) := below_step (below_step HB1.out HB2.out) hb3
        clear hb3 hp2 hr2 hst2
        go_wp2
        go_ret2
        exact ⟨_, by rw [HE.out.1]; rfl, by rw [HE.out.2]; exact World.ownsRow_nil _ _ _ _, HB3.out⟩
    · have HB2 : Hid (Below w1.heap.size w1 w2) := hb2
      have HP1 : Hid (t.path a = some ps1 ∧ Reach w1 (.iface T (.pointer (some ⟨g, 0, none⟩))) ps1 (leafI gl1) s1) := ⟨hp1, hr1⟩
      clear hb2 hp1 hr1 hst1 HMa HcA
      go_wp2_with fail
      refine (HcB.out _ HB2.out).mono ?_
      rintro e w3 ⟨hb3, ⟨hp, rfl⟩ | ⟨ps2, gl2, s2, sa', sn', sc', hp2, hr2, rfl, hst2⟩⟩
      · have HB3 : Hid (Below w.heap.size w w3) := below_step (below_step HB1.out HB2.out) hb3
        have HE : Hid (swapE l a b = 42 ∧ swapL l a b = []) := HMb.out hp
        clear hb3 hp HEnd HZ HMb
        go_wp2
        go_ret2
        exact ⟨_, by rw [HE.out.1]; rfl, by rw [HE.out.2]; exact World.ownsRow_nil _ _ _ _, HB3.out⟩
      · have HB3 : Hid (Below w1.heap.size w1 w3) := below_step HB2.out hb3
        obtain ⟨⟨p, c1⟩, f1, ⟨p', c2⟩, f2, hlay⟩ := HEnd.out w3 gl1 gl2 ps1 ps2 s1 s2 HB3.out HP1.out.1 HP1.out.2 hp2 hr2
        have HL : Hid (Calls Try.prog 31 #[.iface T (.pointer (some ⟨g, 0, none⟩))] ((w3.setCell ⟨gl1, 4, none⟩ (.int .i64 b)).setCell ⟨gl2, 4, none⟩ (.int .i64 a)) fun e w' => ∃ u, e = .returned u ∧ CeOwns w' w.heap.size u (swapL l a b) ∧ Below w.heap.size w w') := hlay
        have HE : Hid (swapE l a b = 0) := HZ.out (by rw [HP1.out.1]; simp) (by rw [hp2]; simp)
        have f2' : (w3.setCell ⟨gl1, 4, none⟩ (.int .i64 b)).frozen? ⟨gl2, 4, none⟩ = false := by rw [frozen_set]; exact f2
        clear hb3 hp2 hr2 hst2 hlay HEnd HZ HMb HP1 HcB HB2 HB3 f2
        go_wp2_with fail
        refine HL.out.mono ?_
        rintro e w4 ⟨u, rfl, hu, hb4⟩
        have HU : Hid (CeOwns w4 w.heap.size u (swapL l a b)) := hu
        clear hu c1 c2 f1 f2' HL
        go_wp2
        go_ret2
        exact ⟨u, by rw [HE.out]; rfl, HU.out, hb4⟩

end Go.Proofs.Ytnepemlagnnngaa

namespace Go.Proofs.Ytnepemlagnnngaa
open Go.RowKit
set_option linter.unusedVariables false
set_option maxRecDepth 100000

theorem path_subB (q : Int) : ∀ (ps : List Nat) (t : Tree), t.path q = some ps → ∃ bl, t.subAt ps = some (.leaf bl q)
  | ps, .leaf b p, hp => by
    unfold Tree.path at hp
    split at hp
    · rename_i e
      cases hp
      exact ⟨b, by rw [show q = p from by simpa using e.symm]; rfl⟩
    · cases hp
  | ps, .split b k ts, hp => by
    unfold Tree.path at hp
    obtain ⟨i, s, ps', e, hi, hps⟩ := pathAll_inv q ts 0 _ hp
    rw [Nat.zero_add] at e
    subst e
    have hlt : s.size < (Tree.split b k ts).size := by
      have := sizes_at ts i s hi
      show s.size < 1 + sizes ts
      omega
    obtain ⟨bl, h⟩ := path_subB q ps' s hps
    exact ⟨bl, sub_cons hi h⟩
  termination_by ps t => t.size

theorem join_zero {l : List CellV} {id : Int} (h : joinE l id = 0) : idB id = true ∧ id ∉ idsOf l ∧ (idsOf l).length ≠ 32 := by
  unfold joinE at h
  split at h
  · cases h
  · rename_i h1
    split at h
    · cases h
    · rename_i h2
      refine ⟨?_, ?_, h2⟩
      · cases hi : idB id with
        | true => rfl
        | false => exact absurd (.inl hi) h1
      · intro hin
        exact h1 (.inr (by simpa using hin))

/-- What Split answers, and the list behind it. -/
theorem split_prog (l : List CellV) {t : Tree} (hF : readF l = some t) (q k z id : Int) (bf : Bool) : ∃ er r, (∀ v X, CellsIn X v l → Calls Try.prog 8 #[v, .int .i64 q, .int .i64 k, .int .i64 z, .bool bf, .int .i64 id] X (Ans2 er r X)) ∧ ((er ≠ 0 ∧ r = []) ∨ (er = 0 ∧ (k = 2 ∨ k = 3) ∧ joinE l id = 0 ∧ ∃ ps bl n t', t.path q = some ps ∧ t.subAt ps = some (.leaf bl q) ∧ (1 ≤ n ∧ n ≤ bl.ext k - 2) ∧ CutOk q k n id bf bl ∧ SplitOk q (cutT q k n id bf) bl t ps t' ∧ r = laidL t')) := by
  have hl := readF_lay hF
  have hid : t.idl = idsOf l := by rw [idl_told t 0 hl.kinds, hl.tell]
  have hi := lay_ids hF
  by_cases hk : k = 2 ∨ k = 3
  · cases hp : t.path q with
    | none => exact ⟨42, [], fun v X h => splP_miss v l q k z id bf X h hF hk hp, .inl ⟨by decide, rfl⟩⟩
    | some ps =>
      by_cases hj : joinE l id = 0
      · obtain ⟨bl, hsub⟩ := path_subB q ps t hp
        by_cases h3 : bl.ext k < 3
        · exact ⟨44, [], fun v X h => splP_small v l q k z id bf X h hF hk hp hsub hj h3, .inl ⟨by decide, rfl⟩⟩
        · obtain ⟨n, hn⟩ : ∃ n, n = min (wantedF z (bl.ext k)) (bl.ext k - 2) := ⟨_, rfl⟩
          have hls : (Tree.leaf bl q).sound = true := (sub_sane ps t _ hsub hl.sound hl.kinds).1
          have hn1 : 1 ≤ n ∧ n ≤ bl.ext k - 2 := by
            rw [hn]
            unfold wantedF halfF
            split <;> omega
          have hC := cut_ok (q := q) (id := id) (n := n) bf hk hls (join_zero hj).1 hn1.1 hn1.2
          obtain ⟨t', hS⟩ := split_any q (cutT q k n id bf) bl hC.sound hC.kinds hC.box hC.size ps t hl.sound hl.kinds (by rw [hid]; exact hi.2.2.2.1) hp hsub
          exact ⟨0, laidL t', fun v X h => splP_ok v l q k z id bf X h hF hk hp hsub hj (by omega) hn hn1.1 hC hS, .inr ⟨rfl, hk, hj, ps, bl, n, t', rfl, hsub, hn1, hC, hS, rfl⟩⟩
      · exact ⟨joinE l id, [], fun v X h => splP_join v l q k z id bf X h hF hk (by rw [hp]; simp) _ rfl hj, .inl ⟨hj, rfl⟩⟩
  · exact ⟨1, [], fun v X h => splP_arg v l q k z id bf X h hF hk, .inl ⟨by decide, rfl⟩⟩

/-- Which panes there are behind a cut. -/
theorem cut_panes {l : List CellV} {t t' : Tree} (hF : readF l = some t) {q k n id : Int} {bf : Bool} {bl : Box} {ps : List Nat} (hp : t.path q = some ps) (hj : joinE l id = 0) (hS : SplitOk q (cutT q k n id bf) bl t ps t') : q ∈ t.idl ∧ id ∉ t.idl ∧ fewB t'.idl = true := by
  have hl := readF_lay hF
  have hid : t.idl = idsOf l := by rw [idl_told t 0 hl.kinds, hl.tell]
  have hi := lay_ids hF
  obtain ⟨_, j2, j3⟩ := join_zero hj
  rw [← hid] at j2 j3 hi
  have hq : q ∈ t.idl := by
    refine Classical.byContradiction fun hx => ?_
    rw [(path_mem t q).2 hx] at hp
    cases hp
  refine ⟨hq, j2, ?_⟩
  have hc : (cutT q k n id bf bl).idl = if bf then [id, q] else [q, id] := by cases bf <;> rfl
  obtain ⟨l1, l2, e1, e2⟩ := cutd_ids hc hS.cutd hq
  have hnd := hi.2.2.2.1
  have hln := hi.2.2.1
  rw [e1] at hnd j2 j3 hln
  have hperm : t'.idl.Perm (id :: (l1 ++ q :: l2)) := by
    rw [e2]
    refine List.perm_iff_count.2 fun x => ?_
    cases bf <;> simp only [List.count_cons, List.count_append, List.count_nil, if_true, Bool.false_eq_true, if_false] <;> omega
  unfold fewB
  simp only [Bool.and_eq_true, decide_eq_true_eq]
  refine ⟨?_, hperm.nodup_iff.2 (List.nodup_cons.2 ⟨j2, hnd⟩)⟩
  rw [hperm.length_eq]
  simp only [List.length_cons]
  omega

theorem back_split (l : List CellV) {t : Tree} (hF : readF l = some t) (q k z id : Int) : ∃ er r, (∀ v X, CellsIn X v l → Calls Try.prog 8 #[v, .int .i64 q, .int .i64 k, .int .i64 z, .bool false, .int .i64 id] X (Ans2 er r X)) ∧ (er = 0 → ∀ v X, CellsIn X v r → Calls Try.prog 22 #[v, .int .i64 id] X (Ans2 0 l X)) := by
  obtain ⟨er, r, h1, h2⟩ := split_prog l hF q k z id false
  refine ⟨er, r, h1, fun h0 => ?_⟩
  rcases h2 with ⟨h3, _⟩ | ⟨_, hk, hj, ps, bl, n, t', hp, hsub, hn, hC, hS, rfl⟩
  · exact absurd h0 h3
  · intro v X hv
    have hl := readF_lay hF
    obtain ⟨hq, hid, hfew⟩ := cut_panes hF hp hj hS
    have hne : id ≠ q := fun e => hid (e ▸ hq)
    have hlay := laid_lay hS.sound hS.kinds hfew
    have hls : (Tree.leaf bl q).sound = true := (sub_sane ps t _ hsub hl.sound hl.kinds).1
    have hcm := cutd_moved hC.sound hC.kinds hC.box hS.cutd hl.sound hl.kinds 0 0 hl.moved
    obtain ⟨ps', _, hp', hCT⟩ := cutd_back (pair_back hk hls hC hn hne) hcm hl.sound hq hid
    have := cloP_okT v (laidL t') id X hv (lay_readF hlay) hp' hCT hl.sound hl.kinds (by have := lay_size hl; omega)
    rw [laid_of hl] at this
    exact this

/-! Swap, twice. -/
mutual
theorem swap_kindsB (a b : Int) : ∀ (t : Tree), t.kinds → (t.swap a b).kinds
  | .leaf x p, h => trivial
  | .split x k ts, h => ⟨h.1, swap_kindsAllB a b ts h.2⟩
theorem swap_kindsAllB (a b : Int) : ∀ (ts : List Tree), kindsAll ts → kindsAll (swapAll a b ts)
  | [], _ => trivial
  | t :: ts, h => ⟨swap_kindsB a b t h.1, swap_kindsAllB a b ts h.2⟩
end
theorem swapI_swapI (a b p : Int) : swapI a b (swapI a b p) = p := by
  unfold swapI
  by_cases h1 : p = a
  · subst h1
    by_cases h2 : b = p
    · simp [h2]
    · simp [h2]
  · by_cases h2 : p = b
    · subst h2
      simp [h1]
    · simp [h1, h2]
theorem swapC_swapC (a b : Int) (c : CellV) : swapC a b (swapC a b c) = c := by
  unfold swapC
  simp only [swapI_swapI]
theorem idsOf_swapC (a b : Int) (h0 : swapI a b 0 = 0) (l : List CellV) : idsOf (l.map (swapC a b)) = (idsOf l).map (swapI a b) := by
  induction l with
  | nil => rfl
  | cons c l ih =>
    unfold idsOf at ih ⊢
    by_cases hc : c.kind = 1 <;> simp_all [swapC]
theorem swap_lay {l : List CellV} {t : Tree} (hF : readF l = some t) {a b : Int} (ha : a ∈ idsOf l) (hb : b ∈ idsOf l) : IsLay (l.map (swapC a b)) (t.swap a b) ∧ idsOf (l.map (swapC a b)) = (idsOf l).map (swapI a b) := by
  have hl := readF_lay hF
  have hid : t.idl = idsOf l := by rw [idl_told t 0 hl.kinds, hl.tell]
  have hia := idl_idB t hl.sound a (by rw [hid]; exact ha)
  have hib := idl_idB t hl.sound b (by rw [hid]; exact hb)
  have ha0 : a ≠ 0 := by
    unfold idB at hia
    simp at hia
    omega
  have hb0 : b ≠ 0 := by
    unfold idB at hib
    simp at hib
    omega
  have h0 : swapI a b 0 = 0 := by
    unfold swapI
    rw [if_neg (Ne.symm ha0), if_neg (Ne.symm hb0)]
  have hi := lay_ids hF
  have hids := idsOf_swapC a b h0 l
  refine ⟨⟨swap_kindsB a b t hl.kinds, (swap_sound a b hia hib t).trans hl.sound, ?_, ?_, ?_⟩, hids⟩
  · rw [swap_moved, hl.moved]
  · rw [swap_tell a b h0, hl.tell]
  · rw [hids]
    unfold fewB
    simp only [Bool.and_eq_true, decide_eq_true_eq]
    refine ⟨by rw [List.length_map]; exact hi.2.2.1, ?_⟩
    refine List.Pairwise.map (R := (· ≠ ·)) (swapI a b) (fun x y hne e => hne ?_) hi.2.2.2.1
    have := congrArg (swapI a b) e
    rw [swapI_swapI, swapI_swapI] at this
    exact this
theorem swap_back {l : List CellV} {t : Tree} (hF : readF l = some t) {a b : Int} (ha : a ∈ idsOf l) (hb : b ∈ idsOf l) : swapE (l.map (swapC a b)) a b = 0 ∧ swapL (l.map (swapC a b)) a b = l := by
  obtain ⟨hLay, hids⟩ := swap_lay hF ha hb
  have ha' : a ∈ idsOf (l.map (swapC a b)) := by
    rw [hids]
    refine List.mem_map.2 ⟨b, hb, ?_⟩
    unfold swapI
    by_cases e : b = a
    · rw [if_pos e, e]
    · rw [if_neg e, if_pos rfl]
  have hb' : b ∈ idsOf (l.map (swapC a b)) := by
    rw [hids]
    refine List.mem_map.2 ⟨a, ha, ?_⟩
    unfold swapI
    rw [if_pos rfl]
  obtain ⟨e1, e2⟩ := swap_both a b (lay_readF hLay) ha' hb'
  refine ⟨e1, ?_⟩
  rw [e2, List.map_map]
  conv => rhs; rw [← List.map_id l]
  exact List.map_congr_left fun c _ => swapC_swapC a b c

set_option maxHeartbeats 1000000 in
theorem back_walk (v : Value) (l : List CellV) (pane k z : Int) (bf : Bool) (id o : Int) (w : World) (hv : CellsIn w v l) : Calls Try.prog 6 #[v, .agg #[.int .i64 pane, .int .i64 k, .int .i64 z, .bool bf, .int .i64 id], .int .i64 o] w fun x w' => x = .returned (.bool true) ∧ Below w.heap.size w w' := by
  obtain ⟨W, hW⟩ : ∃ W, w.alloc (.cells #[.int .i64 pane, .int .i64 k, .int .i64 z, .bool bf, .int .i64 id] 24) = W := ⟨_, rfl⟩
  have hbW : Below w.heap.size w W := by rw [← hW]; exact (Below.refl _ _).alloc (Nat.le_refl _) _
  have hM : W.heap[w.heap.size]? = some (.cells #[.int .i64 pane, .int .i64 k, .int .i64 z, .bool bf, .int .i64 id] 24 (0, 0)) := by rw [← hW]; exact heap_alloc_new _ _
  have HC5 : Hid (∀ X, Below W.heap.size W X → X.cell? ⟨w.heap.size, 0, none⟩ = some (.int .i64 pane) ∧ X.cell? ⟨w.heap.size, 1, none⟩ = some (.int .i64 k) ∧ X.cell? ⟨w.heap.size, 2, none⟩ = some (.int .i64 z) ∧ X.cell? ⟨w.heap.size, 3, none⟩ = some (.bool bf) ∧ X.cell? ⟨w.heap.size, 4, none⟩ = some (.int .i64 id)) := fun X hX => by
    have h := (hX.block _ (lt_of_block hM)).trans hM
    exact ⟨cell_atL h 0, cell_atL h 1, cell_atL h 2, cell_atL h 3, cell_atL h 4⟩
  have HV : Hid (∀ X, Below W.heap.size W X → CellsIn X v l) := fun X hX => (hv.below hbW).below hX
  have HW0 : Hid (w.alloc (.cells #[.int .i64 pane, .int .i64 k, .int .i64 z, .bool bf, .int .i64 id] 24) = W) := hW
  have HBW : Hid (Below w.heap.size w W) := hbW
  have HWo : Hid (∀ W, Calls Try.prog 10 #[] W fun e w' => e = .returned (.bool true) ∧ Below W.heap.size W w') := works_true
  obtain ⟨ce, hce⟩ : ∃ x, checkE l = x := ⟨_, rfl⟩
  have HCk : Hid (∀ X, Below W.heap.size W X → Calls Try.prog 14 #[v] X fun e w' => e = .returned (.int .i64 ce) ∧ Below X.heap.size X w') := fun X hX => hce ▸ check_any v l X (HV.out X hX)
  unfold checkE at hce
  clear hv hW hbW hM
  cases hF : readF l with
  | none =>
    rw [hF] at hce
    have hc0 : ce = 40 := by simpa using hce.symm
    subst hc0
    clear hF hce
    go_enter Try.func6, Try.ntmps6
    go_upto_region 1 with fail
    rw [HW0.out]
    go_wp2_with fail
    refine (HWo.out _).mono ?_
    rintro x w1 ⟨rfl, hb1⟩
    have HB1 : Hid (Below W.heap.size W w1) := hb1
    clear hb1
    go_wp2_with fail
    refine (HCk.out _ HB1.out).mono ?_
    rintro x w2 ⟨rfl, hb2⟩
    have HB2 : Hid (Below W.heap.size W w2) := below_step HB1.out hb2
    clear hb2 HB1
    go_wp2_with fail
    refine (HWo.out _).mono ?_
    rintro x w3 ⟨rfl, hb3⟩
    have HB3 : Hid (Below w.heap.size w w3) := below_step HBW.out (below_step HB2.out hb3)
    clear hb3 HB2
    go_wp2
    go_ret
    exact ⟨rfl, HB3.out⟩
  | some t =>
    rw [hF] at hce
    have hc0 : ce = 0 := by simpa using hce.symm
    subst hc0
    have hl63 := (read_lenS (by rw [hF]; rfl : (readF l).isSome = true)).1
    have HSm : Hid (∀ u X, CellsIn X u l → Below W.heap.size W X → Calls Try.prog 11 #[u, v] X fun e w' => e = .returned (.bool true) ∧ Below X.heap.size X w') := fun u X h1 h2 => by
      have := law_any u v _ _ X h1 (HV.out X h2) (by omega)
      rw [decide_eq_true rfl] at this
      exact this
    obtain ⟨er, r, hP1, hP2⟩ := back_split l hF pane k z id
    have HP1 : Hid (∀ X, Below W.heap.size W X → Calls Try.prog 8 #[v, .int .i64 pane, .int .i64 k, .int .i64 z, .bool false, .int .i64 id] X fun x w' => ∃ q, x = .returned (.tuple #[q, .int .i64 er]) ∧ CeOwns w' X.heap.size q r ∧ Below X.heap.size X w') := fun X hX => hP1 v X (HV.out X hX)
    have HP2 : Hid (er = 0 → ∀ u X, CellsIn X u r → Calls Try.prog 22 #[u, .int .i64 id] X fun x w' => ∃ q, x = .returned (.tuple #[q, .int .i64 0]) ∧ CeOwns w' X.heap.size q l ∧ Below X.heap.size X w') := hP2
    obtain ⟨se, hse⟩ : ∃ x, swapE l pane o = x := ⟨_, rfl⟩
    obtain ⟨sl, hsl⟩ : ∃ x, swapL l pane o = x := ⟨_, rfl⟩
    have HSw : Hid (∀ X, Below W.heap.size W X → Calls Try.prog 23 #[v, .int .i64 pane, .int .i64 o] X fun e w' => ∃ u, e = .returned (.tuple #[u, .int .i64 se]) ∧ CeOwns w' X.heap.size u sl ∧ Below X.heap.size X w') := fun X hX => by
      have := swap_prog v l pane o X (HV.out X hX)
      rw [hse, hsl] at this
      exact this
    have HS2 : Hid (se = 0 → ∀ u X, CellsIn X u sl → Calls Try.prog 23 #[u, .int .i64 pane, .int .i64 o] X fun e w' => ∃ u, e = .returned (.tuple #[u, .int .i64 0]) ∧ CeOwns w' X.heap.size u l ∧ Below X.heap.size X w') := fun h0 u X hu => by
      by_cases hm : pane ∈ idsOf l ∧ o ∈ idsOf l
      · obtain ⟨_, e2⟩ := swap_both pane o hF hm.1 hm.2
        rw [hsl] at e2
        rw [e2] at hu
        have := swap_prog u _ pane o X hu
        rw [(swap_back hF hm.1 hm.2).1, (swap_back hF hm.1 hm.2).2] at this
        exact this
      · have := (swap_miss pane o hF hm).1
        rw [hse, h0] at this
        cases this
    clear hF hce hl63 hP1 hP2 hse hsl HV
    -- the second half
    have HEnd : Hid (∀ X, Below W.heap.size W X → Calls Try.prog 23 #[v, .int .i64 pane, .int .i64 o] X fun e w' => ∃ u, e = .returned (.tuple #[u, .int .i64 se]) ∧ Below W.heap.size W w' ∧ (se = 0 → Calls Try.prog 23 #[u, .int .i64 pane, .int .i64 o] w' fun e w'' => ∃ u', e = .returned (.tuple #[u', .int .i64 0]) ∧ Below W.heap.size W w'' ∧ Calls Try.prog 11 #[u', v] w'' fun e w3 => e = .returned (.bool true) ∧ Below W.heap.size W w3)) := fun X hX => by
      refine (HSw.out X hX).mono ?_
      rintro e w' ⟨u, rfl, hu, hb⟩
      have hb' := below_step hX hb
      refine ⟨u, rfl, hb', fun h0 => (HS2.out h0 u w' hu.cellsIn).mono ?_⟩
      rintro e w'' ⟨u', rfl, hu', hb2⟩
      have hb'' := below_step hb' hb2
      refine ⟨u', rfl, hb'', (HSm.out u' w'' hu'.cellsIn hb'').mono ?_⟩
      rintro e w3 ⟨rfl, hb3⟩
      exact ⟨rfl, below_step hb'' hb3⟩
    go_enter Try.func6, Try.ntmps6
    go_upto_region 1 with fail
    rw [HW0.out]
    go_wp2_with fail
    refine (HWo.out _).mono ?_
    rintro x w1 ⟨rfl, hb1⟩
    have HB1 : Hid (Below W.heap.size W w1) := hb1
    clear hb1
    go_wp2_with fail
    refine (HCk.out _ HB1.out).mono ?_
    rintro x w2 ⟨rfl, hb2⟩
    have HB2 : Hid (Below W.heap.size W w2) := below_step HB1.out hb2
    clear hb2 HB1
    obtain ⟨c0, c1, c2, c3, c4⟩ := HC5.out w2 HB2.out
    go_wp2_with fail
    refine (HP1.out _ HB2.out).mono ?_
    rintro x w3 ⟨m, rfl, hm, hb3⟩
    have HB3 : Hid (Below W.heap.size W w3) := below_step HB2.out hb3
    have HM : Hid (CellsIn w3 m r) := hm.cellsIn
    clear hb3 hm HB2 c0 c1 c2 c3 c4
    by_cases h0 : er = 0
    · have HP3 : Hid (Calls Try.prog 22 #[m, .int .i64 id] w3 fun x w' => ∃ q, x = .returned (.tuple #[q, .int .i64 0]) ∧ CeOwns w' w3.heap.size q l ∧ Below w3.heap.size w3 w') := HP2.out h0 m w3 HM.out
      subst h0
      obtain ⟨c0, c1, c2, c3, c4⟩ := HC5.out w3 HB3.out
      go_wp2_with fail
      refine HP3.out.mono ?_
      rintro x w4 ⟨n, rfl, hn, hb4⟩
      have HB4 : Hid (Below W.heap.size W w4) := below_step HB3.out hb4
      have HN : Hid (CellsIn w4 n l) := hn.cellsIn
      clear hb4 hn HP3 HM HB3 c0 c1 c2 c3 c4
      go_wp2_with fail
      refine (HSm.out _ _ HN.out HB4.out).mono ?_
      rintro x w5 ⟨rfl, hb5⟩
      have HB5 : Hid (Below W.heap.size W w5) := below_step HB4.out hb5
      clear hb5 HN HB4
      have HE := hiddenS (HEnd.out w5 HB5.out)
      obtain ⟨c0, c1, c2, c3, c4⟩ := HC5.out w5 HB5.out
      by_cases h1 : se = 0
      · subst h1
        go_wp2_with fail
        refine HE.out.mono ?_
        rintro x w6 ⟨u, rfl, hb6, h2⟩
        have H2 := hiddenS (h2 trivial)
        obtain ⟨d0, d1, d2, d3, d4⟩ := HC5.out w6 hb6
        clear hb6 h2 HE c0 c1 c2 c3 c4
        go_wp2_with fail
        refine H2.out.mono ?_
        rintro x w7 ⟨u', rfl, _, h3⟩
        have H3 := hiddenS h3
        clear h3 H2 d0 d1 d2 d3 d4
        go_wp2_with fail
        refine H3.out.mono ?_
        rintro x w8 ⟨rfl, hb8⟩
        have HB8 : Hid (Below w.heap.size w w8) := below_step HBW.out hb8
        clear hb8
        go_wp2
        go_ret
        exact ⟨rfl, HB8.out⟩
      · have h1' : (se != 0) = true := by simpa using h1
        go_wp2_with fail
        refine HE.out.mono ?_
        rintro x w6 ⟨u, rfl, hb6, _⟩
        have HB8 : Hid (Below w.heap.size w w6) := below_step HBW.out hb6
        clear hb6 HE c0 c1 c2 c3 c4
        go_wp2
        go_ret
        exact ⟨rfl, HB8.out⟩
    · have h0' : (er == 0) = false := by simpa using h0
      have HE := hiddenS (HEnd.out w3 HB3.out)
      obtain ⟨c0, c1, c2, c3, c4⟩ := HC5.out w3 HB3.out
      by_cases h1 : se = 0
      · subst h1
        go_wp2_with fail
        refine HE.out.mono ?_
        rintro x w6 ⟨u, rfl, hb6, h2⟩
        have H2 := hiddenS (h2 trivial)
        obtain ⟨d0, d1, d2, d3, d4⟩ := HC5.out w6 hb6
        clear hb6 h2 HE c0 c1 c2 c3 c4
        go_wp2_with fail
        refine H2.out.mono ?_
        rintro x w7 ⟨u', rfl, _, h3⟩
        have H3 := hiddenS h3
        clear h3 H2 d0 d1 d2 d3 d4
        go_wp2_with fail
        refine H3.out.mono ?_
        rintro x w8 ⟨rfl, hb8⟩
        have HB8 : Hid (Below w.heap.size w w8) := below_step HBW.out hb8
        clear hb8
        go_wp2
        go_ret
        exact ⟨rfl, HB8.out⟩
      · have h1' : (se != 0) = true := by simpa using h1
        go_wp2_with fail
        refine HE.out.mono ?_
        rintro x w6 ⟨u, rfl, hb6, _⟩
        have HB8 : Hid (Below w.heap.size w w6) := below_step HBW.out hb6
        clear hb6 HE c0 c1 c2 c3 c4
        go_wp2
        go_ret
        exact ⟨rfl, HB8.out⟩

end Go.Proofs.Ytnepemlagnnngaa
