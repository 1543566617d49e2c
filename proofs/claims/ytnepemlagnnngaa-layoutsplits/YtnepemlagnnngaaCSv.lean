/-
  Layouts: the law of Split.
-/
import Derived.Test.YtnepemlagnnngaaCSe
import Derived.Test.YtnepemlagnnngaaCSr
import Derived.Test.YtnepemlagnnngaaCWo
import Derived.Test.YtnepemlagnnngaaCOp
namespace Go.Proofs.Ytnepemlagnnngaa
open Go.RowKit
set_option linter.unusedVariables false
set_option maxRecDepth 100000

theorem laidS_len (t : Tree) : (laidL t).length = t.size := by
  unfold laidL
  rw [Tree.tell_length, Tree.size_moved]
/-- Where a way leads to, its pane stands. -/
theorem path_sub (q : Int) : ∀ (ps : List Nat) (t : Tree), t.path q = some ps → ∃ bl, t.subAt ps = some (.leaf bl q)
  | ps, .leaf b p, hp => by
    unfold Tree.path at hp
    split at hp
    · rename_i e
      cases hp
      exact ⟨b, by rw [show q = p from by simpa using e.symm]; rfl⟩
    · cases hp
  | ps, .split b k ts, hp => by
    unfold Tree.path at hp
    obtain ⟨i, s, ps', e, hi, hps⟩ := pathAll_inv q ts 0 _ hp
    rw [Nat.zero_add] at e
    subst e
    have hlt : s.size < (Tree.split b k ts).size := by
      have := sizes_at ts i s hi
      show s.size < 1 + sizes ts
      omega
    obtain ⟨bl, h⟩ := path_sub q ps' s hps
    exact ⟨bl, sub_cons hi h⟩
  termination_by ps t => t.size

theorem join_id {l : List CellV} {id : Int} (h : joinE l id = 0) : idB id = true := by
  cases hi : idB id with
  | true => rfl
  | false =>
    unfold joinE at h
    rw [hi] at h
    simp at h
theorem split_law (l : List CellV) (q k z id : Int) (bf : Bool) : ∃ er r, (r : List CellV).length ≤ 100 ∧ (∀ v X, CellsIn X v l → Calls Try.prog 8 #[v, .int .i64 q, .int .i64 k, .int .i64 z, .bool bf, .int .i64 id] X (Ans2 er r X)) ∧ (∀ v X, CellsIn X v l → Calls Try.prog 9 #[v, .int .i64 q, .int .i64 k, .int .i64 z, .bool bf, .int .i64 id] X (Ans2 er r X)) := by
  cases hF : readF l with
  | none => exact ⟨40, [], by simp, fun v X h => splP_none v l q k z id bf X h hF, fun v X h => splR_none v l q k z id bf X h hF⟩
  | some t =>
    have hl := readF_lay hF
    have hid : t.idl = idsOf l := by rw [idl_told t 0 hl.kinds, hl.tell]
    have hz := lay_size hl
    have hi := lay_ids hF
    by_cases hk : k = 2 ∨ k = 3
    · cases hp : t.path q with
      | none =>
        have hno : q ∉ idsOf l := by rw [← hid]; exact (path_mem t q).1 hp
        exact ⟨42, [], by simp, fun v X h => splP_miss v l q k z id bf X h hF hk hp, fun v X h => splR_miss v l q k z id bf X h hF hk hno⟩
      | some ps =>
        have hin : q ∈ idsOf l := by
          rw [← hid]
          refine Classical.byContradiction fun hx => ?_
          rw [(path_mem t q).2 hx] at hp
          cases hp
        by_cases hj : joinE l id = 0
        · obtain ⟨bl, hsub⟩ := path_sub q ps t hp
          by_cases h3 : bl.ext k < 3
          · exact ⟨44, [], by simp, fun v X h => splP_small v l q k z id bf X h hF hk hp hsub hj h3, fun v X h => splR_rest v l q k z id bf X h hF hk hin hj hp hsub 44 [] (.inl ⟨h3, rfl, rfl⟩)⟩
          · obtain ⟨n, hn⟩ : ∃ n, n = min (wantedF z (bl.ext k)) (bl.ext k - 2) := ⟨_, rfl⟩
            have hls : (Tree.leaf bl q).sound = true := (sub_sane ps t _ hsub hl.sound hl.kinds).1
            have hn1 : 1 ≤ n ∧ n ≤ bl.ext k - 2 := by
              rw [hn]
              unfold wantedF halfF
              split <;> omega
            have hidb : idB id = true := join_id hj
            have hC := cut_ok (q := q) (id := id) (n := n) bf hk hls hidb hn1.1 hn1.2
            obtain ⟨t', hS⟩ := split_any q (cutT q k n id bf) bl hC.sound hC.kinds hC.box hC.size ps t hl.sound hl.kinds (by rw [hid]; exact hi.2.2.2.1) hp hsub
            have hz2 := hS.size
            refine ⟨0, laidL t', by rw [laidS_len]; omega, fun v X h => splP_ok v l q k z id bf X h hF hk hp hsub hj (by omega) hn hn1.1 hC hS, fun v X h => splR_rest v l q k z id bf X h hF hk hin hj hp hsub 0 _ (.inr ⟨by omega, rfl, t', rfl, hS.sound, hS.kinds, by omega, ?_⟩)⟩
            exact cut_any q k z id bf bl n hk (by omega) hn hC hls t.size t (Nat.le_refl _) (by omega) hl.sound hl.kinds t' hS.cutd
        · exact ⟨joinE l id, [], by simp, fun v X h => splP_join v l q k z id bf X h hF hk (by rw [hp]; simp) _ rfl hj, fun v X h => splR_join v l q k z id bf X h hF hk hin _ rfl hj⟩
    · exact ⟨1, [], by simp, fun v X h => splP_arg v l q k z id bf X h hF hk, fun v X h => splR_arg v l q k z id bf X h hF hk⟩

set_option maxHeartbeats 1000000 in
theorem splits_walk (v : Value) (l : List CellV) (pane k z : Int) (bf : Bool) (id : Int) (w : World) (hv : CellsIn w v l) (hnil : v = .slice none 0 0 ∨ ∃ a n c, v = .slice (some a) n c) (hlen : l.length * 56 ≤ 140737488351232) : Calls Try.prog 3 #[v, .agg #[.int .i64 pane, .int .i64 k, .int .i64 z, .bool bf, .int .i64 id]] w fun x w' => x = .returned (.bool true) ∧ Below w.heap.size w w' := by
  obtain ⟨W, hW⟩ : ∃ W, w.alloc (.cells #[.int .i64 pane, .int .i64 k, .int .i64 z, .bool bf, .int .i64 id] 24) = W := ⟨_, rfl⟩
  have hbW : Below w.heap.size w W := by rw [← hW]; exact (Below.refl _ _).alloc (Nat.le_refl _) _
  have hM : W.heap[w.heap.size]? = some (.cells #[.int .i64 pane, .int .i64 k, .int .i64 z, .bool bf, .int .i64 id] 24 (0, 0)) := by rw [← hW]; exact heap_alloc_new _ _
  have HC5 : Hid (∀ X, Below W.heap.size W X → X.cell? ⟨w.heap.size, 0, none⟩ = some (.int .i64 pane) ∧ X.cell? ⟨w.heap.size, 1, none⟩ = some (.int .i64 k) ∧ X.cell? ⟨w.heap.size, 2, none⟩ = some (.int .i64 z) ∧ X.cell? ⟨w.heap.size, 3, none⟩ = some (.bool bf) ∧ X.cell? ⟨w.heap.size, 4, none⟩ = some (.int .i64 id)) := fun X hX => by
    have h := (hX.block _ (lt_of_block hM)).trans hM
    exact ⟨cell_atL h 0, cell_atL h 1, cell_atL h 2, cell_atL h 3, cell_atL h 4⟩
  have hvW := hv.below hbW
  have HW0 : Hid (w.alloc (.cells #[.int .i64 pane, .int .i64 k, .int .i64 z, .bool bf, .int .i64 id] 24) = W) := hW
  have HBW : Hid (Below w.heap.size w W) := hbW
  have HTw : Hid (Calls Try.prog 7 #[v] W fun e w' => ∃ g cap, e = .returned (.slice (some ⟨g, 0, none⟩) l.length cap) ∧ TwinAt w' g cap l ∧ W.heap.size ≤ g ∧ Below W.heap.size W w') := twin_any v l W hvW hnil hlen
  obtain ⟨er, r, hrl, hPa, hRa⟩ := split_law l pane k z id bf
  have HP : Hid (∀ u X, CellsIn X u l → Calls Try.prog 8 #[u, .int .i64 pane, .int .i64 k, .int .i64 z, .bool bf, .int .i64 id] X fun x w' => ∃ q, x = .returned (.tuple #[q, .int .i64 er]) ∧ CeOwns w' X.heap.size q r ∧ Below X.heap.size X w') := hPa
  have HR : Hid (∀ X, Below W.heap.size W X → Calls Try.prog 9 #[v, .int .i64 pane, .int .i64 k, .int .i64 z, .bool bf, .int .i64 id] X fun x w' => ∃ q, x = .returned (.tuple #[q, .int .i64 er]) ∧ CeOwns w' X.heap.size q r ∧ Below X.heap.size X w') := fun X hX => hRa v X (hvW.below hX)
  have HWo : Hid (∀ W, Calls Try.prog 10 #[] W fun e w' => e = .returned (.bool true) ∧ Below W.heap.size W w') := works_true
  have HK : Hid (∀ g cap X, TwinAt X g cap l → Below W.heap.size W X → Calls Try.prog 12 #[.slice (some ⟨g, 0, none⟩) l.length cap, v] X fun e w' => e = .returned (.bool true) ∧ Below X.heap.size X w') := fun g cap X hT hX => kept_any v g cap l X hT (hvW.below hX) hlen
  have HS : Hid (∀ u v W, CellsIn W u r → CellsIn W v r → Calls Try.prog 11 #[u, v] W fun e w' => e = .returned (.bool true) ∧ Below W.heap.size W w') := fun u v W h1 h2 => by
    have := law_any u v _ _ W h1 h2 (by omega)
    rw [decide_eq_true rfl] at this
    exact this
  obtain ⟨L, hL⟩ : ∃ L, l.length = L := ⟨_, rfl⟩
  rw [hL] at HTw HK
  have HL : Hid (l.length = L) := hL
  clear hv hnil hlen hL hrl hPa hRa hW hbW hM hvW
  go_enter Try.func3, Try.ntmps3
  go_upto_region 1 with fail
  rw [HW0.out]
  go_wp2_with fail
  refine HTw.out.mono ?_
  rintro x w1 ⟨g, cap, rfl, hT, _, hb1⟩
  have H1 : Hid (TwinAt w1 g cap l ∧ Below W.heap.size W w1) := ⟨hT, hb1⟩
  have HP1 : Hid (Calls Try.prog 8 #[.slice (some ⟨g, 0, none⟩) L cap, .int .i64 pane, .int .i64 k, .int .i64 z, .bool bf, .int .i64 id] w1 fun x w' => ∃ q, x = .returned (.tuple #[q, .int .i64 er]) ∧ CeOwns w' w1.heap.size q r ∧ Below w1.heap.size w1 w') := HP.out _ w1 (by have := hT.cellsIn; rw [HL.out] at this; exact this)
  obtain ⟨c0, c1, c2, c3, c4⟩ := HC5.out w1 hb1
  clear hT hb1 HTw HP
  go_wp2_with fail
  refine HP1.out.mono ?_
  rintro x w2 ⟨q, rfl, hq, hb2⟩
  have H2 : Hid (TwinAt w2 g cap l ∧ Below W.heap.size W w2 ∧ CellsIn w2 q r) := ⟨H1.out.1.below hb2, below_step H1.out.2 hb2, hq.cellsIn⟩
  clear hb2 H1 HP1 hq c0 c1 c2 c3 c4
  obtain ⟨c0, c1, c2, c3, c4⟩ := HC5.out w2 H2.out.2.1
  go_wp2_with fail
  refine (HR.out _ H2.out.2.1).mono ?_
  rintro x w3 ⟨q', rfl, hq', hb3⟩
  have H3 : Hid (TwinAt w3 g cap l ∧ Below W.heap.size W w3 ∧ CellsIn w3 q r ∧ CellsIn w3 q' r) := ⟨H2.out.1.below hb3, below_step H2.out.2.1 hb3, H2.out.2.2.below hb3, hq'.cellsIn⟩
  clear hb3 H2 HR hq' c0 c1 c2 c3 c4
  go_wp2_with fail
  refine (HWo.out _).mono ?_
  rintro x w4 ⟨rfl, hb4⟩
  have H4 : Hid (TwinAt w4 g cap l ∧ Below W.heap.size W w4 ∧ CellsIn w4 q r ∧ CellsIn w4 q' r) := ⟨H3.out.1.below hb4, below_step H3.out.2.1 hb4, H3.out.2.2.1.below hb4, H3.out.2.2.2.below hb4⟩
  clear hb4 H3 HWo
  go_wp2_with fail
  refine (HS.out _ _ _ H4.out.2.2.1 H4.out.2.2.2).mono ?_
  rintro x w5 ⟨rfl, hb5⟩
  have H5 : Hid (TwinAt w5 g cap l ∧ Below W.heap.size W w5) := ⟨H4.out.1.below hb5, below_step H4.out.2.1 hb5⟩
  clear hb5 H4 HS
  go_wp2_with fail
  refine (HK.out _ _ _ H5.out.1 H5.out.2).mono ?_
  rintro x w6 ⟨rfl, hb6⟩
  have H6 : Hid (Below w.heap.size w w6) := below_step HBW.out (below_step H5.out.2 hb6)
  clear hb6 H5
  go_wp2
  go_ret
  exact ⟨rfl, H6.out⟩

end Go.Proofs.Ytnepemlagnnngaa
