/-
  Layouts: the law of Full.
-/
import Derived.Test.YtfmlebimlacdpaaCFb
import Derived.Test.YtfmlebimlacdpaaCFe
import Derived.Test.YtfmlebimlacdpaaCWo
import Derived.Test.YtfmlebimlacdpaaCOp
namespace Go.Proofs.Ytfmlebimlacdpaa
open Go.RowKit
set_option linter.unusedVariables false
set_option maxRecDepth 100000

theorem laidL_len (t : Tree) : (laidL t).length = t.size := by
  unfold laidL
  rw [Tree.tell_length, Tree.size_moved]
theorem full_any (l : List CellV) (k z id : Int) (bf : Bool) : ∃ er r, (r : List CellV).length ≤ 100 ∧ (∀ v X, CellsIn X v l → Calls Try.prog 21 #[v, .int .i64 k, .int .i64 z, .bool bf, .int .i64 id] X (Ans2 er r X)) ∧ (∀ v X, CellsIn X v l → Calls Try.prog 22 #[v, .int .i64 k, .int .i64 z, .bool bf, .int .i64 id] X (Ans2 er r X)) := by
  cases hF : readF l with
  | none => exact ⟨40, [], by simp, fun v X h => fulP_none v l k z id bf X h hF, fun v X h => fulR_none v l k z id bf X h hF⟩
  | some t =>
    by_cases hk : k = 2 ∨ k = 3
    · by_cases hj : joinE l id = 0
      · by_cases hr : t.room k < 2
        · exact ⟨44, [], by simp, fun v X h => fulP_small v l k z id bf X h hF hk hj hr, fun v X h => fulR_small v l k z id bf X h hF hk hj hr⟩
        · obtain ⟨t1, n, hU⟩ := fulled_any hF k z id bf hk hj (by omega)
          have hB := hU.beside
          refine ⟨0, laidL (besideT k bf t1 (.leaf (fullB t k n) id)), ?_, fun v X h => fulP_ok v l k z id bf X h hF hU, fun v X h => fulR_ok v l k z id bf X h hF hU⟩
          rw [laidL_len]
          have h1 := hB.size
          have h2 := hU.z1
          have h3 := lay_size hU.lay
          omega
      · exact ⟨joinE l id, [], by simp, fun v X h => fulP_join v l k z id bf X h hF hk _ rfl hj, fun v X h => fulR_join v l k z id bf X h hF hk _ rfl hj⟩
    · exact ⟨1, [], by simp, fun v X h => fulP_arg v l k z id bf X h hF hk, fun v X h => fulR_arg v l k z id bf X h hF hk⟩

set_option maxHeartbeats 1000000 in
theorem fulls_walk (v : Value) (l : List CellV) (pane k z : Int) (bf : Bool) (id : Int) (w : World) (hv : CellsIn w v l) (hnil : v = .slice none 0 0 ∨ ∃ a n c, v = .slice (some a) n c) (hlen : l.length * 56 ≤ 140737488351232) : Calls Try.prog 7 #[v, .agg #[.int .i64 pane, .int .i64 k, .int .i64 z, .bool bf, .int .i64 id]] w fun x w' => x = .returned (.bool true) ∧ Below w.heap.size w w' := by
  obtain ⟨W, hW⟩ : ∃ W, w.alloc (.cells #[.int .i64 pane, .int .i64 k, .int .i64 z, .bool bf, .int .i64 id] 24) = W := ⟨_, rfl⟩
  have hbW : Below w.heap.size w W := by rw [← hW]; exact (Below.refl _ _).alloc (Nat.le_refl _) _
  have hM : W.heap[w.heap.size]? = some (.cells #[.int .i64 pane, .int .i64 k, .int .i64 z, .bool bf, .int .i64 id] 24 (0, 0)) := by rw [← hW]; exact heap_alloc_new _ _
  have HC5 : Hid (∀ X, Below W.heap.size W X → X.cell? ⟨w.heap.size, 1, none⟩ = some (.int .i64 k) ∧ X.cell? ⟨w.heap.size, 2, none⟩ = some (.int .i64 z) ∧ X.cell? ⟨w.heap.size, 3, none⟩ = some (.bool bf) ∧ X.cell? ⟨w.heap.size, 4, none⟩ = some (.int .i64 id)) := fun X hX => by
    have h := (hX.block _ (lt_of_block hM)).trans hM
    exact ⟨cell_atL h 1, cell_atL h 2, cell_atL h 3, cell_atL h 4⟩
  have hvW := hv.below hbW
  have HW0 : Hid (w.alloc (.cells #[.int .i64 pane, .int .i64 k, .int .i64 z, .bool bf, .int .i64 id] 24) = W) := hW
  have HBW : Hid (Below w.heap.size w W) := hbW
  have HTw : Hid (Calls Try.prog 9 #[v] W fun e w' => ∃ g cap, e = .returned (.slice (some ⟨g, 0, none⟩) l.length cap) ∧ TwinAt w' g cap l ∧ W.heap.size ≤ g ∧ Below W.heap.size W w') := twin_any v l W hvW hnil hlen
  obtain ⟨er, r, hrl, hPa, hRa⟩ := full_any l k z id bf
  have HP : Hid (∀ u X, CellsIn X u l → Calls Try.prog 21 #[u, .int .i64 k, .int .i64 z, .bool bf, .int .i64 id] X fun x w' => ∃ q, x = .returned (.tuple #[q, .int .i64 er]) ∧ CeOwns w' X.heap.size q r ∧ Below X.heap.size X w') := hPa
  have HR : Hid (∀ X, Below W.heap.size W X → Calls Try.prog 22 #[v, .int .i64 k, .int .i64 z, .bool bf, .int .i64 id] X fun x w' => ∃ q, x = .returned (.tuple #[q, .int .i64 er]) ∧ CeOwns w' X.heap.size q r ∧ Below X.heap.size X w') := fun X hX => hRa v X (hvW.below hX)
  have HWo : Hid (∀ W, Calls Try.prog 12 #[] W fun e w' => e = .returned (.bool true) ∧ Below W.heap.size W w') := works_true
  have HK : Hid (∀ g cap X, TwinAt X g cap l → Below W.heap.size W X → Calls Try.prog 14 #[.slice (some ⟨g, 0, none⟩) l.length cap, v] X fun e w' => e = .returned (.bool true) ∧ Below X.heap.size X w') := fun g cap X hT hX => kept_any v g cap l X hT (hvW.below hX) hlen
  have HS : Hid (∀ u v W, CellsIn W u r → CellsIn W v r → Calls Try.prog 13 #[u, v] W fun e w' => e = .returned (.bool true) ∧ Below W.heap.size W w') := fun u v W h1 h2 => by
    have := law_any u v _ _ W h1 h2 (by omega)
    rw [decide_eq_true rfl] at this
    exact this
  obtain ⟨L, hL⟩ : ∃ L, l.length = L := ⟨_, rfl⟩
  rw [hL] at HTw HK
  have HL : Hid (l.length = L) := hL
  clear hv hnil hlen hL hrl hPa hRa hW hbW hM hvW
  go_enter Try.func7, Try.ntmps7
  go_upto_region 1 with fail
  rw [HW0.out]
  go_wp2_with fail
  refine HTw.out.mono ?_
  rintro x w1 ⟨g, cap, rfl, hT, _, hb1⟩
  have H1 : Hid (TwinAt w1 g cap l ∧ Below W.heap.size W w1) := ⟨hT, hb1⟩
  have HP1 : Hid (Calls Try.prog 21 #[.slice (some ⟨g, 0, none⟩) L cap, .int .i64 k, .int .i64 z, .bool bf, .int .i64 id] w1 fun x w' => ∃ q, x = .returned (.tuple #[q, .int .i64 er]) ∧ CeOwns w' w1.heap.size q r ∧ Below w1.heap.size w1 w') := HP.out _ w1 (by have := hT.cellsIn; rw [HL.out] at this; exact this)
  obtain ⟨c1, c2, c3, c4⟩ := HC5.out w1 hb1
  clear hT hb1 HTw HP
  go_wp2_with fail
  refine HP1.out.mono ?_
  rintro x w2 ⟨q, rfl, hq, hb2⟩
  have H2 : Hid (TwinAt w2 g cap l ∧ Below W.heap.size W w2 ∧ CellsIn w2 q r) := ⟨H1.out.1.below hb2, below_step H1.out.2 hb2, hq.cellsIn⟩
  clear hb2 H1 HP1 hq c1 c2 c3 c4
  obtain ⟨c1, c2, c3, c4⟩ := HC5.out w2 H2.out.2.1
  go_wp2_with fail
  refine (HR.out _ H2.out.2.1).mono ?_
  rintro x w3 ⟨q', rfl, hq', hb3⟩
  have H3 : Hid (TwinAt w3 g cap l ∧ Below W.heap.size W w3 ∧ CellsIn w3 q r ∧ CellsIn w3 q' r) := ⟨H2.out.1.below hb3, below_step H2.out.2.1 hb3, H2.out.2.2.below hb3, hq'.cellsIn⟩
  clear hb3 H2 HR hq' c1 c2 c3 c4
  go_wp2_with fail
  refine (HWo.out _).mono ?_
  rintro x w4 ⟨rfl, hb4⟩
  have H4 : Hid (TwinAt w4 g cap l ∧ Below W.heap.size W w4 ∧ CellsIn w4 q r ∧ CellsIn w4 q' r) := ⟨H3.out.1.below hb4, below_step H3.out.2.1 hb4, H3.out.2.2.1.below hb4, H3.out.2.2.2.below hb4⟩
  clear hb4 H3 HWo
  go_wp2_with fail
  refine (HS.out _ _ _ H4.out.2.2.1 H4.out.2.2.2).mono ?_
  rintro x w5 ⟨rfl, hb5⟩
  have H5 : Hid (TwinAt w5 g cap l ∧ Below W.heap.size W w5) := ⟨H4.out.1.below hb5, below_step H4.out.2.1 hb5⟩
  clear hb5 H4 HS
  go_wp2_with fail
  refine (HK.out _ _ _ H5.out.1 H5.out.2).mono ?_
  rintro x w6 ⟨rfl, hb6⟩
  have H6 : Hid (Below w.heap.size w w6) := below_step HBW.out (below_step H5.out.2 hb6)
  clear hb6 H5
  go_wp2
  go_ret
  exact ⟨rfl, H6.out⟩

end Go.Proofs.Ytfmlebimlacdpaa
