/-
  Layouts: the statement on checks, walked.
-/
import Derived.Test.YtammadcigfbgeaaLRoomN
namespace Go.Proofs.Ytammadcigfbgeaa
open Go.RowKit
set_option linter.unusedVariables false
set_option maxRecDepth 100000

theorem check_ref (v : Value) (l : List CellV) (w : World) (h : CellsIn w v l) : Calls Try.prog 28 #[v] w fun e w' => e = .returned (.int .i64 (checkE l)) ∧ Below w.heap.size w w' := by
  have HT : Hid (Calls Try.prog 37 #[v] w (TreeGood l w)) := tree_any v l w h
  clear h
  go_enter Try.func28, Try.ntmps28
  go_wp2_with fail
  refine HT.out.mono ?_
  rintro x w1 ⟨hb, ⟨hr, rfl⟩ | ⟨t, sa, sn, sc, fp, hr, rfl, hIn⟩⟩
  · have HE : Hid (checkE l = 40) := by show _ = _; unfold checkE; rw [hr]; rfl
    have HB : Hid (∀ o, Below w.heap.size w (w1.alloc o)) := fun o => below_step hb ((Below.refl _ _).alloc (Nat.le_refl _) o)
    unfold zeroN
    clear hr hb
    go_wp2
    go_ret
    exact ⟨by rw [HE.out]; rfl, HB.out _⟩
  · have HE : Hid (checkE l = 0) := by show _ = _; unfold checkE; rw [hr]; rfl
    have HB : Hid (∀ o, Below w.heap.size w (w1.alloc o)) := fun o => below_step hb ((Below.refl _ _).alloc (Nat.le_refl _) o)
    unfold nodeV
    clear hr hb hIn
    go_wp2
    go_ret
    exact ⟨by rw [HE.out]; rfl, HB.out _⟩
theorem panes_ref (v : Value) (l : List CellV) (w : World) (h : CellsIn w v l) : Calls Try.prog 31 #[v] w fun e w' => ∃ u, e = .returned u ∧ IOwns w' w.heap.size u (panesL l) ∧ Below w.heap.size w w' := by
  have HT : Hid (Calls Try.prog 37 #[v] w (TreeGood l w)) := tree_any v l w h
  clear h
  go_enter Try.func31, Try.ntmps31
  go_wp2_with fail
  refine HT.out.mono ?_
  rintro x w1 ⟨hb, ⟨hr, rfl⟩ | ⟨t, sa, sn, sc, fp, hr, rfl, hIn⟩⟩
  · have HE : Hid (panesL l = []) := by show _ = _; unfold panesL; rw [hr]; rfl
    have HB : Hid (∀ o, Below w.heap.size w (w1.alloc o)) := fun o => below_step hb ((Below.refl _ _).alloc (Nat.le_refl _) o)
    unfold zeroN
    clear hr hb
    go_wp2
    go_ret
    exact ⟨_, rfl, by rw [HE.out]; exact World.ownsRow_nil _ _ _ _, HB.out _⟩
  · obtain ⟨g1, g2, g3, _, g5⟩ := lay_ids hr
    have HE : Hid (panesL l = idsOf l) := by show _ = _; unfold panesL; rw [hr]; rfl
    have HB : Hid (∀ o, Below w.heap.size w (w1.alloc o)) := fun o => below_step hb ((Below.refl _ _).alloc (Nat.le_refl _) o)
    obtain ⟨nn, hnn⟩ : ∃ x, nodeOf t = x := ⟨_, rfl⟩
    rw [hnn] at hIn g1 g5 ⊢
    have HId : Hid (∀ o, Calls Try.prog 38 #[.agg #[.int .i64 nn.k, .int .i64 nn.w, .int .i64 nn.h, .int .i64 nn.i, .slice sa sn sc]] (w1.alloc o) fun e w' => ∃ u, e = .returned u ∧ IOwns w' w.heap.size u (panesL l) ∧ Below w.heap.size w w') := fun o => by
      refine (ids_good nn g5 _ fp (w1.alloc o) (hIn.below ((Below.refl _ _).alloc (Nat.le_refl _) o))).mono ?_
      rintro e w' ⟨u, rfl, h1, h2⟩
      rw [g1, ← HE.out] at h1
      exact ⟨u, rfl, h1.lower (HB.out o).size, below_step (HB.out o) h2⟩
    unfold nodeV
    clear hr hb hIn g1 g2 g3 g5 hnn
    go_wp2_with fail
    refine (HId.out _).mono ?_
    rintro x w2 ⟨u, rfl, h1, h2⟩
    have HU : Hid (IOwns w2 w.heap.size u (panesL l)) := h1
    clear h1
    go_wp2
    go_ret
    exact ⟨u, rfl, HU.out, h2⟩

theorem sameInts_none (w : World) : Calls Try.prog 29 #[.slice none 0 0, .slice none 0 0] w fun e w' => e = .returned (.bool true) ∧ w = w' := by
  go_enter Try.func29, Try.ntmps29
  go_wp2
  go_loopw [5] (fun v wr => v = .int .i64 0 ∧ w = wr) (fun _ _ => 0)
  case atStart => exact ⟨rfl, rfl⟩
  case round =>
    obtain ⟨rfl, rfl⟩ := hrel
    go_wp2
    go_ret
    exact ⟨rfl, rfl⟩
set_option maxHeartbeats 1000000 in
theorem sameInts_some (g1 c1 g2 c2 n : Nat) (zs : List Int) (w : World) (h1 : ∀ (j : Nat) x, zs[j]? = some x → w.cell? ⟨g1, j, none⟩ = some (.int .i64 x)) (h2 : ∀ (j : Nat) x, zs[j]? = some x → w.cell? ⟨g2, j, none⟩ = some (.int .i64 x)) (hn : zs.length = n) (hn1 : n ≤ 1000000) : Calls Try.prog 29 #[.slice (some ⟨g1, 0, none⟩) n c1, .slice (some ⟨g2, 0, none⟩) n c2] w fun e w' => e = .returned (.bool true) ∧ Below w.heap.size w w' := by
  have HC : Hid (∀ X, Below w.heap.size w X → ∀ (j : Nat) x, zs[j]? = some x → X.cell? ⟨g1, j, none⟩ = some (.int .i64 x) ∧ X.cell? ⟨g2, j, none⟩ = some (.int .i64 x)) := fun X hX j x hj => ⟨(hX.cell (p := ⟨g1, j, none⟩) (World.block_lt_of_cell? w _ (h1 j x hj))).trans (h1 j x hj), (hX.cell (p := ⟨g2, j, none⟩) (World.block_lt_of_cell? w _ (h2 j x hj))).trans (h2 j x hj)⟩
  have HN : Hid (zs.length = n) := hn
  clear h1 h2 hn
  go_enter Try.func29, Try.ntmps29
  go_wp2
  go_loopw [5] (fun v wr => ∃ i : Nat, i ≤ n ∧ v = .int .i64 i ∧ Hid (Below w.heap.size w wr)) (fun v _ => n - (intOf v).toNat)
  case atStart => exact ⟨0, Nat.zero_le _, rfl, Below.refl _ _⟩
  case round =>
    obtain ⟨i, hi, rfl, HB⟩ := hrel
    by_cases hlt : i < n
    · obtain ⟨x, hx⟩ : ∃ x, zs[i]? = some x := ⟨_, List.getElem?_eq_getElem (by rw [HN.out]; exact hlt)⟩
      obtain ⟨p1, p2⟩ := HC.out wr HB.out i x hx
      clear hx
      go_wp2
      go_quiet (fail)
      go_wp2
      go_roundw
      case rel => exact ⟨i + 1, by omega, by go_num, below_drewN HB.out _⟩
      case measure => simp [intOf]; omega
    · go_wp2
      go_ret
      exact ⟨rfl, HB.out⟩
theorem sameInts_zero (a : Option Addr) (c : Nat) (a' : Option Addr) (c' : Nat) (w : World) : Calls Try.prog 29 #[.slice a 0 c, .slice a' 0 c'] w fun e w' => e = .returned (.bool true) ∧ Below w.heap.size w w' := by
  go_enter Try.func29, Try.ntmps29
  go_wp2
  go_loopw [5] (fun v wr => v = .int .i64 0 ∧ w = wr) (fun _ _ => 0)
  case atStart => exact ⟨rfl, rfl⟩
  case round =>
    obtain ⟨rfl, rfl⟩ := hrel
    go_wp2
    go_ret
    exact ⟨rfl, Below.refl _ _⟩
theorem sameInts_any (u v : Value) (zs : List Int) (B B' : Nat) (w : World) (h1 : IOwns w B u zs) (h2 : IOwns w B' v zs) (hn : zs.length ≤ 1000000) : Calls Try.prog 29 #[u, v] w fun e w' => e = .returned (.bool true) ∧ Below w.heap.size w w' := by
  rcases h1.at_ with ⟨rfl, hz⟩ | ⟨g1, c1, rfl, k1⟩ <;> rcases h2.at_ with ⟨rfl, hz'⟩ | ⟨g2, c2, rfl, k2⟩
  · exact (sameInts_none w).mono fun e w' h => ⟨h.1, h.2 ▸ Below.refl _ _⟩
  · subst hz
    exact sameInts_zero none 0 (some ⟨g2, 0, none⟩) c2 w
  · subst hz'
    exact sameInts_zero (some ⟨g1, 0, none⟩) c1 none 0 w
  · exact sameInts_some g1 c1 g2 c2 zs.length zs w k1 k2 rfl hn
set_option maxHeartbeats 2000000 in
theorem checks_walk (v : Value) (l : List CellV) (w : World) (hv : CellsIn w v l) (hnil : v = .slice none 0 0 ∨ ∃ a n c, v = .slice (some a) n c) (hlen : l.length * 56 ≤ 140737488351232) : Calls Try.prog 8 #[v] w fun e w' => e = .returned (.bool true) ∧ Below w.heap.size w w' := by
  have HTw : Hid (Calls Try.prog 13 #[v] w fun e w' => ∃ g cap, e = .returned (.slice (some ⟨g, 0, none⟩) l.length cap) ∧ TwinAt w' g cap l ∧ w.heap.size ≤ g ∧ Below w.heap.size w w') := twin_any v l w hv hnil hlen
  have HLp : Hid (∀ u X, CellsIn X u l → Calls Try.prog 25 #[u] X fun e w' => e = .returned (.tuple #[.int .i64 (leastA l 2), .int .i64 (leastA l 3), .int .i64 (checkE l)]) ∧ Below X.heap.size X w') := fun u X hX => least_prog u l X hX
  have HLr : Hid (∀ X, Below w.heap.size w X → Calls Try.prog 26 #[v] X fun e w' => e = .returned (.tuple #[.int .i64 (leastA l 2), .int .i64 (leastA l 3), .int .i64 (checkE l)]) ∧ Below X.heap.size X w') := fun X hX => least_ref v l X (hv.below hX)
  have HCp : Hid (∀ u X, CellsIn X u l → Calls Try.prog 27 #[u] X fun e w' => e = .returned (.int .i64 (checkE l)) ∧ Below X.heap.size X w') := fun u X hX => check_any u l X hX
  have HCr : Hid (∀ X, Below w.heap.size w X → Calls Try.prog 28 #[v] X fun e w' => e = .returned (.int .i64 (checkE l)) ∧ Below X.heap.size X w') := fun X hX => check_ref v l X (hv.below hX)
  have HPp : Hid (∀ u X, CellsIn X u l → Calls Try.prog 30 #[u] X fun e w' => ∃ z m c, e = .returned (.slice z m c) ∧ (panesL l).length = m ∧ IOwns w' X.heap.size (.slice z m c) (panesL l) ∧ Below X.heap.size X w') := fun u X hX => panes_any u l X hX
  have HPr : Hid (∀ X, Below w.heap.size w X → Calls Try.prog 31 #[v] X fun e w' => ∃ u, e = .returned u ∧ IOwns w' X.heap.size u (panesL l) ∧ Below X.heap.size X w') := fun X hX => panes_ref v l X (hv.below hX)
  have hpl : (panesL l).length ≤ 1000000 := by
    unfold panesL
    cases hr : readF l with
    | none => simp
    | some t => have := (lay_ids hr).2.2.1; simp; omega
  have HSi : Hid (∀ u z B B' X, IOwns X B u (panesL l) → IOwns X B' z (panesL l) → Calls Try.prog 29 #[u, z] X fun e w' => e = .returned (.bool true) ∧ Below X.heap.size X w') := fun u z B B' X h1 h2 => sameInts_any u z _ B B' X h1 h2 hpl
  have HW : Hid (∀ W, Calls Try.prog 11 #[] W fun e w' => e = .returned (.bool true) ∧ Below W.heap.size W w') := works_true
  have HK : Hid (∀ g cap X, TwinAt X g cap l → Below w.heap.size w X → Calls Try.prog 16 #[.slice (some ⟨g, 0, none⟩) l.length cap, v] X fun e w' => e = .returned (.bool true) ∧ Below X.heap.size X w') := fun g cap X hT hX => kept_any v g cap l X hT (hv.below hX) hlen
  obtain ⟨L, hL⟩ : ∃ L, l.length = L := ⟨_, rfl⟩
  obtain ⟨A, hA⟩ : ∃ x, leastA l 2 = x := ⟨_, rfl⟩
  obtain ⟨B, hB⟩ : ∃ x, leastA l 3 = x := ⟨_, rfl⟩
  obtain ⟨C, hC⟩ : ∃ x, checkE l = x := ⟨_, rfl⟩
  obtain ⟨P, hP⟩ : ∃ x, panesL l = x := ⟨_, rfl⟩
  rw [hA, hB, hC] at HLp HLr
  rw [hC] at HCp HCr
  rw [hP] at HPp HPr HSi
  rw [hL] at HTw HK
  have HTc : Hid (∀ X g cap, TwinAt X g cap l → CellsIn X (.slice (some ⟨g, 0, none⟩) L cap) l) := fun X g cap hT => by have := hT.cellsIn; rw [hL] at this; exact this
  clear hv hnil hlen hL hA hB hC hP hpl
  go_enter Try.func8, Try.ntmps8
  go_wp2_with fail
  refine HTw.out.mono ?_
  rintro e w1 ⟨g, cap, rfl, hT, _, hb1⟩
  have H1 : Hid (TwinAt w1 g cap l ∧ Below w.heap.size w w1) := ⟨hT, hb1⟩
  clear hT hb1 HTw
  go_wp2_with fail
  refine (HLp.out _ _ (HTc.out _ _ _ H1.out.1)).mono ?_
  rintro e w2 ⟨rfl, hb2⟩
  have H2 : Hid (TwinAt w2 g cap l ∧ Below w.heap.size w w2) := ⟨H1.out.1.below hb2, below_step H1.out.2 hb2⟩
  clear hb2 H1 HLp
  go_wp2_with fail
  refine (HLr.out _ H2.out.2).mono ?_
  rintro e w3 ⟨rfl, hb3⟩
  have H3 : Hid (TwinAt w3 g cap l ∧ Below w.heap.size w w3) := ⟨H2.out.1.below hb3, below_step H2.out.2 hb3⟩
  clear hb3 H2 HLr
  go_wp2_with fail
  refine (HW.out _).mono ?_
  rintro e w4 ⟨rfl, hb4⟩
  have H4 : Hid (TwinAt w4 g cap l ∧ Below w.heap.size w w4) := ⟨H3.out.1.below hb4, below_step H3.out.2 hb4⟩
  clear hb4 H3 HW
  go_wp2_with fail
  refine (HCp.out _ _ (HTc.out _ _ _ H4.out.1)).mono ?_
  rintro e w5 ⟨rfl, hb5⟩
  have H5 : Hid (TwinAt w5 g cap l ∧ Below w.heap.size w w5) := ⟨H4.out.1.below hb5, below_step H4.out.2 hb5⟩
  clear hb5 H4 HCp
  go_wp2_with fail
  refine (HCr.out _ H5.out.2).mono ?_
  rintro e w6 ⟨rfl, hb6⟩
  have H6 : Hid (TwinAt w6 g cap l ∧ Below w.heap.size w w6) := ⟨H5.out.1.below hb6, below_step H5.out.2 hb6⟩
  clear hb6 H5 HCr
  go_wp2_with fail
  refine (HPp.out _ _ (HTc.out _ _ _ H6.out.1)).mono ?_
  rintro e w7 ⟨z, m, zc, rfl, _, hio, hb7⟩
  have H7 : Hid (TwinAt w7 g cap l ∧ Below w.heap.size w w7) := ⟨H6.out.1.below hb7, below_step H6.out.2 hb7⟩
  have HI7 : Hid (IOwns w7 w6.heap.size (.slice z m zc) P) := hio
  clear hb7 H6 HPp hio
  go_wp2_with fail
  refine (HPr.out _ H7.out.2).mono ?_
  rintro e w8 ⟨u, rfl, hio, hb8⟩
  have H8 : Hid (TwinAt w8 g cap l ∧ Below w.heap.size w w8) := ⟨H7.out.1.below hb8, below_step H7.out.2 hb8⟩
  have HS8 : Hid (Calls Try.prog 29 #[.slice z m zc, u] w8 fun e w' => e = .returned (.bool true) ∧ Below w8.heap.size w8 w') := HSi.out _ _ _ _ w8 (HI7.out.below hb8) hio
  clear hb8 H7 HPr hio HI7 HSi
  go_wp2_with fail
  refine HS8.out.mono ?_
  rintro e w9 ⟨rfl, hb9⟩
  have H9 : Hid (TwinAt w9 g cap l ∧ Below w.heap.size w w9) := ⟨H8.out.1.below hb9, below_step H8.out.2 hb9⟩
  clear hb9 H8 HS8
  go_wp2_with fail
  refine (HK.out _ _ _ H9.out.1 H9.out.2).mono ?_
  rintro e w10 ⟨rfl, hb10⟩
  have H10 : Hid (Below w.heap.size w w10) := below_step H9.out.2 hb10
  clear hb10 H9
  go_wp2
  go_ret
  exact ⟨rfl, H10.out⟩

end Go.Proofs.Ytammadcigfbgeaa
