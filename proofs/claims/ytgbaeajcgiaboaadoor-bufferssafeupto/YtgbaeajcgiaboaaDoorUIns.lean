/-
  Buffers: slices.Insert of one buffer ahead of all.
-/
import Derived.Test.YtgbaeajcgiaboaaDoorUDel
import Derived.Deep.AppendSrc
namespace Go.Proofs.YtgbaeajcgiaboaaDoor
open Go.RowKit
set_option linter.unusedVariables false
set_option maxRecDepth 100000

set_option maxHeartbeats 4000000 in
theorem insert_none {w : World} {v : Value} (h : KpsAt w v []) (x : Kp) {vb : Nat} (hx : w.heap[vb]? = some (.cells (encK x).toArray 54 (0, 0))) :
    Calls Tryd.prog 60 #[v, .int .i64 0, .slice (some ⟨vb, 0, none⟩) 1 1] w fun e w' => ∃ v', e = .returned v' ∧ KpsAt w' v' [x] ∧ Trn w w' v v' := by
  have HS := hidK (Src.block (P := Tryd.prog) underK w vb (encK x) 54 3 hx rfl rfl)
  have HH : Hid (Row w 54 3 v 0 []) := h
  obtain ⟨ad, cp, rfl, hle, hcm, hnil, hsome⟩ := h.shape
  have hn63 : cp ≤ 9223372036854775807 := by unfold maxLen at hcm; omega
  clear hx h hcm hnil hsome hle
  go_enter Tryd.func60, Tryd.ntmps60
  go_wp2_with (at_builtin; refine wpList_append_row w rfl _ _ 43 43 rfl underK infoKe rfl rfl rfl HH.out HS.out (by decide) (by decide) ?_; intro v' w' hr hg)
  go_ret
  exact ⟨_, rfl, hr.out, Grown.trn hg.out⟩

theorem ins_room {w : World} {g o n cap : Nat} {l : List Kp} (h : KpsAt w (.slice (some ⟨g, o, none⟩) n cap) l) (hn : l.length = n) (hroom : n + 1 ≤ cap) (x : Kp) :
    KpsAt ((w.drew.setCells g (o + 3) (cellsK l)).setCells g o (encK x)) (.slice (some ⟨g, o, none⟩) (n + 1) cap) (x :: l) := by
  obtain ⟨hl, ⟨h0, _⟩ | ⟨g', o', cap', cur, he, hg, h1, h2, h3, h4⟩⟩ := h
  · cases h0
  simp only [Value.slice.injEq, Option.some.injEq, Addr.mk.injEq, and_true] at he
  obtain ⟨⟨rfl, rfl⟩, -, rfl⟩ := he
  have hr3 := Nat.mul_le_mul_right 3 hroom
  obtain ⟨c1, p1, q1, r1, s1⟩ := setCells_block g 54 (cellsK l) (o + 3) w.drew cur hg (by rw [cellsK_len, hn]; omega)
  obtain ⟨c2, p2, q2, r2, s2⟩ := setCells_block g 54 (encK x) o _ c1 p1 (by rw [q1]; simp [encK]; omega)
  refine ⟨by rw [cellsK_len], .inr ⟨g, o, cap, c2, by rw [List.length_cons, hn], p2, by rw [List.length_cons, hn]; exact hroom, h2, by rw [q2, q1]; exact h3, fun j u hu => ?_⟩⟩
  rw [cellsK_cons] at hu
  by_cases hj : j < 3
  · rw [List.getElem?_append_left (by simpa [encK] using hj)] at hu
    exact r2 j u hu
  · rw [List.getElem?_append_right (by simp [encK]; omega)] at hu
    rw [s2 _ (.inr (by simp [encK]; omega))]
    have := r1 _ _ hu
    rwa [show o + 3 + (j - (encK x).length) = o + j by simp [encK]; omega] at this

set_option maxHeartbeats 4000000 in
theorem insert_room {w : World} {g o n cap : Nat} {l : List Kp} (h : KpsAt w (.slice (some ⟨g, o, none⟩) n cap) l) (hn : l.length = n) (h0 : 0 < n) (hroom : n + 1 ≤ cap) (x : Kp) {vb : Nat} (hx : w.heap[vb]? = some (.cells (encK x).toArray 54 (0, 0))) (hvb : vb ≠ g) :
    Calls Tryd.prog 60 #[.slice (some ⟨g, o, none⟩) n cap, .int .i64 0, .slice (some ⟨vb, 0, none⟩) 1 1] w fun e w' => ∃ v', e = .returned v' ∧ KpsAt w' v' (x :: l) ∧ Trn w w' (.slice (some ⟨g, o, none⟩) n cap) v' := by
  have HD := hidK (ins_room h hn hroom x)
  have hcm : cap ≤ maxLen := by
    obtain ⟨ad, cp, he, _, hcm, _⟩ := h.shape
    cases he
    exact hcm
  obtain ⟨cur, hg, hfit, hcs⟩ : ∃ cur : Array Value, w.heap[g]? = some (.cells cur 54 (0, 0)) ∧ o + (n + 1) * 3 ≤ cur.size ∧ ∀ j u, (cellsK l)[j]? = some u → cur[o + j]? = some u := by
    obtain ⟨hl, ⟨h0', _⟩ | ⟨g', o', cap', cur, he, hg, h1, h2, h3, h4⟩⟩ := h
    · cases h0'
    simp only [Value.slice.injEq, Option.some.injEq, Addr.mk.injEq, and_true] at he
    obtain ⟨⟨rfl, rfl⟩, -, rfl⟩ := he
    exact ⟨cur, hg, by have := Nat.mul_le_mul_right 3 hroom; omega, h4⟩
  have hov : ∀ lb cb, (callFunc 72 #[.slice (some ⟨vb, 0, none⟩) 1 1, .slice (some ⟨g, o + 3, none⟩) lb cb]).run Tryd.prog w = .ok (.value (.bool false)) w := fun lb cb => by
    rw [run_callFunc_extern Tryd.func72 (by kernel_rfl) (by kernel_rfl) (by kernel_rfl) (e := Extern.SlicesOverlaps.overlaps #[43, 43] #[4]) (by kernel_rfl),
      Lib.run_overlaps_apart w 43 4 54 underK 3 (fun w => by kernel_rfl) ⟨vb, 0, none⟩ ⟨g, o + 3, none⟩ 1 1 lb cb hvb 54 54 3 cur.size (by have := shape_at hx; simpa [encK] using this) (shape_at hg) (by omega) (free_at hx _) (free_at hx _)]
    rfl
  have hcp1 : ∀ ty dc sc, (Builtin.copy_ #[43, 43] ty #[.slice (some ⟨g, o + 3, none⟩) n dc, .slice (some ⟨g, o, none⟩) (n + 1) sc]).run Tryd.prog w.drew = .ok (goInt n) (w.drew.setCells g (o + 3) (cellsK l)) := fun ty dc sc => by
    have := run_copy_cellsN (P := Tryd.prog) w.drew 43 43 ty 54 3 g (o + 3) n dc ⟨g, o, none⟩ (n + 1) sc (cellsK l) underK sizeK (by rw [cellsK_len, hn, show Nat.min (n + 1) n = n from Nat.min_eq_right (by omega)])
      (fun j u hu => by rw [addr_add]; show w.cell? _ = _; rw [cell_at hg]; exact hcs j u hu)
      (fun j hj => by rw [cellsK_len, hn] at hj; show (w.cell? _).isSome = true; rw [cell_at hg, Array.getElem?_eq_getElem (by omega)]; rfl) (fun j hj => free_at (w := w.drew) hg _) (cellsK_one l)
    rwa [show Nat.min (n + 1) n = n from Nat.min_eq_right (by omega)] at this
  obtain ⟨W1, hW1⟩ : ∃ W1, W1 = w.drew.setCells g (o + 3) (cellsK l) := ⟨_, rfl⟩
  have hb1 : But [g] w W1 := by rw [hW1]; exact ((But.refl [g] w).drew).setCells (by simp) _ _
  have HB : Hid (But [g] w (W1.setCells g o (encK x))) := hb1.setCells (by simp) _ _
  obtain ⟨c1, hc1, hs1⟩ : ∃ c1 : Array Value, W1.heap[g]? = some (.cells c1 54 (0, 0)) ∧ c1.size = cur.size := by
    obtain ⟨c1, p1, q1, _⟩ := setCells_block g 54 (cellsK l) (o + 3) w.drew cur hg (by rw [cellsK_len, hn]; omega)
    exact ⟨c1, by rw [hW1]; exact p1, q1⟩
  have hx1 : W1.heap[vb]? = some (.cells (encK x).toArray 54 (0, 0)) := (hb1.block vb (lt_block hx) (by simpa using hvb)).trans hx
  have hcp2 : ∀ ty dc, (Builtin.copy_ #[43, 43] ty #[.slice (some ⟨g, o, none⟩) (n + 1) dc, .slice (some ⟨vb, 0, none⟩) 1 1]).run Tryd.prog W1 = .ok (goInt 1) (W1.setCells g o (encK x)) := fun ty dc => by
    have := run_copy_cellsN (P := Tryd.prog) W1 43 43 ty 54 3 g o (n + 1) dc ⟨vb, 0, none⟩ 1 1 (encK x) underK sizeK (by rw [show Nat.min 1 (n + 1) = 1 from Nat.min_eq_left (by omega)]; rfl)
      (fun j u hu => by rw [addr_add, Nat.zero_add, cell_at hx1]; simpa using hu)
      (fun j hj => by simp [encK] at hj; rw [cell_at hc1, Array.getElem?_eq_getElem (by omega)]; rfl) (fun j hj => free_at hc1 _) (by simp [encK, Value.oneCell'])
    rwa [show Nat.min 1 (n + 1) = 1 from Nat.min_eq_left (by omega)] at this
  rw [← hW1] at hcp1 HD
  have hn63 : cap ≤ 9223372036854775807 := by unfold maxLen at hcm; omega
  have hz2 : ¬ ((0 : Int) = (n : Int)) := by omega
  have hz3 : ¬ (cap = 1) := by omega
  have hz4 : ¬ (cap = 0) := by omega
  have hz5 : ¬ ((cap : Int) < (n : Int) + 1) := by omega
  have hz6 : (n : Int) + 1 ≤ (cap : Int) := by omega
  have hz7 : (0 : Int) ≤ (n : Int) + 1 := by omega
  have hz8 : ((n : Int) + 1).toNat = n + 1 := by omega
  have hz9 : (1 : Int) ≤ (n : Int) + 1 := by omega
  have hwr : IntKind.i64.wrap ((n : Int) + 1) = (n : Int) + 1 := by rw [IntKind.wrap_i64]; omega
  have hw1 : IntKind.i64.wrap 1 = 1 := by decide
  have mixed : Tryd.prog.follows Departure.mixedOrders = true := by kernel_rfl
  have HC1 := hidK hcp1
  clear h hx hx1 hc1 hs1 hb1 hcs hcm hg hfit hW1 hcp1 hn
  go_enter Tryd.func60, Tryd.ntmps60
  go_wp2_with (simp only [hov])
  go_region_law_o (refine step_copy_run' rfl _ _ 43 43 rfl _ _ (by simp [Act.eval, Act.put]; rfl) (by simp [Act.eval, Act.put]; rfl) (HC1.out _ _ _) ?_)
  go_wp2_with fail
  go_ret
  exact ⟨_, rfl, HD.out, ⟨HB.out, fun q hq => .inl (by simpa [Value.ownBlock] using hq)⟩⟩

theorem ins_grow {W1 : World} {G cN : Nat} {l : List Kp} {ROW : Array Value} (n : Nat) (hn : l.length = n) (hg : W1.heap[G]? = some (.cells ROW 54 (0, 0))) (hs : cN * 3 ≤ ROW.size) (hc : n + 1 ≤ cN) (hcm : cN ≤ maxLen) (x : Kp) :
    KpsAt (((W1.setCells G 0 (encK x)).drew).setCells G 3 (cellsK l)) (.slice (some ⟨G, 0, none⟩) (n + 1) cN) (x :: l) := by
  have hr3 := Nat.mul_le_mul_right 3 hc
  obtain ⟨c1, p1, q1, r1, s1⟩ := setCells_block G 54 (encK x) 0 W1 ROW hg (by simp [encK]; omega)
  obtain ⟨c2, p2, q2, r2, s2⟩ := setCells_block G 54 (cellsK l) 3 ((W1.setCells G 0 (encK x)).drew) c1 p1 (by rw [q1, cellsK_len, hn]; omega)
  refine ⟨by rw [cellsK_len], .inr ⟨G, 0, cN, c2, by rw [List.length_cons, hn], p2, by rw [List.length_cons, hn]; exact hc, hcm, by rw [q2, q1]; omega, fun j u hu => ?_⟩⟩
  rw [cellsK_cons] at hu
  rw [Nat.zero_add]
  by_cases hj : j < 3
  · rw [List.getElem?_append_left (by simpa [encK] using hj)] at hu
    rw [s2 _ (.inl (by omega))]
    have := r1 j u hu
    rwa [Nat.zero_add] at this
  · rw [List.getElem?_append_right (by simp [encK]; omega)] at hu
    have := r2 _ _ hu
    rwa [show 3 + (j - (encK x).length) = j by simp [encK]; omega] at this

set_option maxHeartbeats 4000000 in
theorem insert_grow {w : World} {g o n cap : Nat} {l : List Kp} (h : KpsAt w (.slice (some ⟨g, o, none⟩) n cap) l) (hn : l.length = n) (h0 : 0 < n) (hroom : cap < n + 1) (hlen : n ≤ 1000000) (x : Kp) {vb : Nat} (hx : w.heap[vb]? = some (.cells (encK x).toArray 54 (0, 0))) (hvb : vb ≠ g) :
    Calls Tryd.prog 60 #[.slice (some ⟨g, o, none⟩) n cap, .int .i64 0, .slice (some ⟨vb, 0, none⟩) 1 1] w fun e w' => ∃ v', e = .returned v' ∧ KpsAt w' v' (x :: l) ∧ Trn w w' (.slice (some ⟨g, o, none⟩) n cap) v' := by
  obtain ⟨cur, hg, hcs, hnc⟩ : ∃ cur : Array Value, w.heap[g]? = some (.cells cur 54 (0, 0)) ∧ (∀ j u, (cellsK l)[j]? = some u → cur[o + j]? = some u) ∧ n ≤ cap := by
    obtain ⟨hl, ⟨h0', _⟩ | ⟨g', o', cap', cur, he, hg, h1, h2, h3, h4⟩⟩ := h
    · cases h0'
    simp only [Value.slice.injEq, Option.some.injEq, Addr.mk.injEq, and_true] at he
    obtain ⟨⟨rfl, rfl⟩, -, rfl⟩ := he
    exact ⟨cur, hg, h4, by rw [← hn]; exact h1⟩
  obtain ⟨i0, hi0, hz0, hz1, hz2⟩ := info_parts infoKe
  have hold : (Builtin.firstCells i0.size 0 (.slice (some ⟨g, o, none⟩) 0 cap)).run Tryd.prog w.drew = .ok ([] : List Value).toArray w.drew := by
    rw [hz1]
    exact run_firstCells_some w.drew 3 0 ⟨g, o, none⟩ 0 cap [] rfl (fun j u hu => by simp at hu)
  obtain ⟨cN, hcN⟩ : ∃ cN, grownCap w (n + 1) cap 54 = cN := ⟨_, rfl⟩
  obtain ⟨ROW, hROW⟩ : ∃ ROW : Array Value, ([] : List Value).toArray ++ Builtin.zeroCells zK.cells (n + 1) ++ Builtin.zeroCells zK.cells (cN - (n + 1)) = ROW := ⟨_, rfl⟩
  have hrz : ∀ ty, (Builtin.append_ #[43, 3] ty #[.slice (some ⟨g, o, none⟩) 0 cap, .int .i64 ((n : Int) + 1)]).run Tryd.prog w = .ok (.slice (some ⟨w.heap.size, 0, none⟩) (n + 1) cN) (w.drew.alloc (.cells ROW 54)) := fun ty => by
    have h := Lib.run_append_grow_zeros (P := Tryd.prog) w 43 3 ty 54 i0 zK .i64 .i64 underK Tryd.underlying3 hi0 hz0 (some ⟨g, o, none⟩) 0 cap [] hold (n + 1) (by omega) (by omega) (by omega) (by omega) (by rw [hz2]; omega) (by rw [hz2, Nat.zero_add]; exact growslice_fits hroom (by omega))
    rw [Nat.zero_add, hcN, hROW] at h
    rw [← h, Int.natCast_add]
    rfl
  have hcge : n + 1 ≤ cN := by rw [← hcN]; exact grownCap_ge w _ _ _
  have hcm : cN ≤ maxLen := by rw [← hcN]; exact grownCap_le_maxLen w (n + 1) cap _ (by unfold maxLen; omega)
  have hRs : cN * 3 ≤ ROW.size := by
    rw [← hROW]
    simp only [Array.size_append, List.size_toArray, size_zeroCells, List.length_nil, Nat.zero_add, ← Nat.add_mul]
    rw [show zK.cells.size = 3 from rfl]
    exact Nat.mul_le_mul_right 3 (by omega)
  obtain ⟨W1, hW1⟩ : ∃ W1, w.drew.alloc (.cells ROW 54) = W1 := ⟨_, rfl⟩
  obtain ⟨G, hG⟩ : ∃ G, w.heap.size = G := ⟨_, rfl⟩
  rw [hW1, hG] at hrz
  have hg1 : W1.heap[G]? = some (.cells ROW 54 (0, 0)) := by rw [← hW1, ← hG]; exact heap_alloc_new w.drew _
  have hb1 : Below w.heap.size w W1 := by rw [← hW1]; exact ((Below.refl _ w).drew).alloc (Nat.le_refl _) _
  have HD := hidK (ins_grow n hn hg1 hRs hcge hcm x)
  have hx1 : W1.heap[vb]? = some (.cells (encK x).toArray 54 (0, 0)) := (hb1.block vb (lt_block hx)).trans hx
  have hgG : g ≠ G := by have := lt_block hg; omega
  have hcp1 : ∀ ty dc, (Builtin.copy_ #[43, 43] ty #[.slice (some ⟨G, 0, none⟩) (n + 1) dc, .slice (some ⟨vb, 0, none⟩) 1 1]).run Tryd.prog W1 = .ok (goInt 1) (W1.setCells G 0 (encK x)) := fun ty dc => by
    have := run_copy_cellsN (P := Tryd.prog) W1 43 43 ty 54 3 G 0 (n + 1) dc ⟨vb, 0, none⟩ 1 1 (encK x) underK sizeK (by rw [show Nat.min 1 (n + 1) = 1 from Nat.min_eq_left (by omega)]; rfl)
      (fun j u hu => by rw [addr_add, Nat.zero_add, cell_at hx1]; simpa using hu)
      (fun j hj => by simp [encK] at hj; rw [cell_at hg1, Array.getElem?_eq_getElem (by omega)]; rfl) (fun j hj => free_at hg1 _) (by simp [encK, Value.oneCell'])
    rwa [show Nat.min 1 (n + 1) = 1 from Nat.min_eq_left (by omega)] at this
  obtain ⟨W2, hW2⟩ : ∃ W2, W1.setCells G 0 (encK x) = W2 := ⟨_, rfl⟩
  obtain ⟨c2, hc2, hs2⟩ : ∃ c2 : Array Value, W2.heap[G]? = some (.cells c2 54 (0, 0)) ∧ c2.size = ROW.size := by
    obtain ⟨c1, p1, q1, _⟩ := setCells_block G 54 (encK x) 0 W1 ROW hg1 (by simp [encK]; omega)
    exact ⟨c1, by rw [← hW2]; exact p1, q1⟩
  have hb2 : Below w.heap.size w W2 := by
    rw [← hW2]
    have : But [G] W1 (W1.setCells G 0 (encK x)) := (But.refl _ _).setCells (by simp) _ _
    exact this.under hb1 hb1.size (fun k hk => by simp at hk; omega)
  have hg2 : W2.heap[g]? = some (.cells cur 54 (0, 0)) := (hb2.block g (lt_block hg)).trans hg
  have hcp2 : ∀ ty dc sc, (Builtin.copy_ #[43, 43] ty #[.slice (some ⟨G, 3, none⟩) n dc, .slice (some ⟨g, o, none⟩) n sc]).run Tryd.prog W2.drew = .ok (goInt n) (W2.drew.setCells G 3 (cellsK l)) := fun ty dc sc => by
    have := run_copy_cellsN (P := Tryd.prog) W2.drew 43 43 ty 54 3 G 3 n dc ⟨g, o, none⟩ n sc (cellsK l) underK sizeK (by rw [cellsK_len, hn, show Nat.min n n = n from Nat.min_self n])
      (fun j u hu => by rw [addr_add]; show W2.cell? _ = _; rw [cell_at hg2]; exact hcs j u hu)
      (fun j hj => by rw [cellsK_len, hn] at hj; show (W2.cell? _).isSome = true; rw [cell_at hc2, Array.getElem?_eq_getElem (by omega)]; rfl) (fun j hj => free_at (w := W2.drew) hc2 _) (cellsK_one l)
    rwa [show Nat.min n n = n from Nat.min_self n] at this
  have HB : Hid (Below w.heap.size w (W2.drew.setCells G 3 (cellsK l))) := by
    have : But [G] W2 (W2.drew.setCells G 3 (cellsK l)) := ((But.refl _ _).drew).setCells (by simp) _ _
    exact this.under hb2 hb2.size (fun k hk => by simp at hk; omega)
  have HG : Hid (w.heap.size = G) := hG
  rw [hW2] at hcp1 HD
  have hn63 : cap ≤ 9223372036854775807 := by omega
  have hcn63 : cN ≤ 9223372036854775807 := by unfold maxLen at hcm; omega
  have hz2 : ¬ ((0 : Int) = (n : Int)) := by omega
  have hz3 : ¬ (cN = 1) := by omega
  have hz4 : ¬ (cap = 0) := by omega
  have hz10 : ¬ (cN = 0) := by omega
  have hz5 : (cap : Int) < (n : Int) + 1 := by omega
  have hz7 : (0 : Int) ≤ (n : Int) + 1 := by omega
  have hz8 : ((n : Int) + 1).toNat = n + 1 := by omega
  have hz9 : (1 : Int) ≤ (n : Int) + 1 := by omega
  have hwr : IntKind.i64.wrap ((n : Int) + 1) = (n : Int) + 1 := by rw [IntKind.wrap_i64]; omega
  have hw1 : IntKind.i64.wrap 1 = 1 := by decide
  have mixed : Tryd.prog.follows Departure.mixedOrders = true := by kernel_rfl
  have HC2 := hidK hcp2
  clear h hx hx1 hc2 hs2 hb1 hb2 hcs hcm hg hg1 hg2 hW1 hW2 hcp2 hn hG hcN hROW hold hRs
  go_enter Tryd.func60, Tryd.ntmps60
  go_wp2_with (at_builtin; refine Lib.wpList_append_run _ rfl _ _ _ _ rfl _ _ rfl rfl _ _ (hrz _) ?_)
  go_region_law_o (refine step_copy_run' rfl _ _ 43 43 rfl _ _ (by simp [Act.eval, Act.put]; rfl) (by simp [Act.eval, Act.put]; rfl) (HC2.out _ _ _) ?_)
  go_wp2_with fail
  go_ret
  exact ⟨_, rfl, HD.out, ⟨But.of HB.out, fun q hq => .inr (by have := HG.out; simp [Value.ownBlock] at hq; omega)⟩⟩
/-- One buffer ahead of all. -/
theorem insert_any {w : World} {v : Value} {l : List Kp} (h : KpsAt w v l) (hlen : l.length ≤ 1000000) (x : Kp) {vb : Nat} (hx : w.heap[vb]? = some (.cells (encK x).toArray 54 (0, 0))) (hvb : ∀ g, v.ownBlock = some g → vb ≠ g) :
    Calls Tryd.prog 60 #[v, .int .i64 0, .slice (some ⟨vb, 0, none⟩) 1 1] w fun e w' => ∃ v', e = .returned v' ∧ KpsAt w' v' (x :: l) ∧ Trn w w' v v' := by
  cases l with
  | nil => exact insert_none h x hx
  | cons y l =>
    obtain ⟨ad, cp, rfl, hle, hcm, hnil, hsome⟩ := h.shape
    cases ad with
    | none => have := (hnil rfl).1; cases this
    | some a =>
      obtain ⟨g, o, rfl, ho, hgl, _⟩ := hsome a rfl
      by_cases hr : (y :: l).length + 1 ≤ cp
      · exact insert_room h rfl (by simp) hr x hx (hvb g ho)
      · exact insert_grow h rfl (by simp) (by omega) hlen x hx (hvb g ho)
end Go.Proofs.YtgbaeajcgiaboaaDoor
