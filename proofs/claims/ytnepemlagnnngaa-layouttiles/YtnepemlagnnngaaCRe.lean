/-
  Layouts: slices.Replace of one part by several: at the end of the list, within its capacity, beyond it.
  Layouts: slices.Replace of one part by several, in the midst of a list.
-/
import Derived.Test.YtnepemlagnnngaaCMv
import Derived.Test.YtnepemlagnnngaaCTk
import Derived.Shelf.Spec.SlicesInsert
import Derived.Lib.AppendZerosOnto
import Derived.Laws.NewBlocks
import Derived.Laws.OwnMore
namespace Go.Proofs.Ytnepemlagnnngaa
open Go.RowKit Go.Lib
set_option linter.unusedVariables false
set_option maxRecDepth 100000

theorem own_open {w : World} {pg L cap : Nat} {vs : List Value} (h : w.ownsRow 0 56 1 (.slice (some ⟨pg, 0, none⟩) L cap) L vs) : ∃ cur : Array Value, w.heap[pg]? = some (.cells cur 56 (0, 0)) ∧ L ≤ cap ∧ cap ≤ maxLen ∧ cur.size = cap ∧ cur.toList.take L = vs ∧ vs.length = L := by
  rcases h.2 with ⟨e, _⟩ | ⟨g, c, cur, e, hb, hg, hn, hm, hs, ht⟩
  · cases e
  · cases e
    exact ⟨cur, hg, hn, hm, by simpa using hs, by simpa using ht, by simpa using h.1⟩
theorem own_shut {w : World} {pg L cap : Nat} {vs : List Value} {cur : Array Value} (hg : w.heap[pg]? = some (.cells cur 56 (0, 0))) (h1 : L ≤ cap) (h2 : cap ≤ maxLen) (h3 : cur.size = cap) (h4 : cur.toList.take L = vs) : w.ownsRow 0 56 1 (.slice (some ⟨pg, 0, none⟩) L cap) L vs := by
  refine ⟨?_, .inr ⟨pg, cap, cur, rfl, Nat.zero_le _, hg, h1, h2, by simpa using h3, by simpa using h4⟩⟩
  rw [← h4, List.length_take, Array.length_toList]
  omega
theorem own_prefix {w : World} {pg L cap i : Nat} {vs : List Value} (h : w.ownsRow 0 56 1 (.slice (some ⟨pg, 0, none⟩) L cap) L vs) (hi : i ≤ L) : w.ownsRow 0 56 1 (.slice (some ⟨pg, 0, none⟩) i cap) i (vs.take i) := by
  obtain ⟨cur, hg, a1, a2, a3, a4, a5⟩ := own_open h
  refine own_shut hg (by omega) a2 a3 ?_
  rw [← a4, List.take_take, Nat.min_eq_left hi]
theorem own_cells {w : World} {pg L cap : Nat} {vs : List Value} (h : w.ownsRow 0 56 1 (.slice (some ⟨pg, 0, none⟩) L cap) L vs) : ∀ j v, vs[j]? = some v → w.cell? ⟨pg, j, none⟩ = some v := by
  intro j v hj
  have hl := h.1
  have := World.ownsRow.cellAt h j (by have := (List.getElem?_eq_some_iff.1 hj).1; omega)
  rw [this, hj]

/-- What Replace leaves. -/
def Replaced (pg L m : Nat) (ys : List Value) (w : World) (e : Ending) (w' : World) : Prop := ∃ g c, e = .returned (.slice (some ⟨g, 0, none⟩) (L - 1 + m) c) ∧ w'.ownsRow 0 56 1 (.slice (some ⟨g, 0, none⟩) (L - 1 + m) c) (L - 1 + m) ys ∧ (g = pg ∨ w.heap.size ≤ g) ∧ But [pg] w w'

set_option maxHeartbeats 4000000 in
theorem replace_end (pg L cap pg2 m c2 : Nat) (vs us : List Value) (w : World) (h : w.ownsRow 0 56 1 (.slice (some ⟨pg, 0, none⟩) L cap) L vs) (h2 : w.ownsRow 0 56 1 (.slice (some ⟨pg2, 0, none⟩) m c2) m us) (hone : ∀ u ∈ us, u.oneCell' = true) (hm : 2 ≤ m) (hm2 : m ≤ 1000) (hL : 1 ≤ L) (hL2 : L ≤ 1000) :
    Calls Try.prog 61 #[.slice (some ⟨pg, 0, none⟩) L cap, .int .i64 ((L - 1 : Nat) : Int), .int .i64 (L : Int), .slice (some ⟨pg2, 0, none⟩) m c2] w (Replaced pg L m (vs.take (L - 1) ++ us) w) := by
  obtain ⟨i, rfl⟩ : ∃ i, L = i + 1 := ⟨L - 1, by omega⟩
  rw [Nat.add_sub_cancel]
  obtain ⟨cur, hg, a1, a2, a3, a4, a5⟩ := own_open h
  have HP : Hid (w.ownsRow 0 56 1 (.slice (some ⟨pg, 0, none⟩) i cap) i (vs.take i)) := own_prefix h (by omega)
  obtain ⟨i0, hi0, hz0, hz1, hz2⟩ := info_partsL infoPart
  obtain ⟨ys, hys⟩ : ∃ ys, vs.take i ++ us = ys := ⟨_, rfl⟩
  have HE : Hid (∀ v' w', w'.ownsRow 0 56 1 v' (i + m) (vs.take i ++ us) → w.grownBy w' (some pg) → (v'.ownBlock = some pg ∨ v'.ownBlock = some w.heap.size) → ∃ g c, v' = .slice (some ⟨g, 0, none⟩) (i + m) c ∧ Replaced pg (i + 1) m ys w (.returned v') w') := by
    intro v' w' b1 b2 b3
    rcases b1.2 with ⟨e, e0⟩ | ⟨g, c, cur', e, _⟩
    · omega
    · subst e
      refine ⟨g, c, rfl, g, c, rfl, by rw [← hys]; exact b1, ?_, But.grown b2⟩
      rcases b3 with b3 | b3
      · have : g = pg := by simpa [Value.ownBlock] using b3
        exact .inl this
      · have : g = w.heap.size := by simpa [Value.ownBlock] using b3
        exact .inr (by omega)
  have HS : Hid (us.length = m * 1) := h2.1
  have HC : Hid (∀ j u, us[j]? = some u → w.cell? ((⟨pg2, 0, none⟩ : Addr).add j) = some u) := fun j u hj => by rw [Addr.add_lit, Nat.zero_add]; exact own_cells h2 j u hj
  have HO : Hid (∀ u ∈ us, u.oneCell' = true) := hone
  have HI : Hid (Try.prog.info? 56 = some i0 ∧ i0.zero = some .nilIface ∧ i0.size = 1 ∧ i0.bytes = 16) := ⟨hi0, hz0, hz1, hz2⟩
  have hc63 : cap ≤ 9223372036854775807 := a2
  have hz3 : ¬ ((i : Int) = (i : Int) + 1) := by omega
  rw [hys]
  clear h h2 hg a2 a3 a4 a5 hone hi0 hz0 hz1 hz2 hys
  go_enter Try.func61, Try.ntmps61
  go_wp2_with (at_builtin; refine wpList_append_own_at _ rfl _ _ 76 rfl 0 56 i0 .nilIface 1 16 Try.underlying76 HI.out.1 HI.out.2.1 HI.out.2.2.1 HI.out.2.2.2 rfl (by decide) (.slice (some ⟨pg, 0, none⟩) i cap) i (vs.take i) ?y1 HP.out ⟨pg2, 0, none⟩ m c2 us ?y2 HS.out HC.out HO.out ?x1 ?x2 (Nat.zero_le _) ?_; (case y1 => rfl); (case y2 => rfl); (case x1 => unfold maxLen; omega); (case x2 => omega); intro v' w6 b1 b2 _ b3; obtain ⟨g, c, hv', hR⟩ := HE.out v' w6 b1 b2 b3; subst hv'; have HR : Hid (Replaced pg (i + 1) m ys w (.returned (.slice (some ⟨g, 0, none⟩) (i + m) c)) w6) := hR; clear b1 b2 b3 hR)
  all_goals go_ret
  all_goals exact HR.out

end Go.Proofs.Ytnepemlagnnngaa

namespace Go.Proofs.Ytnepemlagnnngaa
open Go.RowKit Go.Lib
set_option linter.unusedVariables false
set_option maxRecDepth 100000

theorem sizePart : (Try.prog.info? 56).map (·.size) = some 1 := by
  obtain ⟨i0, hi0, hz0, hz1, hz2⟩ := info_partsL infoPart
  rw [hi0]
  simp [hz1]
theorem setRow_but (w : World) (g : Nat) (cs : Array Value) : But [g] w (w.setRow g cs) := ⟨rfl, rfl, rfl, by simp [World.setRow], fun k hk hn => setRow_other w g k cs (by simpa using hn)⟩
theorem But.undrew {S : List Nat} {w w' : World} (h : But S w.drew w') : But S w w' := ⟨h.os, h.tape, h.output, h.size, h.block⟩

set_option maxHeartbeats 4000000 in
theorem replace_room (pg L cap pg2 m c2 i : Nat) (vs us : List Value) (w : World) (h : w.ownsRow 0 56 1 (.slice (some ⟨pg, 0, none⟩) L cap) L vs) (h2 : w.ownsRow 0 56 1 (.slice (some ⟨pg2, 0, none⟩) m c2) m us) (hne : pg ≠ pg2) (hone : ∀ u ∈ us, u.oneCell' = true) (hone' : ∀ u ∈ vs, u.oneCell' = true) (hm : 2 ≤ m) (hm2 : m ≤ 1000) (hi : i + 1 < L) (hL2 : L ≤ 1000) (hroom : L - 1 + m ≤ cap) :
    Calls Try.prog 61 #[.slice (some ⟨pg, 0, none⟩) L cap, .int .i64 (i : Int), .int .i64 ((i : Int) + 1), .slice (some ⟨pg2, 0, none⟩) m c2] w (Replaced pg L m (vs.take i ++ (us ++ vs.drop (i + 1))) w) := by
  obtain ⟨cur, hg, a1, a2, a3, a4, a5⟩ := own_open h
  obtain ⟨cur2, hg2, b1, b2, b3, b4, b5⟩ := own_open h2
  obtain ⟨k, hk⟩ : ∃ k, L = i + 1 + k := ⟨L - (i + 1), by omega⟩
  subst hk
  have hdl : (vs.drop (i + 1)).length = k := by rw [List.length_drop, a5]; omega
  obtain ⟨tl, htl⟩ : ∃ tl, vs.drop (i + 1) = tl := ⟨_, rfl⟩
  rw [htl] at hdl ⊢
  have htot : i + 1 + k - 1 + m = i + m + k := by omega
  have hov : ∀ lb cb, (callFunc 81 #[.slice (some ⟨pg, i + m, none⟩) lb cb, .slice (some ⟨pg2, 0, none⟩) m c2]).run Try.prog w.drew = .ok (.value (.bool false)) w.drew := fun lb cb => by
    rw [run_callFunc_extern Try.func81 (by kernel_rfl) (by kernel_rfl) (by kernel_rfl) (e := Extern.SlicesOverlaps.overlaps #[76, 76] #[4]) (by kernel_rfl),
      Lib.run_overlaps_apart w.drew 76 4 56 Try.underlying76 1 Try.sizeOf56 ⟨pg, i + m, none⟩ ⟨pg2, 0, none⟩ lb cb m c2 hne 56 56 cur.size cur2.size (by show w.shape? pg = _; simp [World.shape?, hg]) (by show w.shape? pg2 = _; simp [World.shape?, hg2]) (by omega) (by show w.frozen? _ = _; simp [World.frozen?, hg]) (by show w.frozen? _ = _; simp [World.frozen?, hg])]
    rfl
  obtain ⟨A1, hA1⟩ : ∃ A1 : Array Value, A1 = (cur.toList.take (i + m) ++ tl ++ cur.toList.drop (i + m + tl.length)).toArray := ⟨_, rfl⟩
  have hA1s : A1.size = cap := by rw [hA1]; simp; omega
  have hsrc1 : ∀ j v, tl[j]? = some v → w.drew.drew.cell? ((⟨pg, i + 1, none⟩ : Addr).add j) = some v := fun j v hj => by
    rw [Addr.add_lit]
    exact own_cells h (i + 1 + j) v (by rw [← htl, List.getElem?_drop] at hj; exact hj)
  have hone1 : ∀ u ∈ tl, u.oneCell' = true := fun u hu => hone' u (by rw [← htl] at hu; exact List.mem_of_mem_drop hu)
  have hcp1 : ∀ ty dc sc, (Builtin.copy_ #[76, 76] ty #[.slice (some ⟨pg, i + m, none⟩) k dc, .slice (some ⟨pg, i + 1, none⟩) k sc]).run Try.prog w.drew.drew = .ok (goInt tl.length) (w.drew.drew.setRow pg A1) := fun ty dc sc => by
    rw [hA1]
    exact run_copy_row Try.prog w.drew.drew _ _ ty 56 pg (i + m) _ dc ⟨pg, i + 1, none⟩ _ sc cur 56 tl Try.underlying76 sizePart hg (by rw [hdl]; simp only [Nat.min_def]; split <;> omega) hsrc1 (by omega) hone1
  obtain ⟨W1, hW1⟩ : ∃ W1, W1 = w.drew.drew.setRow pg A1 := ⟨_, rfl⟩
  have hg1 : W1.heap[pg]? = some (.cells A1 56 (0, 0)) := by rw [hW1]; exact setRow_heap w.drew.drew pg _ _ 56 _ hg
  have hb1 : But [pg] w W1 := by rw [hW1]; exact (setRow_but w.drew.drew pg A1).undrew.undrew
  obtain ⟨A2, hA2⟩ : ∃ A2 : Array Value, A2 = (A1.toList.take i ++ us ++ A1.toList.drop (i + us.length)).toArray := ⟨_, rfl⟩
  have hcp2 : ∀ n, m ≤ n → ∀ ty dc, (Builtin.copy_ #[76, 76] ty #[.slice (some ⟨pg, i, none⟩) n dc, .slice (some ⟨pg2, 0, none⟩) m c2]).run Try.prog W1 = .ok (goInt us.length) (W1.setRow pg A2) := fun n hn ty dc => by
    rw [hA2]
    refine run_copy_row Try.prog W1 _ _ ty 56 pg i _ dc ⟨pg2, 0, none⟩ _ c2 A1 56 us Try.underlying76 sizePart hg1 (by rw [b5]; simp only [Nat.min_def]; split <;> omega) (fun j v hj => ?_) (by omega) hone
    rw [Addr.add_lit, Nat.zero_add]
    have := own_cells h2 j v hj
    rw [World.cell?_of_block (w' := W1) (w := w) (a := ⟨pg2, j, none⟩) (hb1.block pg2 (lt_of_block hg2) (by simpa using Ne.symm hne))]
    exact this
  have HE : Hid (Replaced pg (i + 1 + k) m (vs.take i ++ (us ++ tl)) w (.returned (.slice (some ⟨pg, 0, none⟩) (i + m + k) cap)) (W1.setRow pg A2)) := by
    refine ⟨pg, cap, by rw [htot], ?_, .inl rfl, hb1.trans (setRow_but W1 pg A2)⟩
    rw [htot]
    refine own_shut (setRow_heap W1 pg _ _ 56 _ hg1) (by omega) a2 ?_ ?_
    · rw [hA2]
      simp
      omega
    · rw [hA2, hA1]
      have e1 : cur.toList.take i = vs.take i := by rw [← a4, List.take_take, Nat.min_eq_left (by omega)]
      have hcl : cur.toList.length = cap := by simpa using a3
      have e2 : (cur.toList.take (i + m) ++ tl ++ cur.toList.drop (i + m + tl.length)).take i = vs.take i := by
        rw [List.append_assoc, List.take_append_of_le_length (by rw [List.length_take]; omega), List.take_take, Nat.min_eq_left (by omega), e1]
      have e3 : (cur.toList.take (i + m) ++ tl ++ cur.toList.drop (i + m + tl.length)).drop (i + us.length) = tl ++ cur.toList.drop (i + m + tl.length) := by
        rw [List.append_assoc, b5, List.drop_left' (by rw [List.length_take]; omega)]
      simp only at *
      rw [e2, e3, List.append_assoc, ← List.append_assoc us, ← List.append_assoc (vs.take i), List.take_left' (by rw [List.length_append, List.length_append, List.length_take, a5, b5, hdl]; omega)]
  rw [← hW1] at hcp1
  have hc63 : cap ≤ 9223372036854775807 := a2
  have hz2 : ¬ ((i : Int) + 1 = (i : Int) + 1 + (k : Int)) := by omega
  have hw1 : IntKind.i64.wrap ((i : Int) + (m : Int)) = (i : Int) + (m : Int) := by rw [IntKind.wrap_i64]; omega
  have hb1' : (0 : Int) ≤ (i : Int) + (m : Int) := by omega
  have htn : ((i : Int) + (m : Int)).toNat = i + m := by omega
  have hb2' : ¬ (cap = i + m) := by omega
  have hb4 : ¬ (cap = i) := by omega
  have hq1 : (0 ≤ (i : Int) + 1 ∧ (i : Int) + 1 ≤ (cap : Int)) = True := eq_true (by omega)
  have hq2 : (0 ≤ (i : Int) + 1 ∧ (i : Int) + 1 ≤ ((i + 1 + k : Nat) : Int)) = True := eq_true (by omega)
  have hq3 : (cap = i + 1) = False := eq_false (by omega)
  have hq4 : ((i : Int) + 1).toNat = i + 1 := by omega
  have hq5 : (0 ≤ (i : Int) + (m : Int) ∧ (i : Int) + (m : Int) ≤ (i : Int) + (m : Int) + (k : Int)) = True := eq_true (by omega)
  have hq6 : (0 ≤ (i : Int) + 1 ∧ (i : Int) + 1 ≤ (i : Int) + 1 + (k : Int)) = True := eq_true (by omega)
  have hq8 : (i : Int) + (m : Int) ≤ (i : Int) + (m : Int) + (k : Int) := by omega
  have hq9 : (i : Int) + 1 ≤ (i : Int) + 1 + (k : Int) := by omega
  have hq10 : (0 : Int) ≤ (i : Int) + 1 := by omega
  have hq7 : (cap = i + m) = False := eq_false (by omega)
  have mixed : Try.prog.follows .mixedOrders = true := by kernel_rfl
  clear h h2 hg hg2 a2 a3 a4 a5 b1 b2 b3 b4 b5 hone hone' hA1 hA1s hsrc1 hone1 hg1 hb1 hA2 hW1 htl hdl
  go_enter Try.func61, Try.ntmps61
  go_wp2
  go_region
  go_wp2_with (simp only [hov])
  go_region_law_o (refine step_copy_runI rfl _ _ 76 76 rfl _ _ (by simp [Act.eval, Act.put]) (by simp [Act.eval, Act.put]) (hcp1 _ _ _) ?_)
  have hc2 := hcp2 (i + m + k - i) (by omega) 3 (cap - i)
  go_wp2
  all_goals go_ret
  all_goals exact HE.out

set_option maxHeartbeats 4000000 in
theorem replace_grow (pg L cap pg2 m c2 i : Nat) (vs us : List Value) (w : World) (h : w.ownsRow 0 56 1 (.slice (some ⟨pg, 0, none⟩) L cap) L vs) (h2 : w.ownsRow 0 56 1 (.slice (some ⟨pg2, 0, none⟩) m c2) m us) (hone : ∀ u ∈ us, u.oneCell' = true) (hone' : ∀ u ∈ vs, u.oneCell' = true) (hm : 2 ≤ m) (hm2 : m ≤ 1000) (hi : i + 1 < L) (hL2 : L ≤ 1000) (hroom : cap < L - 1 + m) :
    Calls Try.prog 61 #[.slice (some ⟨pg, 0, none⟩) L cap, .int .i64 (i : Int), .int .i64 ((i : Int) + 1), .slice (some ⟨pg2, 0, none⟩) m c2] w (Replaced pg L m (vs.take i ++ (us ++ vs.drop (i + 1))) w) := by
  obtain ⟨cur, hg, a1, a2, a3, a4, a5⟩ := own_open h
  obtain ⟨cur2, hg2, b1, b2, b3, b4, b5⟩ := own_open h2
  obtain ⟨k, hk⟩ : ∃ k, L = i + 1 + k := ⟨L - (i + 1), by omega⟩
  subst hk
  have hdl : (vs.drop (i + 1)).length = k := by rw [List.length_drop, a5]; omega
  obtain ⟨tl, htl⟩ : ∃ tl, vs.drop (i + 1) = tl := ⟨_, rfl⟩
  rw [htl] at hdl ⊢
  have htot : i + 1 + k - 1 + m = i + m + k := by omega
  rw [htot] at hroom
  obtain ⟨i0, hi0, hz0, hzs, hzb⟩ := info_partsL infoPart
  have hlt := lt_of_block hg
  have hlt2 := lt_of_block hg2
  obtain ⟨X, hX⟩ : ∃ X, X = w.drew := ⟨_, rfl⟩
  have hXh : X.heap = w.heap := by rw [hX]; rfl
  have hXg : X.heap[pg]? = some (.cells cur 56 (0, 0)) := by rw [hXh]; exact hg
  have hXc : ∀ j v, vs[j]? = some v → X.cell? ⟨pg, j, none⟩ = some v := fun j v hj => by
    rw [World.cell?_of_block (w' := X) (w := w) (a := ⟨pg, j, none⟩) (by rw [hXh])]
    exact own_cells h j v hj
  have hold : (Builtin.firstCells i0.size i (.slice (some ⟨pg, 0, none⟩) i cap)).run Try.prog X.drew = .ok (vs.take i).toArray X.drew := by
    rw [hzs]
    exact run_firstCells_some X.drew 1 i ⟨pg, 0, none⟩ i cap (vs.take i) (by rw [List.length_take]; omega) (fun j v hj => by
      rw [Addr.add_lit, Nat.zero_add]
      rw [List.getElem?_take] at hj
      split at hj
      · exact hXc j v hj
      · cases hj)
  have hik : i + (m + k) = i + m + k := by omega
  obtain ⟨G, hG⟩ : ∃ G, G = grownCap X (i + m + k) cap 56 := ⟨_, rfl⟩
  obtain ⟨ROW, hROW⟩ : ∃ ROW : Array Value, ROW = (vs.take i).toArray ++ Builtin.zeroCells (Value.nilIface).cells (m + k) ++ Builtin.zeroCells (Value.nilIface).cells (G - (i + m + k)) := ⟨_, rfl⟩
  have hrz : ∀ ty, (Builtin.append_ #[76, 3] ty #[.slice (some ⟨pg, 0, none⟩) i cap, .int .i64 ((m + k : Nat) : Int)]).run Try.prog X =
      .ok (.slice (some ⟨w.heap.size, 0, none⟩) (i + m + k) G) (X.drew.alloc (.cells ROW 56)) := fun ty => by
    have h := Lib.run_append_grow_zeros X 76 3 ty 56 i0 _ .i64 .i64 Try.underlying76 Try.underlying3 hi0 hz0 (some ⟨pg, 0, none⟩) i cap (vs.take i) hold (m + k) (by omega) (by omega) (by omega) (by omega) (by rw [hzb]; omega) (by rw [hzb, hik]; exact growslice_fits hroom (by omega))
    rw [hik, ← hG, ← hROW, show X.heap.size = w.heap.size by rw [hXh]] at h
    exact h
  have hGn : i + m + k ≤ G := by rw [hG]; exact grownCap_ge X _ _ _
  have hG63 : G ≤ maxLen := by rw [hG]; exact grownCap_le_maxLen X _ cap 56 (by unfold maxLen; omega)
  have hRs : ROW.size = G := by
    rw [hROW]
    simp [Builtin.zeroCells, Value.cells]
    omega
  have hRt : ROW.toList.take i = vs.take i := by
    rw [hROW]
    simp only [Array.toList_append, List.append_assoc]
    rw [List.take_left' (by simp; omega)]
  obtain ⟨W1, hW1⟩ : ∃ W1, W1 = X.drew.alloc (.cells ROW 56) := ⟨_, rfl⟩
  have hg1 : W1.heap[w.heap.size]? = some (.cells ROW 56 (0, 0)) := by
    rw [hW1]
    have := heap_alloc_new X.drew (.cells ROW 56)
    rw [show X.drew.heap.size = w.heap.size by show X.heap.size = _; rw [hXh]] at this
    exact this
  have hb1 : Below w.heap.size w W1 := by
    have h0 : Below w.heap.size w X := by rw [hX]; exact (Below.refl _ _).drew
    rw [hW1]
    exact (h0.drew).alloc (by show _ ≤ X.heap.size; rw [hXh]; exact Nat.le_refl _) _
  obtain ⟨A1, hA1⟩ : ∃ A1 : Array Value, A1 = (ROW.toList.take i ++ us ++ ROW.toList.drop (i + us.length)).toArray := ⟨_, rfl⟩
  have hA1s : A1.size = G := by rw [hA1]; simp; omega
  obtain ⟨A2, hA2⟩ : ∃ A2 : Array Value, A2 = (A1.toList.take (i + m) ++ tl ++ A1.toList.drop (i + m + tl.length)).toArray := ⟨_, rfl⟩
  have hcpA : ∀ n, m ≤ n → ∀ (W : World), W.heap = W1.heap → ∀ ty dc, (Builtin.copy_ #[76, 76] ty #[.slice (some ⟨w.heap.size, i, none⟩) n dc, .slice (some ⟨pg2, 0, none⟩) m c2]).run Try.prog W = .ok (goInt us.length) (W.setRow w.heap.size A1) := fun n hn W hW ty dc => by
    rw [hA1]
    refine run_copy_row Try.prog W _ _ ty 56 w.heap.size i _ dc ⟨pg2, 0, none⟩ _ c2 ROW 56 us Try.underlying76 sizePart (by rw [hW]; exact hg1) (by rw [b5]; simp only [Nat.min_def]; split <;> omega) (fun j v hj => ?_) (by omega) hone
    rw [Addr.add_lit, Nat.zero_add, World.cell?_of_block (w' := W) (w := w) (a := ⟨pg2, j, none⟩) (by rw [hW]; exact hb1.block pg2 hlt2)]
    exact own_cells h2 j v hj
  have hone1 : ∀ u ∈ tl, u.oneCell' = true := fun u hu => hone' u (by rw [← htl] at hu; exact List.mem_of_mem_drop hu)
  have hcpB : ∀ (W : World), W.heap = (W1.setRow w.heap.size A1).heap → ∀ ty dc sc, (Builtin.copy_ #[76, 76] ty #[.slice (some ⟨w.heap.size, i + m, none⟩) k dc, .slice (some ⟨pg, i + 1, none⟩) k sc]).run Try.prog W = .ok (goInt tl.length) (W.setRow w.heap.size A2) := fun W hW ty dc sc => by
    rw [hA2]
    refine run_copy_row Try.prog W _ _ ty 56 w.heap.size (i + m) _ dc ⟨pg, i + 1, none⟩ _ sc A1 56 tl Try.underlying76 sizePart (by rw [hW]; exact setRow_heap W1 w.heap.size _ _ 56 _ hg1) (by rw [hdl]; simp only [Nat.min_def]; split <;> omega) (fun j v hj => ?_) (by omega) hone1
    rw [Addr.add_lit, World.cell?_of_block (w' := W) (w := w) (a := ⟨pg, i + 1 + j, none⟩) (by rw [hW, setRow_other W1 w.heap.size pg A1 (by omega)]; exact hb1.block pg hlt)]
    exact own_cells h (i + 1 + j) v (by rw [← htl, List.getElem?_drop] at hj; exact hj)
  have HE : Hid (∀ W : World, W.heap = ((W1.setRow w.heap.size A1).setRow w.heap.size A2).heap → W.os = w.os → W.tape = w.tape → W.output = w.output → Replaced pg (i + 1 + k) m (vs.take i ++ (us ++ tl)) w (.returned (.slice (some ⟨w.heap.size, 0, none⟩) (i + m + k) G)) W) := by
    intro W hW e1 e2 e3
    refine ⟨w.heap.size, G, by rw [htot], ?_, .inr (Nat.le_refl _), e1, e2, e3, ?_, fun q hq _ => ?_⟩
    · rw [htot]
      have hf : W.heap[w.heap.size]? = some (.cells A2 56 (0, 0)) := by
        rw [hW]
        exact setRow_heap _ w.heap.size _ _ 56 _ (setRow_heap W1 w.heap.size _ _ 56 _ hg1)
      refine own_shut hf hGn hG63 ?_ ?_
      · rw [hA2]
        simp
        omega
      · rw [hA2, hA1]
        have hRl : ROW.toList.length = G := by simpa using hRs
        have e4 : (ROW.toList.take i ++ us ++ ROW.toList.drop (i + us.length)).take (i + m) = vs.take i ++ us := by
          rw [List.take_left' (by rw [List.length_append, List.length_take, b5]; omega), hRt]
        simp only
        rw [e4, List.append_assoc (vs.take i), List.append_assoc (vs.take i), ← List.append_assoc (vs.take i), List.take_left' (by rw [List.length_append, List.length_append, List.length_take, a5, b5, hdl]; omega)]
    · rw [hW]
      simp only [World.setRow, Array.size_modify]
      exact hb1.size
    · rw [hW, setRow_other _ w.heap.size q A2 (by omega), setRow_other _ w.heap.size q A1 (by omega)]
      exact hb1.block q hq
  have hc63 : cap ≤ 9223372036854775807 := a2
  have hG64 : G ≤ 9223372036854775807 := hG63
  have hz2 : ¬ ((i : Int) + 1 = (i : Int) + 1 + (k : Int)) := by omega
  have hz3 : (cap : Int) < (i : Int) + (m : Int) + (k : Int) := by omega
  have hw1 : IntKind.i64.wrap ((i : Int) + (m : Int)) = (i : Int) + (m : Int) := by rw [IntKind.wrap_i64]; omega
  have hw2 : (i : Int) + (m : Int) + (k : Int) - (i : Int) = ((m + k : Nat) : Int) := by omega
  have hb1' : (0 : Int) ≤ (i : Int) + (m : Int) := by omega
  have htn : ((i : Int) + (m : Int)).toNat = i + m := by omega
  have hq1 : (0 ≤ (i : Int) + 1 ∧ (i : Int) + 1 ≤ (cap : Int)) = True := eq_true (by omega)
  have hq2 : (0 ≤ (i : Int) + 1 ∧ (i : Int) + 1 ≤ ((i + 1 + k : Nat) : Int)) = True := eq_true (by omega)
  have hq3 : (cap = i + 1) = False := eq_false (by omega)
  have hq4 : ((i : Int) + 1).toNat = i + 1 := by omega
  have hq8 : (i : Int) + (m : Int) ≤ (i : Int) + (m : Int) + (k : Int) := by omega
  have hq9 : (i : Int) + 1 ≤ (i : Int) + 1 + (k : Int) := by omega
  have hq10 : (0 : Int) ≤ (i : Int) + 1 := by omega
  have hq7 : (G = i + m) = False := eq_false (by omega)
  have hq6 : (G = i) = False := eq_false (by omega)
  have hq11 : (cap = i) = False := eq_false (by omega)
  have mixed : Try.prog.follows .mixedOrders = true := by kernel_rfl
  rw [← hW1] at hrz
  rw [hX] at hrz
  have HW : Hid (W1.os = w.os ∧ W1.tape = w.tape ∧ W1.output = w.output) := ⟨hb1.os, hb1.tape, hb1.output⟩
  clear h h2 hg hg2 a2 a3 a4 a5 b1 b2 b3 b4 b5 hone hone' hA1 hA1s hone1 hg1 hb1 hA2 hW1 htl hdl hold hG hROW hGn hG63 hRs hRt hi0 hz0 hzs hzb hXh hXg hXc hX hlt hlt2
  go_enter Try.func61, Try.ntmps61
  go_wp2
  go_region
  have hc1 := hcpA (i + m + k - i) (by omega) W1 rfl 3 (G - i)
  go_wp2_with (at_builtin; refine Lib.wpList_append_run _ rfl _ _ _ _ rfl _ _ rfl rfl _ _ (hrz _) ?_)
  have hc3 := hcpB ((W1.setRow w.heap.size A1).drew) rfl 3 (G - (i + m)) (cap - (i + 1))
  go_region
  go_wp2
  all_goals go_ret
  all_goals exact HE.out _ rfl HW.out.1 HW.out.2.1 HW.out.2.2

end Go.Proofs.Ytnepemlagnnngaa
