/-
  Lists of numbers: sorted and cut to one of each they are as long as before where none stands twice.
  Layouts: a row or a column at the head of a list, over what takeAll does.
  Layouts: takeAll, over what take does.
-/
import Derived.Test.YtglncninkocgaabGreatDoorCF
import Derived.Test.YtglncninkocgaabGreatDoorCA
import Derived.Lib.SlicesCompact
import Derived.Lib.RowBridge
import Derived.Maps.AppendAt
import Derived.OwnWalk
namespace Go.Proofs.YtglncninkocgaabGreatDoor
set_option linter.unusedVariables false

def sortI (zs : List Int) : List Int := zs.mergeSort fun x y => decide (x ≤ y)
theorem sortI_length (zs : List Int) : (sortI zs).length = zs.length := List.length_mergeSort zs
theorem sortI_perm (zs : List Int) : (sortI zs).Perm zs := List.mergeSort_perm zs _
theorem sortI_sorted (zs : List Int) : (sortI zs).Pairwise (· ≤ ·) := by
  have h := List.pairwise_mergeSort (le := fun x y : Int => decide (x ≤ y)) (fun a b c h1 h2 => by simp at *; omega) (fun a b => by simp; omega) zs
  exact h.imp fun h => by simpa using h

theorem keeps_all_of {zs : List Int} (h : (Go.Lib.compact zs).length = zs.length) : ∀ j, j < zs.length → Go.Lib.keeps zs.toArray j = true := by
  unfold Go.Lib.compact Go.Lib.compactUpTo at h
  rw [List.length_map] at h
  have h2 : ((List.range zs.length).filter (Go.Lib.keeps zs.toArray)).length = (List.range zs.length).length := by rw [h]; simp
  intro j hj
  exact List.length_filter_eq_length_iff.1 h2 j (List.mem_range.2 hj)
theorem keeps_of_lt {zs : List Int} (h : zs.Pairwise (· < ·)) : ∀ j, j < zs.length → Go.Lib.keeps zs.toArray j = true := by
  intro j hj
  cases j with
  | zero => exact Go.Lib.keeps_lt_one _ 0 (by omega)
  | succ j =>
    refine Go.Lib.keeps_pos ?_
    have := (List.pairwise_iff_getElem.1 h) j (j + 1) (by omega) hj (by omega)
    rw [getElem!_pos zs.toArray (j + 1) (by simpa using hj), Nat.add_sub_cancel, getElem!_pos zs.toArray j (by simp; omega)]
    simp only [List.getElem_toArray]
    omega
theorem lt_of_keeps {zs : List Int} (hs : zs.Pairwise (· ≤ ·)) (h : ∀ j, j < zs.length → Go.Lib.keeps zs.toArray j = true) : zs.Pairwise (· < ·) := by
  rw [List.pairwise_iff_getElem] at hs ⊢
  intro i j hi hj hij
  obtain ⟨k, rfl⟩ : ∃ k, j = k + 1 := ⟨j - 1, by omega⟩
  have hk := h (k + 1) hj
  unfold Go.Lib.keeps at hk
  rw [decide_eq_true_eq] at hk
  rcases hk with hk | hk
  · omega
  · rw [getElem!_pos zs.toArray (k + 1) (by simpa using hj), Nat.add_sub_cancel, getElem!_pos zs.toArray k (by simp; omega)] at hk
    simp only [List.getElem_toArray] at hk
    have h1 := hs k (k + 1) (by omega) hj (by omega)
    by_cases e : i = k
    · subst e; omega
    · have := hs i k hi (by omega) (by omega)
      omega
theorem compact_nodup (zs : List Int) : decide ((Go.Lib.compact (sortI zs)).length = (sortI zs).length) = decide zs.Nodup := by
  rw [decide_eq_decide]
  constructor
  · intro h
    have := lt_of_keeps (sortI_sorted zs) (keeps_all_of h)
    have hn : (sortI zs).Nodup := this.imp fun h => by omega
    exact (sortI_perm zs).nodup_iff.1 hn
  · intro h
    have hn : (sortI zs).Nodup := (sortI_perm zs).nodup_iff.2 h
    have hl : (sortI zs).Pairwise (· < ·) := by
      have h1 := sortI_sorted zs
      have h2 : (sortI zs).Pairwise (· ≠ ·) := hn
      exact (List.Pairwise.and h1 h2).imp fun h => by omega
    rw [Go.Lib.compact_all _ (keeps_of_lt hl)]

end Go.Proofs.YtglncninkocgaabGreatDoor

namespace Go.Proofs.YtglncninkocgaabGreatDoor
open Go.RowKit
set_option linter.unusedVariables false
set_option maxRecDepth 100000

/-- What take leaves of a row or a column. -/
def SplitPost (w : World) (c : CellV) (R : Value → Value → World → World → Prop) (e : Ending) (w' : World) : Prop :=
  ∃ g sl v' X w2, e = .returned (.tuple #[splitI g, v']) ∧ Below w.heap.size w X ∧ R sl v' X w2 ∧ Below X.heap.size X w2 ∧ w2.heap.size ≤ g ∧ SplitAt w' g c.box c.kind sl ∧ Below w2.heap.size w2 w'

theorem two_new (w : World) (c : CellV) (kd : Int) (X : World) (hX : (w.alloc (.cells #[.int .i64 c.depth, .int .i64 kd, .int .i64 c.x, .int .i64 c.y, .int .i64 c.w, .int .i64 c.h, .int .i64 c.p] 36)).alloc (.cells #[.int .i64 c.x, .int .i64 c.y, .int .i64 c.w, .int .i64 c.h] 98) = X) :
    Below w.heap.size w X ∧ ∀ w2, Below X.heap.size X w2 → w2.cell? ⟨w.heap.size, 1, none⟩ = some (.int .i64 kd) ∧ w2.cell? ⟨w.heap.size + 1, 0, none⟩ = some (.int .i64 c.x) ∧ w2.cell? ⟨w.heap.size + 1, 1, none⟩ = some (.int .i64 c.y) ∧ w2.cell? ⟨w.heap.size + 1, 2, none⟩ = some (.int .i64 c.w) ∧ w2.cell? ⟨w.heap.size + 1, 3, none⟩ = some (.int .i64 c.h) ∧ w.heap.size + 1 + 1 ≤ w2.heap.size := by
  subst hX
  refine ⟨((Below.refl _ _).alloc (Nat.le_refl _) _).alloc (by simp) _, fun w2 hb => ?_⟩
  have h1 := heap_alloc_new w (.cells #[.int .i64 c.depth, .int .i64 kd, .int .i64 c.x, .int .i64 c.y, .int .i64 c.w, .int .i64 c.h, .int .i64 c.p] 36)
  obtain ⟨W1, hW1⟩ : ∃ W1, w.alloc (.cells #[.int .i64 c.depth, .int .i64 kd, .int .i64 c.x, .int .i64 c.y, .int .i64 c.w, .int .i64 c.h, .int .i64 c.p] 36) = W1 := ⟨_, rfl⟩
  have hs1 : W1.heap.size = w.heap.size + 1 := by rw [← hW1]; simp
  rw [hW1] at h1 hb
  have h2 := heap_alloc_new W1 (.cells #[.int .i64 c.x, .int .i64 c.y, .int .i64 c.w, .int .i64 c.h] 98)
  have h3 : (W1.alloc (.cells #[.int .i64 c.x, .int .i64 c.y, .int .i64 c.w, .int .i64 c.h] 98)).heap[w.heap.size]? = _ := ((((Below.refl W1.heap.size W1).alloc (Nat.le_refl _) _).block w.heap.size (by omega))).trans h1
  have hs2 : (W1.alloc (.cells #[.int .i64 c.x, .int .i64 c.y, .int .i64 c.w, .int .i64 c.h] 98)).heap.size = w.heap.size + 1 + 1 := by rw [← hs1]; simp
  rw [hs1] at h2
  have g1 := (hb.block w.heap.size (by omega)).trans h3
  have g2 := (hb.block (w.heap.size + 1) (by omega)).trans h2
  refine ⟨cell_atL g1 1, cell_atL g2 0, cell_atL g2 1, cell_atL g2 2, cell_atL g2 3, ?_⟩
  have := hb.size
  omega

set_option maxHeartbeats 1000000 in
theorem take_split (v : Value) (c : CellV) (l : List CellV) (W0 w : World) (hW : Below W0.heap.size W0 w) (R : Value → Value → World → World → Prop) (h : CellsIn W0 v (c :: l)) (hk : c.kind = 2 ∨ c.kind = 3) (hd : 0 ≤ c.depth ∧ c.depth ≤ 1000)
    (HA : ∀ X v1, Below w.heap.size w X → CellsIn W0 v1 l → Calls Tryz.prog 62 #[v1, .int .i64 (c.depth + 1)] X fun e w' => ∃ sa sn sc v', e = .returned (.tuple #[.slice sa sn sc, v']) ∧ R (.slice sa sn sc) v' X w' ∧ Below X.heap.size X w') :
    Calls Tryz.prog 50 #[v, .int .i64 c.depth] w fun e w' => SplitPost w c R e w' := by
  obtain ⟨b, off, cap, rfl, hcap, hcells, hrest⟩ := h.cons
  obtain ⟨q0, q1, q2, q3, q4, q5, q6⟩ := HeadIn.of (fun j u hu => (hW.cell (p := ⟨b, off + j, none⟩) (World.block_lt_of_cell? W0 _ (hcells j u hu))).trans (hcells j u hu))
  obtain ⟨n, hn⟩ : ∃ n, l.length + 1 = n := ⟨_, rfl⟩
  have Hn : Hid (l.length + 1 = n) := hn
  have HA1 : Hid (∀ X v1, Below w.heap.size w X → (∀ ad, (l = [] ∨ ad = some ⟨b, off + 7, none⟩) → v1 = .slice ad l.length (cap - 1) → Calls Tryz.prog 62 #[v1, .int .i64 (c.depth + 1)] X fun e w' => ∃ sa sn sc v', e = .returned (.tuple #[.slice sa sn sc, v']) ∧ R (.slice sa sn sc) v' X w' ∧ Below X.heap.size X w')) := fun X v1 hX ad had hv => HA X v1 hX (hv ▸ hrest ad had)
  have HA0 : Hid (∀ X ad cap', l.length = 0 → Below w.heap.size w X → Calls Tryz.prog 62 #[.slice ad 0 cap', .int .i64 (c.depth + 1)] X fun e w' => ∃ sa sn sc v', e = .returned (.tuple #[.slice sa sn sc, v']) ∧ R (.slice sa sn sc) v' X w' ∧ Below X.heap.size X w') := fun X ad cap' hl hX => HA X _ hX (CellsIn.empty _ _ _ _ hl)
  clear h hcells hrest HA hW
  rw [hn] at hcap ⊢
  have hn1 : 0 < n := by omega
  have hn0 : ((n : Int) == 0) = false := by simp; omega
  have hn2 : (1 : Int) ≤ (n : Int) := by omega
  have hn3 : (n : Int) ≤ (cap : Int) := by omega
  have hn4 : 1 ≤ n := hn1
  have hdw : IntKind.i64.wrap (c.depth + 1) = c.depth + 1 := by rw [IntKind.wrap_i64]; omega
  obtain ⟨kd, hkd⟩ : ∃ k, c.kind = k := ⟨_, rfl⟩
  have Hkd : Hid (c.kind = kd) := hkd
  rw [hkd] at hk q1
  have k1 : (kd == 1) = false := by rcases hk with rfl | rfl <;> rfl
  have k23 : (kd == 2) = true ∨ (kd == 2) = false ∧ (kd == 3) = true := by rcases hk with rfl | rfl <;> simp
  clear hn hkd hk hd
  by_cases hc1 : cap = 1
  · subst hc1
    have hn5 : n = 1 := by omega
    subst hn5
    have HE : Hid (l.length = 0) := by have := Hn.out; show l.length = 0; omega
    clear hcap hn1 hn0 hn2 hn3 hn4
    rcases k23 with k2 | ⟨k2, k3⟩
    · go_enter Tryz.func50, Tryz.ntmps50
      go_wp2_with fail
      obtain ⟨X, hX⟩ : ∃ X, (w.alloc (.cells #[.int .i64 c.depth, .int .i64 kd, .int .i64 c.x, .int .i64 c.y, .int .i64 c.w, .int .i64 c.h, .int .i64 c.p] 36)).alloc (.cells #[.int .i64 c.x, .int .i64 c.y, .int .i64 c.w, .int .i64 c.h] 98) = X := ⟨_, rfl⟩
      have hXF := two_new w c kd X hX
      rw [hX]
      refine (HA0.out X _ _ HE.out hXF.1).mono ?_
      rintro e w2 ⟨sa, sn, sc, v', rfl, hR, hb2⟩
      have HRR : Hid (R (.slice sa sn sc) v' X w2) := hR
      obtain ⟨y1, y2, y3, y4, y5, y6⟩ := hXF.2 w2 hb2
      have HX0 : Hid (Below w.heap.size w X) := hXF.1
      have HB2 : Hid (Below X.heap.size X w2) := hb2
      clear hR hb2 hXF hX
      go_wp2
      all_goals go_ret2
      all_goals refine ⟨w2.heap.size, .slice sa sn sc, v', X, w2, rfl, HX0.out, HRR.out, HB2.out, Nat.le_refl _, ?_, (Below.refl _ _).alloc (Nat.le_refl _) _⟩
      all_goals rw [Hkd.out]
      all_goals exact block_new _ _ rfl _ _
    · go_enter Tryz.func50, Tryz.ntmps50
      go_wp2_with fail
      obtain ⟨X, hX⟩ : ∃ X, (w.alloc (.cells #[.int .i64 c.depth, .int .i64 kd, .int .i64 c.x, .int .i64 c.y, .int .i64 c.w, .int .i64 c.h, .int .i64 c.p] 36)).alloc (.cells #[.int .i64 c.x, .int .i64 c.y, .int .i64 c.w, .int .i64 c.h] 98) = X := ⟨_, rfl⟩
      have hXF := two_new w c kd X hX
      rw [hX]
      refine (HA0.out X _ _ HE.out hXF.1).mono ?_
      rintro e w2 ⟨sa, sn, sc, v', rfl, hR, hb2⟩
      have HRR : Hid (R (.slice sa sn sc) v' X w2) := hR
      obtain ⟨y1, y2, y3, y4, y5, y6⟩ := hXF.2 w2 hb2
      have HX0 : Hid (Below w.heap.size w X) := hXF.1
      have HB2 : Hid (Below X.heap.size X w2) := hb2
      clear hR hb2 hXF hX
      go_wp2
      all_goals go_ret2
      all_goals refine ⟨w2.heap.size, .slice sa sn sc, v', X, w2, rfl, HX0.out, HRR.out, HB2.out, Nat.le_refl _, ?_, (Below.refl _ _).alloc (Nat.le_refl _) _⟩
      all_goals rw [Hkd.out]
      all_goals exact block_new _ _ rfl _ _
  · have hc2 : (cap == 1) = false := by simpa using hc1
    have HE : Hid (n - 1 = l.length) := by have := Hn.out; show n - 1 = l.length; omega
    rcases k23 with k2 | ⟨k2, k3⟩
    · go_enter Tryz.func50, Tryz.ntmps50
      go_wp2_with fail
      obtain ⟨X, hX⟩ : ∃ X, (w.alloc (.cells #[.int .i64 c.depth, .int .i64 kd, .int .i64 c.x, .int .i64 c.y, .int .i64 c.w, .int .i64 c.h, .int .i64 c.p] 36)).alloc (.cells #[.int .i64 c.x, .int .i64 c.y, .int .i64 c.w, .int .i64 c.h] 98) = X := ⟨_, rfl⟩
      have hXF := two_new w c kd X hX
      rw [hX]
      refine (HA1.out X _ hXF.1 (some ⟨b, off + 7, none⟩) (.inr rfl) (by rw [HE.out])).mono ?_
      rintro e w2 ⟨sa, sn, sc, v', rfl, hR, hb2⟩
      have HRR : Hid (R (.slice sa sn sc) v' X w2) := hR
      obtain ⟨y1, y2, y3, y4, y5, y6⟩ := hXF.2 w2 hb2
      have HX0 : Hid (Below w.heap.size w X) := hXF.1
      have HB2 : Hid (Below X.heap.size X w2) := hb2
      clear hR hb2 hXF hX
      go_wp2
      all_goals go_ret2
      all_goals refine ⟨w2.heap.size, .slice sa sn sc, v', X, w2, rfl, HX0.out, HRR.out, HB2.out, Nat.le_refl _, ?_, (Below.refl _ _).alloc (Nat.le_refl _) _⟩
      all_goals rw [Hkd.out]
      all_goals exact block_new _ _ rfl _ _
    · go_enter Tryz.func50, Tryz.ntmps50
      go_wp2_with fail
      obtain ⟨X, hX⟩ : ∃ X, (w.alloc (.cells #[.int .i64 c.depth, .int .i64 kd, .int .i64 c.x, .int .i64 c.y, .int .i64 c.w, .int .i64 c.h, .int .i64 c.p] 36)).alloc (.cells #[.int .i64 c.x, .int .i64 c.y, .int .i64 c.w, .int .i64 c.h] 98) = X := ⟨_, rfl⟩
      have hXF := two_new w c kd X hX
      rw [hX]
      refine (HA1.out X _ hXF.1 (some ⟨b, off + 7, none⟩) (.inr rfl) (by rw [HE.out])).mono ?_
      rintro e w2 ⟨sa, sn, sc, v', rfl, hR, hb2⟩
      have HRR : Hid (R (.slice sa sn sc) v' X w2) := hR
      obtain ⟨y1, y2, y3, y4, y5, y6⟩ := hXF.2 w2 hb2
      have HX0 : Hid (Below w.heap.size w X) := hXF.1
      have HB2 : Hid (Below X.heap.size X w2) := hb2
      clear hR hb2 hXF hX
      go_wp2
      all_goals go_ret2
      all_goals refine ⟨w2.heap.size, .slice sa sn sc, v', X, w2, rfl, HX0.out, HRR.out, HB2.out, Nat.le_refl _, ?_, (Below.refl _ _).alloc (Nat.le_refl _) _⟩
      all_goals rw [Hkd.out]
      all_goals exact block_new _ _ rfl _ _

end Go.Proofs.YtglncninkocgaabGreatDoor

namespace Go.Proofs.YtglncninkocgaabGreatDoor
open Go.RowKit
set_option linter.unusedVariables false
set_option maxRecDepth 100000

/-- What take leaves. -/
def TakeGood (W0 : World) (r : List CellV) (v : Value) (d : Int) (X : World) (e : Ending) (w' : World) : Prop :=
  (takeF r d = none ∧ e = .returned (.tuple #[nilPart, v]) ∧ Below X.heap.size X w') ∨
  (∃ t r' T g fp v', takeF r d = some (t, r') ∧ e = .returned (.tuple #[.iface T (.pointer (some ⟨g, 0, none⟩)), v']) ∧ t.At w' 0 (.iface T (.pointer (some ⟨g, 0, none⟩))) fp ∧ fp.Nodup ∧ (∀ q ∈ fp, X.heap.size ≤ q) ∧ CellsIn W0 v' r' ∧ Below X.heap.size X w')

/-- How far takeAll has come. -/
structure AllTo (W0 : World) (l : List CellV) (d : Int) (w : World) (sl v : Value) (ts : List Tree) (r : List CellV) (wr : World) : Prop where
  row : ∃ vs fs, wr.ownsRow 0 72 1 sl vs.length vs ∧ partsAt wr 0 ts vs fs ∧ (sl.ownBlock.toList ++ fs).Nodup ∧ ∀ q ∈ sl.ownBlock.toList ++ fs, w.heap.size ≤ q
  eq : takeAllF l d = (ts ++ (takeAllF r d).1, (takeAllF r d).2)
  rest : CellsIn W0 v r
  below : Below w.heap.size w wr
  len : ts.length + r.length ≤ l.length

theorem partsAt.snoc {W : World} {B : Nat} {t : Tree} {v : Value} {f : List Nat} (h2 : t.At W B v f) : ∀ {ts : List Tree} {vs : List Value} {fs : List Nat}, partsAt W B ts vs fs → partsAt W B (ts ++ [t]) (vs ++ [v]) (fs ++ f)
  | [], vs, fs, h => by
    obtain ⟨rfl, rfl⟩ := h
    exact ⟨v, [], f, [], rfl, h2, ⟨rfl, rfl⟩, by simp⟩
  | a :: ts, vs, fs, h => by
    obtain ⟨v1, vs', f1, f', rfl, h3, h4, rfl⟩ := h
    exact ⟨v1, vs' ++ [v], f1, f' ++ f, rfl, h3, partsAt.snoc h2 h4, by simp⟩

theorem AllTo.none {W0 : World} {l : List CellV} {d : Int} {w : World} {sl v : Value} {ts : List Tree} {r : List CellV} {wr w' : World} (h : AllTo W0 l d w sl v ts r wr) (hn : takeF r d = none) (hb : Below wr.heap.size wr w') : AllTo W0 l d w sl v ts r w' ∧ takeAllF l d = (ts, r) := by
  obtain ⟨vs, fs, h1, h2, h3, h4⟩ := h.row
  refine ⟨⟨⟨vs, fs, own_below h1 hb, h2.below hb, h3, h4⟩, h.eq, h.rest, below_step h.below hb, h.len⟩, ?_⟩
  rw [h.eq, takeAllF_eq r d, hn]
  simp

theorem AllTo.next {W0 : World} {l : List CellV} {d : Int} {w : World} {sl v : Value} {ts : List Tree} {r : List CellV} {wr : World} (h : AllTo W0 l d w sl v ts r wr) {t : Tree} {r' : List CellV} {pv : Value} {fp : List Nat} {v' : Value} {w2 : World} (ht : takeF r d = some (t, r')) (hAt : t.At w2 0 pv fp) (hnd : fp.Nodup) (hfp : ∀ q ∈ fp, wr.heap.size ≤ q) (hc : CellsIn W0 v' r') (hb : Below wr.heap.size wr w2) :
    ∃ vs, w2.ownsRow 0 72 1 sl vs.length vs ∧ vs.length ≤ l.length ∧ ∀ o sl' w3, w3.ownsRow 0 72 1 sl' (vs.length + 1) (vs ++ [pv]) → (w2.alloc o).grownBy w3 sl.ownBlock → (sl'.ownBlock = sl.ownBlock ∨ sl'.ownBlock = some (w2.alloc o).heap.size) → AllTo W0 l d w sl' v' (ts ++ [t]) r' w3 := by
  obtain ⟨vs, fs, h1, h2, h3, h4⟩ := h.row
  have hvl := h2.length
  have hlen := h.len
  refine ⟨vs, own_below h1 hb, by omega, fun o sl' w3 k1 k2 k3 => ?_⟩
  have hsz : (w2.alloc o).heap.size = w2.heap.size + 1 := by simp
  have hk0 : ∀ q, q < w2.heap.size → q ∉ sl.ownBlock.toList → w3.heap[q]? = w2.heap[q]? := fun q hq hn => (k2.block q (by omega) (by intro e; exact hn (by rw [← e]; simp))).trans (((Below.refl w2.heap.size w2).alloc (Nat.le_refl _) o).block q hq)
  have hlow := own_lt h1
  obtain ⟨n1, n2, n3⟩ := List.nodup_append.1 h3
  have h2' := h2.below hb
  have hwr := h.below.size
  have hwb := hb.size
  refine ⟨⟨vs ++ [pv], fs ++ fp, by simpa using k1, partsAt.snoc (hAt.keep fun q hq => hk0 q (hAt.lt q hq) fun e => ?_) (h2'.keep fun q hq => hk0 q (h2'.lt q hq) fun e => ?_), ?_, ?_⟩, ?_, ?_, ?_, ?_⟩
  · have := hlow q e; have := hfp q hq; omega
  · exact n3 q e q hq rfl
  · have hd : (fs ++ fp).Nodup := by
      refine List.nodup_append.2 ⟨n2, hnd, fun a ha b hb' e => ?_⟩
      have := h2.lt a ha
      have := hfp b hb'
      omega
    refine List.nodup_append.2 ⟨?_, hd, fun a ha b hb' e => ?_⟩
    · cases sl'.ownBlock <;> simp
    · subst e
      rcases k3 with k3 | k3
      · rw [k3] at ha
        rcases List.mem_append.1 hb' with hb' | hb'
        · exact n3 a ha a hb' rfl
        · have := hlow a ha; have := hfp a hb'; omega
      · rw [k3] at ha
        simp at ha
        rcases List.mem_append.1 hb' with hb' | hb'
        · have := h2'.lt a hb'; omega
        · have := hAt.lt a hb'; omega
  · intro q hq
    rcases List.mem_append.1 hq with hq | hq
    · rcases k3 with k3 | k3
      · rw [k3] at hq
        exact h4 q (List.mem_append_left _ hq)
      · rw [k3] at hq
        simp at hq
        omega
    · rcases List.mem_append.1 hq with hq | hq
      · exact h4 q (List.mem_append_right _ hq)
      · have := hfp q hq; omega
  · rw [h.eq, takeAllF_eq r d, ht]
    simp
  · exact hc
  · refine ⟨k2.os.trans (hb.os.trans h.below.os), k2.tape.trans (hb.tape.trans h.below.tape), k2.output.trans (hb.output.trans h.below.output), by have := k2.size; omega, fun q hq => ?_⟩
    refine (hk0 q (by omega) fun e => ?_).trans ((hb.block q (by omega)).trans (h.below.block q hq))
    have := h4 q (List.mem_append_left _ e)
    omega
  · have := takeF_shorter r d t r' ht
    rw [List.length_append]
    simp
    omega

theorem infoPart : (Tryz.prog.info? 72).map (fun i => (i.zero, i.size, i.bytes)) = some (some .nilIface, 1, 16) := by kernel_rfl
theorem wpList_append_part {ops : Array Oper} {rest : List Oper} {o : Oper} {a : Act} {Q : Exit → Act → World → Prop} (w : World) (hgd : o.guard = none) (s x : Operand)
    (ho : o.op = .call { callee := .builtin .append, args := #[s, x], argTypes := #[102, 102] })
    (v : Value) (vs : List Value) (T : TypeId) (g : Nat) (hs : a.eval s = v) (hown : w.ownsRow 0 72 1 v vs.length vs) (hx : a.eval x = .slice (some ⟨w.heap.size, 0, none⟩) 1 1) (hlen : vs.length ≤ 16777216)
    (h : ∀ v' w', w'.ownsRow 0 72 1 v' (vs.length + 1) (vs ++ [.iface T (.pointer (some ⟨g, 0, none⟩))]) → (w.alloc (.cells #[.iface T (.pointer (some ⟨g, 0, none⟩))] 72)).grownBy w' v.ownBlock → (v'.ownBlock = v.ownBlock ∨ v'.ownBlock = some (w.alloc (.cells #[.iface T (.pointer (some ⟨g, 0, none⟩))] 72)).heap.size) → wpList Tryz.prog ops Q rest (a.put o.dst v') w') : wpList Tryz.prog ops Q (o :: rest) a (w.alloc (.cells #[.iface T (.pointer (some ⟨g, 0, none⟩))] 72)) := by
  obtain ⟨i0, hi, hz0, hz1, hz2⟩ := info_partsL infoPart
  refine wpList_append_own_at _ hgd s x 102 ho 0 72 i0 .nilIface 1 16 Tryz.underlying102 hi hz0 hz1 hz2 rfl (by decide) v vs.length vs hs (World.ownsRow.alloc hown _) ⟨w.heap.size, 0, none⟩ 1 1 [.iface T (.pointer (some ⟨g, 0, none⟩))] hx rfl ?_ ?_ ?_ ?_ (Nat.zero_le _) ?_
  · intro j u hu
    rw [show (⟨w.heap.size, 0, none⟩ : Addr).add j = ⟨w.heap.size, j, none⟩ by unfold Addr.add; split <;> simp_all, cell_newL]
    simpa using hu
  · intro u hu
    simp only [List.mem_cons, List.not_mem_nil, or_false] at hu
    subst hu
    rfl
  · unfold maxLen; omega
  · omega
  · intro v' w' h2 h3 _ h5
    exact h v' w' h2 h3 h5

end Go.Proofs.YtglncninkocgaabGreatDoor
