/-
  Plans: lists of one's own that are written over and grown, by their blocks.
  Plans: what stands in memory while the lists are written over and grown.
-/
import Derived.Test.YtglncninkocgaabGreatDoorDL
namespace Go.Proofs.YtglncninkocgaabGreatDoor
open Go.RowKit
set_option linter.unusedVariables false
set_option maxRecDepth 20000

/-- The mark of a place in a list. -/
def mkO (j l : Nat) : Int := -1000 * ((j : Int) + 1) - (l : Int)
theorem CellsIn.keep {w w' : World} {v : Value} {L : List CellV} (h : CellsIn w v L) (hk : ∀ g, v.ownBlock = some g → w'.heap[g]? = w.heap[g]?) : CellsIn w' v L := by
  obtain ⟨ad, cap, rfl, h2, h3⟩ := h.shape
  refine ⟨ad, cap, rfl, h2, h3.imp id ?_⟩
  rintro ⟨b, off, rfl, h4⟩
  exact ⟨b, off, rfl, fun j u hu => (World.cell?_of_block (hk b rfl)).trans (h4 j u hu)⟩
/-- Lists of one's own, each in a block of its own. -/
structure Fam (W : World) (B : Nat) (vs : List Value) (Ls : List (List CellV)) : Prop where
  own : ∀ (i : Nat) v L, vs[i]? = some v → Ls[i]? = some L → CeOwns W B v L
  apart : ∀ (i j : Nat) u v g, vs[i]? = some u → vs[j]? = some v → u.ownBlock = some g → v.ownBlock = some g → i = j
def DoneO (i k : Nat) (Ls : List (List CellV)) : Prop := ∀ (j l : Nat) L c, Ls[j]? = some L → L[l]? = some c → (j < i ∨ j = i ∧ l < k) → c.p = mkO j l
theorem ce_block {W : World} {B : Nat} {v : Value} {L : List CellV} (h : CeOwns W B v L) {g : Nat} (hg : v.ownBlock = some g) : B ≤ g ∧ ∃ cur, W.heap[g]? = some (.cells cur 36 (0, 0)) := by
  rcases h.2 with ⟨rfl, _⟩ | ⟨g', cap, cur, rfl, hb, h4, _⟩
  · cases hg
  · cases hg
    exact ⟨hb, cur, h4⟩
theorem ce_keep {W W' : World} {B : Nat} {v : Value} {L : List CellV} (h : CeOwns W B v L) (hk : ∀ g, v.ownBlock = some g → W'.heap[g]? = W.heap[g]?) : CeOwns W' B v L := by
  refine ⟨h.1, ?_⟩
  rcases h.2 with h0 | ⟨g', cap, cur, rfl, hb, h4, r⟩
  · exact .inl h0
  · exact .inr ⟨g', cap, cur, rfl, hb, (hk g' rfl).trans h4, r⟩
theorem heap_set {W : World} {g o k : Nat} {u : Value} (h : k ≠ g) : (W.setCell ⟨g, o, none⟩ u).heap[k]? = W.heap[k]? := Below.heap_setCell _ _ _ _ (by simpa using h)
/-- One pane written over. -/
theorem Fam.mark {W : World} {B : Nat} {vs : List Value} {Ls : List (List CellV)} (h : Fam W B vs Ls) {i g n cap k : Nat} {L : List CellV} {c : CellV} (hv : vs[i]? = some (.slice (some ⟨g, 0, none⟩) n cap)) (hL : Ls[i]? = some L) (hc : L[k]? = some c) (p : Int) :
    Fam (W.setCell ⟨g, k * 7 + 6, none⟩ (.int .i64 p)) B vs (Ls.set i (L.set k (repC c p))) := by
  have hk := (List.getElem?_eq_some_iff.1 hc).1
  have hi := (List.getElem?_eq_some_iff.1 hL).1
  refine ⟨fun j v M hj hM => ?_, h.apart⟩
  by_cases hji : j = i
  · subst hji
    rw [hv] at hj
    cases hj
    rw [List.getElem?_set_self hi] at hM
    cases hM
    have h1 := h.own j _ L hv hL
    have e := list_at hc
    have h2 : CeOwns W B (.slice (some ⟨g, 0, none⟩) n cap) (L.take k ++ c :: L.drop (k + 1)) := by rw [← e]; exact h1
    have h3 := ce_set h2 p
    have el : (L.take k).length = k := by rw [List.length_take]; omega
    rw [el] at h3
    rw [List.set_eq_take_append_cons_drop, if_pos hk]
    exact h3
  · rw [List.getElem?_set_ne (by omega)] at hM
    refine ce_keep (h.own j v M hj hM) fun g' hg' => heap_set ?_
    intro e
    subst e
    exact hji (h.apart j i v _ g' hj hv hg' rfl)
theorem DoneO.mark {i k : Nat} {Ls : List (List CellV)} {L : List CellV} {c : CellV} (h : DoneO i k Ls) (hL : Ls[i]? = some L) (hc : L[k]? = some c) : DoneO i (k + 1) (Ls.set i (L.set k (repC c (mkO i k)))) := by
  have hk := (List.getElem?_eq_some_iff.1 hc).1
  have hi := (List.getElem?_eq_some_iff.1 hL).1
  intro j l M d hM hd hor
  by_cases hji : j = i
  · subst hji
    rw [List.getElem?_set_self hi] at hM
    cases hM
    by_cases hlk : l = k
    · subst hlk
      rw [List.getElem?_set_self hk] at hd
      cases hd
      rfl
    · rw [List.getElem?_set_ne (by omega)] at hd
      exact h j l L d hL hd (by omega)
  · rw [List.getElem?_set_ne (by omega)] at hM
    exact h j l M d hM hd (by omega)
theorem DoneO.next {i k : Nat} {Ls : List (List CellV)} {L : List CellV} (h : DoneO i k Ls) (hL : Ls[i]? = some L) (hk : L.length ≤ k) : DoneO (i + 1) 0 Ls := by
  intro j l M d hM hd hor
  by_cases hji : j = i
  · subst hji
    rw [hL] at hM
    cases hM
    have := (List.getElem?_eq_some_iff.1 hd).1
    exact h j l L d hL hd (by omega)
  · exact h j l M d hM hd (by omega)

/-- One cell appended: in its place, or in a new block. -/
theorem wpList_append_ceF {ops : Array Oper} {rest : List Oper} {o : Oper} {a : Act} {Q : Exit → Act → World → Prop} (w : World) (hgd : o.guard = none) (s x : Operand)
    (ho : o.op = .call { callee := .builtin .append, args := #[s, x], argTypes := #[22, 22] })
    (B : Nat) (v : Value) (L : List CellV) (c : CellV) (hs : a.eval s = v) (hown : CeOwns w B v L) (hx : a.eval x = .slice (some ⟨w.heap.size, 0, none⟩) 1 1) (hlen : L.length ≤ 1000000) (hB : B ≤ w.heap.size)
    (h : ∀ v' w', CeOwns w' B v' (L ++ [c]) → w.grownBy w' v.ownBlock → (v'.ownBlock = v.ownBlock ∨ Below w.heap.size w w' ∧ ∃ g, w.heap.size ≤ g ∧ v'.ownBlock = some g) → wpList Tryz.prog ops Q rest (a.put o.dst v') w') : wpList Tryz.prog ops Q (o :: rest) a (w.alloc (.cells c.vals 36)) := by
  obtain ⟨i0, hi, hz0, hz1, hz2⟩ := info_partsL infoCe
  obtain ⟨W, hW⟩ : ∃ x, w.alloc (.cells c.vals 36) = x := ⟨_, rfl⟩
  have hown' : CeOwns W B v L := by rw [← hW]; exact World.ownsRow.alloc hown _
  have hbW : Below w.heap.size w W := by rw [← hW]; exact (Below.refl _ _).alloc (Nat.le_refl _) _
  have hc : ∀ j y, (ceCells [c])[j]? = some y → W.cell? ((⟨w.heap.size, 0, none⟩ : Addr).add j) = some y := by
    intro j y hy
    rw [add_plainL, Nat.zero_add, ← hW, cell_atN (blk_new w c) j]
    have e : ceCells [c] = c.vals.toList := by simp [ceCells]
    rw [e, Array.getElem?_toList] at hy
    exact hy
  have h1 : ∀ y ∈ ceCells [c], y.oneCell' = true := ceCells_one [c]
  have hsz : B ≤ W.heap.size := Nat.le_trans hB hbW.size
  have hcl : (ceCells [c]).length = 1 * 7 := ceCells_length [c]
  obtain ⟨v', w', hr, h2, h3, h4⟩ := run_append_own (P := Tryz.prog) W B 22 o.type 36 i0 (.agg zeroCell.vals) 7 56 Tryz.underlying22 hi hz0 hz1 hz2 rfl (by decide) v L.length (ceCells L) hown' ⟨w.heap.size, 0, none⟩ 1 1 (ceCells [c]) hcl hc h1 (by unfold maxLen; omega) (by omega) hsz
  have hg : w.grownBy w' v.ownBlock := ⟨h3.os.trans hbW.os, h3.tape.trans hbW.tape, h3.output.trans hbW.output, Nat.le_trans hbW.size h3.size, fun k hk hn => (h3.block k (Nat.lt_of_lt_of_le hk hbW.size) hn).trans (hbW.block k hk)⟩
  have ho2 : CeOwns w' B v' (L ++ [c]) := by
    unfold CeOwns
    rw [ceCells_append, List.length_append]
    exact h2
  have hfine : v'.ownBlock = v.ownBlock ∨ Below w.heap.size w w' ∧ ∃ g, w.heap.size ≤ g ∧ v'.ownBlock = some g := by
    rcases hown'.2 with ⟨rfl, h0⟩ | ⟨g, cap, cur, rfl, hbg, hgg, hnc, hcm, hcs, htake⟩
    · refine .inr ⟨⟨hg.os, hg.tape, hg.output, hg.size, fun g hgl => hg.block g hgl (by simp [Value.ownBlock])⟩, ?_⟩
      rcases h2.2 with ⟨e0, h0'⟩ | ⟨g', cap', cur', rfl, hb', hg', _⟩
      · omega
      · refine ⟨g', ?_, rfl⟩
        have hr2 := run_append_nil (P := Tryz.prog) W 22 o.type 36 i0 (.agg zeroCell.vals) Tryz.underlying22 hi hz0 ⟨w.heap.size, 0, none⟩ 1 1 (ceCells [c]) (by rw [hz1]; exact hcl) hc (by omega) (by omega) (by rw [hz2]; omega)
        rw [hr2] at hr
        have e1 := (Result.ok.inj hr).1
        have e2 := (Value.slice.inj e1).1
        have e3 : W.heap.size = g' := congrArg (fun o => match o with | some a => a.block | none => 0) e2
        have := hbW.size
        omega
    · by_cases hroom : L.length + 1 ≤ cap
      · have hr2 := run_append_room (P := Tryz.prog) W 22 o.type 36 i0 Tryz.underlying22 hi g L.length cap cur hgg ⟨w.heap.size, 0, none⟩ 1 1 (ceCells [c]) (by rw [hz1]; exact hcl) hc h1 hroom (by rw [hz1, hcs]; omega)
        rw [hr2] at hr
        have e1 := (Result.ok.inj hr).1
        rw [← e1]
        exact .inl rfl
      · have holds : ∀ j u, (ceCells L)[j]? = some u → W.cell? ((⟨g, 0, none⟩ : Addr).add j) = some u := World.ownsRow.cells hown' (g := g) rfl
        have hr2 := run_append_grow (P := Tryz.prog) W 22 o.type 36 i0 (.agg zeroCell.vals) Tryz.underlying22 hi hz0 ⟨g, 0, none⟩ L.length cap (ceCells L) (by rw [hz1]; exact hown'.1) holds ⟨w.heap.size, 0, none⟩ 1 1 (ceCells [c]) (by rw [hz1]; exact hcl) hc (by omega) (by omega) (growslice_fits (by omega) (by rw [hz2]; omega))
        rw [hr2] at hr
        have e1 := (Result.ok.inj hr).1
        have e2 := (Result.ok.inj hr).2
        refine .inr ⟨?_, ?_⟩
        · rw [← e2]
          have hd : Below w.heap.size w W.drew := ⟨hbW.os, hbW.tape, hbW.output, hbW.size, hbW.block⟩
          exact hd.alloc hbW.size _
        · rw [← e1]
          exact ⟨_, hbW.size, rfl⟩
  rw [hW]
  refine wpList_plain hgd fun _ hK => ?_
  unfold Oper.wp execOp
  simp only [ho, resolve, invoke, builtin, Sem.run_bind, Sem.run_pure, Result.andThen_ok, List.map_toArray, List.map_cons, List.map_nil, hs, hx, hr]
  exact hK _ _ (h v' w' ho2 hg hfine)

/-- One thing appended: in its place, or in a new block. -/
theorem wpList_append_oneF {ops : Array Oper} {rest : List Oper} {o : Oper} {a : Act} {Q : Exit → Act → World → Prop} (w : World) (hgd : o.guard = none) (s x : Operand) (t e : TypeId)
    (ho : o.op = .call { callee := .builtin .append, args := #[s, x], argTypes := #[t, t] }) (z : Value) (bytes : Nat) (ht : Tryz.prog.underlying t = some (.slice e)) (hinfo : (Tryz.prog.info? e).map (fun i => (i.zero, i.size, i.bytes)) = some (some z, 1, bytes)) (hzs : z.cells.size = 1) (hby : bytes ≤ 24)
    (B : Nat) (v : Value) (k : Nat) (xs : List Value) (u : Value) (hu : u.oneCell' = true) (hs : a.eval s = v) (hown : w.ownsRow B e 1 v k xs) (hx : a.eval x = .slice (some ⟨w.heap.size, 0, none⟩) 1 1) (hlen : k ≤ 16777216) (hB : B ≤ w.heap.size)
    (h : ∀ v' w', w'.ownsRow B e 1 v' (k + 1) (xs ++ [u]) → w.grownBy w' v.ownBlock → (v'.ownBlock = v.ownBlock ∨ Below w.heap.size w w' ∧ ∃ g, w.heap.size ≤ g ∧ v'.ownBlock = some g) → wpList Tryz.prog ops Q rest (a.put o.dst v') w') : wpList Tryz.prog ops Q (o :: rest) a (w.alloc (.cells #[u] e)) := by
  obtain ⟨i0, hi, hz0, hz1, hz2⟩ := info_partsL hinfo
  obtain ⟨W, hW⟩ : ∃ x, w.alloc (.cells #[u] e) = x := ⟨_, rfl⟩
  have hown' : W.ownsRow B e 1 v k xs := by rw [← hW]; exact World.ownsRow.alloc hown _
  have hbW : Below w.heap.size w W := by rw [← hW]; exact (Below.refl _ _).alloc (Nat.le_refl _) _
  have hc : ∀ j y, [u][j]? = some y → W.cell? ((⟨w.heap.size, 0, none⟩ : Addr).add j) = some y := by
    intro j y hy
    rw [← hW, show (⟨w.heap.size, 0, none⟩ : Addr).add j = ⟨w.heap.size, j, none⟩ by unfold Addr.add; split <;> simp_all, cell_newL]
    simpa using hy
  have h1 : ∀ y ∈ [u], y.oneCell' = true := by
    intro y hy
    have : y = u := by simpa using hy
    rw [this]; exact hu
  have hsz : B ≤ W.heap.size := Nat.le_trans hB hbW.size
  have h24 : (k + 1) * bytes ≤ 140737488355328 := Nat.le_trans (Nat.mul_le_mul (show k + 1 ≤ 16777217 by omega) hby) (by decide)
  obtain ⟨v', w', hr, h2, h3, h4⟩ := run_append_own (P := Tryz.prog) W B t o.type e i0 z 1 bytes ht hi hz0 hz1 hz2 hzs (by decide) v k xs hown' ⟨w.heap.size, 0, none⟩ 1 1 [u] rfl hc h1 (by unfold maxLen; omega) h24 hsz
  have hbut : w.grownBy w' v.ownBlock := ⟨h3.os.trans hbW.os, h3.tape.trans hbW.tape, h3.output.trans hbW.output, Nat.le_trans hbW.size h3.size, fun k hk hn => (h3.block k (Nat.lt_of_lt_of_le hk hbW.size) hn).trans (hbW.block k hk)⟩
  have hfine : v'.ownBlock = v.ownBlock ∨ Below w.heap.size w w' ∧ ∃ g, w.heap.size ≤ g ∧ v'.ownBlock = some g := by
    rcases hown'.2 with ⟨rfl, rfl⟩ | ⟨g, cap, cur, rfl, hbg, hg, hnc, hcm, hcs, htake⟩
    · refine .inr ⟨⟨hbut.os, hbut.tape, hbut.output, hbut.size, fun g hg => hbut.block g hg (by simp [Value.ownBlock])⟩, ?_⟩
      rcases h2.2 with ⟨e0, h0⟩ | ⟨g', cap', cur', rfl, hb', hg', _⟩
      · omega
      · refine ⟨g', ?_, rfl⟩
        have hr2 := run_append_nil (P := Tryz.prog) W t o.type e i0 z ht hi hz0 ⟨w.heap.size, 0, none⟩ 1 1 [u] (by rw [hz1]; rfl) hc (by omega) (by omega) (by rw [hz2]; omega)
        rw [hr2] at hr
        have e1 := (Result.ok.inj hr).1
        have e2 := (Value.slice.inj e1).1
        have e3 : W.heap.size = g' := congrArg (fun o => match o with | some a => a.block | none => 0) e2
        have := hbW.size
        omega
    · by_cases hroom : k + 1 ≤ cap
      · have hr2 := run_append_room (P := Tryz.prog) W t o.type e i0 ht hi g k cap cur hg ⟨w.heap.size, 0, none⟩ 1 1 [u] (by rw [hz1]; rfl) hc h1 hroom (by rw [hz1, hcs]; simpa using hroom)
        rw [hr2] at hr
        have e1 := (Result.ok.inj hr).1
        rw [← e1]
        exact .inl rfl
      · have holds : ∀ j u, xs[j]? = some u → W.cell? ((⟨g, 0, none⟩ : Addr).add j) = some u := World.ownsRow.cells hown' (g := g) rfl
        have hr2 := run_append_grow (P := Tryz.prog) W t o.type e i0 z ht hi hz0 ⟨g, 0, none⟩ k cap xs (by rw [hz1]; exact hown'.1) holds ⟨w.heap.size, 0, none⟩ 1 1 [u] (by rw [hz1]; rfl) hc (by omega) (by omega) (growslice_fits (by omega) (by rw [hz2]; exact h24))
        rw [hr2] at hr
        have e1 := (Result.ok.inj hr).1
        have e2 := (Result.ok.inj hr).2
        refine .inr ⟨?_, ?_⟩
        · rw [← e2]
          have hd : Below w.heap.size w W.drew := ⟨hbW.os, hbW.tape, hbW.output, hbW.size, hbW.block⟩
          exact hd.alloc hbW.size _
        · rw [← e1]
          exact ⟨_, hbW.size, rfl⟩
  rw [hW]
  refine wpList_plain hgd fun _ hK => ?_
  unfold Oper.wp execOp
  simp only [ho, resolve, invoke, builtin, Sem.run_bind, Sem.run_pure, Result.andThen_ok, List.map_toArray, List.map_cons, List.map_nil, hs, hx, hr]
  exact hK _ _ (h v' w' h2 hbut hfine)

theorem infoCL : (Tryz.prog.info? 22).map (fun i => (i.zero, i.size, i.bytes)) = some (some (.slice none 0 0), 1, 24) := by kernel_rfl
end Go.Proofs.YtglncninkocgaabGreatDoor

namespace Go.Proofs.YtglncninkocgaabGreatDoor
open Go.RowKit
set_option linter.unusedVariables false
set_option maxRecDepth 20000

theorem lt_blk {w : World} {g : Nat} {o : Obj} (h : w.heap[g]? = some o) : g < w.heap.size := by
  rcases Nat.lt_or_ge g w.heap.size with h1 | h1
  · exact h1
  · rw [Array.getElem?_eq_none (by omega)] at h
    cases h
/-- What can be read of a list of cells, in a block of cells. -/
structure SeeK (w : World) (v : Value) (L : List CellV) : Prop where
  cells : CellsIn w v L
  base : L ≠ [] → ∃ g cap, v = .slice (some ⟨g, 0, none⟩) L.length cap
  blk : ∀ g, v.ownBlock = some g → ∃ cur, w.heap[g]? = some (.cells cur 36 (0, 0))
theorem ce_see {w : World} {B : Nat} {v : Value} {L : List CellV} (h : CeOwns w B v L) : SeeK w v L := by
  refine ⟨h.cellsIn, fun hne => ?_, fun g hg => (ce_block h hg).2⟩
  rcases h.2 with ⟨_, h0⟩ | ⟨g, cap, cur, e, _⟩
  · exact absurd (List.length_eq_zero_iff.1 h0) hne
  · exact ⟨g, cap, e⟩
theorem SeeK.keep {w w' : World} {v : Value} {L : List CellV} (h : SeeK w v L) (hk : ∀ g, v.ownBlock = some g → g < w.heap.size → w'.heap[g]? = w.heap[g]?) : SeeK w' v L := by
  have hk2 : ∀ g, v.ownBlock = some g → w'.heap[g]? = w.heap[g]? := fun g hg => by
    obtain ⟨cur, hc⟩ := h.blk g hg
    exact hk g hg (lt_blk hc)
  refine ⟨h.cells.keep hk2, h.base, fun g hg => ?_⟩
  rw [hk2 g hg]
  exact h.blk g hg
theorem SeeK.type {w w' : World} {v : Value} {L : List CellV} (h : SeeK w v L) {o : Option Nat} (hb : w.grownBy w' o) (hS : ∀ g, o = some g → ∃ cur, w.heap[g]? = some (.cells cur 22 (0, 0))) : SeeK w' v L := h.keep fun g hg hlt => hb.block g hlt fun e => by
  obtain ⟨c1, h1⟩ := h.blk g hg
  obtain ⟨c2, h2⟩ := hS g e.symm
  rw [h1] at h2
  exact absurd (Obj.cells.inj (Option.some.inj h2)).2.1 (by decide)
theorem ce_type {w w' : World} {B : Nat} {v : Value} {L : List CellV} (h : CeOwns w B v L) {o : Option Nat} (hb : w.grownBy w' o) (hS : ∀ g, o = some g → ∃ cur, w.heap[g]? = some (.cells cur 22 (0, 0))) : CeOwns w' B v L := ce_keep h fun g hg => by
  obtain ⟨_, c1, h1⟩ := ce_block h hg
  refine hb.block g (lt_blk h1) fun e => ?_
  obtain ⟨c2, h2⟩ := hS g e.symm
  rw [h1] at h2
  exact absurd (Obj.cells.inj (Option.some.inj h2)).2.1 (by decide)
theorem SeeK.cell {w : World} {v : Value} {L : List CellV} (h : SeeK w v L) {k : Nat} {c : CellV} (hc : L[k]? = some c) : ∃ g cap, v = .slice (some ⟨g, 0, none⟩) L.length cap ∧ w.cell? ⟨g, k * 7 + 6, none⟩ = some (.int .i64 c.p) := by
  have hne : L ≠ [] := by rintro rfl; simp at hc
  obtain ⟨g, cap, e⟩ := h.base hne
  refine ⟨g, cap, e, ?_⟩
  obtain ⟨b, off, cp, e2, _, h3⟩ := h.cells.seen hne
  rw [e] at e2
  cases e2
  have h4 := h3 k c hc
  obtain ⟨q0, q1, q2, q3, q4, q5, q6⟩ := h4
  rw [Nat.zero_add] at q6
  exact q6
theorem ce_shape {w : World} {B : Nat} {v : Value} {L : List CellV} (h : CeOwns w B v L) : ∃ a c, v = .slice a L.length c ∧ (0 < L.length → ∃ g, a = some ⟨g, 0, none⟩) := by
  rcases h.2 with ⟨e, h0⟩ | ⟨g', cap, cur, e, _⟩
  · exact ⟨none, 0, by rw [e, h0], fun h => by omega⟩
  · exact ⟨_, _, e, fun _ => ⟨_, rfl⟩⟩
/-- A row of slices. -/
theorem row_block {w : World} {B : Nat} {e : TypeId} {v : Value} {n : Nat} {xs : List Value} (h : w.ownsRow B e 1 v n xs) {g : Nat} (hg : v.ownBlock = some g) : ∃ cur, w.heap[g]? = some (.cells cur e (0, 0)) := by
  rcases h.2 with ⟨rfl, _⟩ | ⟨g', cap, cur, rfl, hb, hg', _⟩
  · cases hg
  · have e0 : g' = g := Option.some.inj hg
    subst e0
    exact ⟨cur, hg'⟩
theorem row_slice {w : World} {B : Nat} {e : TypeId} {v : Value} {n : Nat} {xs : List Value} (h : w.ownsRow B e 1 v n xs) : ∃ a c, v = .slice a n c ∧ (0 < n → ∃ g, a = some ⟨g, 0, none⟩) := by
  rcases h.2 with ⟨e, h0⟩ | ⟨g', cap, cur, e, _⟩
  · exact ⟨none, 0, by rw [e, h0], fun h => by omega⟩
  · exact ⟨_, _, e, fun _ => ⟨_, rfl⟩⟩
theorem row_same {w w' : World} {B : Nat} {e : TypeId} {v : Value} {n : Nat} {xs : List Value} (h : w.ownsRow B e 1 v n xs) (hk : ∀ g cur, v.ownBlock = some g → w.heap[g]? = some (.cells cur e (0, 0)) → w'.heap[g]? = w.heap[g]?) : w'.ownsRow B e 1 v n xs := by
  refine ⟨h.1, ?_⟩
  rcases h.2 with h0 | ⟨g, cap, cur, rfl, hb, hg, r⟩
  · exact .inl h0
  · exact .inr ⟨g, cap, cur, rfl, hb, by rw [hk g cur rfl hg]; exact hg, r⟩
/-- The blocks of slices stay. -/
def SameL (w w' : World) : Prop := ∀ (g : Nat) (cur : Array Value), w.heap[g]? = some (.cells cur 22 (0, 0)) → w'.heap[g]? = w.heap[g]?
theorem SameL.refl (w : World) : SameL w w := fun _ _ _ => rfl
theorem SameL.row {w w' : World} (h : SameL w w') {B : Nat} {v : Value} {n : Nat} {xs : List Value} (ho : w.ownsRow B 22 1 v n xs) : w'.ownsRow B 22 1 v n xs := row_same ho fun g cur _ hg => h g cur hg
theorem SameL.grown {w w1 w2 : World} (h : SameL w w1) {o : Option Nat} (hb : w1.grownBy w2 o) (hS : ∀ g, o = some g → w.heap.size ≤ g ∨ ∃ cur, w1.heap[g]? = some (.cells cur 36 (0, 0))) : SameL w w2 := fun g cur hg => by
  have h1 := h g cur hg
  rw [← h1]
  refine hb.block g (lt_blk (by rw [h1]; exact hg)) fun hm => ?_
  rcases hS g hm.symm with h2 | ⟨c2, h2⟩
  · have := lt_blk hg
    omega
  · rw [h1, hg] at h2
    exact absurd (Obj.cells.inj (Option.some.inj h2)).2.1 (by decide)
theorem grown_set (w : World) (g k : Nat) (u : Value) : w.grownBy (w.setCell ⟨g, k, none⟩ u) (some g) := by
  have h : Below 0 w (w.setCell ⟨g, k, none⟩ u) := Below.setCell (Below.refl 0 w) (Nat.zero_le _) u
  exact ⟨h.os, h.tape, h.output, h.size, fun j hj hn => heap_set (by rintro rfl; exact hn rfl)⟩
theorem grown_under {B : Nat} {w0 w w' : World} {o : Option Nat} (h : Below B w0 w) (hg : w.grownBy w' o) (hB : B ≤ w.heap.size) (ho : ∀ g, o = some g → B ≤ g) : Below B w0 w' := h.grown hg hB ho

/-- The first loop: the panes are written over. -/
def Own1 (B : Nat) (w1 w5 : World) (vs : List Value) (Ns : List Nat) (i k : Nat) (wr : World) : Prop := ∃ Ls, Fam wr B vs Ls ∧ Ls.map List.length = Ns ∧ DoneO i k Ls ∧ SameL w5 wr ∧ Below B w1 wr ∧ w5.heap.size ≤ wr.heap.size
theorem get_lens {Ls : List (List CellV)} {Ns : List Nat} (h : Ls.map List.length = Ns) {i n : Nat} (hn : Ns[i]? = some n) : ∃ L, Ls[i]? = some L ∧ L.length = n := by
  rw [← h, List.getElem?_map] at hn
  cases hx : Ls[i]? with
  | none => rw [hx] at hn; cases hn
  | some xs => rw [hx] at hn; exact ⟨xs, rfl, Option.some.inj hn⟩
theorem Own1.row {B : Nat} {w1 w5 : World} {vs : List Value} {Ns : List Nat} {i k : Nat} {wr : World} (h : Own1 B w1 w5 vs Ns i k wr) {j : Nat} {v : Value} {n : Nat} (hv : vs[j]? = some v) (hn : Ns[j]? = some n) : ∃ L, L.length = n ∧ CeOwns wr B v L := by
  obtain ⟨Ls, hf, hm, _⟩ := h
  obtain ⟨L, hx, hl⟩ := get_lens hm hn
  exact ⟨L, hl, hf.own j v L hv hx⟩
theorem Own1.set {B : Nat} {w1 w5 : World} {vs : List Value} {Ns : List Nat} {i k : Nat} {wr : World} (h : Own1 B w1 w5 vs Ns i k wr) {g n cap : Nat} (hv : vs[i]? = some (.slice (some ⟨g, 0, none⟩) n cap)) (hn : Ns[i]? = some n) (hk : k < n) : Own1 B w1 w5 vs Ns i (k + 1) (wr.setCell ⟨g, k * 7 + 6, none⟩ (.int .i64 (mkO i k))) := by
  obtain ⟨Ls, hf, hm, hd, h5, hb, hz⟩ := h
  obtain ⟨L, hx, hl⟩ := get_lens hm hn
  obtain ⟨c, hc⟩ : ∃ c, L[k]? = some c := ⟨_, List.getElem?_eq_getElem (by omega)⟩
  obtain ⟨hBg, cur, hcur⟩ := ce_block (hf.own i _ L hv hx) (g := g) rfl
  have hgr := grown_set wr g (k * 7 + 6) (.int .i64 (mkO i k))
  refine ⟨_, hf.mark hv hx hc (mkO i k), ?_, hd.mark hx hc, h5.grown hgr fun g' hg' => .inr ⟨cur, by cases hg'; exact hcur⟩, Below.setCell hb hBg _, Nat.le_trans hz hgr.size⟩
  rw [← hm, List.map_set, List.length_set]
  refine List.ext_getElem? fun j => ?_
  by_cases e : i = j
  · subst e
    have hi : i < (Ls.map List.length).length := by rw [List.length_map]; exact (List.getElem?_eq_some_iff.1 hx).1
    rw [List.getElem?_set_self hi, List.getElem?_map, hx]
    rfl
  · rw [List.getElem?_set_ne e]
theorem Own1.next {B : Nat} {w1 w5 : World} {vs : List Value} {Ns : List Nat} {i k : Nat} {wr : World} (h : Own1 B w1 w5 vs Ns i k wr) {n : Nat} (hn : Ns[i]? = some n) (hk : n ≤ k) : Own1 B w1 w5 vs Ns (i + 1) 0 wr := by
  obtain ⟨Ls, hf, hm, hd, r⟩ := h
  obtain ⟨L, hx, hl⟩ := get_lens hm hn
  exact ⟨Ls, hf, hm, hd.next hx (by omega), r⟩
theorem Own1.drew {B : Nat} {w1 w5 : World} {vs : List Value} {Ns : List Nat} {i k : Nat} {wr : World} (h : Own1 B w1 w5 vs Ns i k wr) (n : Nat) : Own1 B w1 w5 vs Ns i k (wr.drewN n) := by
  obtain ⟨Ls, hf, hm, hd, h5, hb, hz⟩ := h
  exact ⟨Ls, ⟨hf.own, hf.apart⟩, hm, hd, h5, below_drewN hb n, hz⟩

/-- The second loop: each list is made longer. -/
def Mark (j : Nat) (L : List CellV) : Prop := ∀ (l : Nat) c, L[l]? = some c → c.p = mkO j l
def ApartK (H : Nat) (vs : List Value) : Prop := (∀ (i j : Nat) u v g, vs[i]? = some u → vs[j]? = some v → u.ownBlock = some g → v.ownBlock = some g → i = j) ∧ ∀ (i : Nat) v g, vs[i]? = some v → v.ownBlock = some g → g < H
structure Own2 (B H : Nat) (w1 w5 : World) (vs : List Value) (Ns : List Nat) (i : Nat) (us : List Value) (wr : World) : Prop where
  old : ∀ (j : Nat) v n, vs[j]? = some v → Ns[j]? = some n → ∃ L, L.length = n ∧ Mark j L ∧ SeeK wr v L ∧ (i ≤ j → CeOwns wr B v L)
  len : us.length = i
  new : ∀ (j : Nat) u v n, us[j]? = some u → vs[j]? = some v → Ns[j]? = some n → (∃ G, G.length = n + 64 ∧ Mark j G ∧ SeeK wr u G) ∧ (u.ownBlock = v.ownBlock ∨ ∃ g, H ≤ g ∧ u.ownBlock = some g)
  same : SameL w5 wr
  below : Below B w1 wr
  size : H ≤ wr.heap.size
theorem Own1.own2 {B : Nat} {w1 w5 : World} {vs : List Value} {Ns : List Nat} {m : Nat} {wr : World} (h : Own1 B w1 w5 vs Ns m 0 wr) (hm : vs.length = m) (hN : Ns.length = m) : Own2 B wr.heap.size w1 w5 vs Ns 0 [] wr ∧ ApartK wr.heap.size vs := by
  obtain ⟨Ls, hf, hl, hd, h5, hb, hz⟩ := h
  refine ⟨⟨fun j v n hv hn => ?_, rfl, fun j u v L hu => by simp at hu, h5, hb, Nat.le_refl _⟩, hf.apart, fun j v g hv hg => ?_⟩
  · obtain ⟨L, hx, hln⟩ := get_lens hl hn
    have hr := hf.own j v L hv hx
    have hj := (List.getElem?_eq_some_iff.1 hv).1
    exact ⟨L, hln, fun l c hc => hd j l L c hx hc (.inl (by omega)), ce_see hr, fun _ => hr⟩
  · have hj := (List.getElem?_eq_some_iff.1 hv).1
    have hj2 : j < Ls.length := by rw [← List.length_map (f := List.length), hl, hN]; omega
    obtain ⟨_, c1, h1⟩ := ce_block (hf.own j v _ hv (List.getElem?_eq_getElem hj2)) hg
    exact lt_blk h1
structure Own2k (B : Nat) (W : World) (v : Value) (L : List CellV) (j k : Nat) (vg : Value) (wk : World) : Prop where
  own : ∃ G, CeOwns wk B vg G ∧ G.length = L.length + k ∧ Mark j G ∧ ∀ (l : Nat) c, L[l]? = some c → G[l]? = some c
  at_ : vg.ownBlock = v.ownBlock ∨ ∃ g, W.heap.size ≤ g ∧ vg.ownBlock = some g
  see : SeeK wk v L
  by_ : W.grownBy wk v.ownBlock
theorem own2k_start {B : Nat} {W : World} {v : Value} {L : List CellV} {j : Nat} (h : CeOwns W B v L) (hm : Mark j L) : Own2k B W v L j 0 v W := ⟨⟨L, h, rfl, hm, fun _ _ h => h⟩, .inl rfl, ce_see h, ⟨rfl, rfl, rfl, Nat.le_refl _, fun _ _ _ => rfl⟩⟩
theorem see_in {w w' : World} {B : Nat} {u v : Value} {L G : List CellV} (hs : SeeK w v L) (hv : u.ownBlock = v.ownBlock) (ho : CeOwns w' B u G) (hp : ∀ (l : Nat) c, L[l]? = some c → G[l]? = some c) : SeeK w' v L := by
  refine ⟨?_, hs.base, fun g hg => (ce_block ho (by rw [hv]; exact hg)).2⟩
  obtain ⟨ad, cap, e, h2, h3⟩ := hs.cells.shape
  refine ⟨ad, cap, e, h2, ?_⟩
  by_cases hne : L = []
  · exact .inl hne
  · obtain ⟨g, cp, e2⟩ := hs.base hne
    rw [e] at e2
    cases e2
    refine .inr ⟨g, 0, rfl, fun j y hy => ?_⟩
    rcases ho.2 with ⟨rfl, _⟩ | ⟨g', cap', cur, rfl, hb, h4, h5, h6, h7, h8⟩
    · rw [e] at hv
      cases hv
    · rw [e] at hv
      have eg : g' = g := Option.some.inj hv
      subst eg
      obtain ⟨i, c, o, e1, e2, e3, e4⟩ := ceCells_split L j y hy
      have h9 := ce_cells ho i c (hp i c e1) o y e4
      rw [Nat.zero_add, e3]
      exact h9.1
theorem own2k_step {B : Nat} {W : World} {v : Value} {L : List CellV} {j k : Nat} {vg : Value} {wk : World} (h : Own2k B W v L j k vg wk) (hlt : ∀ g, v.ownBlock = some g → g < W.heap.size) {v' : Value} {w' : World} {G : List CellV} {c : CellV} (hG : CeOwns wk B vg G) (hl : G.length = L.length + k) (hm : Mark j G) (hp : ∀ (l : Nat) d, L[l]? = some d → G[l]? = some d) (hc : c.p = mkO j (L.length + k)) (ho : CeOwns w' B v' (G ++ [c])) (hb : wk.grownBy w' vg.ownBlock) (hf : v'.ownBlock = vg.ownBlock ∨ Below wk.heap.size wk w' ∧ ∃ g, wk.heap.size ≤ g ∧ v'.ownBlock = some g) : Own2k B W v L j (k + 1) v' w' := by
  have hp2 : ∀ (l : Nat) d, L[l]? = some d → (G ++ [c])[l]? = some d := fun l d hd => by
    have h1 := hp l d hd
    rw [List.getElem?_append_left (List.getElem?_eq_some_iff.1 h1).1]
    exact h1
  refine ⟨⟨G ++ [c], ho, by simp; omega, fun l d hd => ?_, hp2⟩, ?_, ?_, ?_⟩
  · by_cases e : l < G.length
    · rw [List.getElem?_append_left e] at hd
      exact hm l d hd
    · have hl2 := (List.getElem?_eq_some_iff.1 hd).1
      rw [List.length_append, List.length_singleton] at hl2
      have e2 : l = G.length := by omega
      subst e2
      rw [List.getElem?_concat_length] at hd
      cases hd
      rw [hl]
      exact hc
  · rcases hf with e | ⟨_, g, hg, e⟩
    · rw [e]; exact h.at_
    · exact .inr ⟨g, Nat.le_trans h.by_.size hg, e⟩
  · rcases hf with e | ⟨hb', _⟩
    · rcases h.at_ with e2 | ⟨g, hg, e2⟩
      · exact see_in h.see (e.trans e2) ho hp2
      · refine h.see.keep fun g' hg' hlt' => hb.block g' hlt' fun hm => ?_
        rw [e2] at hm
        have e4 : g' = g := Option.some.inj hm
        have := hlt g' hg'
        omega
    · exact h.see.keep fun g' hg' hlt' => hb'.block g' hlt'
  · refine ⟨hb.os.trans h.by_.os, hb.tape.trans h.by_.tape, hb.output.trans h.by_.output, Nat.le_trans h.by_.size hb.size, fun g hg hn => (hb.block g (Nat.lt_of_lt_of_le hg h.by_.size) fun hm => ?_).trans (h.by_.block g hg hn)⟩
    rcases h.at_ with e2 | ⟨g', hg', e2⟩
    · exact hn (by rw [← e2]; exact hm)
    · rw [e2] at hm
      have := Option.some.inj hm
      omega
theorem own2_row {B H : Nat} {w1 w5 wr wk : World} {vs us : List Value} {Ns : List Nat} {i : Nat} {v gv vg : Value} {L : List CellV} {j k : Nat} (hs : CeOwns wr B v L) (h2 : Own2k B wr v L j k vg wk) (hr : wr.ownsRow H 22 1 gv i us) : wk.ownsRow H 22 1 gv i us := by
  refine row_same hr fun g cur hg hc => h2.by_.block g (lt_blk hc) fun hm => ?_
  obtain ⟨_, c2, h3⟩ := ce_block hs (g := g) hm.symm
  rw [hc] at h3
  exact absurd (Obj.cells.inj (Option.some.inj h3)).2.1 (by decide)
theorem own2_next {B H : Nat} {w1 w5 wr wk w' : World} {vs us : List Value} {Ns : List Nat} {i : Nat} {v gv vg : Value} {L : List CellV} (h : Own2 B H w1 w5 vs Ns i us wr) (hA : ApartK H vs) (hv : vs[i]? = some v) (hL : Ns[i]? = some L.length) (hs : CeOwns wr B v L) (hmk : Mark i L) (h2 : Own2k B wr v L i 64 vg wk) (hr : wr.ownsRow H 22 1 gv i us) (hB : B ≤ H) (h5 : w5.heap.size ≤ H) (hb : wk.grownBy w' gv.ownBlock) : Own2 B H w1 w5 vs Ns (i + 1) (us ++ [vg]) w' := by
  have hrk := own2_row (w1 := w1) (w5 := w5) (vs := vs) (Ns := Ns) hs h2 hr
  have g2 := h.len
  have hty : ∀ g, gv.ownBlock = some g → ∃ cur, wk.heap[g]? = some (Obj.cells cur 22 (0, 0)) := fun g hg => row_block hrk hg
  have hvlt : ∀ g, v.ownBlock = some g → g < H := fun g hg => hA.2 i v g hv hg
  refine ⟨fun j v' n' hv' hn' => ?_, by rw [List.length_append, g2]; rfl, fun j u v' n' hu hv' hn' => ?_, ?_, ?_, ?_⟩
  · by_cases e : j = i
    · subst e
      rw [hv] at hv'
      rw [hL] at hn'
      cases hv'
      cases hn'
      exact ⟨L, rfl, hmk, h2.see.type hb hty, fun hh => by omega⟩
    · have hap : ∀ g, v'.ownBlock = some g → some g ≠ v.ownBlock := fun g hg hm => e (hA.1 j i v' v g hv' hv hg hm.symm)
      obtain ⟨L', s0, s1, s2, s3⟩ := h.old j v' n' hv' hn'
      refine ⟨L', s0, s1, (s2.keep fun g hg hlt => h2.by_.block g hlt (hap g hg)).type hb hty, fun hh => ce_type (ce_keep (s3 (by omega)) fun g hg => ?_) hb hty⟩
      obtain ⟨_, c1, q1⟩ := ce_block (s3 (by omega)) hg
      exact h2.by_.block g (lt_blk q1) (hap g hg)
  · by_cases e : j < us.length
    · rw [List.getElem?_append_left e] at hu
      obtain ⟨⟨G, s0, s1, s2⟩, s3⟩ := h.new j u v' n' hu hv' hn'
      refine ⟨⟨G, s0, s1, (s2.keep fun g hg hlt => h2.by_.block g hlt fun hm => ?_).type hb hty⟩, s3⟩
      rcases s3 with e2 | ⟨g', hg', e2⟩
      · have := hA.1 j i v' v g hv' hv (by rw [← e2]; exact hg) hm.symm
        omega
      · rw [e2] at hg
        have := Option.some.inj hg
        have := hvlt g hm.symm
        omega
    · have hj := (List.getElem?_eq_some_iff.1 hu).1
      rw [List.length_append, List.length_singleton] at hj
      have e2 : j = i := by omega
      subst e2
      rw [← g2, List.getElem?_concat_length] at hu
      cases hu
      rw [hv] at hv'
      rw [hL] at hn'
      cases hv'
      cases hn'
      obtain ⟨G, k1, k2, k3, _⟩ := h2.own
      refine ⟨⟨G, k2, k3, (ce_see k1).type hb hty⟩, ?_⟩
      rcases h2.at_ with e | ⟨g, hg, e⟩
      · exact .inl e
      · exact .inr ⟨g, Nat.le_trans h.size hg, e⟩
  · have q1 : SameL w5 wk := h.same.grown h2.by_ fun g hg => .inr (ce_block hs hg).2
    exact q1.grown hb fun g hg => .inl (Nat.le_trans h5 (World.ownsRow.lt hr g hg).1)
  · have q1 : Below B w1 wk := grown_under h.below h2.by_ (Nat.le_trans hB h.size) fun g hg => (ce_block hs hg).1
    exact grown_under q1 hb (Nat.le_trans hB (Nat.le_trans h.size h2.by_.size)) fun g hg => Nat.le_trans hB (World.ownsRow.lt hr g hg).1
  · exact Nat.le_trans h.size (Nat.le_trans h2.by_.size hb.size)
theorem ce_low {W : World} {B B' : Nat} {v : Value} {L : List CellV} (h : CeOwns W B v L) (hB : B' ≤ B) : CeOwns W B' v L := by
  refine ⟨h.1, ?_⟩
  rcases h.2 with h0 | ⟨g, cap, cur, e, hb, r⟩
  · exact .inl h0
  · exact .inr ⟨g, cap, cur, e, Nat.le_trans hB hb, r⟩
/-- Four lists that were made one behind the other. -/
theorem fam4 {W : World} {B s1 s2 s3 : Nat} {va vb vc vd : Value} {La Lb Lc Ld : List CellV} (ha : CeOwns W B va La) (hb : CeOwns W s1 vb Lb) (hc : CeOwns W s2 vc Lc) (hd : CeOwns W s3 vd Ld) (h1 : ∀ g, va.ownBlock = some g → g < s1) (h2 : ∀ g, vb.ownBlock = some g → g < s2) (h3 : ∀ g, vc.ownBlock = some g → g < s3) (k1 : B ≤ s1) (k2 : s1 ≤ s2) (k3 : s2 ≤ s3) : Fam W B [va, vb, vc, vd] [La, Lb, Lc, Ld] := by
  have key : ∀ (i : Nat) v g, [va, vb, vc, vd][i]? = some v → v.ownBlock = some g → (i = 0 ∧ g < s1) ∨ (i = 1 ∧ s1 ≤ g ∧ g < s2) ∨ (i = 2 ∧ s2 ≤ g ∧ g < s3) ∨ (i = 3 ∧ s3 ≤ g) := fun i v g hv hg => by
    rcases i with _ | _ | _ | _ | i
    · cases hv; exact .inl ⟨rfl, h1 g hg⟩
    · cases hv; exact .inr (.inl ⟨rfl, (ce_block hb hg).1, h2 g hg⟩)
    · cases hv; exact .inr (.inr (.inl ⟨rfl, (ce_block hc hg).1, h3 g hg⟩))
    · cases hv; exact .inr (.inr (.inr ⟨rfl, (ce_block hd hg).1⟩))
    · simp at hv
  refine ⟨fun i v L hv hL => ?_, fun i j u v g hu hv hg hg' => ?_⟩
  · rcases i with _ | _ | _ | _ | i
    · cases hv; cases hL; exact ha
    · cases hv; cases hL; exact ce_low hb k1
    · cases hv; cases hL; exact ce_low hc (Nat.le_trans k1 k2)
    · cases hv; cases hL; exact ce_low hd (Nat.le_trans k1 (Nat.le_trans k2 k3))
    · simp at hv
  · have a1 := key i u g hu hg
    have a2 := key j v g hv hg'
    omega
end Go.Proofs.YtglncninkocgaabGreatDoor
