/-
  Keys: a decoder in memory; what it holds, drops, reads behind ESC.
  Keys: what is held behind ESC.
-/
import Derived.Test.YtnehkokppobncaaDoorGE
namespace Go.Proofs.YtnehkokppobncaaDoor
open Go.RowKit
set_option linter.unusedVariables false
set_option maxRecDepth 100000

/-- Blocks below B but for d stay. -/
structure Ap (B d : Nat) (w w' : World) : Prop where
  os : w'.os = w.os
  tape : w'.tape = w.tape
  output : w'.output = w.output
  size : w.heap.size ≤ w'.heap.size
  block : ∀ k, k < B → k ≠ d → w'.heap[k]? = w.heap[k]?
theorem Ap.refl (B d : Nat) (w : World) : Ap B d w w := ⟨rfl, rfl, rfl, Nat.le_refl _, fun _ _ _ => rfl⟩
theorem Ap.trans {B d : Nat} {a b c : World} (h : Ap B d a b) (k : Ap B d b c) : Ap B d a c :=
  ⟨k.os.trans h.os, k.tape.trans h.tape, k.output.trans h.output, Nat.le_trans h.size k.size, fun i hi hd => (k.block i hi hd).trans (h.block i hi hd)⟩
theorem Ap.of {B d : Nat} {w w' : World} (h : Below w.heap.size w w') (hB : B ≤ w.heap.size) : Ap B d w w' := ⟨h.os, h.tape, h.output, h.size, fun k hk _ => h.block k (by omega)⟩
theorem Ap.setD {B d : Nat} {w w' : World} (h : Ap B d w w') (i : Nat) (v : Value) : Ap B d w (w'.setCell ⟨d, i, none⟩ v) :=
  ⟨h.os, h.tape, h.output, by simpa [World.setCell] using h.size, fun k hk hd => by
    rw [Below.heap_setCell _ _ _ _ (fun e => hd (by simpa using e))]
    exact h.block k hk hd⟩
theorem Ap.grown {B d : Nat} {w w1 w2 : World} {r : Option Nat} (h : Ap B d w w1) (hg : w1.grownBy w2 r) (hr : ∀ k, r = some k → B ≤ k) (hB : B ≤ w1.heap.size) : Ap B d w w2 :=
  ⟨hg.os.trans h.os, hg.tape.trans h.tape, hg.output.trans h.output, Nat.le_trans h.size hg.size, fun k hk hd => (hg.block k (by omega) (fun e => by have := hr k e.symm; omega)).trans (h.block k hk hd)⟩
theorem Ap.alloc {B d : Nat} {w w1 : World} (h : Ap B d w w1) (hB : B ≤ w1.heap.size) (o : Obj) : Ap B d w (w1.alloc o) := h.trans (Ap.of ((Below.refl _ _).alloc (Nat.le_refl _) o) hB)
/-- A decoder at d that holds l, and what has turned since w0. -/
structure Dc (B d : Nat) (w0 w : World) (v : Value) (l : List UInt8) : Prop where
  ap : Ap B d w0 w
  blk : w.heap[d]? = some (.cells #[v] 41 (0, 0))
  own : Owns w B v l
  bs : B ≤ w0.heap.size
  lo : ∀ g, g ≤ 4 → g < B ∧ g ≠ d
theorem Dc.bw {B d : Nat} {w0 w : World} {v : Value} {l : List UInt8} (h : Dc B d w0 w v l) : B ≤ w.heap.size := Nat.le_trans h.bs h.ap.size
theorem Dc.cell {B d : Nat} {w0 w : World} {v : Value} {l : List UInt8} (h : Dc B d w0 w v l) : w.cell? ⟨d, 0, none⟩ = some v := cell_at h.blk 0
theorem Dc.free {B d : Nat} {w0 w : World} {v : Value} {l : List UInt8} (h : Dc B d w0 w v l) : w.frozen? ⟨d, 0, none⟩ = false := free_at h.blk 0
theorem Dc.apart {B d : Nat} {w0 w : World} {v : Value} {l : List UInt8} (h : Dc B d w0 w v l) : v.ownBlock ≠ some d := by
  intro hb
  rcases h.own.2 with ⟨rfl, _⟩ | ⟨g, cap, cur, rfl, _, hg, _⟩
  · cases hb
  · cases hb
    have := hg.symm.trans h.blk
    simp only [Option.some.injEq, Obj.cells.injEq] at this
    exact absurd this.2.1 (by decide)
theorem Dc.more {B d : Nat} {w0 w w' : World} {v : Value} {l : List UInt8} (h : Dc B d w0 w v l) (hb : Below w.heap.size w w') : Dc B d w0 w' v l :=
  ⟨h.ap.trans (Ap.of hb h.bw), (hb.block d (lt_block h.blk)).trans h.blk, h.own.keep fun g hg => by
    rcases h.own.2 with ⟨e, _⟩ | ⟨g', cap, cur, e, _, hk, _⟩
    · rw [e] at hg; cases hg
    · rw [e] at hg; cases hg
      exact hb.block _ (lt_block hk), h.bs, h.lo⟩
theorem Dc.tabs {B d : Nat} {w0 w : World} {v : Value} {l : List UInt8} (h : Dc B d w0 w v l) (hT : Tabs w0) : Tabs w := by
  have hc : ∀ (g o : Nat) (u : Value), g ≤ 4 → w0.cell? ⟨g, o, none⟩ = some u → w.cell? ⟨g, o, none⟩ = some u := fun g o u hg hu => (World.cell?_of_block (a := ⟨g, o, none⟩) (h.ap.block g (h.lo g hg).1 (h.lo g hg).2)).trans hu
  exact ⟨fun j v hv => hc _ _ _ (by decide) (hT.sp j v hv), fun j v hv => hc _ _ _ (by decide) (hT.nm j v hv), fun j v hv => hc _ _ _ (by decide) (hT.md j v hv),
    fun c hc2 => hc _ _ _ (by decide) (hT.u8.1 c hc2), fun i hi => ⟨hc _ _ _ (by decide) (hT.u8.2 i hi).1, hc _ _ _ (by decide) (hT.u8.2 i hi).2⟩⟩
/-- Blocks that are no bytes stay, but for d. -/
def Ft (d : Nat) (w w' : World) : Prop := ∀ k cs T fr, w.heap[k]? = some (.cells cs T fr) → T ≠ 5 → k ≠ d → w'.heap[k]? = some (.cells cs T fr)
theorem Ft.refl (d : Nat) (w : World) : Ft d w w := fun _ _ _ _ h _ _ => h
theorem Ft.trans {d : Nat} {a b c : World} (h : Ft d a b) (k : Ft d b c) : Ft d a c := fun i cs T fr hi hT hd => k i cs T fr (h i cs T fr hi hT hd) hT hd
theorem Ft.of {d : Nat} {w w' : World} (h : Below w.heap.size w w') : Ft d w w' := fun k cs T fr hk _ _ => (h.block k (lt_block hk)).trans hk
theorem Ft.setD {d : Nat} {w w' : World} (h : Ft d w w') (i : Nat) (v : Value) : Ft d w (w'.setCell ⟨d, i, none⟩ v) := fun k cs T fr hk hT hd => by
  rw [Below.heap_setCell _ _ _ _ (fun e => hd (by simpa using e))]
  exact h k cs T fr hk hT hd
theorem Ft.setNew {d Z : Nat} {w w' : World} (h : Ft d w w') (hZ : w.heap.size ≤ Z) (i : Nat) (v : Value) : Ft d w (w'.setCell ⟨Z, i, none⟩ v) := fun k cs T fr hk hT hd => by
  have := lt_block hk
  rw [Below.heap_setCell _ _ _ _ (fun e => by simp only at e; omega)]
  exact h k cs T fr hk hT hd
theorem Ft.grown {d B : Nat} {w w' : World} {v : Value} {l : List UInt8} (ho : Owns w B v l) (hg : w.grownBy w' v.ownBlock) : Ft d w w' := fun k cs T fr hk hT _ => by
  refine (hg.block k (lt_block hk) (fun e => ?_)).trans hk
  rcases ho.2 with ⟨e2, _⟩ | ⟨g', cap, cur, e2, _, hk2, _⟩
  · rw [e2] at e; cases e
  · rw [e2] at e; cases e
    have h1 := hk2.symm.trans hk
    simp only [Option.some.injEq, Obj.cells.injEq] at h1
    exact hT h1.2.1.symm
/-- The decoder's own cell is put. -/
theorem Dc.put {B d : Nat} {w0 w w' : World} {v v' : Value} {l l' : List UInt8} (h : Dc B d w0 w v l) (ha : Ap B d w w') (hb : w'.heap[d]? = some (.cells #[v] 41 (0, 0))) (ho : Owns w' B v' l') (hv : v'.ownBlock ≠ some d) : Dc B d w0 (w'.setCell ⟨d, 0, none⟩ v') v' l' :=
  ⟨(h.ap.trans ha).setD 0 v', put_at hb 0 v', ho.keep fun g hg => Below.heap_setCell _ _ _ _ (fun e => hv (by rw [hg, e])), h.bs, h.lo⟩
theorem Owns.none {w : World} {B : Nat} {v : Value} {l : List UInt8} (h : Owns w B v l) : ∃ a c, v = .slice a l.length c ∧ Owns w B (.slice a 0 c) [] := by
  rcases h.2 with ⟨rfl, h0⟩ | ⟨g, cap, cur, rfl, hb, hg, h1, h2, h3, h4⟩
  · have : l = [] := List.length_eq_zero_iff.1 h0
    subst this
    exact ⟨_, _, rfl, Owns.nil _ _⟩
  · exact ⟨_, _, rfl, by simp, .inr ⟨g, cap, cur, rfl, hb, hg, Nat.zero_le _, h2, h3, by simp⟩⟩
theorem own_same {a : Option Addr} {n c m k : Nat} : (Value.slice a n c).ownBlock = (Value.slice a m k).ownBlock := by cases a <;> rfl
set_option maxHeartbeats 1000000 in
theorem drop_any {B d : Nat} {w0 w : World} {v : Value} {l : List UInt8} (h : Dc B d w0 w v l) : Calls Tryd.prog 15 #[.pointer (some ⟨d, 0, none⟩)] w fun r w' => r = .returned (.tuple #[]) ∧ (∃ v', Dc B d w0 w' v' []) ∧ Ft d w w' := by
  have H := hidK h
  have c0 := h.cell
  have f0 := h.free
  obtain ⟨a, c, e, ho⟩ := h.own.none
  have HO := hidK ho
  rcases h.own.2 with ⟨rfl, h0⟩ | ⟨g, cap, cur, rfl, hb, hg, h1, h2, h3, h4⟩
  · have e2 : a = none ∧ c = 0 := by injection e with e1 _ e3; exact ⟨e1.symm, e3.symm⟩
    obtain ⟨rfl, rfl⟩ := e2
    clear h ho h0 e
    go_enter Tryd.func15, Tryd.ntmps15
    go_wp2_with fail
    go_end0
    exact ⟨rfl, ⟨_, H.out.put (Ap.refl _ _ _) H.out.blk HO.out (by rw [own_same]; exact H.out.apart)⟩, (Ft.refl _ _).setD _ _⟩
  · cases e
    obtain ⟨n, hn⟩ : ∃ n, l.length = n := ⟨_, rfl⟩
    rw [hn] at c0 H
    clear h ho hn hb hg h1 h2 h3 h4
    go_enter Tryd.func15, Tryd.ntmps15
    go_wp2_with fail
    go_end0
    exact ⟨rfl, ⟨_, H.out.put (Ap.refl _ _ _) H.out.blk HO.out (by rw [own_same]; exact H.out.apart)⟩, (Ft.refl _ _).setD _ _⟩
/-- A key's cell is put. -/
theorem Dc.key {B d Z : Nat} {w0 w : World} {v : Value} {l : List UInt8} {cs : Array Value} (h : Dc B d w0 w v l) (hz : w.heap[Z]? = some (.cells cs 36 (0, 0))) (hZ : B ≤ Z) (i : Nat) (u : Value) : Dc B d w0 (w.setCell ⟨Z, i, none⟩ u) v l := by
  have hdz : d ≠ Z := by
    intro e
    subst e
    have h1 := hz.symm.trans h.blk
    simp only [Option.some.injEq, Obj.cells.injEq] at h1
    exact absurd h1.2.1 (by decide)
  refine ⟨h.ap.trans ⟨rfl, rfl, rfl, by simp [World.setCell], fun k hk _ => Below.heap_setCell _ _ _ _ (fun e => by simp only at e; omega)⟩, put_other h.blk hdz _ _, h.own.keep fun g hg => Below.heap_setCell _ _ _ _ (fun e => ?_), h.bs, h.lo⟩
  simp only at e
  subst e
  rcases h.own.2 with ⟨e, _⟩ | ⟨g', cap, cur, e, _, hk, _⟩
  · rw [e] at hg; cases hg
  · rw [e] at hg; cases hg
    have h1 := hk.symm.trans hz
    simp only [Option.some.injEq, Obj.cells.injEq] at h1
    exact absurd h1.2.1 (by decide)
/-- A key is told, the decoder stands. -/
theorem dc_end {fn : Func} {p : Tmp} (h : fn.results = #[.cell p 36]) {a : Act} {w0 W : World} {B d : Nat} {v : Value} {l : List UInt8} {R : Ending → World → Prop} {Z : Nat} {cs : Array Value} (hs : cs.size = 2) {a' b' : Int} (hz : W.heap[Z]? = some (.cells cs 36 (0, 0))) (hZ : B ≤ Z) (hd : Dc B d w0 W v l) {w : World} (hf : Ft d w W) (hwZ : w.heap.size ≤ Z)
    (hp : a.tmps.getD p undef = .pointer (some ⟨Z, 0, none⟩)) (hdf : a.defers = []) (hR : ∀ X, Dc B d w0 X v l → Ft d w X → R (.returned (.agg #[.int .i64 a', .int .i64 b'])) X) :
    bodyPost Tryd.prog fn R .ret a ((W.setCell ⟨Z, 0, none⟩ (.int .i64 a')).setCell ⟨Z, 1, none⟩ (.int .i64 b')) := by
  obtain ⟨x, y, rfl⟩ : ∃ x y, cs = #[x, y] := by
    obtain ⟨cs⟩ := cs
    match cs, hs with
    | [x, y], _ => exact ⟨x, y, rfl⟩
  exact ret_cell1 h hp (cs := #[.int .i64 a', .int .i64 b']) (put_at (put_at hz 0 _) 1 _) Tryd.underlying36 rfl infoKey hdf (hR _ ((hd.key hz hZ 0 _).key (put_at hz 0 _) hZ 1 _) ((hf.setNew hwZ _ _).setNew hwZ _ _))
theorem underBy : Tryd.prog.underlying 39 = some (.slice 5) := by kernel_rfl
set_option maxHeartbeats 2000000 in
theorem hold_any {B d : Nat} {w0 w : World} {v : Value} {l : List UInt8} (h : Dc B d w0 w v l) (hl : l.length ≤ 1000) (b : UInt8) : Calls Tryd.prog 26 #[.pointer (some ⟨d, 0, none⟩), .int .u8 b.toNat] w fun r w' => r = .returned (.agg #[.int .i64 0, .int .i64 0]) ∧ (∃ v', Dc B d w0 w' v' (l ++ [b])) ∧ Ft d w w' := by
  obtain ⟨W, Z, hW, hZ, HZ, HW, k0, k1, f0, f1⟩ := key_new w
  have HBw : Hid (B ≤ w.heap.size) := h.bw
  have hd := h.more (w' := W) (by rw [← hW]; exact (Below.refl _ _).alloc (Nat.le_refl _) _)
  have HD := hidK hd
  have c0 := hd.cell
  have c1 := hd.free
  have hdZ : d ≠ Z := by have := lt_block h.blk; omega
  have HdZ := hidK hdZ
  have HL : Hid (l.length ≤ 1000) := hl
  have hown := hd.own
  clear h hd hdZ hl
  go_enter Tryd.func26, Tryd.ntmps26
  go_wp2_with (at_builtin; refine wpList_append_bytesG _ rfl (.tmp 9) (.tmp 11) 39 rfl underBy infoB B v l rfl (hown.alloc _) ⟨W.heap.size, 0, none⟩ 1 1 [b] rfl rfl (one_cell W b _) ?x1 ?x2 ?_; (case x1 => have := HL.out; omega); (case x2 => have := HD.out.bw; simp; omega); intro v' w2 hown2 hg2; have hm : Dc B d w0 (W.alloc (.cells #[.int .u8 (b.toNat : Int)] 5)) v l := HD.out.more ((Below.refl _ _).alloc (Nat.le_refl _) _); have hap : Ap B d (W.alloc (.cells #[.int .u8 (b.toNat : Int)] 5)) w2 := (Ap.refl B d _).grown hg2 (fun k hk => hm.own.base k hk) hm.bw; have hbl : w2.heap[d]? = some (.cells #[v] 41 (0, 0)) := (hg2.block d (lt_block hm.blk) (fun e => hm.apart e.symm)).trans hm.blk; have hbz : w2.heap[Z]? = some (.cells #[.int .i64 0, .int .i64 0] 36 (0, 0)) := (hg2.block Z (by have := lt_block HZ.out.key; simp; omega) (fun e => by
      rcases hm.own.2 with ⟨e2, _⟩ | ⟨g', cap, cur, e2, _, hk, _⟩
      · rw [e2] at e; cases e
      · rw [e2] at e; cases e
        have h1 := hk.symm.trans (alloc_at HZ.out.key _)
        simp only [Option.some.injEq, Obj.cells.injEq] at h1
        exact absurd h1.2.1 (by decide))).trans (alloc_at HZ.out.key _); have d0 : w2.cell? ⟨d, 0, none⟩ = some v := cell_at hbl 0; have d1 : w2.frozen? ⟨d, 0, none⟩ = false := free_at hbl 0; obtain ⟨va, vn, vc, rfl⟩ := owns_slice hown2; have hv : (Value.slice va vn vc).ownBlock ≠ some d := (by
      intro hb
      rcases hown2.2 with ⟨e, _⟩ | ⟨g, cap, cur, e, _, hg, _⟩
      · rw [e] at hb; cases hb
      · rw [e] at hb; cases hb
        have h1 := hg.symm.trans hbl
        simp only [Option.some.injEq, Obj.cells.injEq] at h1
        exact absurd h1.2.1 (by decide)); have H2 := hidK (hm.put hap hbl hown2 hv); have HF : Hid (Ft d w (w2.setCell ⟨d, 0, none⟩ (.slice va vn vc))) := ((((Ft.of HZ.out.below).trans (Ft.of ((Below.refl _ _).alloc (Nat.le_refl _) _))).trans (Ft.grown hm.own hg2)).setD 0 _); obtain ⟨Y, hY⟩ : ∃ Y, w2.setCell ⟨d, 0, none⟩ (.slice va vn vc) = Y := ⟨_, rfl⟩; have hbz2 : Y.heap[Z]? = some (.cells #[.int .i64 0, .int .i64 0] 36 (0, 0)) := (by rw [← hY]; exact put_other hbz (fun e => HdZ.out e.symm) _ _); have z0 : Y.cell? ⟨Z, 0, none⟩ = some (.int .i64 0) := cell_at hbz2 0; have z1 : Y.cell? ⟨Z, 1, none⟩ = some (.int .i64 0) := cell_at hbz2 1; have z2 : Y.frozen? ⟨Z, 0, none⟩ = false := free_at hbz2 0; have z3 : Y.frozen? ⟨Z, 1, none⟩ = false := free_at hbz2 1; rw [hY] at H2 HF; have HBZ := hidK hbz2; clear hown2 hg2 hm hap hbl hbz hv hbz2)
  refine dc_end rfl rfl HBZ.out (by have h1 := HD.out.bs; have h2 := HW.out; have h3 := HBw.out; omega) H2.out HF.out HW.out rfl rfl ?_
  intro X hX hX2
  exact ⟨rfl, ⟨_, hX⟩, hX2⟩
end Go.Proofs.YtnehkokppobncaaDoor

namespace Go.Proofs.YtnehkokppobncaaDoor
open Go.RowKit
set_option linter.unusedVariables false
set_option maxRecDepth 100000

theorem addr_add (g o j : Nat) : (⟨g, o, none⟩ : Addr).add j = ⟨g, o + j, none⟩ := by unfold Addr.add; split <;> simp_all
/-- Bytes that can be read. -/
def SeeB (w : World) (v : Value) (l : List UInt8) : Prop := ∃ ad c, v = .slice ad l.length c ∧ l.length ≤ c ∧ (l ≠ [] → ∃ g o, ad = some ⟨g, o, none⟩ ∧ ∀ j (hj : j < l.length), w.cell? ⟨g, o + j, none⟩ = some (bv l[j]))
theorem SeeB.below {w w' : World} {v : Value} {l : List UInt8} (h : SeeB w v l) (hb : Below w.heap.size w w') : SeeB w' v l := by
  obtain ⟨ad, c, rfl, hcc, hc⟩ := h
  refine ⟨ad, c, rfl, hcc, fun hl => ?_⟩
  obtain ⟨g, o, rfl, hk⟩ := hc hl
  exact ⟨g, o, rfl, fun j hj => (hb.cell (World.block_lt_of_cell? w _ (hk j hj))).trans (hk j hj)⟩
theorem Owns.see {w : World} {B : Nat} {v : Value} {l : List UInt8} (h : Owns w B v l) : SeeB w v l := by
  rcases h.2 with ⟨rfl, h0⟩ | ⟨g, cap, cur, rfl, hb, hg, h1, h2, h3, h4⟩
  · have : l = [] := List.length_eq_zero_iff.1 h0
    subst this
    exact ⟨_, _, rfl, Nat.zero_le _, fun h => absurd rfl h⟩
  · refine ⟨_, _, rfl, h1, fun _ => ⟨g, 0, rfl, fun j hj => ?_⟩⟩
    have := World.ownsRow.cells h (g := g) rfl j (bv l[j]) (by rw [List.getElem?_map, List.getElem?_eq_getElem hj]; rfl)
    rwa [addr_add] at this
theorem behind_esc (r : List UInt8) : behindF (27 :: r) = (r, 2) := rfl
theorem behind_not {b : UInt8} (hb : b ≠ 27) (r : List UInt8) : behindF (b :: r) = (b :: r, 0) := by
  unfold behindF
  split
  · rename_i r' e
    exact absurd (List.cons.inj e).1 hb
  · rfl
set_option maxHeartbeats 2000000 in
theorem behind_any {B d : Nat} {w0 w : World} {v : Value} {l : List UInt8} (h : Dc B d w0 w v l) : Calls Tryd.prog 12 #[.pointer (some ⟨d, 0, none⟩)] w fun r w' => (∃ ad n c, r = .returned (.tuple #[.slice ad n c, .int .i64 (behindF l).2]) ∧ SeeB w (.slice ad n c) (behindF l).1) ∧ w = w' := by
  have c0 := h.cell
  have hs := h.own.see
  have ho := h.own
  cases l with
  | nil =>
    have HS := hidK hs
    rcases ho.2 with ⟨rfl, h0⟩ | ⟨g, cap, cur, rfl, hb, hg, h1, h2, h3, h4⟩
    · clear h hs ho h0
      go_enter Tryd.func12, Tryd.ntmps12
      go_wp2_with fail
      go_ret2
      exact ⟨⟨_, _, _, rfl, HS.out⟩, rfl⟩
    · simp only [List.length_nil] at c0
      clear h hs ho hb hg h1 h2 h3 h4
      go_enter Tryd.func12, Tryd.ntmps12
      go_wp2_with fail
      go_ret2
      exact ⟨⟨_, _, _, rfl, HS.out⟩, rfl⟩
  | cons b r =>
    rcases ho.2 with ⟨rfl, h0⟩ | ⟨g, cap, cur, rfl, hb, hg, h1, h2, h3, h4⟩
    · exact absurd h0 (by simp)
    · have hcell : ∀ j (hj : j < (b :: r).length), w.cell? ⟨g, j, none⟩ = some (bv (b :: r)[j]) := fun j hj => by
        have := World.ownsRow.cells ho (g := g) rfl j (bv (b :: r)[j]) (by rw [List.getElem?_map, List.getElem?_eq_getElem hj]; rfl)
        rwa [addr_add, Nat.zero_add] at this
      have g0 : w.cell? ⟨g, 0, none⟩ = some (.int .u8 b.toNat) := hcell 0 (by simp)
      have HC := hidK hcell
      obtain ⟨n, hn⟩ : ∃ n, (b :: r).length = n := ⟨_, rfl⟩
      have hn1 : n = r.length + 1 := by rw [← hn]; simp
      have hp : (0 : Int) < (n : Int) := by omega
      rw [hn] at c0 h1
      by_cases hb27 : b = 27
      · subst hb27
        have e27 : (((27 : UInt8).toNat : Int) == 27) = true := by decide
        have hc27 : ((27 : UInt8).toNat : Int) = 27 := by decide
        rw [hc27] at g0
        by_cases hcap : cap = 1
        · have hr : r = [] := List.length_eq_zero_iff.1 (by omega)
          subst hr
          have hn2 : n = 1 := by simpa using hn1
          subst hn2
          subst hcap
          clear h hs ho hb hg h2 h3 h4 hcell hn hn1 HC h1
          go_enter Tryd.func12, Tryd.ntmps12
          go_wp2_with fail
          go_ret2
          exact ⟨⟨_, _, _, rfl, _, _, rfl, Nat.zero_le _, fun h => absurd rfl h⟩, rfl⟩
        · have hc2 : (1 : Int) < (cap : Int) := by omega
          have hle : (1 : Int) ≤ (n : Int) := by omega
          have hnc : (n : Int) ≤ (cap : Int) := by omega
          have hz : ¬ (cap - 1 = 0) := by omega
          have HSee : Hid (SeeB w (.slice (some ⟨g, 1, none⟩) (n - 1) (cap - 1)) r) := by
            refine ⟨_, _, by rw [show n - 1 = r.length by omega], by omega, fun _ => ⟨g, 1, rfl, fun j hj => ?_⟩⟩
            have := HC.out (j + 1) (by simp; omega)
            simp only [List.getElem_cons_succ] at this
            rw [Nat.add_comm 1 j]
            exact this
          clear h hs ho hb hg h2 h3 h4 hcell hn hn1 HC h1 hcap
          go_enter Tryd.func12, Tryd.ntmps12
          go_wp2_with fail
          go_ret2
          exact ⟨⟨_, _, _, rfl, HSee.out⟩, rfl⟩
      · have e27 : ((b.toNat : Int) == 27) = false := by
          simp only [beq_eq_false_iff_ne, ne_eq]
          intro e
          exact hb27 (UInt8.toNat_inj.1 (by have : (27 : UInt8).toNat = 27 := rfl; omega))
        have HS : Hid (SeeB w (.slice (some ⟨g, 0, none⟩) n cap) (b :: r)) := by rw [← hn]; exact hs
        rw [behind_not hb27]
        clear h hs ho hb hg h2 h3 h4 hcell hn hn1 HC h1 hb27
        go_enter Tryd.func12, Tryd.ntmps12
        go_wp2_with fail
        go_ret2
        exact ⟨⟨_, _, _, rfl, HS.out⟩, rfl⟩
end Go.Proofs.YtnehkokppobncaaDoor
