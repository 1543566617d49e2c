/-
  Layouts: slices.Delete of a part.
  Layouts: Close in the program.
-/
import Derived.Test.YtnepemlagnnngaaCMv
import Derived.Test.YtnepemlagnnngaaCTk
import Derived.Test.YtnepemlagnnngaaCGt
import Derived.Test.YtnepemlagnnngaaCFj
import Derived.Test.YtnepemlagnnngaaCFi
import Derived.Shelf.SlicesE.Delete
import Derived.Lib.OwnBridge
namespace Go.Proofs.Ytnepemlagnnngaa
open Go.RowKit Go.Shelf Go.Lib Go.Sort
set_option linter.unusedVariables false
set_option maxRecDepth 20000

/-- A part's value. -/
def encP : Option (TypeId × Nat) → Value
  | none => .nilIface
  | some (T, g) => .iface T (.pointer (some ⟨g, 0, none⟩))
theorem encP_one : OneCell encP := fun x => by cases x <;> rfl
def renD : Ren := ⟨fun _ => 55, fun | 22 => 76 | 23 => 56 | n => n, fun n => n⟩
theorem laysD : SlLaysE.n45 Try.prog renD := {
  mixed := by kernel_rfl
  f45 := ⟨"slices.Delete[[]mullion/layout.part,mullion/layout.part]", by decide, Try.func55.trans (congrArg some (by kernel_rfl))⟩
  t0 := Try.underlying0
  a0 := Try.isAgg0
  z0 := Try.sizeOf0
  v0 := Try.zeroValue0
  t3 := Try.underlying3
  a3 := Try.isAgg3
  z3 := Try.sizeOf3
  v3 := Try.zeroValue3
  t4 := Try.underlying4
  a4 := Try.isAgg4
  z4 := Try.sizeOf4
  v4 := Try.zeroValue4
  t22 := Try.underlying76
  a22 := Try.isAgg76
  z22 := Try.sizeOf76
  v22 := Try.zeroValue76
  a23 := Try.isAgg56
  z23 := Try.sizeOf56 }

theorem partsAt.enc {W : World} {B : Nat} : ∀ {ts : List Tree} {vs : List Value} {fp : List Nat}, partsAt W B ts vs fp → ∃ aa : List (Option (TypeId × Nat)), vs = aa.map encP
  | [], vs, fp, h => ⟨[], h.1⟩
  | t :: ts, vs, fp, h => by
    obtain ⟨v, vs', f, f', rfl, h2, h3, rfl⟩ := h
    obtain ⟨aa, rfl⟩ := partsAt.enc h3
    obtain ⟨g, hv, _⟩ := h2.own
    rcases hv with rfl | rfl
    · exact ⟨some (_, g) :: aa, rfl⟩
    · exact ⟨some (_, g) :: aa, rfl⟩

theorem delete_any (pg L cap i : Nat) (vs : List Value) (aa : List (Option (TypeId × Nat))) (w : World) (hvs : vs = aa.map encP) (h : w.ownsRow 0 56 1 (.slice (some ⟨pg, 0, none⟩) L cap) L vs) (hi : i < L) :
    Calls Try.prog 55 #[.slice (some ⟨pg, 0, none⟩) L cap, .int .i64 i, .int .i64 ((i + 1 : Nat) : Int)] w fun e w' => e = .returned (.slice (some ⟨pg, 0, none⟩) (L - 1) cap) ∧ w'.ownsRow 0 56 1 (.slice (some ⟨pg, 0, none⟩) (L - 1) cap) (L - 1) (vs.eraseIdx i) ∧ But [pg] w w' := by
  subst hvs
  obtain ⟨g, c, hv, _, hlt, hnc, hcm, hl, hH⟩ := holds_of_ownsRow h (by intro e; cases e)
  cases hv
  obtain ⟨i0, hi0, _, hz1, _⟩ := info_partsL infoPart
  have hsz : aa.toArray.size = L := by simpa using hl
  have hc := AnyE.slices_Delete laysD encP encP_one none Try.zeroValue56 i0 hi0 hz1 pg 0 cap i (i + 1) aa.toArray w hH (by omega) hcm (by omega) (by omega)
  rw [hsz, show L - (i + 1 - i) = L - 1 by omega] at hc
  refine hc.mono ?_
  rintro e w' ⟨rfl, q, rfl⟩
  have hy : (aa.take i ++ aa.drop (i + 1) ++ List.replicate (i + 1 - i) none).length = L := by simp; omega
  refine ⟨rfl, ?_, ?_⟩
  · have := ownsRow_putRow (enc := encP) (q := q) (k := L - 1) h hy (by omega)
    have e1 : (aa.take i ++ aa.drop (i + 1) ++ List.replicate (i + 1 - i) none).take (L - 1) = aa.eraseIdx i := by
      rw [List.eraseIdx_eq_take_drop_succ, List.take_left' (by simp; omega)]
    rw [e1] at this
    rw [show (aa.map encP).eraseIdx i = (aa.eraseIdx i).map encP by rw [List.eraseIdx_eq_take_drop_succ, List.eraseIdx_eq_take_drop_succ, List.map_append, List.map_take, List.map_drop]]
    exact this
  · have hb : Below pg w (putRow encP (Sort.ahead w q) pg 0 (aa.take i ++ aa.drop (i + 1) ++ List.replicate (i + 1 - i) none).toArray) := below_putRow (Below.refl _ _) (Nat.le_refl _)
    refine ⟨hb.os, hb.tape, hb.output, hb.size, fun k hk hn => ?_⟩
    have hne : k ≠ pg := by simpa using hn
    simp [putRow, mapBlock, Sort.ahead, Array.getElem?_modify, Ne.symm hne]

end Go.Proofs.Ytnepemlagnnngaa

namespace Go.Proofs.Ytnepemlagnnngaa
open Go.RowKit Go.Lib
set_option linter.unusedVariables false
set_option maxRecDepth 100000

/-- The split that a pane stands in, in memory. -/
structure InAt (w : World) (t : Tree) (v : Value) (fp qs : List Nat) (a : Nat) (b : Box) (k : Int) (ts : List Tree) (bl : Box) (q : Int) (g gl pg cap : Nat) (vs : List Value) (f1 f2 R : List Nat) : Prop where
  sub : t.subAt qs = some (.split b k ts)
  leaf : ts[a]? = some (.leaf bl q)
  own : SplitAt w g b k (.slice (some ⟨pg, 0, none⟩) ts.length cap)
  row : w.ownsRow 0 56 1 (.slice (some ⟨pg, 0, none⟩) ts.length cap) ts.length vs
  at_ : vs[a]? = some (leafI gl)
  lf : LeafAt w gl bl q
  ahead : partsAt w 0 (ts.take a) (vs.take a) f1
  behind : partsAt w 0 (ts.drop (a + 1)) (vs.drop (a + 1)) f2
  one : ∀ u ∈ vs, u.oneCell' = true
  enc : ∃ aa : List (Option (TypeId × Nat)), vs = aa.map encP
  nd : (g :: pg :: gl :: (f1 ++ (f2 ++ R))).Nodup
  perm : fp.Perm (g :: pg :: gl :: (f1 ++ (f2 ++ R)))
  put : ∀ W' s' f'', s'.At W' 0 (splitI g) f'' → (∀ q ∈ R, W'.heap[q]? = w.heap[q]?) → ∃ fp', (t.putAt qs s').At W' 0 v fp' ∧ fp'.Perm (f'' ++ R)

theorem in_at {w : World} {t : Tree} {v : Value} {fp qs : List Nat} {a : Nat} {b : Box} {k : Int} {ts : List Tree} {bl : Box} {q : Int} {gl : Nat} {st : List (Nat × Nat)} (hA : t.At w 0 v fp) (hnd : fp.Nodup) (hr : Reach w v (qs ++ [a]) (leafI gl) st) (hsub : t.subAt qs = some (.split b k ts)) (hl : ts[a]? = some (.leaf bl q)) :
    ∃ g st' pg cap vs f1 f2 R, st = (g, a) :: st' ∧ Reach w v qs (splitI g) st' ∧ InAt w t v fp qs a b k ts bl q g gl pg cap vs f1 f2 R := by
  obtain ⟨g, st', h1, rfl, h2⟩ := Reach.split qs a hr
  obtain ⟨s, f', R, hS⟩ := Tree.At.reach qs hA h1
  have hs : s = .split b k ts := by
    have := hS.sub
    rw [hsub] at this
    exact (Option.some.inj this).symm
  subst hs
  obtain ⟨n1, n2, n3, n4, n5⟩ := hS.nd hnd
  obtain ⟨g', sl, vs, fs, e, k2, k3, k4, hf⟩ := hS.here
  cases e
  obtain ⟨g'', pg, n, cap, vi, st'', e1, e2, e3, e4, e5, _⟩ := h2
  cases e1
  obtain ⟨rfl, _⟩ := e5
  have hsl : sl = .slice (some ⟨pg, 0, none⟩) n cap := by
    have := cell_atL k2 5
    rw [e2] at this
    exact (Option.some.inj this).symm
  subst hsl
  obtain ⟨hvn, hvg⟩ := row_get k3
  have hvl := k4.length
  have hn : n = ts.length := by omega
  subst hn
  obtain ⟨v1, fl, f1, f2, x1, x2, x3, x4, x5, x6⟩ := k4.mid a _ hl
  have hv1 : v1 = leafI gl := by
    have := hvg a _ e3 e4
    rw [x1] at this
    exact Option.some.inj this
  subst hv1
  obtain ⟨gl', y1, y2, y3⟩ := x2
  cases y1
  subst y3
  have hf' : f' = g :: pg :: (f1 ++ (gl :: f2)) := by
    rw [hf, x5]
    simp [Value.ownBlock]
  have hperm : fp.Perm (g :: pg :: gl :: (f1 ++ (f2 ++ R))) := by
    refine List.perm_iff_count.2 fun q => ?_
    have hc := List.perm_iff_count.1 hS.perm q
    rw [hf'] at hc
    simp only [List.count_cons, List.count_append] at hc ⊢
    omega
  refine ⟨g, st', pg, cap, vs, f1, f2, R, rfl, h1, hsub, hl, k2, by rw [hvn] at k3; exact k3, x1, y2, x3, x4, k4.one_cell, k4.enc, hperm.nodup_iff.1 hnd, hperm, hS.put⟩

theorem InAt.lt {w : World} {t : Tree} {v : Value} {fp qs : List Nat} {a : Nat} {b : Box} {k : Int} {ts : List Tree} {bl : Box} {q : Int} {g gl pg cap : Nat} {vs : List Value} {f1 f2 R : List Nat} (h : InAt w t v fp qs a b k ts bl q g gl pg cap vs f1 f2 R) (hA : t.At w 0 v fp) : ∀ x ∈ g :: pg :: gl :: (f1 ++ (f2 ++ R)), x < w.heap.size := fun x hx => hA.lt x (h.perm.mem_iff.2 hx)
theorem InAt.below {w X : World} {t : Tree} {v : Value} {fp qs : List Nat} {a : Nat} {b : Box} {k : Int} {ts : List Tree} {bl : Box} {q : Int} {g gl pg cap : Nat} {vs : List Value} {f1 f2 R : List Nat} (h : InAt w t v fp qs a b k ts bl q g gl pg cap vs f1 f2 R) (hA : t.At w 0 v fp) (hb : Below w.heap.size w X) : InAt X t v fp qs a b k ts bl q g gl pg cap vs f1 f2 R := by
  have hlt := h.lt hA
  refine ⟨h.sub, h.leaf, h.own.below hb, own_below h.row hb, h.at_, h.lf.below hb, h.ahead.below hb, h.behind.below hb, h.one, h.enc, h.nd, h.perm, fun W' s' f'' hs hk => h.put W' s' f'' hs fun q hq => ?_⟩
  rw [hk q hq]
  exact hb.block q (hlt q (by simp [hq]))

/-- The split when the pane is out of it, and its other parts have become these. -/
structure OutAt (w : World) (b : Box) (k : Int) (us : List Tree) (bl : Box) (q : Int) (g gl pg L cap : Nat) (vs : List Value) (f1 f2 : List Nat) (Y : World) : Prop where
  own : SplitAt Y g b k (.slice (some ⟨pg, 0, none⟩) L cap)
  row : Y.ownsRow 0 56 1 (.slice (some ⟨pg, 0, none⟩) L cap) L vs
  parts : partsAt Y 0 us vs (f1 ++ f2)
  lf : LeafAt Y gl bl q
  but : But (g :: pg :: (f1 ++ f2)) w Y

theorem out_first {w Y : World} {t : Tree} {v : Value} {fp qs : List Nat} {a : Nat} {b : Box} {k : Int} {ts : List Tree} {bl : Box} {q : Int} {g gl pg cap : Nat} {vs : List Value} {f1 f2 R : List Nat} (h : InAt w t v fp qs a b k ts bl q g gl pg cap vs f1 f2 R) (hA : t.At w 0 v fp) (ho : Y.ownsRow 0 56 1 (.slice (some ⟨pg, 0, none⟩) (ts.length - 1) cap) (ts.length - 1) (vs.eraseIdx a)) (hb : But [pg] w Y) :
    Y.cell? ⟨g, 5, none⟩ = some (.slice (some ⟨pg, 0, none⟩) ts.length cap) ∧ Y.frozen? ⟨g, 5, none⟩ = false ∧ OutAt w b k (ts.eraseIdx a) bl q g gl pg (ts.length - 1) cap (vs.eraseIdx a) f1 f2 (Y.setCell ⟨g, 5, none⟩ (.slice (some ⟨pg, 0, none⟩) (ts.length - 1) cap)) := by
  have hlt := h.lt hA
  obtain ⟨a1, a2⟩ := List.nodup_cons.1 h.nd
  obtain ⟨a3, a4⟩ := List.nodup_cons.1 a2
  obtain ⟨a5, a6⟩ := List.nodup_cons.1 a4
  have hgp : g ≠ pg := fun e => a1 (by simp [e])
  have hSY : SplitAt Y g b k (.slice (some ⟨pg, 0, none⟩) ts.length cap) := (hb.block g (hlt g (by simp)) (by simpa using hgp)).trans h.own
  have hk : ∀ x, x ∈ gl :: (f1 ++ f2) → (Y.setCell ⟨g, 5, none⟩ (.slice (some ⟨pg, 0, none⟩) (ts.length - 1) cap)).heap[x]? = w.heap[x]? := fun x hx => by
    have hx' : x ∈ gl :: (f1 ++ (f2 ++ R)) := by
      rcases List.mem_cons.1 hx with e | e
      · rw [e]; simp
      · rcases List.mem_append.1 e with e | e
        · simp [e]
        · simp [e]
    have n1 : x ≠ g := fun e => a1 (List.mem_cons_of_mem _ (e ▸ hx'))
    have n2 : x ≠ pg := fun e => a3 (e ▸ hx')
    exact (Below.heap_setCell _ _ _ _ n1).trans (hb.block x (hlt x (List.mem_cons_of_mem _ (List.mem_cons_of_mem _ hx'))) (by simpa using n2))
  refine ⟨cell_atL hSY 5, free_atL hSY 5, hSY.setSl _, own_kept ho fun x hx => Below.heap_setCell _ _ _ _ ?_, ?_, (hk gl (by simp)).trans h.lf, ?_⟩
  · have : x = pg := by simpa [Value.ownBlock] using hx
    rw [this]
    exact Ne.symm hgp
  · rw [List.eraseIdx_eq_take_drop_succ, List.eraseIdx_eq_take_drop_succ]
    exact (h.ahead.keep fun x hx => hk x (by simp [hx])).append (h.behind.keep fun x hx => hk x (by simp [hx]))
  · exact (hb.mono (by simp)).trans ((But.grown (grownBy_set Y g 5 _)).mono (by simp))

theorem out_stretch {w Y : World} {b : Box} {k : Int} {us : List Tree} {bl : Box} {q : Int} {g gl pg L cap : Nat} {vs : List Value} {f1 f2 : List Nat} (h : OutAt w b k us bl q g gl pg L cap vs f1 f2 Y) (hnd : (g :: pg :: gl :: (f1 ++ f2)).Nodup) {c : Nat} {x u : Tree} {n : Int} (hc : us[c]? = some x) (hst : Str x k n u) :
    ∃ T gi Fx, vs[c]? = some (.iface T (.pointer (some ⟨gi, 0, none⟩))) ∧ (∀ W, (method 279 T (.pointer (some ⟨gi, 0, none⟩)) "mullion/layout.stretch").run Try.prog W = .ok (Fx, .pointer (some ⟨gi, 0, none⟩)) W) ∧ (∀ W, (nilAhead 279 T (.pointer (some ⟨gi, 0, none⟩)) "mullion/layout.stretch").run Try.prog W = .ok (some false) W) ∧ (∀ a c d W, (callFunc Fx #[a, c, d]).run Try.prog W = .ok (.enter Fx #[a, c, d]) W) ∧
      ∀ X, Below Y.heap.size Y X → Calls Try.prog Fx #[.pointer (some ⟨gi, 0, none⟩), .int .i64 k, .int .i64 n] X fun e Z => e = .returned (.tuple #[]) ∧ OutAt w b k (us.set c u) bl q g gl pg L cap vs f1 f2 Z := by
  obtain ⟨n1, n2⟩ := List.nodup_cons.1 hnd
  obtain ⟨n3, n4⟩ := List.nodup_cons.1 n2
  obtain ⟨n5, n6⟩ := List.nodup_cons.1 n4
  obtain ⟨vc, f, e1, e2, e3, e4, e5⟩ := h.parts.one n6 c x hc
  obtain ⟨T, gi, Fx, hX⟩ := x.stretches 0 vc f Y e2 e3
  have hv := hX.val
  subst hv
  refine ⟨T, gi, Fx, e1, hX.mX, hX.nX, hX.fX, fun X hb => (hX.cX X k n u (e2.below hb) hst).mono fun e Z hZ => ⟨hZ.1, ?_⟩⟩
  have hB : But f Y Z := (But.trans (S := f) ⟨hb.os, hb.tape, hb.output, hb.size, fun r hr _ => hb.block r hr⟩ hZ.2.2)
  have hk : ∀ r, r ∉ f1 ++ f2 → r < Y.heap.size → Z.heap[r]? = Y.heap[r]? := fun r hr hl => hB.block r hl fun e => hr (e4 r e)
  refine ⟨(hk g (fun e => n1 (List.mem_cons_of_mem _ (List.mem_cons_of_mem _ e))) (lt_of_block h.own)).trans h.own, own_kept h.row fun r hr => hk r ?_ (own_lt h.row r hr), e5 Z u hB hZ.2.1, (hk gl n5 (lt_of_block h.lf)).trans h.lf, h.but.trans (hB.mono fun r hr => ?_)⟩
  · have : r = pg := by simpa [Value.ownBlock] using hr
    rw [this]
    exact fun e => n3 (List.mem_cons_of_mem _ e)
  · exact List.mem_cons_of_mem _ (List.mem_cons_of_mem _ (e4 r hr))

end Go.Proofs.Ytnepemlagnnngaa
