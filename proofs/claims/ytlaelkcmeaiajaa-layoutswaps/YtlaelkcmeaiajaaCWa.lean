/-
  Layouts: way, of every tree.
  Layouts: two panes change places: trees, lists, memory.
  Layouts: the program's Swap.
  Layouts: the document's has; one cell more.
-/
import Derived.Test.YtlaelkcmeaiajaaCOp
namespace Go.Proofs.Ytlaelkcmeaiajaa
open Go.RowKit
set_option linter.unusedVariables false
set_option maxRecDepth 100000

mutual
/-- Where a pane stands: which part of the root, which part of that .. -/
def Tree.path : Tree → Int → Option (List Nat)
  | .leaf _ p, q => if p = q then some [] else none
  | .split _ _ ts, q => pathAll ts q 0
def pathAll : List Tree → Int → Nat → Option (List Nat)
  | [], _, _ => none
  | t :: ts, q, i => match t.path q with
    | some ps => some (i :: ps)
    | none => pathAll ts q (i + 1)
end
theorem pathAll_at (q : Int) : ∀ (ts : List Tree) (i k : Nat) (t : Tree) (ps : List Nat), ts[i]? = some t → t.path q = some ps → (∀ (a : Nat) u, a < i → ts[a]? = some u → u.path q = none) → pathAll ts q k = some ((k + i) :: ps)
  | [], i, k, t, ps, hi, ht, hl => by simp at hi
  | a :: ts, 0, k, t, ps, hi, ht, hl => by
    simp at hi
    subst hi
    unfold pathAll
    rw [ht]
    rfl
  | a :: ts, i + 1, k, t, ps, hi, ht, hl => by
    unfold pathAll
    rw [hl 0 a (by omega) rfl]
    show pathAll ts q (k + 1) = _
    rw [pathAll_at q ts i (k + 1) t ps (by simpa using hi) ht (fun b u hb hu => hl (b + 1) u (by omega) (by simpa using hu))]
    rw [show k + 1 + i = k + (i + 1) by omega]
theorem pathAll_none (q : Int) : ∀ (ts : List Tree) (k : Nat), (∀ (a : Nat) u, ts[a]? = some u → u.path q = none) → pathAll ts q k = none
  | [], k, h => by unfold pathAll; rfl
  | t :: ts, k, h => by
    unfold pathAll
    rw [h 0 t rfl]
    exact pathAll_none q ts (k + 1) fun a u hu => h (a + 1) u (by simpa using hu)
mutual
theorem path_len : ∀ (t : Tree) (q : Int) (ps : List Nat), t.path q = some ps → ps.length ≤ t.size
  | .leaf b p, q, ps, h => by
    unfold Tree.path at h
    split at h
    · cases h; exact Nat.zero_le _
    · cases h
  | .split b k ts, q, ps, h => by
    unfold Tree.path at h
    have := pathAll_len ts q 0 ps h
    show ps.length ≤ 1 + sizes ts
    omega
theorem pathAll_len : ∀ (ts : List Tree) (q : Int) (i : Nat) (ps : List Nat), pathAll ts q i = some ps → ps.length ≤ 1 + sizes ts
  | [], q, i, ps, h => by unfold pathAll at h; cases h
  | t :: ts, q, i, ps, h => by
    unfold pathAll at h
    show ps.length ≤ 1 + (t.size + sizes ts)
    cases hp : t.path q with
    | some ps' =>
      rw [hp] at h
      cases h
      have := path_len t q ps' hp
      rw [List.length_cons]
      omega
    | none =>
      rw [hp] at h
      have := pathAll_len ts q (i + 1) ps h
      omega
end

/-- From one value to another, part by part; the splits passed, the nearest first. -/
def Reach (W : World) : Value → List Nat → Value → List (Nat × Nat) → Prop
  | v, [], v', st => v' = v ∧ st = []
  | v, i :: ps, v', st => ∃ g pg n cap vi st', v = splitI g ∧ W.cell? ⟨g, 5, none⟩ = some (.slice (some ⟨pg, 0, none⟩) n cap) ∧ i < n ∧ W.cell? ⟨pg, i, none⟩ = some vi ∧ Reach W vi ps v' st' ∧ st = st' ++ [(g, i)]
theorem Reach.len {W : World} : ∀ {ps : List Nat} {v v' : Value} {st : List (Nat × Nat)}, Reach W v ps v' st → st.length = ps.length
  | [], v, v', st, h => by rw [h.2]; rfl
  | i :: ps, v, v', st, h => by
    obtain ⟨g, pg, n, cap, vi, st', _, _, _, _, h5, rfl⟩ := h
    rw [List.length_append, Reach.len h5]
    rfl
def stepL (st : List (Nat × Nat)) : List Value := st.flatMap fun s => [.pointer (some ⟨s.1, 0, none⟩), .int .i64 s.2]
def Steps (w : World) (B : Nat) (v : Value) (st : List (Nat × Nat)) : Prop := w.ownsRow B 87 2 v st.length (stepL st)
theorem Steps.base {w : World} {B B' : Nat} {v : Value} {st : List (Nat × Nat)} (h : Steps w B v st) (hb : B' ≤ B) : Steps w B' v st := by
  refine ⟨h.1, ?_⟩
  rcases h.2 with h0 | ⟨g, cap, cur, rfl, hg, r⟩
  · exact .inl h0
  · exact .inr ⟨g, cap, cur, rfl, Nat.le_trans hb hg, r⟩
theorem Steps.grown {w w' : World} {B : Nat} {v : Value} {st : List (Nat × Nat)} {o : Obj} (hg : (w.alloc o).grownBy w' v.ownBlock) (hv : Steps w B v st) (W : World) (hb : Below B W w) (hB : B ≤ w.heap.size) : Below B W w' := by
  have hlt := World.ownsRow.lt hv
  have h1 : Below B W (w.alloc o) := hb.alloc hB o
  refine ⟨hg.os.trans h1.os, hg.tape.trans h1.tape, hg.output.trans h1.output, Nat.le_trans h1.size hg.size, fun k hk => ?_⟩
  refine (hg.block k ?_ ?_).trans (h1.block k hk)
  · have : (w.alloc o).heap.size = w.heap.size + 1 := by simp
    omega
  · intro e
    have := (hlt k e.symm).1
    omega
theorem infoStep : (Try.prog.info? 87).map (fun i => (i.zero, i.size, i.bytes)) = some (some (.agg #[.pointer none, .int .i64 0]), 2, 16) := by kernel_rfl
theorem wpList_append_step {ops : Array Oper} {rest : List Oper} {o : Oper} {a : Act} {Q : Exit → Act → World → Prop} (w : World) (hgd : o.guard = none) (s x : Operand)
    (ho : o.op = .call { callee := .builtin .append, args := #[s, x], argTypes := #[47, 47] })
    (B : Nat) (v : Value) (st : List (Nat × Nat)) (g i : Nat) (hs : a.eval s = v) (hown : Steps w B v st) (hx : a.eval x = .slice (some ⟨w.heap.size, 0, none⟩) 1 1) (hlen : st.length ≤ 1000000) (hB : B ≤ w.heap.size)
    (h : ∀ v' w', Steps w' B v' (st ++ [(g, i)]) → (w.alloc (.cells #[.pointer (some ⟨g, 0, none⟩), .int .i64 i] 87)).grownBy w' v.ownBlock → wpList Try.prog ops Q rest (a.put o.dst v') w') : wpList Try.prog ops Q (o :: rest) a (w.alloc (.cells #[.pointer (some ⟨g, 0, none⟩), .int .i64 i] 87)) := by
  obtain ⟨i0, hi, hz0, hz1, hz2⟩ := info_partsL infoStep
  refine wpList_append_own_at _ hgd s x 47 ho B 87 i0 _ 2 16 Try.underlying47 hi hz0 hz1 hz2 rfl (by decide) v st.length (stepL st) hs (World.ownsRow.alloc hown _) ⟨w.heap.size, 0, none⟩ 1 1 [.pointer (some ⟨g, 0, none⟩), .int .i64 i] hx rfl ?_ ?_ ?_ ?_ ?_ ?_
  · intro j u hu
    rw [show (⟨w.heap.size, 0, none⟩ : Addr).add j = ⟨w.heap.size, j, none⟩ by unfold Addr.add; split <;> simp_all, cell_newL]
    simpa using hu
  · intro u hu
    simp only [List.mem_cons, List.not_mem_nil, or_false] at hu
    rcases hu with rfl | rfl <;> rfl
  · unfold maxLen; omega
  · omega
  · have : (w.alloc (.cells #[.pointer (some ⟨g, 0, none⟩), .int .i64 i] 87)).heap.size = w.heap.size + 1 := by simp
    omega
  · intro v' w' h2 h3 _ _
    refine h v' w' ?_ h3
    unfold Steps stepL
    rw [List.flatMap_append, List.length_append]
    simpa [stepL] using h2

/-- What way answers. -/
def WayGood (w : World) (v : Value) (t : Tree) (pane : Int) (X : World) (e : Ending) (w' : World) : Prop :=
  Below X.heap.size X w' ∧ ((t.path pane = none ∧ e = .returned (.tuple #[.slice none 0 0, .pointer none])) ∨ ∃ ps gl st sa sn sc, t.path pane = some ps ∧ Reach w v ps (leafI gl) st ∧ e = .returned (.tuple #[.slice sa sn sc, .pointer (some ⟨gl, 0, none⟩)]) ∧ Steps w' X.heap.size (.slice sa sn sc) st)
theorem s_way (g : Nat) (W : World) : (method 248 72 (.pointer (some ⟨g, 0, none⟩)) "mullion/layout.way").run Try.prog W = .ok (117, .pointer (some ⟨g, 0, none⟩)) W := by kernel_rfl
theorem s_fW (a c : Value) (W : World) : (callFunc 117 #[a, c]).run Try.prog W = .ok (.enter 117 #[a, c]) W := by kernel_rfl
/-- What way wants of a part. -/
structure PartW (w : World) (v : Value) (t : Tree) (T : TypeId) (gi : Nat) (Fw : FuncId) : Prop where
  val : v = .iface T (.pointer (some ⟨gi, 0, none⟩))
  mW : ∀ W, (method 248 T (.pointer (some ⟨gi, 0, none⟩)) "mullion/layout.way").run Try.prog W = .ok (Fw, .pointer (some ⟨gi, 0, none⟩)) W
  fW : ∀ a c W, (callFunc Fw #[a, c]).run Try.prog W = .ok (.enter Fw #[a, c]) W
  cW : ∀ pane X, Below w.heap.size w X → Calls Try.prog Fw #[.pointer (some ⟨gi, 0, none⟩), .int .i64 pane] X (WayGood w v t pane X)
def WaysIn (w : World) (vs : List Value) (ts : List Tree) : Prop := ∀ (i : Nat) (t : Tree), ts[i]? = some t → ∃ v T gi Fw, vs[i]? = some v ∧ PartW w v t T gi Fw

theorem leaf_ways (g : Nat) (b : Box) (p pane : Int) (w X : World) (h : LeafAt X g b p) : Calls Try.prog 108 #[.pointer (some ⟨g, 0, none⟩), .int .i64 pane] X (WayGood w (leafI g) (.leaf b p) pane X) := by
  have q4 : X.cell? ⟨g, 4, none⟩ = some (.int .i64 p) := cell_atL h 4
  clear h
  by_cases hp : p = pane
  · subst hp
    go_enter Try.func108, Try.ntmps108
    go_wp2
    go_ret2
    refine ⟨Below.refl _ _, .inr ⟨[], g, [], none, 0, 0, ?_, ⟨rfl, rfl⟩, rfl, rfl, .inl ⟨rfl, rfl⟩⟩⟩
    unfold Tree.path
    rw [if_pos rfl]
  · have hne : (p != pane) = true := by simpa using hp
    have HP : Hid (¬ p = pane) := hp
    clear hp
    go_enter Try.func108, Try.ntmps108
    go_wp2
    go_ret2
    refine ⟨Below.refl _ _, .inl ⟨?_, rfl⟩⟩
    unfold Tree.path
    rw [if_neg HP.out]

set_option maxHeartbeats 1000000 in
theorem split_ways (g : Nat) (b : Box) (k : Int) (pg n cap : Nat) (vs : List Value) (ts : List Tree) (pane : Int) (w X : World) (hX : Below w.heap.size w X) (hS : SplitAt w g b k (.slice (some ⟨pg, 0, none⟩) n cap)) (hn : ts.length = n) (hR : ∀ (i : Nat) u, vs[i]? = some u → w.cell? ⟨pg, i, none⟩ = some u) (hT : WaysIn w vs ts) (hz : sizes ts ≤ 1000) : Calls Try.prog 117 #[.pointer (some ⟨g, 0, none⟩), .int .i64 pane] X (WayGood w (splitI g) (.split b k ts) pane X) := by
  have p5 : w.cell? ⟨g, 5, none⟩ = some (.slice (some ⟨pg, 0, none⟩) n cap) := cell_atL hS 5
  have q5 : X.cell? ⟨g, 5, none⟩ = some (.slice (some ⟨pg, 0, none⟩) n cap) := (hX.cell (p := ⟨g, 5, none⟩) (World.block_lt_of_cell? w _ p5)).trans p5
  have HR : Hid (∀ (i : Nat) u, vs[i]? = some u → w.cell? ⟨pg, i, none⟩ = some u) := hR
  have HT : Hid (WaysIn w vs ts) := hT
  have HN : Hid (ts.length = n) := hn
  have HZ : Hid (sizes ts ≤ 1000) := hz
  have hn1 : n ≤ 1000 := by have := length_sizes ts; omega
  have HX : Hid (Below w.heap.size w X) := hX
  have HP5 : Hid (w.cell? ⟨g, 5, none⟩ = some (.slice (some ⟨pg, 0, none⟩) n cap)) := p5
  clear hS hn hR hT hz hX p5
  go_enter Try.func117, Try.ntmps117
  go_wp2
  go_loopw [15] (fun v wr => ∃ i : Nat, i ≤ n ∧ v = .int .i64 i ∧ Hid (∀ (a : Nat) u, a < i → ts[a]? = some u → u.path pane = none) ∧ Hid (Below X.heap.size X wr)) (fun v _ => n - (intOf v).toNat)
  case atStart => exact ⟨0, Nat.zero_le _, rfl, fun a u ha => by omega, Below.refl _ _⟩
  case round =>
    obtain ⟨i, hi, rfl, HJ, HB⟩ := hrel
    clear q5
    by_cases hlt : i < n
    · obtain ⟨t, ht⟩ : ∃ t, ts[i]? = some t := ⟨_, List.getElem?_eq_getElem (by rw [HN.out]; exact hlt)⟩
      obtain ⟨pv, T, gi, Fw, hpv, HP⟩ := HT.out i t ht
      have ri0 := HR.out i _ hpv
      have HBw : Hid (Below w.heap.size w wr) := below_step HX.out HB.out
      have ri : wr.cell? ⟨pg, i, none⟩ = some pv := (HBw.out.cell (p := ⟨pg, i, none⟩) (World.block_lt_of_cell? w _ ri0)).trans ri0
      have hval := HP.val
      subst hval
      have HRi : Hid (w.cell? ⟨pg, i, none⟩ = some (.iface T (.pointer (some ⟨gi, 0, none⟩)))) := ri0
      have m1 := HP.mW
      have m2 := HP.fW
      have HcW : Hid (Calls Try.prog Fw #[.pointer (some ⟨gi, 0, none⟩), .int .i64 pane] wr (WayGood w (.iface T (.pointer (some ⟨gi, 0, none⟩))) t pane wr)) := HP.cW pane wr HBw.out
      have HTi : Hid (ts[i]? = some t) := ht
      clear HP hpv ht ri0
      go_wp2_with fail
      refine HcW.out.mono ?_
      rintro e w1 ⟨hb1, ⟨hp, rfl⟩ | ⟨ps, gl, st, sa, sn, sc, hp, hre, rfl, hst⟩⟩
      · have HB1 : Hid (Below X.heap.size X w1) := below_step HB.out hb1
        have HN1 : Hid (∀ (a : Nat) u, a < i + 1 → ts[a]? = some u → u.path pane = none) := fun a u ha hu => by
          by_cases e : a = i
          · subst e; rw [HTi.out] at hu; cases hu; exact hp
          · exact HJ.out a u (by omega) hu
        clear hp hb1
        go_wp2
        go_roundw
        case rel => exact ⟨i + 1, by omega, by go_num, HN1, HB1⟩
        case measure => simp [intOf]; omega
      · have HB1 : Hid (Below X.heap.size X w1) := below_step HB.out hb1
        have HSt : Hid (Steps w1 X.heap.size (.slice sa sn sc) st) := hst.base HB.out.size
        have HPa : Hid ((Tree.split b k ts).path pane = some (i :: ps)) := by
          show _ = _
          unfold Tree.path
          rw [pathAll_at pane ts i 0 t ps HTi.out hp HJ.out, Nat.zero_add]
        have HRe : Hid (Reach w (splitI g) (i :: ps) (leafI gl) (st ++ [(g, i)])) := ⟨g, pg, n, cap, _, st, rfl, HP5.out, hlt, HRi.out, hre, rfl⟩
        have HLe : Hid (st.length ≤ 1000000) := by
          have h1 := hre.len
          have h2 := path_len t pane ps hp
          have h3 := sizes_take ts i t HTi.out
          have h4 := HZ.out
          show _ ≤ _
          omega
        have HSz : Hid (X.heap.size ≤ w1.heap.size) := HB1.out.size
        clear hp hre hst hb1 HcW
        go_wp2_with (at_builtin; refine wpList_append_step w1 rfl (.tmp 28) (.tmp 32) rfl X.heap.size (.slice sa sn sc) st g i (by simp [Act.eval]) HSt.out (by simp [Act.eval]) HLe.out HSz.out ?_; intro v' w2 a1 a2; have hsl := own_sl5 a1; have HS2 : Hid (Steps w2 X.heap.size v' (st ++ [(g, i)])) := a1; have HB2 : Hid (Below X.heap.size X w2) := HSt.out.grown a2 X HB1.out HSz.out; clear a1 a2; obtain ⟨sb, sd, hsl'⟩ := hsl; subst hsl')
        go_ret2
        exact ⟨HB2.out, .inr ⟨i :: ps, gl, _, _, _, _, HPa.out, HRe.out, rfl, by have := HS2.out; rwa [List.length_append] at this⟩⟩
    · have HE : Hid ((Tree.split b k ts).path pane = none) := by
        show _ = _
        unfold Tree.path
        exact pathAll_none pane ts 0 fun a u hu => HJ.out a u (by have := (List.getElem?_eq_some_iff.1 hu).1; rw [HN.out] at this; omega) hu
      go_wp2
      go_ret2
      exact ⟨HB.out, .inl ⟨HE.out, rfl⟩⟩

mutual
theorem Tree.At.partW : ∀ {t : Tree} {w : World} {B : Nat} {v : Value} {fp : List Nat}, t.At w B v fp → t.sound = true → t.size ≤ 1000 → ∃ T gi Fw, PartW w v t T gi Fw
  | .leaf b p, w, B, v, fp, h, hs, hz => by
    obtain ⟨g, rfl, h2, rfl⟩ := h
    exact ⟨_, g, _, { val := rfl, mW := l_way g, fW := l_fW, cW := fun pane X hX => leaf_ways g b p pane w X (h2.below hX) }⟩
  | .split b k ts, w, B, v, fp, h, hs, hz => by
    obtain ⟨g, sl, vs, fs, rfl, h2, h3, h4, rfl⟩ := h
    have hvl := h4.length
    have hs' := hs
    unfold Tree.sound at hs'
    simp only [Bool.and_eq_true, decide_eq_true_eq] at hs'
    unfold Tree.size at hz
    obtain ⟨pg, cap, hsl, hseen⟩ := seen_of h2 h3 (by intro e; rw [e] at hvl; have := hs'.1.1; simp at hvl; omega)
    subst hsl
    refine ⟨_, g, _, { val := rfl, mW := s_way g, fW := s_fW, cW := fun pane X hX => ?_ }⟩
    exact split_ways g b k pg vs.length cap vs ts pane w X hX h2 hvl.symm (fun i u hu => hseen.row i u hu) (partsAt.ways h4 hs'.2.1 (by omega)) (by omega)
theorem partsAt.ways : ∀ {ts : List Tree} {w : World} {B : Nat} {vs : List Value} {fp : List Nat} {b : Box} {k : Int}, partsAt w B ts vs fp → soundAll ts b k = true → sizes ts ≤ 1000 → WaysIn w vs ts
  | [], w, B, vs, fp, b, k, h, hs, hz => by
    intro i t hi
    simp at hi
  | t :: ts, w, B, vs, fp, b, k, h, hs, hz => by
    obtain ⟨v, vs', f, f', rfl, h2, h3, rfl⟩ := h
    unfold soundAll at hs
    simp only [Bool.and_eq_true] at hs
    unfold sizes at hz
    have h4 := Tree.At.partW h2 hs.1.1 (by omega)
    have h5 := partsAt.ways h3 hs.2 (by omega)
    intro i t' hi
    cases i with
    | zero =>
      simp at hi
      subst hi
      obtain ⟨T, gi, Fw, hp⟩ := h4
      exact ⟨v, T, gi, Fw, rfl, hp⟩
    | succ i => exact h5 i t' (by simpa using hi)
end

end Go.Proofs.Ytlaelkcmeaiajaa

namespace Go.Proofs.Ytlaelkcmeaiajaa
open Go.RowKit
set_option linter.unusedVariables false
set_option maxRecDepth 100000

/-- One id for the other. -/
def swapI (a b p : Int) : Int := if p = a then b else if p = b then a else p
def swapC (a b : Int) (c : CellV) : CellV := ⟨c.depth, c.kind, c.x, c.y, c.w, c.h, swapI a b c.p⟩
mutual
def Tree.swap (a b : Int) : Tree → Tree
  | .leaf x p => .leaf x (swapI a b p)
  | .split x k ts => .split x k (swapAll a b ts)
def swapAll (a b : Int) : List Tree → List Tree
  | [] => []
  | t :: ts => t.swap a b :: swapAll a b ts
end
theorem swap_box (a b : Int) (t : Tree) : (t.swap a b).box = t.box := by
  cases t with
  | leaf x p => rfl
  | split x k ts => rfl
theorem swap_kindIs (a b : Int) (t : Tree) (k : Int) : (t.swap a b).kindIs k = t.kindIs k := by
  cases t with
  | leaf x p => rfl
  | split x k ts => rfl
theorem swap_length (a b : Int) : ∀ (ts : List Tree), (swapAll a b ts).length = ts.length
  | [] => rfl
  | t :: ts => by
    show (swapAll a b ts).length + 1 = ts.length + 1
    rw [swap_length a b ts]
theorem swap_ext (a b k : Int) : ∀ (ts : List Tree), extAll (swapAll a b ts) k = extAll ts k
  | [] => rfl
  | t :: ts => by
    show extAll (t.swap a b :: swapAll a b ts) k = _
    unfold extAll
    rw [swap_box, swap_ext a b k ts]
mutual
theorem swap_moved (a b : Int) : ∀ (t : Tree) (x y : Int), (t.swap a b).moved x y = (t.moved x y).swap a b
  | .leaf q p, x, y => rfl
  | .split q k ts, x, y => by
    show Tree.split _ k (movedAll (swapAll a b ts) k x y) = Tree.split _ k (swapAll a b (movedAll ts k x y))
    rw [swap_movedAll a b ts k x y]
theorem swap_movedAll (a b : Int) : ∀ (ts : List Tree) (k x y : Int), movedAll (swapAll a b ts) k x y = swapAll a b (movedAll ts k x y)
  | [], k, x, y => rfl
  | t :: ts, k, x, y => by
    show (t.swap a b).moved x y :: (if k = 2 then movedAll (swapAll a b ts) k (x + ((t.swap a b).box.ext k + 1)) y else movedAll (swapAll a b ts) k x (y + ((t.swap a b).box.ext k + 1))) = (t.moved x y).swap a b :: swapAll a b (if k = 2 then movedAll ts k (x + (t.box.ext k + 1)) y else movedAll ts k x (y + (t.box.ext k + 1)))
    rw [swap_moved a b t x y, swap_box]
    split
    · rw [swap_movedAll a b ts]
    · rw [swap_movedAll a b ts]
theorem swap_tell (a b : Int) (h0 : swapI a b 0 = 0) : ∀ (t : Tree) (d : Int), (t.swap a b).tell d = (t.tell d).map (swapC a b)
  | .leaf q p, d => rfl
  | .split q k ts, d => by
    show _ :: tellAll (swapAll a b ts) (d + 1) = swapC a b _ :: (tellAll ts (d + 1)).map (swapC a b)
    rw [swap_tellAll a b h0 ts (d + 1)]
    unfold swapC
    rw [h0]
theorem swap_tellAll (a b : Int) (h0 : swapI a b 0 = 0) : ∀ (ts : List Tree) (d : Int), tellAll (swapAll a b ts) d = (tellAll ts d).map (swapC a b)
  | [], d => rfl
  | t :: ts, d => by
    show (t.swap a b).tell d ++ tellAll (swapAll a b ts) d = (t.tell d ++ tellAll ts d).map (swapC a b)
    rw [swap_tell a b h0 t d, swap_tellAll a b h0 ts d, List.map_append]
theorem swap_sound (a b : Int) (ha : idB a = true) (hb : idB b = true) : ∀ (t : Tree), (t.swap a b).sound = t.sound
  | .leaf q p => by
    show ((sideB q.w && sideB q.h) && idB (swapI a b p)) = ((sideB q.w && sideB q.h) && idB p)
    congr 1
    unfold swapI
    split
    · rename_i e; rw [e, ha, hb]
    · split
      · rename_i e; rw [e, ha, hb]
      · rfl
  | .split q k ts => by
    show ((decide (2 ≤ (swapAll a b ts).length) && _) && (soundAll (swapAll a b ts) q k && decide (extAll (swapAll a b ts) k = q.ext k))) = _
    rw [swap_length, swap_ext, swap_soundAll a b ha hb ts q k]
    rfl
theorem swap_soundAll (a b : Int) (ha : idB a = true) (hb : idB b = true) : ∀ (ts : List Tree) (q : Box) (k : Int), soundAll (swapAll a b ts) q k = soundAll ts q k
  | [], q, k => rfl
  | t :: ts, q, k => by
    show (((t.swap a b).sound && (!(t.swap a b).kindIs k && decide ((t.swap a b).box.ext (acrossK k) = q.ext (acrossK k)))) && soundAll (swapAll a b ts) q k) = _
    rw [swap_sound a b ha hb t, swap_kindIs, swap_box, swap_soundAll a b ha hb ts q k]
    rfl
theorem swap_fine (a b : Int) : ∀ (t : Tree), t.fine → (t.swap a b).fine
  | .leaf q p, h => trivial
  | .split q k ts, h => by
    refine ⟨h.1, ?_, swap_fines a b ts h.2.2⟩
    rw [swap_length]
    exact h.2.1
theorem swap_fines (a b : Int) : ∀ (ts : List Tree), fines ts → fines (swapAll a b ts)
  | [], h => trivial
  | t :: ts, h => ⟨swap_fine a b t h.1, swap_fines a b ts h.2⟩
theorem swap_size (a b : Int) : ∀ (t : Tree), (t.swap a b).size = t.size
  | .leaf q p => rfl
  | .split q k ts => by
    show 1 + sizes (swapAll a b ts) = 1 + sizes ts
    rw [swap_sizes a b ts]
theorem swap_sizes (a b : Int) : ∀ (ts : List Tree), sizes (swapAll a b ts) = sizes ts
  | [] => rfl
  | t :: ts => by
    show (t.swap a b).size + sizes (swapAll a b ts) = t.size + sizes ts
    rw [swap_size a b t, swap_sizes a b ts]
end
mutual
theorem path_mem : ∀ (t : Tree) (q : Int), t.path q = none ↔ q ∉ t.idl
  | .leaf x p, q => by
    unfold Tree.path Tree.idl
    by_cases e : p = q
    · simp [e]
    · simp [e, Ne.symm e]
  | .split x k ts, q => by
    unfold Tree.path Tree.idl
    exact pathAll_mem ts q 0
theorem pathAll_mem : ∀ (ts : List Tree) (q : Int) (k : Nat), pathAll ts q k = none ↔ q ∉ idls ts
  | [], q, k => by simp [pathAll, idls]
  | t :: ts, q, k => by
    unfold pathAll idls
    have h1 := path_mem t q
    have h2 := pathAll_mem ts q (k + 1)
    cases hp : t.path q with
    | none => rw [hp] at h1; simp at h1; simp [h1, h2]
    | some ps => rw [hp] at h1; simp at h1; simp [h1]
theorem idl_told : ∀ (t : Tree) (d : Int), t.kinds → t.idl = idsOf (t.tell d)
  | .leaf x p, d, h => rfl
  | .split x k ts, d, h => by
    have := idls_told ts (d + 1) h.2
    unfold Tree.idl
    rw [this]
    show _ = idsOf (⟨d, k, x.x, x.y, x.w, x.h, 0⟩ :: tellAll ts (d + 1))
    unfold idsOf
    rw [List.filter_cons_of_neg]
    have := h.1
    simp
    omega
theorem idls_told : ∀ (ts : List Tree) (d : Int), kindsAll ts → idls ts = idsOf (tellAll ts d)
  | [], d, h => rfl
  | t :: ts, d, h => by
    unfold idls
    rw [idl_told t d h.1, idls_told ts d h.2]
    show idsOf (t.tell d) ++ idsOf (tellAll ts d) = idsOf (t.tell d ++ tellAll ts d)
    unfold idsOf
    rw [List.filter_append, List.map_append]
end
theorem pathAll_inv (q : Int) : ∀ (ts : List Tree) (k : Nat) (qs : List Nat), pathAll ts q k = some qs → ∃ i t ps, qs = (k + i) :: ps ∧ ts[i]? = some t ∧ t.path q = some ps
  | [], k, qs, h => by unfold pathAll at h; cases h
  | t :: ts, k, qs, h => by
    unfold pathAll at h
    cases hp : t.path q with
    | some ps =>
      rw [hp] at h
      cases h
      exact ⟨0, t, ps, rfl, rfl, hp⟩
    | none =>
      rw [hp] at h
      obtain ⟨i, t', ps, e, h1, h2⟩ := pathAll_inv q ts (k + 1) qs h
      exact ⟨i + 1, t', ps, by rw [e, show k + 1 + i = k + (i + 1) by omega], by simpa using h1, h2⟩
theorem idls_at (q : Int) : ∀ (ts : List Tree) (i : Nat) (t : Tree), ts[i]? = some t → q ∈ t.idl → q ∈ idls ts
  | [], i, t, h, hq => by simp at h
  | a :: ts, 0, t, h, hq => by
    simp at h
    subst h
    unfold idls
    exact List.mem_append_left _ hq
  | a :: ts, i + 1, t, h, hq => by
    unfold idls
    exact List.mem_append_right _ (idls_at q ts i t (by simpa using h) hq)
theorem idls_apart (q : Int) : ∀ (ts : List Tree), (idls ts).Nodup → ∀ (i j : Nat) (t u : Tree), ts[i]? = some t → ts[j]? = some u → i ≠ j → q ∈ t.idl → q ∉ u.idl
  | [], h, i, j, t, u, hi, hj, hne, hq => by simp at hi
  | a :: ts, h, i, j, t, u, hi, hj, hne, hq => by
    unfold idls at h
    obtain ⟨_, n2, n3⟩ := List.nodup_append.1 h
    cases i with
    | zero =>
      simp at hi
      subst hi
      cases j with
      | zero => exact absurd rfl hne
      | succ j => exact fun hu => n3 q hq q (idls_at q ts j u (by simpa using hj) hu) rfl
    | succ i =>
      cases j with
      | zero =>
        simp at hj
        subst hj
        exact fun hu => n3 q hu q (idls_at q ts i t (by simpa using hi) hq) rfl
      | succ j => exact idls_apart q ts n2 i j t u (by simpa using hi) (by simpa using hj) (by omega) hq
theorem idls_nodup : ∀ (ts : List Tree), (idls ts).Nodup → ∀ (i : Nat) (t : Tree), ts[i]? = some t → t.idl.Nodup
  | [], h, i, t, hi => by simp at hi
  | a :: ts, h, i, t, hi => by
    unfold idls at h
    obtain ⟨n1, n2, _⟩ := List.nodup_append.1 h
    cases i with
    | zero => simp at hi; subst hi; exact n1
    | succ i => exact idls_nodup ts n2 i t (by simpa using hi)

/-- Where the pane of an id lies, if it is there. -/
def Stat (W : World) (t : Tree) (v : Value) (q : Int) (gl : Nat) : Prop := t.path q = none ∨ ∃ ps st, t.path q = some ps ∧ Reach W v ps (leafI gl) st
theorem Stat.parts {W : World} {B g gl : Nat} {b : Box} {k q : Int} {sl : Value} {vs : List Value} {fs : List Nat} {ts : List Tree} (hS : SplitAt W g b k sl) (hR : W.ownsRow B 45 1 sl vs.length vs) (hP : partsAt W B ts vs fs) (hn : (idls ts).Nodup) (h : Stat W (.split b k ts) (splitI g) q gl) : ∀ (i : Nat) t v, ts[i]? = some t → vs[i]? = some v → Stat W t v q gl := by
  intro i t v ht hv
  rcases h with h | ⟨qs, st, h, hr⟩
  · refine .inl ((path_mem t q).2 fun hq => ?_)
    unfold Tree.path at h
    exact (pathAll_mem ts q 0).1 h (idls_at q ts i t ht hq)
  · unfold Tree.path at h
    obtain ⟨j, u, ps, e, h1, h2⟩ := pathAll_inv q ts 0 qs h
    rw [Nat.zero_add] at e
    subst e
    obtain ⟨g', pg, n, cap, vi, st', e1, e2, e3, e4, e5, _⟩ := hr
    have hg : g = g' := by
      unfold splitI at e1
      simpa using e1
    subst hg
    by_cases hij : i = j
    · subst hij
      rw [ht] at h1
      cases h1
      refine .inr ⟨ps, st', h2, ?_⟩
      obtain ⟨pg', cap', hsl, hseen⟩ := seen_of hS hR (by intro e; rw [e] at hv; simp at hv)
      subst hsl
      have q5 := hseen.parts
      rw [e2] at q5
      have hpg : pg = pg' := by
        have := Option.some.inj q5
        simp at this
        exact this.1
      subst hpg
      have := hseen.row i v hv
      rw [e4] at this
      cases this
      exact e5
    · refine .inl ((path_mem t q).2 ?_)
      refine idls_apart q ts hn j i u t h1 ht (Ne.symm hij) ?_
      refine Classical.byContradiction fun hq => ?_
      rw [(path_mem u q).2 hq] at h2
      cases h2

theorem leaf_not_split {W : World} {g : Nat} {b b' : Box} {p k : Int} {sl : Value} (h : LeafAt W g b p) (h' : SplitAt W g b' k sl) : False := by
  have := h.symm.trans h'
  simp at this
theorem leaf_not_row {W : World} {B g : Nat} {b : Box} {p : Int} {sl : Value} {n : Nat} {vs : List Value} (h : LeafAt W g b p) (h' : W.ownsRow B 45 1 sl n vs) (hg : g ∈ sl.ownBlock.toList) : False := by
  rcases h'.2 with ⟨rfl, _⟩ | ⟨g', cap, cur, rfl, hb, hh, r⟩
  · simp [Value.ownBlock] at hg
  · have e : g = g' := by simpa [Value.ownBlock] using hg
    subst e
    have := h.symm.trans hh
    simp at this

theorem leaf_id {W : World} {g : Nat} {x y : Box} {p q : Int} (h : LeafAt W g x p) (h' : LeafAt W g y q) : p = q := by
  have := (cell_atL h 4).symm.trans (cell_atL h' 4)
  simp [leafV] at this
  exact this
/-- The ids of two leaves have changed, and nothing else. -/
structure Swapped (W W' : World) (g1 g2 : Nat) (a b : Int) (b1 b2 : Box) : Prop where
  h1 : LeafAt W g1 b1 a
  h2 : LeafAt W g2 b2 b
  k1 : ∀ x, LeafAt W g1 x a → LeafAt W' g1 x b
  k2 : ∀ x, LeafAt W g2 x b → LeafAt W' g2 x a
  hk : ∀ g, g < W.heap.size → g ≠ g1 → g ≠ g2 → W'.heap[g]? = W.heap[g]?
mutual
theorem Tree.At.swap {W W' : World} {B g1 g2 : Nat} {a b : Int} {b1 b2 : Box} (H : Swapped W W' g1 g2 a b b1 b2) : ∀ {t : Tree} {v : Value} {fp : List Nat}, t.At W B v fp → Stat W t v a g1 → Stat W t v b g2 → t.idl.Nodup → (t.swap a b).At W' B v fp
  | .leaf x p, v, fp, h, s1, s2, hn => by
    obtain ⟨g, rfl, hl, rfl⟩ := h
    refine ⟨g, rfl, ?_, rfl⟩
    unfold swapI
    by_cases ea : p = a
    · subst ea
      rw [if_pos rfl]
      rcases s1 with s1 | ⟨ps, st, s1, hr⟩
      · unfold Tree.path at s1
        rw [if_pos rfl] at s1
        cases s1
      · unfold Tree.path at s1
        rw [if_pos rfl] at s1
        cases s1
        have e : g1 = g := by
          have := hr.1
          unfold leafI at this
          simpa using this
        subst e
        exact H.k1 x hl
    · rw [if_neg ea]
      by_cases eb : p = b
      · subst eb
        rw [if_pos rfl]
        rcases s2 with s2 | ⟨ps, st, s2, hr⟩
        · unfold Tree.path at s2
          rw [if_pos rfl] at s2
          cases s2
        · unfold Tree.path at s2
          rw [if_pos rfl] at s2
          cases s2
          have e : g2 = g := by
            have := hr.1
            unfold leafI at this
            simpa using this
          subst e
          exact H.k2 x hl
      · rw [if_neg eb]
        refine (H.hk g (lt_of_block hl) ?_ ?_).trans hl
        · rintro rfl
          exact ea (leaf_id hl H.h1)
        · rintro rfl
          exact eb (leaf_id hl H.h2)
  | .split x k ts, v, fp, h, s1, s2, hn => by
    obtain ⟨g, sl, vs, fs, rfl, hS, hR, hP, rfl⟩ := h
    unfold Tree.idl at hn
    refine ⟨g, sl, vs, fs, rfl, ?_, ?_, partsAt.swap H hP (fun i t v ht hv => ⟨s1.parts hS hR hP hn i t v ht hv, s2.parts hS hR hP hn i t v ht hv, idls_nodup ts hn i t ht⟩), rfl⟩
    · refine (H.hk g (lt_of_block hS) ?_ ?_).trans hS
      · rintro rfl
        exact leaf_not_split H.h1 hS
      · rintro rfl
        exact leaf_not_split H.h2 hS
    · refine own_kept hR fun q hq => H.hk q (own_lt hR q hq) ?_ ?_
      · rintro rfl
        exact leaf_not_row H.h1 hR hq
      · rintro rfl
        exact leaf_not_row H.h2 hR hq
theorem partsAt.swap {W W' : World} {B g1 g2 : Nat} {a b : Int} {b1 b2 : Box} (H : Swapped W W' g1 g2 a b b1 b2) : ∀ {ts : List Tree} {vs : List Value} {fs : List Nat}, partsAt W B ts vs fs → (∀ (i : Nat) t v, ts[i]? = some t → vs[i]? = some v → Stat W t v a g1 ∧ Stat W t v b g2 ∧ t.idl.Nodup) → partsAt W' B (swapAll a b ts) vs fs
  | [], vs, fs, h, hs => h
  | t :: ts, vs, fs, h, hs => by
    obtain ⟨v, vs', f, f', rfl, hA, hP, rfl⟩ := h
    obtain ⟨x1, x2, x3⟩ := hs 0 t v rfl rfl
    exact ⟨v, vs', f, f', rfl, Tree.At.swap H hA x1 x2 x3, partsAt.swap H hP (fun i u z hu hz => hs (i + 1) u z (by simpa using hu) (by simpa using hz)), rfl⟩
end

end Go.Proofs.Ytlaelkcmeaiajaa

namespace Go.Proofs.Ytlaelkcmeaiajaa
open Go.RowKit
set_option linter.unusedVariables false
set_option maxRecDepth 100000

/-- What Swap answers. -/
def swapE (l : List CellV) (a b : Int) : Int := if (readF l).isSome = true then (if a ∈ idsOf l ∧ b ∈ idsOf l then 0 else 42) else 40
def swapL (l : List CellV) (a b : Int) : List CellV := if (readF l).isSome = true ∧ a ∈ idsOf l ∧ b ∈ idsOf l then l.map (swapC a b) else []
theorem swap_none {l : List CellV} (a b : Int) (h : readF l = none) : swapE l a b = 40 ∧ swapL l a b = [] := by
  unfold swapE swapL
  rw [h]
  simp
theorem swap_miss {l : List CellV} {t : Tree} (a b : Int) (h : readF l = some t) (hm : ¬ (a ∈ idsOf l ∧ b ∈ idsOf l)) : swapE l a b = 42 ∧ swapL l a b = [] := by
  unfold swapE swapL
  rw [h]
  simp [hm]
theorem swap_both {l : List CellV} {t : Tree} (a b : Int) (h : readF l = some t) (ha : a ∈ idsOf l) (hb : b ∈ idsOf l) : swapE l a b = 0 ∧ swapL l a b = l.map (swapC a b) := by
  unfold swapE swapL
  rw [h]
  simp [ha, hb]

theorem Reach.below {W W' : World} : ∀ {ps : List Nat} {v v' : Value} {st : List (Nat × Nat)}, Reach W v ps v' st → Below W.heap.size W W' → Reach W' v ps v' st
  | [], v, v', st, h, hb => h
  | i :: ps, v, v', st, h, hb => by
    obtain ⟨g, pg, n, cap, vi, st', h1, h2, h3, h4, h5, h6⟩ := h
    exact ⟨g, pg, n, cap, vi, st', h1, (hb.cell (p := ⟨g, 5, none⟩) (World.block_lt_of_cell? W _ h2)).trans h2, h3, (hb.cell (p := ⟨pg, i, none⟩) (World.block_lt_of_cell? W _ h4)).trans h4, Reach.below h5 hb, h6⟩
mutual
theorem idl_idB : ∀ (t : Tree), t.sound = true → ∀ q ∈ t.idl, idB q = true
  | .leaf x p, hs, q, hq => by
    unfold Tree.idl at hq
    simp at hq
    subst hq
    unfold Tree.sound at hs
    simp only [Bool.and_eq_true] at hs
    exact hs.2
  | .split x k ts, hs, q, hq => by
    unfold Tree.sound at hs
    simp only [Bool.and_eq_true] at hs
    unfold Tree.idl at hq
    exact idls_idB ts x k hs.2.1 q hq
theorem idls_idB : ∀ (ts : List Tree) (b : Box) (k : Int), soundAll ts b k = true → ∀ q ∈ idls ts, idB q = true
  | [], b, k, hs, q, hq => by simp [idls] at hq
  | t :: ts, b, k, hs, q, hq => by
    unfold soundAll at hs
    simp only [Bool.and_eq_true] at hs
    unfold idls at hq
    rcases List.mem_append.1 hq with hq | hq
    · exact idl_idB t hs.1.1 q hq
    · exact idls_idB ts b k hs.2 q hq
end
theorem read_lenS {l : List CellV} (hs : (readF l).isSome = true) : l.length ≤ 63 ∧ l ≠ [] := by
  cases hr : readF l with
  | none => rw [hr] at hs; cases hs
  | some t =>
    unfold readF at hr
    split at hr
    · cases hr
    · rename_i h
      refine ⟨by omega, ?_⟩
      rintro rfl
      rw [takeF_nil] at hr
      cases hr

mutual
theorem kinds_fine : ∀ (t : Tree), t.kinds → t.size ≤ 200 → t.fine
  | .leaf x p, hk, hz => trivial
  | .split x k ts, hk, hz => by
    unfold Tree.size at hz
    exact ⟨hk.1, by have := length_sizes ts; omega, kinds_fines ts hk.2 (by omega)⟩
theorem kinds_fines : ∀ (ts : List Tree), kindsAll ts → sizes ts ≤ 200 → fines ts
  | [], hk, hz => trivial
  | t :: ts, hk, hz => by
    unfold sizes at hz
    exact ⟨kinds_fine t hk.1 (by omega), kinds_fines ts hk.2 (by omega)⟩
/-- The leaf that a way leads to. -/
theorem reach_leaf {W : World} {B : Nat} : ∀ {t : Tree} {v : Value} {fp : List Nat} {q : Int} {ps : List Nat} {gl : Nat} {st : List (Nat × Nat)}, t.At W B v fp → t.path q = some ps → Reach W v ps (leafI gl) st → ∃ x, LeafAt W gl x q ∧ gl ∈ fp
  | .leaf x p, v, fp, q, ps, gl, st, h, hp, hr => by
    obtain ⟨g, rfl, hl, rfl⟩ := h
    unfold Tree.path at hp
    split at hp
    · rename_i e
      cases hp
      have e2 : gl = g := by
        have := hr.1
        unfold leafI at this
        simpa using this
      subst e2
      exact ⟨x, e ▸ hl, by simp⟩
    · cases hp
  | .split x k ts, v, fp, q, ps, gl, st, h, hp, hr => by
    obtain ⟨g, sl, vs, fs, rfl, hS, hR, hP, rfl⟩ := h
    unfold Tree.path at hp
    obtain ⟨j, u, ps', e, h1, h2⟩ := pathAll_inv q ts 0 ps hp
    rw [Nat.zero_add] at e
    subst e
    obtain ⟨g', pg, n, cap, vi, st', e1, e2, e3, e4, e5, _⟩ := hr
    have hg : g = g' := by
      unfold splitI at e1
      simpa using e1
    subst hg
    have hvs : vs ≠ [] := by
      intro e
      have := hP.length
      rw [e] at this
      have := (List.getElem?_eq_some_iff.1 h1).1
      simp at *
      omega
    obtain ⟨pg', cap', hsl, hseen⟩ := seen_of hS hR hvs
    subst hsl
    have q5 := hseen.parts
    rw [e2] at q5
    have hpg : pg = pg' := by
      have := Option.some.inj q5
      simp at this
      exact this.1
    subst hpg
    obtain ⟨y, hy, hg⟩ := reach_parts hP h1 h2 (fun w hw => by
      have := hseen.row j w hw
      rw [e4] at this
      cases this
      exact e5)
    exact ⟨y, hy, by simp [hg]⟩
theorem reach_parts {W : World} {B : Nat} : ∀ {ts : List Tree} {vs : List Value} {fs : List Nat} {q : Int} {j : Nat} {u : Tree} {ps : List Nat} {gl : Nat} {st : List (Nat × Nat)}, partsAt W B ts vs fs → ts[j]? = some u → u.path q = some ps → (∀ w, vs[j]? = some w → Reach W w ps (leafI gl) st) → ∃ x, LeafAt W gl x q ∧ gl ∈ fs
  | [], vs, fs, q, j, u, ps, gl, st, h, hj, hp, hr => by simp at hj
  | t :: ts, vs, fs, q, 0, u, ps, gl, st, h, hj, hp, hr => by
    obtain ⟨v, vs', f, f', rfl, hA, hP, rfl⟩ := h
    simp at hj
    subst hj
    obtain ⟨x, h1, h2⟩ := reach_leaf hA hp (hr v rfl)
    exact ⟨x, h1, List.mem_append_left _ h2⟩
  | t :: ts, vs, fs, q, j + 1, u, ps, gl, st, h, hj, hp, hr => by
    obtain ⟨v, vs', f, f', rfl, hA, hP, rfl⟩ := h
    obtain ⟨x, h1, h2⟩ := reach_parts hP (by simpa using hj) hp (fun w hw => hr w (by simpa using hw))
    exact ⟨x, h1, List.mem_append_right _ h2⟩
end
theorem LeafAt.setP {W : World} {g : Nat} {x : Box} {p : Int} (h : LeafAt W g x p) (q : Int) : LeafAt (W.setCell ⟨g, 4, none⟩ (.int .i64 q)) g x q := by
  have hlt : g < W.heap.size := lt_of_block h
  have h' : W.heap[g] = .cells (leafV x p) 54 (0, 0) := by unfold LeafAt at h; simpa [Array.getElem?_eq_getElem hlt] using h
  show (W.heap.modify g _)[g]? = _
  rw [Array.getElem?_eq_getElem (by simpa using hlt), Array.getElem_modify_self, h']
  rfl
/-- Two stores. -/
theorem swapped_of {W : World} {g1 g2 : Nat} {a b : Int} {b1 b2 : Box} (h1 : LeafAt W g1 b1 a) (h2 : LeafAt W g2 b2 b) : Swapped W ((W.setCell ⟨g1, 4, none⟩ (.int .i64 b)).setCell ⟨g2, 4, none⟩ (.int .i64 a)) g1 g2 a b b1 b2 := by
  refine ⟨h1, h2, fun x hx => ?_, fun x hx => ?_, fun g hg n1 n2 => ?_⟩
  · by_cases e : g1 = g2
    · subst e
      have := leaf_id h1 h2
      subst this
      exact (hx.setP a).setP a
    · exact (Below.heap_setCell _ _ _ _ e).trans (hx.setP b)
  · by_cases e : g1 = g2
    · subst e
      exact (hx.setP b).setP a
    · have k : LeafAt (W.setCell ⟨g1, 4, none⟩ (.int .i64 b)) g2 x b := (Below.heap_setCell _ _ _ _ (Ne.symm e)).trans hx
      exact k.setP a
  · exact (Below.heap_setCell _ _ _ _ n2).trans (Below.heap_setCell _ _ _ _ n1)

/-- What lies behind the two stores. -/
theorem swap_end {l : List CellV} {t : Tree} {a b : Int} {v : Value} {fp : List Nat} {W0 W1 W : World} {gl1 gl2 : Nat} {ps1 ps2 : List Nat} {s1 s2 : List (Nat × Nat)} (hr : readF l = some t) (hA : t.At W1 0 v fp) (hnd : fp.Nodup) (hge : ∀ q ∈ fp, W0.heap.size ≤ q) (hb0 : Below W0.heap.size W0 W1) (hW : Below W1.heap.size W1 W) (p1 : t.path a = some ps1) (r1 : Reach W1 v ps1 (leafI gl1) s1) (p2 : t.path b = some ps2) (r2 : Reach W1 v ps2 (leafI gl2) s2) :
    (∃ p, W.cell? ⟨gl1, 4, none⟩ = some (.int .i64 p)) ∧ W.frozen? ⟨gl1, 4, none⟩ = false ∧ (∃ p, (W.setCell ⟨gl1, 4, none⟩ (.int .i64 b)).cell? ⟨gl2, 4, none⟩ = some (.int .i64 p)) ∧ W.frozen? ⟨gl2, 4, none⟩ = false ∧
    Calls Try.prog 23 #[v] ((W.setCell ⟨gl1, 4, none⟩ (.int .i64 b)).setCell ⟨gl2, 4, none⟩ (.int .i64 a)) fun e w' => ∃ u, e = .returned u ∧ CeOwns w' W0.heap.size u (swapL l a b) ∧ Below W0.heap.size W0 w' := by
  have hl := readF_lay hr
  obtain ⟨x1, l1, m1⟩ := reach_leaf hA p1 r1
  obtain ⟨x2, l2, m2⟩ := reach_leaf hA p2 r2
  have l1' : LeafAt W gl1 x1 a := (hW.block gl1 (lt_of_block l1)).trans l1
  have l2' : LeafAt W gl2 x2 b := (hW.block gl2 (lt_of_block l2)).trans l2
  have hids := idl_told t 0 hl.kinds
  rw [hl.tell] at hids
  have hnd2 : t.idl.Nodup := by rw [hids]; exact (lay_ids hr).2.2.2.1
  have ha : a ∈ t.idl := Classical.byContradiction fun e => by rw [(path_mem t a).2 e] at p1; cases p1
  have hb : b ∈ t.idl := Classical.byContradiction fun e => by rw [(path_mem t b).2 e] at p2; cases p2
  have hsw := swapped_of l1' l2'
  have hAW : t.At W 0 v fp := hA.below hW
  have s1' : Stat W t v a gl1 := .inr ⟨ps1, s1, p1, r1.below hW⟩
  have s2' : Stat W t v b gl2 := .inr ⟨ps2, s2, p2, r2.below hW⟩
  have hN := hAW.swap hsw s1' s2' hnd2
  have hz : t.size ≤ 63 := by
    have := t.tell_length 0
    rw [hl.tell] at this
    have := (read_lenS (by rw [hr]; rfl)).1
    omega
  have hia : idB a = true := idl_idB t hl.sound a ha
  have hib : idB b = true := idl_idB t hl.sound b hb
  have h0 : swapI a b 0 = 0 := by
    unfold idB at hia hib
    simp at hia hib
    unfold swapI
    rw [if_neg (by omega), if_neg (by omega)]
  have hlay := lay_any (t.swap a b) 0 v fp _ hN hnd (by rw [swap_sound a b hia hib, hl.sound]) (swap_fine a b t (kinds_fine t hl.kinds (by omega))) (by rw [swap_size]; omega)
  have hfz : ∀ g x p, LeafAt W g x p → W.frozen? ⟨g, 4, none⟩ = false := fun g x p h => free_atL h 4
  refine ⟨⟨a, cell_atL l1' 4⟩, hfz _ _ _ l1', ?_, hfz _ _ _ l2', ?_⟩
  · by_cases e : gl1 = gl2
    · subst e
      exact ⟨b, cell_atL (l1'.setP b) 4⟩
    · exact ⟨b, cell_atL (show LeafAt (W.setCell ⟨gl1, 4, none⟩ (.int .i64 b)) gl2 x2 b from (Below.heap_setCell _ _ _ _ (Ne.symm e)).trans l2') 4⟩
  · refine hlay.mono ?_
    rintro e w' ⟨u, rfl, hu, _, hbut⟩
    have hsz : ((W.setCell ⟨gl1, 4, none⟩ (.int .i64 b)).setCell ⟨gl2, 4, none⟩ (.int .i64 a)).heap.size = W.heap.size := by simp [World.setCell]
    have hle : W0.heap.size ≤ W.heap.size := Nat.le_trans hb0.size hW.size
    refine ⟨u, rfl, ?_, ?_⟩
    · rw [(swap_both a b hr (hids ▸ ha) (hids ▸ hb)).2]
      have := hu.lower (B' := W0.heap.size) (by rw [hsz]; exact hle)
      rw [swap_moved, hl.moved, swap_tell a b h0, hl.tell] at this
      exact this
    · refine ⟨?_, ?_, ?_, ?_, fun k hk => ?_⟩
      · exact hbut.os.trans (hW.os.trans hb0.os)
      · exact hbut.tape.trans (hW.tape.trans hb0.tape)
      · exact hbut.output.trans (hW.output.trans hb0.output)
      · have := hbut.size
        rw [hsz] at this
        omega
      · have hkn : ∀ q ∈ fp, k ≠ q := fun q hq e => by have := hge q hq; omega
        refine (hbut.block k (by rw [hsz]; omega) (fun hm => hkn k hm rfl)).trans ?_
        refine (Below.heap_setCell _ _ _ _ (hkn _ m2)).trans ((Below.heap_setCell _ _ _ _ (hkn _ m1)).trans ?_)
        exact (hW.block k (Nat.lt_of_lt_of_le hk hb0.size)).trans (hb0.block k hk)

end Go.Proofs.Ytlaelkcmeaiajaa

namespace Go.Proofs.Ytlaelkcmeaiajaa
open Go.RowKit
set_option linter.unusedVariables false
set_option maxRecDepth 100000

theorem wpList_append_ce {ops : Array Oper} {rest : List Oper} {o : Oper} {a : Act} {Q : Exit → Act → World → Prop} (w : World) (hgd : o.guard = none) (s x : Operand)
    (ho : o.op = .call { callee := .builtin .append, args := #[s, x], argTypes := #[22, 22] })
    (B : Nat) (v : Value) (l : List CellV) (e : CellV) (hs : a.eval s = v) (hown : CeOwns w B v l) (hx : a.eval x = .slice (some ⟨w.heap.size, 0, none⟩) 1 1) (hlen : l.length ≤ 16777216) (hB : B ≤ w.heap.size)
    (h : ∀ v' w', CeOwns w' B v' (l ++ [e]) → (w.alloc (.cells e.vals 35)).grownBy w' v.ownBlock → wpList Try.prog ops Q rest (a.put o.dst v') w') : wpList Try.prog ops Q (o :: rest) a (w.alloc (.cells e.vals 35)) := by
  obtain ⟨i0, hi, hz0, hz1, hz2⟩ := info_partsL infoCe
  have hown' : (w.alloc (.cells e.vals 35)).ownsRow B 35 7 v l.length (ceCells l) := World.ownsRow.alloc hown _
  refine wpList_append_own _ hgd s x 22 ho B 35 i0 (.agg zeroCell.vals) 7 56 Try.underlying22 hi hz0 hz1 hz2 rfl (by decide) v l.length (ceCells l) hs hown' ⟨w.heap.size, 0, none⟩ 1 1 e.vals.toList hx rfl ?_ ?_ ?_ ?_ ?_ ?_
  · intro j u hu
    rw [show (⟨w.heap.size, 0, none⟩ : Addr).add j = ⟨w.heap.size, j, none⟩ by unfold Addr.add; split <;> simp_all, cell_newL]
    simpa using hu
  · intro u hu
    have hu' : u ∈ [Value.int .i64 e.depth, .int .i64 e.kind, .int .i64 e.x, .int .i64 e.y, .int .i64 e.w, .int .i64 e.h, .int .i64 e.p] := hu
    simp only [List.mem_cons, List.not_mem_nil, or_false] at hu'
    rcases hu' with rfl | rfl | rfl | rfl | rfl | rfl | rfl <;> rfl
  · unfold maxLen; omega
  · omega
  · have : (w.alloc (.cells e.vals 35)).heap.size = w.heap.size + 1 := by simp
    omega
  · intro v' w' h2 h3 _
    refine h v' w' ?_ h3
    unfold CeOwns ceCells
    rw [List.flatMap_append, List.length_append]
    simpa [ceCells] using h2

theorem CeOwns.grownO {w w' : World} {B : Nat} {v : Value} {l : List CellV} {o : Obj} (hg : (w.alloc o).grownBy w' v.ownBlock) (hv : CeOwns w B v l) (W : World) (hb : Below B W w) (hB : B ≤ w.heap.size) : Below B W w' := by
  have hlt := World.ownsRow.lt hv
  have h1 : Below B W (w.alloc o) := hb.alloc hB o
  refine ⟨hg.os.trans h1.os, hg.tape.trans h1.tape, hg.output.trans h1.output, Nat.le_trans h1.size hg.size, fun k hk => ?_⟩
  refine (hg.block k ?_ ?_).trans (h1.block k hk)
  · have : (w.alloc o).heap.size = w.heap.size + 1 := by simp
    omega
  · intro e
    have := (hlt k e.symm).1
    omega

theorem has_some (g n cap : Nat) (zs : List Int) (x : Int) (w : World) (hc : ∀ (j : Nat) y, zs[j]? = some y → w.cell? ⟨g, j, none⟩ = some (.int .i64 y)) (hn : zs.length = n) (hn2 : n ≤ 1000) : Calls Try.prog 26 #[.slice (some ⟨g, 0, none⟩) n cap, .int .i64 x] w fun e w' => e = .returned (.bool (decide (x ∈ zs))) ∧ w = w' := by
  have HC : Hid (∀ (j : Nat) y, zs[j]? = some y → w.cell? ⟨g, j, none⟩ = some (.int .i64 y)) := hc
  have HN : Hid (zs.length = n) := hn
  obtain ⟨r, hr⟩ : ∃ r, decide (x ∈ zs) = r := ⟨_, rfl⟩
  have HR : Hid (decide (x ∈ zs) = r) := hr
  rw [hr]
  clear hc hn hr
  go_enter Try.func26, Try.ntmps26
  go_wp2
  go_loopw [5] (fun v wr => ∃ j : Nat, j ≤ n ∧ v = .int .i64 j ∧ Hid (∀ (a : Nat) y, a < j → zs[a]? = some y → y ≠ x) ∧ w = wr) (fun v _ => n - (intOf v).toNat)
  case atStart => exact ⟨0, Nat.zero_le _, rfl, fun a y ha => by omega, rfl⟩
  case round =>
    obtain ⟨j, hj, rfl, HJ, rfl⟩ := hrel
    by_cases hlt : j < n
    · obtain ⟨y, hy⟩ : ∃ y, zs[j]? = some y := ⟨_, List.getElem?_eq_getElem (by rw [HN.out]; exact hlt)⟩
      have q := HC.out j y hy
      have HY : Hid (zs[j]? = some y) := hy
      clear hy
      by_cases hxy : y = x
      · have HT : Hid (r = true) := by
          show _ = _
          rw [← HR.out]
          exact decide_eq_true (hxy ▸ List.mem_of_getElem? HY.out)
        have h' : (y == x) = true := by simpa using hxy
        clear hxy
        go_wp2
        go_ret
        exact ⟨by rw [HT.out]; rfl, rfl⟩
      · have h' : (y == x) = false := by simpa using hxy
        have HN1 : Hid (∀ (a : Nat) z, a < j + 1 → zs[a]? = some z → z ≠ x) := fun a z ha hz => by
          by_cases e : a = j
          · subst e; rw [HY.out] at hz; cases hz; exact hxy
          · exact HJ.out a z (by omega) hz
        clear hxy
        go_wp2
        go_roundw
        case rel => exact ⟨j + 1, by omega, by go_num, HN1, trivial⟩
        case measure => simp [intOf]; omega
    · have HF : Hid (r = false) := by
        show _ = _
        rw [← HR.out]
        refine decide_eq_false fun hm => ?_
        obtain ⟨a, ha⟩ := List.getElem?_of_mem hm
        exact HJ.out a x (by have := (List.getElem?_eq_some_iff.1 ha).1; rw [HN.out] at this; omega) ha rfl
      go_wp2
      go_ret
      exact ⟨by rw [HF.out]; rfl, rfl⟩
theorem has_any (u : Value) (zs : List Int) (B : Nat) (x : Int) (w : World) (h : IOwns w B u zs) (hn : zs.length ≤ 1000) (hne : zs ≠ []) : Calls Try.prog 26 #[u, .int .i64 x] w fun e w' => e = .returned (.bool (decide (x ∈ zs))) ∧ w = w' := by
  rcases h.at_ with ⟨rfl, e⟩ | ⟨g, cap, rfl, hc⟩
  · exact absurd e hne
  · exact has_some g zs.length cap zs x w hc rfl hn

end Go.Proofs.Ytlaelkcmeaiajaa
