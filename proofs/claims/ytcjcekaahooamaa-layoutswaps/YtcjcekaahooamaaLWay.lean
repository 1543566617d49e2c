/-
  Layouts: way, of every tree.
-/
import Derived.Test.YtcjcekaahooamaaLNextW
namespace Go.Proofs.Ytcjcekaahooamaa
open Go.RowKit
set_option linter.unusedVariables false
set_option maxRecDepth 100000

mutual
/-- Where a pane stands: which part of the root, which part of that .. -/
def Tree.path : Tree → Int → Option (List Nat)
  | .leaf _ p, q => if p = q then some [] else none
  | .split _ _ ts, q => pathAll ts q 0
def pathAll : List Tree → Int → Nat → Option (List Nat)
  | [], _, _ => none
  | t :: ts, q, i => match t.path q with
    | some ps => some (i :: ps)
    | none => pathAll ts q (i + 1)
end
theorem pathAll_at (q : Int) : ∀ (ts : List Tree) (i k : Nat) (t : Tree) (ps : List Nat), ts[i]? = some t → t.path q = some ps → (∀ (a : Nat) u, a < i → ts[a]? = some u → u.path q = none) → pathAll ts q k = some ((k + i) :: ps)
  | [], i, k, t, ps, hi, ht, hl => by simp at hi
  | a :: ts, 0, k, t, ps, hi, ht, hl => by
    simp at hi
    subst hi
    unfold pathAll
    rw [ht]
    rfl
  | a :: ts, i + 1, k, t, ps, hi, ht, hl => by
    unfold pathAll
    rw [hl 0 a (by omega) rfl]
    show pathAll ts q (k + 1) = _
    rw [pathAll_at q ts i (k + 1) t ps (by simpa using hi) ht (fun b u hb hu => hl (b + 1) u (by omega) (by simpa using hu))]
    rw [show k + 1 + i = k + (i + 1) by omega]
theorem pathAll_none (q : Int) : ∀ (ts : List Tree) (k : Nat), (∀ (a : Nat) u, ts[a]? = some u → u.path q = none) → pathAll ts q k = none
  | [], k, h => by unfold pathAll; rfl
  | t :: ts, k, h => by
    unfold pathAll
    rw [h 0 t rfl]
    exact pathAll_none q ts (k + 1) fun a u hu => h (a + 1) u (by simpa using hu)
mutual
theorem path_len : ∀ (t : Tree) (q : Int) (ps : List Nat), t.path q = some ps → ps.length ≤ t.size
  | .leaf b p, q, ps, h => by
    unfold Tree.path at h
    split at h
    · cases h; exact Nat.zero_le _
    · cases h
  | .split b k ts, q, ps, h => by
    unfold Tree.path at h
    have := pathAll_len ts q 0 ps h
    show ps.length ≤ 1 + sizes ts
    omega
theorem pathAll_len : ∀ (ts : List Tree) (q : Int) (i : Nat) (ps : List Nat), pathAll ts q i = some ps → ps.length ≤ 1 + sizes ts
  | [], q, i, ps, h => by unfold pathAll at h; cases h
  | t :: ts, q, i, ps, h => by
    unfold pathAll at h
    show ps.length ≤ 1 + (t.size + sizes ts)
    cases hp : t.path q with
    | some ps' =>
      rw [hp] at h
      cases h
      have := path_len t q ps' hp
      rw [List.length_cons]
      omega
    | none =>
      rw [hp] at h
      have := pathAll_len ts q (i + 1) ps h
      omega
end

/-- From one value to another, part by part; the splits passed, the nearest first. -/
def Reach (W : World) : Value → List Nat → Value → List (Nat × Nat) → Prop
  | v, [], v', st => v' = v ∧ st = []
  | v, i :: ps, v', st => ∃ g pg n cap vi st', v = splitI g ∧ W.cell? ⟨g, 5, none⟩ = some (.slice (some ⟨pg, 0, none⟩) n cap) ∧ i < n ∧ W.cell? ⟨pg, i, none⟩ = some vi ∧ Reach W vi ps v' st' ∧ st = st' ++ [(g, i)]
theorem Reach.len {W : World} : ∀ {ps : List Nat} {v v' : Value} {st : List (Nat × Nat)}, Reach W v ps v' st → st.length = ps.length
  | [], v, v', st, h => by rw [h.2]; rfl
  | i :: ps, v, v', st, h => by
    obtain ⟨g, pg, n, cap, vi, st', _, _, _, _, h5, rfl⟩ := h
    rw [List.length_append, Reach.len h5]
    rfl
def stepL (st : List (Nat × Nat)) : List Value := st.flatMap fun s => [.pointer (some ⟨s.1, 0, none⟩), .int .i64 s.2]
def Steps (w : World) (B : Nat) (v : Value) (st : List (Nat × Nat)) : Prop := w.ownsRow B 87 2 v st.length (stepL st)
theorem Steps.base {w : World} {B B' : Nat} {v : Value} {st : List (Nat × Nat)} (h : Steps w B v st) (hb : B' ≤ B) : Steps w B' v st := by
  refine ⟨h.1, ?_⟩
  rcases h.2 with h0 | ⟨g, cap, cur, rfl, hg, r⟩
  · exact .inl h0
  · exact .inr ⟨g, cap, cur, rfl, Nat.le_trans hb hg, r⟩
theorem Steps.grown {w w' : World} {B : Nat} {v : Value} {st : List (Nat × Nat)} {o : Obj} (hg : (w.alloc o).grownBy w' v.ownBlock) (hv : Steps w B v st) (W : World) (hb : Below B W w) (hB : B ≤ w.heap.size) : Below B W w' := by
  have hlt := World.ownsRow.lt hv
  have h1 : Below B W (w.alloc o) := hb.alloc hB o
  refine ⟨hg.os.trans h1.os, hg.tape.trans h1.tape, hg.output.trans h1.output, Nat.le_trans h1.size hg.size, fun k hk => ?_⟩
  refine (hg.block k ?_ ?_).trans (h1.block k hk)
  · have : (w.alloc o).heap.size = w.heap.size + 1 := by simp
    omega
  · intro e
    have := (hlt k e.symm).1
    omega
theorem infoStep : (Try.prog.info? 87).map (fun i => (i.zero, i.size, i.bytes)) = some (some (.agg #[.pointer none, .int .i64 0]), 2, 16) := by kernel_rfl
theorem wpList_append_step {ops : Array Oper} {rest : List Oper} {o : Oper} {a : Act} {Q : Exit → Act → World → Prop} (w : World) (hgd : o.guard = none) (s x : Operand)
    (ho : o.op = .call { callee := .builtin .append, args := #[s, x], argTypes := #[37, 37] })
    (B : Nat) (v : Value) (st : List (Nat × Nat)) (g i : Nat) (hs : a.eval s = v) (hown : Steps w B v st) (hx : a.eval x = .slice (some ⟨w.heap.size, 0, none⟩) 1 1) (hlen : st.length ≤ 1000000) (hB : B ≤ w.heap.size)
    (h : ∀ v' w', Steps w' B v' (st ++ [(g, i)]) → (w.alloc (.cells #[.pointer (some ⟨g, 0, none⟩), .int .i64 i] 87)).grownBy w' v.ownBlock → wpList Try.prog ops Q rest (a.put o.dst v') w') : wpList Try.prog ops Q (o :: rest) a (w.alloc (.cells #[.pointer (some ⟨g, 0, none⟩), .int .i64 i] 87)) := by
  obtain ⟨i0, hi, hz0, hz1, hz2⟩ := info_partsL infoStep
  refine wpList_append_own_at _ hgd s x 37 ho B 87 i0 _ 2 16 Try.underlying37 hi hz0 hz1 hz2 rfl (by decide) v st.length (stepL st) hs (World.ownsRow.alloc hown _) ⟨w.heap.size, 0, none⟩ 1 1 [.pointer (some ⟨g, 0, none⟩), .int .i64 i] hx rfl ?_ ?_ ?_ ?_ ?_ ?_
  · intro j u hu
    rw [show (⟨w.heap.size, 0, none⟩ : Addr).add j = ⟨w.heap.size, j, none⟩ by unfold Addr.add; split <;> simp_all, cell_newL]
    simpa using hu
  · intro u hu
    simp only [List.mem_cons, List.not_mem_nil, or_false] at hu
    rcases hu with rfl | rfl <;> rfl
  · unfold maxLen; omega
  · omega
  · have : (w.alloc (.cells #[.pointer (some ⟨g, 0, none⟩), .int .i64 i] 87)).heap.size = w.heap.size + 1 := by simp
    omega
  · intro v' w' h2 h3 _ _
    refine h v' w' ?_ h3
    unfold Steps stepL
    rw [List.flatMap_append, List.length_append]
    simpa [stepL] using h2

/-- What way answers. -/
def WayGood (w : World) (v : Value) (t : Tree) (pane : Int) (X : World) (e : Ending) (w' : World) : Prop :=
  Below X.heap.size X w' ∧ ((t.path pane = none ∧ e = .returned (.tuple #[.slice none 0 0, .pointer none])) ∨ ∃ ps gl st sa sn sc, t.path pane = some ps ∧ Reach w v ps (leafI gl) st ∧ e = .returned (.tuple #[.slice sa sn sc, .pointer (some ⟨gl, 0, none⟩)]) ∧ Steps w' X.heap.size (.slice sa sn sc) st)
theorem s_way (g : Nat) (W : World) : (method 241 73 (.pointer (some ⟨g, 0, none⟩)) "mullion/layout.way").run Try.prog W = .ok (104, .pointer (some ⟨g, 0, none⟩)) W := by kernel_rfl
theorem s_fW (a c : Value) (W : World) : (callFunc 104 #[a, c]).run Try.prog W = .ok (.enter 104 #[a, c]) W := by kernel_rfl
/-- What way wants of a part. -/
structure PartW (w : World) (v : Value) (t : Tree) (T : TypeId) (gi : Nat) (Fw : FuncId) : Prop where
  val : v = .iface T (.pointer (some ⟨gi, 0, none⟩))
  mW : ∀ W, (method 241 T (.pointer (some ⟨gi, 0, none⟩)) "mullion/layout.way").run Try.prog W = .ok (Fw, .pointer (some ⟨gi, 0, none⟩)) W
  fW : ∀ a c W, (callFunc Fw #[a, c]).run Try.prog W = .ok (.enter Fw #[a, c]) W
  cW : ∀ pane X, Below w.heap.size w X → Calls Try.prog Fw #[.pointer (some ⟨gi, 0, none⟩), .int .i64 pane] X (WayGood w v t pane X)
def WaysIn (w : World) (vs : List Value) (ts : List Tree) : Prop := ∀ (i : Nat) (t : Tree), ts[i]? = some t → ∃ v T gi Fw, vs[i]? = some v ∧ PartW w v t T gi Fw

theorem leaf_ways (g : Nat) (b : Box) (p pane : Int) (w X : World) (h : LeafAt X g b p) : Calls Try.prog 95 #[.pointer (some ⟨g, 0, none⟩), .int .i64 pane] X (WayGood w (leafI g) (.leaf b p) pane X) := by
  have q4 : X.cell? ⟨g, 4, none⟩ = some (.int .i64 p) := cell_atL h 4
  clear h
  by_cases hp : p = pane
  · subst hp
    go_enter Try.func95, Try.ntmps95
    go_wp2
    go_ret2
    refine ⟨Below.refl _ _, .inr ⟨[], g, [], none, 0, 0, ?_, ⟨rfl, rfl⟩, rfl, rfl, .inl ⟨rfl, rfl⟩⟩⟩
    unfold Tree.path
    rw [if_pos rfl]
  · have hne : (p != pane) = true := by simpa using hp
    have HP : Hid (¬ p = pane) := hp
    clear hp
    go_enter Try.func95, Try.ntmps95
    go_wp2
    go_ret2
    refine ⟨Below.refl _ _, .inl ⟨?_, rfl⟩⟩
    unfold Tree.path
    rw [if_neg HP.out]

set_option maxHeartbeats 1000000 in
theorem split_ways (g : Nat) (b : Box) (k : Int) (pg n cap : Nat) (vs : List Value) (ts : List Tree) (pane : Int) (w X : World) (hX : Below w.heap.size w X) (hS : SplitAt w g b k (.slice (some ⟨pg, 0, none⟩) n cap)) (hn : ts.length = n) (hR : ∀ (i : Nat) u, vs[i]? = some u → w.cell? ⟨pg, i, none⟩ = some u) (hT : WaysIn w vs ts) (hz : sizes ts ≤ 1000) : Calls Try.prog 104 #[.pointer (some ⟨g, 0, none⟩), .int .i64 pane] X (WayGood w (splitI g) (.split b k ts) pane X) := by
  have p5 : w.cell? ⟨g, 5, none⟩ = some (.slice (some ⟨pg, 0, none⟩) n cap) := cell_atL hS 5
  have q5 : X.cell? ⟨g, 5, none⟩ = some (.slice (some ⟨pg, 0, none⟩) n cap) := (hX.cell (p := ⟨g, 5, none⟩) (World.block_lt_of_cell? w _ p5)).trans p5
  have HR : Hid (∀ (i : Nat) u, vs[i]? = some u → w.cell? ⟨pg, i, none⟩ = some u) := hR
  have HT : Hid (WaysIn w vs ts) := hT
  have HN : Hid (ts.length = n) := hn
  have HZ : Hid (sizes ts ≤ 1000) := hz
  have hn1 : n ≤ 1000 := by have := length_sizes ts; omega
  have HX : Hid (Below w.heap.size w X) := hX
  have HP5 : Hid (w.cell? ⟨g, 5, none⟩ = some (.slice (some ⟨pg, 0, none⟩) n cap)) := p5
  clear hS hn hR hT hz hX p5
  go_enter Try.func104, Try.ntmps104
  go_wp2
  go_loopw [15] (fun v wr => ∃ i : Nat, i ≤ n ∧ v = .int .i64 i ∧ Hid (∀ (a : Nat) u, a < i → ts[a]? = some u → u.path pane = none) ∧ Hid (Below X.heap.size X wr)) (fun v _ => n - (intOf v).toNat)
  case atStart => exact ⟨0, Nat.zero_le _, rfl, fun a u ha => by omega, Below.refl _ _⟩
  case round =>
    obtain ⟨i, hi, rfl, HJ, HB⟩ := hrel
    clear q5
    by_cases hlt : i < n
    · obtain ⟨t, ht⟩ : ∃ t, ts[i]? = some t := ⟨_, List.getElem?_eq_getElem (by rw [HN.out]; exact hlt)⟩
      obtain ⟨pv, T, gi, Fw, hpv, HP⟩ := HT.out i t ht
      have ri0 := HR.out i _ hpv
      have HBw : Hid (Below w.heap.size w wr) := below_step HX.out HB.out
      have ri : wr.cell? ⟨pg, i, none⟩ = some pv := (HBw.out.cell (p := ⟨pg, i, none⟩) (World.block_lt_of_cell? w _ ri0)).trans ri0
      have hval := HP.val
      subst hval
      have HRi : Hid (w.cell? ⟨pg, i, none⟩ = some (.iface T (.pointer (some ⟨gi, 0, none⟩)))) := ri0
      have m1 := HP.mW
      have m2 := HP.fW
      have HcW : Hid (Calls Try.prog Fw #[.pointer (some ⟨gi, 0, none⟩), .int .i64 pane] wr (WayGood w (.iface T (.pointer (some ⟨gi, 0, none⟩))) t pane wr)) := HP.cW pane wr HBw.out
      have HTi : Hid (ts[i]? = some t) := ht
      clear HP hpv ht ri0
      go_wp2_with fail
      refine HcW.out.mono ?_
      rintro e w1 ⟨hb1, ⟨hp, rfl⟩ | ⟨ps, gl, st, sa, sn, sc, hp, hre, rfl, hst⟩⟩
      · have HB1 : Hid (Below X.heap.size X w1) := below_step HB.out hb1
        have HN1 : Hid (∀ (a : Nat) u, a < i + 1 → ts[a]? = some u → u.path pane = none) := fun a u ha hu => by
          by_cases e : a = i
          · subst e; rw [HTi.out] at hu; cases hu; exact hp
          · exact HJ.out a u (by omega) hu
        clear hp hb1
        go_wp2
        go_roundw
        case rel => exact ⟨i + 1, by omega, by go_num, HN1, HB1⟩
        case measure => simp [intOf]; omega
      · have HB1 : Hid (Below X.heap.size X w1) := below_step HB.out hb1
        have HSt : Hid (Steps w1 X.heap.size (.slice sa sn sc) st) := hst.base HB.out.size
        have HPa : Hid ((Tree.split b k ts).path pane = some (i :: ps)) := by
          show _ = _
          unfold Tree.path
          rw [pathAll_at pane ts i 0 t ps HTi.out hp HJ.out, Nat.zero_add]
        have HRe : Hid (Reach w (splitI g) (i :: ps) (leafI gl) (st ++ [(g, i)])) := ⟨g, pg, n, cap, _, st, rfl, HP5.out, hlt, HRi.out, hre, rfl⟩
        have HLe : Hid (st.length ≤ 1000000) := by
          have h1 := hre.len
          have h2 := path_len t pane ps hp
          have h3 := sizes_take ts i t HTi.out
          have h4 := HZ.out
          show _ ≤ _
          omega
        have HSz : Hid (X.heap.size ≤ w1.heap.size) := HB1.out.size
        clear hp hre hst hb1 HcW
        go_wp2_with (at_builtin; refine wpList_append_step w1 rfl (.tmp 28) (.tmp 32) rfl X.heap.size (.slice sa sn sc) st g i (by simp [Act.eval]) HSt.out (by simp [Act.eval]) HLe.out HSz.out ?_; intro v' w2 a1 a2; have hsl := own_sl5 a1; have HS2 : Hid (Steps w2 X.heap.size v' (st ++ [(g, i)])) := a1; have HB2 : Hid (Below X.heap.size X w2) := HSt.out.grown a2 X HB1.out HSz.out; clear a1 a2; obtain ⟨sb, sd, hsl'⟩ := hsl; subst hsl')
        go_ret2
        exact ⟨HB2.out, .inr ⟨i :: ps, gl, _, _, _, _, HPa.out, HRe.out, rfl, by have := HS2.out; rwa [List.length_append] at this⟩⟩
    · have HE : Hid ((Tree.split b k ts).path pane = none) := by
        show _ = _
        unfold Tree.path
        exact pathAll_none pane ts 0 fun a u hu => HJ.out a u (by have := (List.getElem?_eq_some_iff.1 hu).1; rw [HN.out] at this; omega) hu
      go_wp2
      go_ret2
      exact ⟨HB.out, .inl ⟨HE.out, rfl⟩⟩

mutual
theorem Tree.At.partW : ∀ {t : Tree} {w : World} {B : Nat} {v : Value} {fp : List Nat}, t.At w B v fp → t.sound = true → t.size ≤ 1000 → ∃ T gi Fw, PartW w v t T gi Fw
  | .leaf b p, w, B, v, fp, h, hs, hz => by
    obtain ⟨g, rfl, h2, rfl⟩ := h
    exact ⟨_, g, _, { val := rfl, mW := l_way g, fW := l_fW, cW := fun pane X hX => leaf_ways g b p pane w X (h2.below hX) }⟩
  | .split b k ts, w, B, v, fp, h, hs, hz => by
    obtain ⟨g, sl, vs, fs, rfl, h2, h3, h4, rfl⟩ := h
    have hvl := h4.length
    have hs' := hs
    unfold Tree.sound at hs'
    simp only [Bool.and_eq_true, decide_eq_true_eq] at hs'
    unfold Tree.size at hz
    obtain ⟨pg, cap, hsl, hseen⟩ := seen_of h2 h3 (by intro e; rw [e] at hvl; have := hs'.1.1; simp at hvl; omega)
    subst hsl
    refine ⟨_, g, _, { val := rfl, mW := s_way g, fW := s_fW, cW := fun pane X hX => ?_ }⟩
    exact split_ways g b k pg vs.length cap vs ts pane w X hX h2 hvl.symm (fun i u hu => hseen.row i u hu) (partsAt.ways h4 hs'.2.1 (by omega)) (by omega)
theorem partsAt.ways : ∀ {ts : List Tree} {w : World} {B : Nat} {vs : List Value} {fp : List Nat} {b : Box} {k : Int}, partsAt w B ts vs fp → soundAll ts b k = true → sizes ts ≤ 1000 → WaysIn w vs ts
  | [], w, B, vs, fp, b, k, h, hs, hz => by
    intro i t hi
    simp at hi
  | t :: ts, w, B, vs, fp, b, k, h, hs, hz => by
    obtain ⟨v, vs', f, f', rfl, h2, h3, rfl⟩ := h
    unfold soundAll at hs
    simp only [Bool.and_eq_true] at hs
    unfold sizes at hz
    have h4 := Tree.At.partW h2 hs.1.1 (by omega)
    have h5 := partsAt.ways h3 hs.2 (by omega)
    intro i t' hi
    cases i with
    | zero =>
      simp at hi
      subst hi
      obtain ⟨T, gi, Fw, hp⟩ := h4
      exact ⟨v, T, gi, Fw, rfl, hp⟩
    | succ i => exact h5 i t' (by simpa using hi)
end

end Go.Proofs.Ytcjcekaahooamaa
