/-
  Layouts: tell, of every tree.
  Layouts: tell, of every tree; lay.
  Layouts: the layout of one pane.
-/
import Derived.Test.YtlaelkcmeaiajaaCMv
import Derived.Deep.RegionLaw
namespace Go.Proofs.Ytlaelkcmeaiajaa
open Go.RowKit
set_option linter.unusedVariables false
set_option maxRecDepth 100000

/-- A list of cells of one's own. -/
def ceCells (l : List CellV) : List Value := l.flatMap fun c => c.vals.toList
theorem ceCells_length (l : List CellV) : (ceCells l).length = l.length * 7 := by
  induction l with
  | nil => rfl
  | cons c l ih =>
    show (c.vals.toList ++ ceCells l).length = _
    rw [List.length_append, ih, List.length_cons]
    show 7 + _ = _
    omega
def CeOwns (w : World) (B : Nat) (v : Value) (l : List CellV) : Prop := w.ownsRow B 35 7 v l.length (ceCells l)
theorem CeOwns.below {w w' : World} {B : Nat} {v : Value} {l : List CellV} (h : CeOwns w B v l) (hb : Below w.heap.size w w') : CeOwns w' B v l :=
  World.ownsRow.kept (row := none) h ⟨hb.os, hb.tape, hb.output, hb.size, fun k hk _ => hb.block k hk⟩ (by cases v.ownBlock <;> simp)
def zeroCell : CellV := ⟨0, 0, 0, 0, 0, 0, 0⟩
theorem infoCe : (Try.prog.info? 35).map (fun i => (i.zero, i.size, i.bytes)) = some (some (.agg zeroCell.vals), 7, 56) := by kernel_rfl
theorem info_partsL {P : Program} {e : TypeId} {z : Value} {n m : Nat} (h : (P.info? e).map (fun i => (i.zero, i.size, i.bytes)) = some (some z, n, m)) : ∃ i, P.info? e = some i ∧ i.zero = some z ∧ i.size = n ∧ i.bytes = m := by
  cases hi : P.info? e with
  | none => rw [hi] at h; cases h
  | some i =>
    rw [hi] at h
    simp only [Option.map_some, Option.some.injEq, Prod.mk.injEq] at h
    exact ⟨i, rfl, h.1, h.2.1, h.2.2⟩
theorem cell_newL (w : World) (cs : Array Value) (t : TypeId) (o : Nat) : (w.alloc (.cells cs t)).cell? ⟨w.heap.size, o, none⟩ = cs[o]? := by
  have hn := heap_alloc_new w (.cells cs t)
  unfold World.cell?
  rw [hn]
  rfl

theorem step_append_ce {ops : Array Oper} {o : Oper} {a : Act} {K : Act → World → Prop} {Q : Exit → Act → World → Prop} {E : Prop} (w : World) (hgd : o.guard = none) (s x : Operand)
    (ho : o.op = .call { callee := .builtin .append, args := #[s, x], argTypes := #[22, 22] })
    (B : Nat) (v : Value) (l : List CellV) (e : CellV) (hs : a.eval s = v) (hown : CeOwns w B v l) (hx : a.eval x = .slice (some ⟨w.heap.size, 0, none⟩) 1 1) (hlen : l.length ≤ 16777216) (hB : B ≤ w.heap.size)
    (h : ∀ v' w', CeOwns w' B v' (l ++ [e]) → (w.alloc (.cells e.vals 35)).grownBy w' v.ownBlock → K (a.put o.dst v') w') : if Region.wanted o (yielded ops a.tmps) = true then Oper.wp Try.prog o a (w.alloc (.cells e.vals 35)) K Q else E := by
  have hw : Region.wanted o (yielded ops a.tmps) = true := by simp [Region.wanted, hgd]
  rw [if_pos hw]
  obtain ⟨i0, hi, hz0, hz1, hz2⟩ := info_partsL infoCe
  have hown' : (w.alloc (.cells e.vals 35)).ownsRow B 35 7 v l.length (ceCells l) := World.ownsRow.alloc hown _
  refine wp_append_own _ s x 22 ho B 35 i0 (.agg zeroCell.vals) 7 56 Try.underlying22 hi hz0 hz1 hz2 rfl (by decide) v l.length (ceCells l) hs hown' ⟨w.heap.size, 0, none⟩ 1 1 e.vals.toList hx rfl ?_ ?_ ?_ ?_ ?_ ?_
  · intro j u hu
    rw [show (⟨w.heap.size, 0, none⟩ : Addr).add j = ⟨w.heap.size, j, none⟩ by unfold Addr.add; split <;> simp_all, cell_newL]
    simpa using hu
  · intro u hu
    have hu' : u ∈ [Value.int .i64 e.depth, .int .i64 e.kind, .int .i64 e.x, .int .i64 e.y, .int .i64 e.w, .int .i64 e.h, .int .i64 e.p] := hu
    simp only [List.mem_cons, List.not_mem_nil, or_false] at hu'
    rcases hu' with rfl | rfl | rfl | rfl | rfl | rfl | rfl <;> rfl
  · unfold maxLen; omega
  · omega
  · have : (w.alloc (.cells e.vals 35)).heap.size = w.heap.size + 1 := by simp
    omega
  · intro v' w' h2 h3 _
    refine h v' w' ?_ h3
    unfold CeOwns ceCells
    rw [List.flatMap_append, List.length_append]
    simpa [ceCells] using h2
theorem CeOwns.ofAlloc {B : Nat} {v : Value} {l : List CellV} {w w1 : World} (h : CeOwns w B v l) (hb : Below w.heap.size w w1) : CeOwns w1 B v l := h.below hb
theorem below_append {w w1 w' : World} {B : Nat} {v : Value} {l : List CellV} {o : Obj} (hv : CeOwns w B v l) (hB : B ≤ w.heap.size) (hb : Below w.heap.size w w1) (hg : (w1.alloc o).grownBy w' v.ownBlock) : Below B w w' := by
  have hlt := World.ownsRow.lt hv
  have h1 : Below B w (w1.alloc o) := (hb.mono hB).alloc (Nat.le_trans hB hb.size) o
  refine ⟨hg.os.trans h1.os, hg.tape.trans h1.tape, hg.output.trans h1.output, Nat.le_trans h1.size hg.size, fun k hk => (hg.block k (by have := h1.size; omega) ?_).trans (h1.block k hk)⟩
  intro e
  have := (hlt k e.symm).1
  omega

theorem leaf_tells (g : Nat) (b : Box) (p d : Int) (B : Nat) (v : Value) (l : List CellV) (w : World) (h : LeafAt w g b p) (hg : g < B) (hB : B ≤ w.heap.size) (hv : CeOwns w B v l) (hl : l.length ≤ 16777216) :
    Calls Try.prog 107 #[.pointer (some ⟨g, 0, none⟩), v, .int .i64 d] w fun e w' => ∃ v', e = .returned v' ∧ CeOwns w' B v' (l ++ (Tree.leaf b p).tell d) ∧ Below B w w' := by
  have q4 : w.cell? ⟨g, 4, none⟩ = some (.int .i64 p) := cell_atL h 4
  have HL : Hid (LeafAt w g b p) := h
  have HV : Hid (CeOwns w B v l) := hv
  have HC : Hid (∀ X, Below w.heap.size w X → Calls Try.prog 109 #[.pointer (some ⟨g, 0, none⟩), .int .i64 d, .int .i64 1, .int .i64 p] X fun e w' => e = .returned (.agg #[.int .i64 d, .int .i64 1, .int .i64 b.x, .int .i64 b.y, .int .i64 b.w, .int .i64 b.h, .int .i64 p]) ∧ Below w.heap.size w w') := fun X hX => (box_cell g b d 1 p X (h.box.below hX) (by have := hX.size; omega)).mono fun e w' h2 => ⟨h2.1, below_step hX h2.2⟩
  clear h hv
  go_enter Try.func107, Try.ntmps107
  go_wp2_with fail
  go_region_law (first
    | (refine step_append_ce w1 rfl (.tmp 7) (.tmp 17) rfl B v l ⟨d, 1, b.x, b.y, b.w, b.h, p⟩ (by simp [Act.eval]) HV1.out (by simp [Act.eval]) hl hB1 ?_; intro v2 w2 h2 h3; have H2 : Hid (CeOwns w2 B v2 (l ++ [⟨d, 1, b.x, b.y, b.w, b.h, p⟩])) := h2; have H3 : Hid (Below B w w2) := below_append HV.out hB HB1.out h3; clear h2 h3)
    | (go_simp; go_at_call 109; refine (HC.out _ (Below.refl _ _).drew).mono ?_; rintro e w1 ⟨rfl, hb1⟩; have HV1 : Hid (CeOwns w1 B v l) := HV.out.below hb1; have hB1 : B ≤ w1.heap.size := Nat.le_trans hB hb1.size; have HB1 : Hid (Below w.heap.size w w1) := hb1; clear hb1))
  go_wp2
  go_ret
  exact ⟨v2, rfl, H2.out, H3.out⟩

/-- What tell wants of a part. -/
structure PartT (w : World) (B : Nat) (v : Value) (t : Tree) (T : TypeId) (gi : Nat) (Ft : FuncId) : Prop where
  val : v = .iface T (.pointer (some ⟨gi, 0, none⟩))
  mT : ∀ W, (method 248 T (.pointer (some ⟨gi, 0, none⟩)) "mullion/layout.tell").run Try.prog W = .ok (Ft, .pointer (some ⟨gi, 0, none⟩)) W
  nT : ∀ W, (nilAhead 248 T (.pointer (some ⟨gi, 0, none⟩)) "mullion/layout.tell").run Try.prog W = .ok (some false) W
  fT : ∀ a c d W, (callFunc Ft #[a, c, d]).run Try.prog W = .ok (.enter Ft #[a, c, d]) W
  cT : ∀ X (u : Value) (l : List CellV) (d : Int), Below B w X → w.heap.size ≤ X.heap.size → CeOwns X B u l → (0 ≤ d ∧ d + t.size ≤ 1000) → l.length + t.size ≤ 1000000 → Calls Try.prog Ft #[.pointer (some ⟨gi, 0, none⟩), u, .int .i64 d] X fun e w' => ∃ u', e = .returned u' ∧ CeOwns w' B u' (l ++ t.tell d) ∧ Below B X w'
def Tells (w : World) (B : Nat) (vs : List Value) (ts : List Tree) : Prop := ∀ (i : Nat) (t : Tree), ts[i]? = some t → ∃ v T gi Ft, vs[i]? = some v ∧ PartT w B v t T gi Ft

theorem tellAll_take (ts : List Tree) (d : Int) : ∀ (i : Nat) (t : Tree), ts[i]? = some t → tellAll (ts.take (i + 1)) d = tellAll (ts.take i) d ++ t.tell d := by
  induction ts with
  | nil => intro i t h; simp at h
  | cons a ts ih =>
    intro i t h
    cases i with
    | zero =>
      simp at h
      subst h
      show a.tell d ++ [] = [] ++ a.tell d
      simp
    | succ i =>
      show a.tell d ++ tellAll (ts.take (i + 1)) d = (a.tell d ++ tellAll (ts.take i) d) ++ t.tell d
      rw [ih i t (by simpa using h), List.append_assoc]
mutual
theorem Tree.tell_length : ∀ (t : Tree) (d : Int), (t.tell d).length = t.size
  | .leaf _ _, _ => rfl
  | .split b k ts, d => by
    show (tellAll ts (d + 1)).length + 1 = 1 + sizes ts
    rw [tellAll_length ts]
    omega
theorem tellAll_length : ∀ (ts : List Tree) (d : Int), (tellAll ts d).length = sizes ts
  | [], _ => rfl
  | t :: ts, d => by
    show (t.tell d ++ tellAll ts d).length = t.size + sizes ts
    rw [List.length_append, Tree.tell_length t, tellAll_length ts]
end
theorem sizes_take (ts : List Tree) : ∀ (i : Nat) (t : Tree), ts[i]? = some t → sizes (ts.take i) + t.size ≤ sizes ts := by
  induction ts with
  | nil => intro i t h; simp at h
  | cons a ts ih =>
    intro i t h
    cases i with
    | zero =>
      simp at h
      subst h
      show 0 + a.size ≤ a.size + sizes ts
      omega
    | succ i =>
      have := ih i t (by simpa using h)
      show a.size + sizes (ts.take i) + t.size ≤ a.size + sizes ts
      omega

theorem Tree.size_pos (t : Tree) : 1 ≤ t.size := by
  cases t with
  | leaf _ _ => exact Nat.le_refl _
  | split _ _ ts => exact Nat.le_add_right _ _
theorem length_sizes : ∀ (ts : List Tree), ts.length ≤ sizes ts
  | [] => Nat.le_refl _
  | t :: ts => by
    have h1 := length_sizes ts
    have h2 := t.size_pos
    show ts.length + 1 ≤ t.size + sizes ts
    omega

set_option maxHeartbeats 1000000 in
theorem split_tells (g : Nat) (b : Box) (k : Int) (pg n cap : Nat) (vs : List Value) (ts : List Tree) (d : Int) (B : Nat) (v : Value) (l : List CellV) (w : World) (hS : SplitAt w g b k (.slice (some ⟨pg, 0, none⟩) n cap)) (hn : ts.length = n) (hR : ∀ (i : Nat) u, vs[i]? = some u → w.cell? ⟨pg, i, none⟩ = some u) (hT : Tells w B vs ts) (hg : g < B) (hpg : pg < B) (hB : B ≤ w.heap.size) (hv : CeOwns w B v l) (hd : 0 ≤ d ∧ d + (1 + sizes ts) ≤ 1000) (hl : l.length + (1 + sizes ts) ≤ 1000000) :
    Calls Try.prog 116 #[.pointer (some ⟨g, 0, none⟩), v, .int .i64 d] w fun e w' => ∃ v', e = .returned v' ∧ CeOwns w' B v' (l ++ (Tree.split b k ts).tell d) ∧ Below B w w' := by
  have q4 : w.cell? ⟨g, 4, none⟩ = some (.int .i64 k) := cell_atL hS 4
  have HL : Hid (SplitAt w g b k (.slice (some ⟨pg, 0, none⟩) n cap)) := hS
  have HV : Hid (CeOwns w B v l) := hv
  have hl2 : l.length ≤ 16777216 := by omega
  have HC : Hid (∀ X, Below w.heap.size w X → Calls Try.prog 109 #[.pointer (some ⟨g, 0, none⟩), .int .i64 d, .int .i64 k, .int .i64 0] X fun e w' => e = .returned (.agg #[.int .i64 d, .int .i64 k, .int .i64 b.x, .int .i64 b.y, .int .i64 b.w, .int .i64 b.h, .int .i64 0]) ∧ Below w.heap.size w w') := fun X hX => (box_cell g b d k 0 X (hS.box.below hX) (by have := hX.size; omega)).mono fun e w' h2 => ⟨h2.1, below_step hX h2.2⟩
  have HX5 : Hid (∀ X, Below B w X → X.cell? ⟨g, 5, none⟩ = some (.slice (some ⟨pg, 0, none⟩) n cap)) := fun X hX => (hX.cell (p := ⟨g, 5, none⟩) hg).trans (cell_atL hS 5)
  have HXr : Hid (∀ X, Below B w X → ∀ (i : Nat) u, vs[i]? = some u → X.cell? ⟨pg, i, none⟩ = some u) := fun X hX i u hu => (hX.cell (p := ⟨pg, i, none⟩) hpg).trans (hR i u hu)
  have HT : Hid (Tells w B vs ts) := hT
  have HN : Hid (ts.length = n) := hn
  have HD : Hid (0 ≤ d ∧ d + (1 + sizes ts) ≤ 1000) := hd
  have HLl : Hid (l.length + (1 + sizes ts) ≤ 1000000) := hl
  have hdw : IntKind.i64.wrap (d + 1) = d + 1 := by rw [IntKind.wrap_i64]; omega
  have hn1 : n ≤ 1000 := by have := length_sizes ts; omega
  clear hS hv hT hR hn hd hl
  go_enter Try.func116, Try.ntmps116
  go_wp2_with fail
  go_region_law (first
    | (refine step_append_ce w1 rfl (.tmp 9) (.tmp 19) rfl B v l ⟨d, k, b.x, b.y, b.w, b.h, 0⟩ (by simp [Act.eval]) HV1.out (by simp [Act.eval]) hl2 hB1 ?_; intro v2 w2 h2 h3; have H2 : Hid (CeOwns w2 B v2 (l ++ [⟨d, k, b.x, b.y, b.w, b.h, 0⟩])) := h2; have H3 : Hid (Below B w w2) := below_append HV.out hB HB1.out h3; clear h2 h3)
    | (go_simp; go_at_call 109; refine (HC.out _ (Below.refl _ _).drew).mono ?_; rintro e w1 ⟨rfl, hb1⟩; have HV1 : Hid (CeOwns w1 B v l) := HV.out.below hb1; have hB1 : B ≤ w1.heap.size := Nat.le_trans hB hb1.size; have HB1 : Hid (Below w.heap.size w w1) := hb1; clear hb1))
  have c5 := HX5.out w2 H3.out
  clear HV1 HB1 q4 hB1
  go_wp2_with fail
  go_loopw [1, 26] (fun u vi wr => ∃ i : Nat, i ≤ n ∧ vi = .int .i64 i ∧ Hid (CeOwns wr B u (l ++ (⟨d, k, b.x, b.y, b.w, b.h, 0⟩ :: tellAll (ts.take i) (d + 1)))) ∧ Hid (Below B w wr)) (fun _ v _ => n - (intOf v).toNat)
  case atStart => exact ⟨0, Nat.zero_le _, rfl, H2, H3⟩
  case round =>
    obtain ⟨i, hi, rfl, HO, HB⟩ := hrel
    clear c5 H2 H3
    have r5 := HX5.out _ HB.out
    by_cases hlt : i < n
    · obtain ⟨t, ht⟩ : ∃ t, ts[i]? = some t := ⟨_, List.getElem?_eq_getElem (by rw [HN.out]; exact hlt)⟩
      obtain ⟨pv, T, gi, Ft, hpv, HP⟩ := HT.out i t ht
      have ri := HXr.out _ HB.out i _ hpv
      have hval := HP.val
      subst hval
      have m1 := HP.mT
      have m2 := HP.nT
      have m3 := HP.fT
      have hsz := sizes_take ts i t ht
      have hcT := HP.cT _ _ _ (d + 1) HB.out HB.out.size HO.out (by have := HD.out; have := HLl.out; omega) (by rw [List.length_append, List.length_cons, tellAll_length]; have := HLl.out; omega)
      rw [List.append_assoc, List.cons_append, ← tellAll_take ts (d + 1) i t ht] at hcT
      have HcT : Hid (Calls Try.prog Ft _ _ _) := hcT
      clear hcT HP hpv ht hsz
      go_wp2_with fail
      refine HcT.out.mono ?_
      rintro e w3 ⟨u3, rfl, hO3, hb3⟩
      have HO3 : Hid (CeOwns w3 B u3 (l ++ (⟨d, k, b.x, b.y, b.w, b.h, 0⟩ :: tellAll (ts.take (i + 1)) (d + 1)))) := hO3
      have HB3 : Hid (Below B w w3) := HB.out.trans hb3
      clear hO3 hb3
      go_wp2
      go_roundw
      case rel => exact ⟨i + 1, by omega, by go_num, HO3, HB3⟩
      case measure => simp [intOf]; omega
    · have hin : i = n := by omega
      subst hin
      have HO' : Hid (CeOwns wr B u1 (l ++ (Tree.split b k ts).tell d)) := by
        have h := HO.out
        rw [List.take_of_length_le (by rw [HN.out]; exact Nat.le_refl _)] at h
        exact h
      clear HO
      go_wp2
      go_ret
      exact ⟨_, rfl, HO'.out, HB.out⟩

end Go.Proofs.Ytlaelkcmeaiajaa

namespace Go.Proofs.Ytlaelkcmeaiajaa
open Go.RowKit
set_option linter.unusedVariables false
set_option maxRecDepth 100000

theorem s_tell (g : Nat) (W : World) : (method 248 72 (.pointer (some ⟨g, 0, none⟩)) "mullion/layout.tell").run Try.prog W = .ok (116, .pointer (some ⟨g, 0, none⟩)) W := by kernel_rfl
theorem l_nT (g : Nat) (W : World) : (nilAhead 248 48 (.pointer (some ⟨g, 0, none⟩)) "mullion/layout.tell").run Try.prog W = .ok (some false) W := by kernel_rfl
theorem s_nT (g : Nat) (W : World) : (nilAhead 248 72 (.pointer (some ⟨g, 0, none⟩)) "mullion/layout.tell").run Try.prog W = .ok (some false) W := by kernel_rfl
theorem l_fT (a c d : Value) (W : World) : (callFunc 107 #[a, c, d]).run Try.prog W = .ok (.enter 107 #[a, c, d]) W := by kernel_rfl
theorem s_fT (a c d : Value) (W : World) : (callFunc 116 #[a, c, d]).run Try.prog W = .ok (.enter 116 #[a, c, d]) W := by kernel_rfl

mutual
/-- Every split has a part. -/
def Tree.full : Tree → Prop
  | .leaf _ _ => True
  | .split _ _ ts => ts ≠ [] ∧ fulls ts
def fulls : List Tree → Prop
  | [] => True
  | t :: ts => t.full ∧ fulls ts
end

mutual
theorem Tree.At.partT : ∀ {t : Tree} {w : World} {Bt B : Nat} {v : Value} {fp : List Nat}, t.At w Bt v fp → t.full → (∀ g ∈ fp, g < B) → B ≤ w.heap.size → ∃ T gi Ft, PartT w B v t T gi Ft
  | .leaf b p, w, Bt, B, v, fp, h, _, hfp, hB => by
    obtain ⟨g, rfl, h2, rfl⟩ := h
    have hg : g < B := hfp g (by simp)
    exact ⟨_, g, _, { val := rfl, mT := l_tell g, nT := l_nT g, fT := l_fT, cT := fun X u l d hX hsz hO hd hl => leaf_tells g b p d B u l X ((hX.block g hg).trans h2) hg (Nat.le_trans hB hsz) hO (by have := hl; omega) }⟩
  | .split b k ts, w, Bt, B, v, fp, h, hfu, hfp, hB => by
    obtain ⟨g, sl, vs, fs, rfl, h2, h3, h4, rfl⟩ := h
    have hg : g < B := hfp g (by simp)
    have hvl := h4.length
    obtain ⟨pg, cap, hsl, _⟩ := seen_of h2 h3 (by intro e; rw [e] at hvl; exact hfu.1 (List.length_eq_zero_iff.1 hvl.symm))
    subst hsl
    have hpg : pg < B := hfp pg (by simp [Value.ownBlock])
    refine ⟨_, g, _, { val := rfl, mT := s_tell g, nT := s_nT g, fT := s_fT, cT := fun X u l d hX hsz hO hd hl => ?_ }⟩
    have h2' : SplitAt X g b k _ := (hX.block g hg).trans h2
    have h3' : X.ownsRow Bt 45 1 _ vs.length vs := own_kept h3 fun q hq => hX.block q (hfp q (by simp [hq]))
    have h4' : partsAt X Bt ts vs fs := h4.keep fun q hq => hX.block q (hfp q (by simp [hq]))
    obtain ⟨pg', cap', e, hseen⟩ := seen_of h2' h3' (by intro e; rw [e] at hvl; exact hfu.1 (List.length_eq_zero_iff.1 hvl.symm))
    cases e
    exact split_tells g b k pg vs.length cap vs ts d B u l X h2' hvl.symm hseen.row (partsAt.tells h4' hfu.2 (fun q hq => hfp q (by simp [hq])) (Nat.le_trans hB hsz)) hg hpg (Nat.le_trans hB hsz) hO (by have := hd; unfold Tree.size at this; omega) (by have := hl; unfold Tree.size at this; omega)
theorem partsAt.tells : ∀ {ts : List Tree} {w : World} {Bt B : Nat} {vs : List Value} {fp : List Nat}, partsAt w Bt ts vs fp → fulls ts → (∀ g ∈ fp, g < B) → B ≤ w.heap.size → Tells w B vs ts
  | [], w, Bt, B, vs, fp, h, _, hfp, hB => by
    intro i t hi
    simp at hi
  | t :: ts, w, Bt, B, vs, fp, h, hfu, hfp, hB => by
    obtain ⟨v, vs', f, f', rfl, h2, h3, rfl⟩ := h
    have h4 := Tree.At.partT h2 hfu.1 (fun q hq => hfp q (List.mem_append_left _ hq)) hB
    have h5 := partsAt.tells h3 hfu.2 (fun q hq => hfp q (List.mem_append_right _ hq)) hB
    intro i t' hi
    cases i with
    | zero =>
      simp at hi
      subst hi
      obtain ⟨T, gi, Ft, hp⟩ := h4
      exact ⟨v, T, gi, Ft, rfl, hp⟩
    | succ i => exact h5 i t' (by simpa using hi)
end

mutual
theorem Tree.full_moved : ∀ (t : Tree) (x y : Int), t.full → (t.moved x y).full
  | .leaf _ _, _, _, _ => trivial
  | .split b k ts, x, y, h => by
    refine ⟨?_, fulls_moved ts k x y h.2⟩
    cases ts with
    | nil => exact absurd rfl h.1
    | cons a r => intro e; cases e
theorem fulls_moved : ∀ (ts : List Tree) (k x y : Int), fulls ts → fulls (movedAll ts k x y)
  | [], _, _, _, _ => trivial
  | t :: ts, k, x, y, h => by
    refine ⟨Tree.full_moved t x y h.1, ?_⟩
    split
    · exact fulls_moved ts k _ _ h.2
    · exact fulls_moved ts k _ _ h.2
end
mutual
theorem Tree.size_moved : ∀ (t : Tree) (x y : Int), (t.moved x y).size = t.size
  | .leaf _ _, _, _ => rfl
  | .split b k ts, x, y => by
    show 1 + sizes (movedAll ts k x y) = 1 + sizes ts
    rw [sizes_moved ts]
theorem sizes_moved : ∀ (ts : List Tree) (k x y : Int), sizes (movedAll ts k x y) = sizes ts
  | [], _, _, _ => rfl
  | t :: ts, k, x, y => by
    show (t.moved x y).size + sizes (if k = 2 then _ else _) = t.size + sizes ts
    rw [Tree.size_moved t]
    split
    · rw [sizes_moved ts]
    · rw [sizes_moved ts]
end
mutual
theorem Tree.sound_full : ∀ (t : Tree), t.sound = true → t.full
  | .leaf _ _, _ => trivial
  | .split b k ts, h => by
    unfold Tree.sound at h
    simp only [Bool.and_eq_true, decide_eq_true_eq] at h
    refine ⟨?_, soundAll_fulls ts b k h.2.1⟩
    intro e
    rw [e] at h
    simp at h
theorem soundAll_fulls : ∀ (ts : List Tree) (b : Box) (k : Int), soundAll ts b k = true → fulls ts
  | [], _, _, _ => trivial
  | t :: ts, b, k, h => by
    unfold soundAll at h
    simp only [Bool.and_eq_true] at h
    exact ⟨Tree.sound_full t h.1.1, soundAll_fulls ts b k h.2⟩
end

/-- Every part at its place, and the tree as a list. -/
theorem lay_any (t : Tree) (B : Nat) (v : Value) (fp : List Nat) (w : World) (h : t.At w B v fp) (hnd : fp.Nodup) (hs : t.sound = true) (hf : t.fine) (hz : t.size ≤ 900) :
    Calls Try.prog 23 #[v] w fun e w' => ∃ u, e = .returned u ∧ CeOwns w' w.heap.size u ((t.moved 0 0).tell 0) ∧ (t.moved 0 0).At w' B v fp ∧ But fp w w' := by
  have hsd := t.sound_sides hs
  have hfu := Tree.full_moved t 0 0 (t.sound_full hs)
  obtain ⟨T, gi, Fm, HP⟩ := t.moves hf B v fp w h hnd hs
  have HcM := HP.cM w 0 0 h (by omega) (by omega)
  have hlt := h.lt
  have HM : Hid (Calls Try.prog Fm #[.pointer (some ⟨gi, 0, none⟩), .int .i64 0, .int .i64 0] w fun e w' => e = .returned (.tuple #[]) ∧ But fp w w' ∧ ∃ Ft, (∀ W, (method 248 T (.pointer (some ⟨gi, 0, none⟩)) "mullion/layout.tell").run Try.prog W = .ok (Ft, .pointer (some ⟨gi, 0, none⟩)) W) ∧ (∀ a c d W, (callFunc Ft #[a, c, d]).run Try.prog W = .ok (.enter Ft #[a, c, d]) W) ∧
      Calls Try.prog Ft #[.pointer (some ⟨gi, 0, none⟩), .slice none 0 0, .int .i64 0] w' fun e w2 => ∃ u, e = .returned u ∧ CeOwns w2 w.heap.size u ((t.moved 0 0).tell 0) ∧ (t.moved 0 0).At w2 B v fp ∧ But fp w w2) := by
    refine HcM.mono fun e w' h1 => ⟨h1.1, h1.2.2, ?_⟩
    have hsz := h1.2.2.size
    obtain ⟨T', gi', Ft, HT⟩ := h1.2.1.partT (B := w.heap.size) hfu hlt hsz
    have e1 := HP.val
    rw [HT.val] at e1
    cases e1
    refine ⟨Ft, HT.mT, HT.fT, (HT.cT w' (.slice none 0 0) [] 0 (Below.refl _ _) (Nat.le_refl _) (World.ownsRow_nil _ _ _ _) (by rw [Tree.size_moved]; omega) (by rw [Tree.size_moved]; simp; omega)).mono fun e w2 h2 => ?_⟩
    obtain ⟨u, e2, e3, e4⟩ := h2
    refine ⟨u, e2, e3, h1.2.1.keep fun q hq => e4.block q (hlt q hq), ?_⟩
    have hb := h1.2.2
    exact ⟨e4.os.trans hb.os, e4.tape.trans hb.tape, e4.output.trans hb.output, Nat.le_trans hb.size e4.size, fun q hq hn => (e4.block q hq).trans (hb.block q hq hn)⟩
  have m1 := HP.mM
  have m2 := HP.fM
  have hval := HP.val
  subst hval
  clear HcM HP h hsd hfu hlt
  go_enter Try.func23, Try.ntmps23
  go_wp2_with fail
  refine HM.out.mono ?_
  rintro e w1 ⟨rfl, hb, Ft, m3, m4, hc⟩
  have HC : Hid (Calls Try.prog Ft #[.pointer (some ⟨gi, 0, none⟩), .slice none 0 0, .int .i64 0] w1 _) := hc
  clear hc hb
  go_wp2_with fail
  refine HC.out.mono ?_
  rintro e w2 ⟨u, rfl, hu⟩
  have HU : Hid _ := hu
  clear hu
  go_wp2
  go_ret
  exact ⟨u, rfl, HU.out⟩

end Go.Proofs.Ytlaelkcmeaiajaa

namespace Go.Proofs.Ytlaelkcmeaiajaa
open Go.RowKit
set_option linter.unusedVariables false
set_option maxRecDepth 100000

def newErr (x y p : Int) : Int := if (sideB x && sideB y) = false then 41 else if idB p = false then 43 else 0

theorem new_bad (x y p : Int) (w : World) (hb : ¬ newErr x y p = 0) :
    Calls Try.prog 19 #[.int .i64 x, .int .i64 y, .int .i64 p] w fun e w' => e = .returned (.tuple #[.slice none 0 0, .int .i64 (newErr x y p)]) ∧ w = w' := by
  have H1 : Hid (∀ n W, Calls Try.prog 31 #[.int .i64 n] W fun e w' => e = .returned (.bool (sideB n)) ∧ W = w') := isSide_any
  have H2 : Hid (∀ n W, Calls Try.prog 32 #[.int .i64 n] W fun e w' => e = .returned (.bool (idB n)) ∧ W = w') := isId_any
  unfold newErr at hb ⊢
  obtain ⟨a, ha⟩ : ∃ a, sideB x = a := ⟨_, rfl⟩
  obtain ⟨c, hc⟩ : ∃ c, sideB y = c := ⟨_, rfl⟩
  obtain ⟨d, hd⟩ : ∃ d, idB p = d := ⟨_, rfl⟩
  rw [ha, hc, hd] at hb ⊢
  cases a <;> cases c <;> cases d <;> simp only [Bool.and_true, Bool.and_false, Bool.true_eq_false, if_true, if_false, not_true_eq_false] at hb ⊢
  all_goals
    go_enter Try.func19, Try.ntmps19
    go_wp2_with (first | (go_at_call 31; refine (H1.out _ _).mono ?_; rintro e w1 ⟨rfl, rfl⟩) | (go_at_call 32; refine (H2.out _ _).mono ?_; rintro e w1 ⟨rfl, rfl⟩))
    all_goals go_ret2
    all_goals exact ⟨rfl, rfl⟩

theorem CeOwns.lower {w : World} {B B' : Nat} {v : Value} {l : List CellV} (h : CeOwns w B v l) (hB : B' ≤ B) : CeOwns w B' v l := by
  refine ⟨h.1, ?_⟩
  rcases h.2 with h0 | ⟨g, cap, cur, e, hb, r⟩
  · exact .inl h0
  · exact .inr ⟨g, cap, cur, e, Nat.le_trans hB hb, r⟩

theorem new_good (x y p : Int) (w : World) (hb : newErr x y p = 0) :
    Calls Try.prog 19 #[.int .i64 x, .int .i64 y, .int .i64 p] w fun e w' => ∃ u, e = .returned (.tuple #[u, .int .i64 0]) ∧ CeOwns w' w.heap.size u [⟨0, 1, 0, 0, x, y, p⟩] ∧ Below w.heap.size w w' := by
  have hab : (sideB x && sideB y) = true := by
    cases h : (sideB x && sideB y) with
    | true => rfl
    | false => unfold newErr at hb; rw [h] at hb; simp at hb
  have hd : idB p = true := by
    cases h : idB p with
    | true => rfl
    | false => unfold newErr at hb; rw [h, hab] at hb; simp at hb
  have ha : sideB x = true := (Bool.and_eq_true _ _ ▸ hab).1
  have hc : sideB y = true := (Bool.and_eq_true _ _ ▸ hab).2
  have H1 : Hid (∀ W, Calls Try.prog 31 #[.int .i64 x] W fun e w' => e = .returned (.bool true) ∧ W = w') := fun W => ha ▸ isSide_any x W
  have H3 : Hid (∀ W, Calls Try.prog 31 #[.int .i64 y] W fun e w' => e = .returned (.bool true) ∧ W = w') := fun W => hc ▸ isSide_any y W
  have H2 : Hid (∀ W, Calls Try.prog 32 #[.int .i64 p] W fun e w' => e = .returned (.bool true) ∧ W = w') := fun W => hd ▸ isId_any p W
  have HL : Hid (∀ X, w.heap.size ≤ X.heap.size → ∀ g, LeafAt X g ⟨0, 0, x, y⟩ p → Calls Try.prog 23 #[leafI g] X fun e w' => ∃ u, e = .returned u ∧ CeOwns w' X.heap.size u [⟨0, 1, 0, 0, x, y, p⟩] ∧ But [g] X w') := by
    intro X hX g hg
    refine (lay_any (.leaf ⟨0, 0, x, y⟩ p) 0 (leafI g) [g] X ⟨g, rfl, hg, rfl⟩ (by simp) (by unfold Tree.sound; rw [ha, hc, hd]; rfl) trivial (by show (1 : Nat) ≤ 900; omega)).mono fun e w' h => ?_
    obtain ⟨u, h1, h2, _, h4⟩ := h
    exact ⟨u, h1, h2, h4⟩
  clear hab ha hc hd hb
  go_enter Try.func19, Try.ntmps19
  go_wp2_with fail
  refine (H1.out _).mono ?_
  rintro e w1 ⟨rfl, rfl⟩
  go_wp2_with fail
  refine (H3.out _).mono ?_
  rintro e w1 ⟨rfl, rfl⟩
  go_wp2_with fail
  refine (H2.out _).mono ?_
  rintro e w1 ⟨rfl, rfl⟩
  go_wp2_with fail
  have hX : w.heap.size ≤ (w.alloc (.cells #[.int .i64 0, .int .i64 0, .int .i64 x, .int .i64 y, .int .i64 p] 54)).heap.size := by simp
  refine (HL.out _ hX w.heap.size (heap_alloc_new w _)).mono ?_
  rintro e w2 ⟨u, rfl, hu, hb⟩
  have HU : Hid (CeOwns w2 w.heap.size u [⟨0, 1, 0, 0, x, y, p⟩]) := hu.lower hX
  have HB : Hid (Below w.heap.size w w2) := by
    have h0 : Below w.heap.size w (w.alloc (.cells #[.int .i64 0, .int .i64 0, .int .i64 x, .int .i64 y, .int .i64 p] 54)) := (Below.refl _ w).alloc (Nat.le_refl _) _
    exact ⟨hb.os.trans h0.os, hb.tape.trans h0.tape, hb.output.trans h0.output, Nat.le_trans h0.size hb.size, fun q hq => (hb.block q (by omega) (by simp; omega)).trans (h0.block q hq)⟩
  clear hu hb hX
  go_wp2
  go_ret2
  exact ⟨u, rfl, HU.out, HB.out⟩

end Go.Proofs.Ytlaelkcmeaiajaa
