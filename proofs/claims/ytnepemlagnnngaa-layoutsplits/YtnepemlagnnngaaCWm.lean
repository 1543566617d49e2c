/-
  Layouts: a list of nodes that is being made: one of them changed, one more.
  Layouts: the document's without.
  Layouts: the document's without, of every tree.
-/
import Derived.Test.YtnepemlagnnngaaCFq
import Derived.Test.YtnepemlagnnngaaCFj
import Derived.Test.YtnepemlagnnngaaCFs
namespace Go.Proofs.Ytnepemlagnnngaa
open Go.RowKit
set_option linter.unusedVariables false
set_option maxRecDepth 100000

/-- A list of nodes that is being made; the blocks that its nodes reach are such ones. -/
def KidsA (w : World) (B : Nat) (A : Nat → Prop) (v : Value) (ns : List Node) : Prop := ∃ fs, KidsF w B v ns fs ∧ ∀ y ∈ fs, A y
theorem KidsA.nil (w : World) (B : Nat) (A : Nat → Prop) : KidsA w B A (.slice none 0 0) [] := ⟨[], KidsF.nil _ _, fun y hy => by cases hy⟩
theorem KidsA.below {w w' : World} {B : Nat} {A : Nat → Prop} {v : Value} {ns : List Node} (h : KidsA w B A v ns) (hb : Below w.heap.size w w') : KidsA w' B A v ns := by
  obtain ⟨fs, h1, h2⟩ := h
  exact ⟨fs, h1.below hb, h2⟩
theorem KidsA.sl {w : World} {B : Nat} {A : Nat → Prop} {v : Value} {ns : List Node} (h : KidsA w B A v ns) : ∃ a c, v = .slice a ns.length c := by
  obtain ⟨fs, ⟨cs, h1, _⟩, _⟩ := h
  exact own_sl5 h1
theorem KidsA.lt {w : World} {B : Nat} {A : Nat → Prop} {v : Value} {ns : List Node} (h : KidsA w B A v ns) : ∀ g, v.ownBlock = some g → B ≤ g ∧ g < w.heap.size := by
  obtain ⟨fs, h1, _⟩ := h
  exact h1.lt

/-- One node of the list: where it lies, and what stands when another is put in its place. -/
theorem KidsA.one {wr : World} {B g L cap : Nat} {A : Nat → Prop} {ns : List Node} (h : KidsA wr B A (.slice (some ⟨g, 0, none⟩) L cap) ns) (hA : ∀ y, wr.heap.size ≤ y → A y) (i : Nat) (n : Node) (hi : ns[i]? = some n) :
    ∃ sa sn sc f, n.In wr (.slice sa sn sc) f ∧ (∀ q ∈ f, q < wr.heap.size ∧ A q) ∧ KidIn wr g (i * 5) n (.slice sa sn sc) ∧ (∀ o, wr.frozen? ⟨g, o, none⟩ = false) ∧
      ∀ X n' sl' f', Below wr.heap.size wr X → n'.In X sl' f' → (∀ q ∈ f', q ∈ f ∨ wr.heap.size ≤ q) → KidsA (set5at X g (i * 5) n' sl') B A (.slice (some ⟨g, 0, none⟩) L cap) (ns.set i n') := by
  have hlt := (h.lt g (by simp [Value.ownBlock])).2
  obtain ⟨fs, ⟨cs, h1, h2, h3⟩, h4⟩ := h
  have hL : L = ns.length := by
    obtain ⟨a, c, e⟩ := own_sl5 h1
    cases e
    rfl
  subst hL
  have hgf : g ∉ fs := h3 g (by simp [Value.ownBlock])
  obtain ⟨sl, f, e1, e2, e3⟩ := nodesIn.one h2 i n hi
  have hil := (List.getElem?_eq_some_iff.1 hi).1
  obtain ⟨sl2, f2, g1, g2, g3⟩ := h2.get i n hi
  have hcell : ∀ o, o < 5 → wr.cell? ⟨g, i * 5 + o, none⟩ = (nodeL n sl2)[o]? := fun o ho => by
    rw [World.ownsRow.cellAt h1 (i * 5 + o) (by omega), g3 o ho]
  obtain ⟨ad, c, hsl⟩ := g1.sl
  subst hsl
  refine ⟨ad, _, c, f2, g1, fun y hy => ⟨g1.lt y hy, h4 y (g2 y hy)⟩, ⟨hcell 0 (by omega), hcell 1 (by omega), hcell 2 (by omega), hcell 3 (by omega), hcell 4 (by omega)⟩, fun o => World.ownsRow.frozenAt h1 o, fun X n' sl' f' hb hn hf => ?_⟩
  have hfg : ∀ q ∈ f', q ≠ g := fun q hq e => by
    rcases hf q hq with h8 | h8
    · exact hgf (e ▸ g2 q h8)
    · omega
  have hkeep : ∀ q ∈ fs, (set5at X g (i * 5) n' sl').heap[q]? = wr.heap[q]? := fun q hq => by
    have hqg : q ≠ g := fun e => hgf (e ▸ hq)
    rw [set5at_block _ _ _ _ _ q hqg]
    exact hb.block q (h2.lt q hq)
  obtain ⟨fp', k1, k2⟩ := e3 _ n' sl' f' hkeep (hn.keep fun q hq => set5at_block _ _ _ _ _ q (hfg q hq))
  refine ⟨fp', ⟨_, ?_, k1, fun g' hg' hin => ?_⟩, fun y hy => ?_⟩
  · rw [List.length_set]
    exact set5at_row (own_kept5 h1 fun q hq => hb.block q (own_lt5 h1 q hq)) (i * 5) n' sl'
  · have : g' = g := by simpa [Value.ownBlock, eq_comm] using hg'
    subst this
    rcases k2 g' hin with h6 | h6
    · exact hgf h6
    · exact hfg g' h6 rfl
  · rcases k2 y hy with h6 | h6
    · exact h4 y h6
    · rcases hf y h6 with h7 | h7
      · exact h4 y (g2 y h7)
      · exact hA y h7

theorem step_append_nodeX {ops : Array Oper} {o : Oper} {a : Act} {K : Act → World → Prop} {Q : Exit → Act → World → Prop} {E : Prop} (w : World) (hgd : o.guard = none) (s x : Operand)
    (ho : o.op = .call { callee := .builtin .append, args := #[s, x], argTypes := #[78, 78] })
    (B : Nat) (v : Value) (m : Nat) (cs : List Value) (n : Node) (sa : Option Addr) (sn sc : Nat) (hs : a.eval s = v) (hown : w.ownsRow B 80 5 v m cs) (hx : a.eval x = .slice (some ⟨w.heap.size, 0, none⟩) 1 1) (hlen : m ≤ 1000000) (hB : B ≤ w.heap.size)
    (h : ∀ v' w', (∀ cs, (w.alloc (.cells (nodeV n (.slice sa sn sc)) 80)).ownsRow B 80 5 v m cs → w'.ownsRow B 80 5 v' (m + 1) (cs ++ nodeL n (.slice sa sn sc))) → (w.alloc (.cells (nodeV n (.slice sa sn sc)) 80)).grownBy w' v.ownBlock → (v'.ownBlock = v.ownBlock ∨ ∃ g, v'.ownBlock = some g ∧ w.heap.size ≤ g) → (∃ ra rc, v' = .slice ra (m + 1) rc) → K (a.put o.dst v') w') : if Region.wanted o (yielded ops a.tmps) = true then Oper.wp Try.prog o a (w.alloc (.cells (nodeV n (.slice sa sn sc)) 80)) K Q else E := by
  have hw : Region.wanted o (yielded ops a.tmps) = true := by simp [Region.wanted, hgd]
  rw [if_pos hw]
  obtain ⟨i0, hi, hz0, hz1, hz2⟩ := info_partsL infoNode
  obtain ⟨v', w', hr, h2, h3, h4, h5⟩ := run_append_own_at (P := Try.prog) (w.alloc (.cells (nodeV n (.slice sa sn sc)) 80)) B 78 o.type 80 i0 _ 5 56 Try.underlying78 hi hz0 hz1 hz2 rfl (by decide) v m cs (World.ownsRow.alloc hown _) ⟨w.heap.size, 0, none⟩ 1 1 (nodeL n (.slice sa sn sc)) rfl
    (fun j u hu => by
      rw [show (⟨w.heap.size, 0, none⟩ : Addr).add j = ⟨w.heap.size, j, none⟩ by unfold Addr.add; split <;> simp_all, cell_newL, ← nodeL_get]
      exact hu)
    (fun u hu => by
      have hu' : u ∈ [Value.int .i64 n.k, .int .i64 n.w, .int .i64 n.h, .int .i64 n.i, .slice sa sn sc] := hu
      simp only [List.mem_cons, List.not_mem_nil, or_false] at hu'
      rcases hu' with rfl | rfl | rfl | rfl | rfl <;> rfl)
    (by unfold maxLen; omega) (by omega) (by have : (w.alloc (.cells (nodeV n (.slice sa sn sc)) 80)).heap.size = w.heap.size + 1 := by simp
                                             omega)
  unfold Oper.wp execOp
  simp only [ho, resolve, invoke, builtin, Sem.run_bind, Sem.run_pure, Result.andThen_ok, List.map_toArray, List.map_cons, List.map_nil, hs, hx, hr]
  refine h v' w' (fun cs' hcs' => ?_) h3 ?_ (own_sl5 h2)
  · have := own_same (World.ownsRow.alloc hown _) hcs'
    subst this
    exact h2
  · rcases h5 with h5 | h5
    · exact .inl h5
    · exact .inr ⟨_, h5, by simp⟩

/-- The list grows by one node. -/
theorem KidsA.snoc {w W w' : World} {B : Nat} {A : Nat → Prop} {v v' : Value} {ns : List Node} (h : KidsA w B A v ns) (hW : Below w.heap.size w W) {n : Node} {sl : Value} {f : List Nat} (hn : n.In w sl f) (hd : ∀ g, v.ownBlock = some g → g ∉ f) (hfA : ∀ y ∈ f, A y) (h1 : ∀ cs, W.ownsRow B 80 5 v ns.length cs → w'.ownsRow B 80 5 v' (ns.length + 1) (cs ++ nodeL n sl)) (h2 : W.grownBy w' v.ownBlock) (h3 : v'.ownBlock = v.ownBlock ∨ ∃ g, v'.ownBlock = some g ∧ w.heap.size ≤ g) (hB : B ≤ w.heap.size) : KidsA w' B A v' (ns ++ [n]) ∧ Below B w w' := by
  have hlt := h.lt
  obtain ⟨fs, k1, k2⟩ := h
  refine ⟨⟨fs ++ f, k1.grow hW (ms := [n]) ⟨sl, [], f, [], by simp, hn, ⟨rfl, rfl⟩, by simp⟩ hd h1 h2 h3, fun y hy => ?_⟩, ?_⟩
  · rcases List.mem_append.1 hy with h | h
    · exact k2 y h
    · exact hfA y h
  · exact ⟨h2.os.trans hW.os, h2.tape.trans hW.tape, h2.output.trans hW.output, Nat.le_trans hW.size h2.size, fun q hq => (h2.block q (by have := hW.size; omega) fun e => by have := (hlt q e.symm).1; omega).trans (hW.block q (by omega))⟩

end Go.Proofs.Ytnepemlagnnngaa

namespace Go.Proofs.Ytnepemlagnnngaa
open Go.RowKit
set_option linter.unusedVariables false
set_option maxRecDepth 100000

/-- The children so far, behind so many of those that were there: part a, a pane, has gone; from there on they are these. -/
def kidsTo (ts us : List Tree) (a i : Nat) : List Tree := if i ≤ a then ts.take i else us.take (i - 1)
/-- Parts one behind the other, each as it is or by its children. -/
def flats (k : Int) (rs : List Tree) : List Tree := rs.flatMap (flatT k)
theorem flats_take (k : Int) (rs : List Tree) (j : Nat) (r : Tree) (h : rs[j]? = some r) : flats k (rs.take (j + 1)) = flats k (rs.take j) ++ flatT k r := by
  unfold flats
  rw [List.take_add_one, h]
  simp
/-- Blocks that the answer of without may reach. -/
def OkB (fp : List Nat) (w : World) (y : Nat) : Prop := (y ∈ fp ∨ w.heap.size ≤ y) ∧ y ≠ w.heap.size + 1
theorem okB_new {fp : List Nat} {w : World} {n : Nat} (h : w.heap.size + 2 ≤ n) : ∀ y, n ≤ y → OkB fp w y := fun y hy => ⟨.inr (by omega), by omega⟩
/-- How far the second loop of without has come: m's block, its children, what was there. -/
def Made (k wd ht : Int) (A : Nat → Prop) (wl : World) (ns : List Node) (wx : World) : Prop := ∃ sa sn sc, wx.heap[wl.heap.size]? = some (.cells #[.int .i64 k, .int .i64 wd, .int .i64 ht, .int .i64 0, .slice sa sn sc] 80 (0, 0)) ∧ (∃ fs, KidsF wx (wl.heap.size + 1) (.slice sa sn sc) ns fs ∧ ∀ y ∈ fs, y ≠ wl.heap.size ∧ A y) ∧ Below wl.heap.size wl wx
/-- What the first loop of without meets. -/
structure WithK (q : Int) (k : Int) (ts us : List Tree) (a : Nat) : Prop where
  next : ∀ (i : Nat) t, ts[i]? = some t → i ≠ a → (a ≠ 0 ∨ 2 ≤ i) → kidsTo ts us a (i + 1) = kidsTo ts us a i ++ [t]
  other : ∀ (i : Nat) bl p, ts[i]? = some (.leaf bl p) → i ≠ a → p ≠ q
  here : ∀ t, ts[a]? = some t → ∃ bl x u, t = .leaf bl q ∧ Str x k (bl.ext k + 1) u ∧ (1 ≤ bl.ext k ∧ bl.ext k ≤ 1000) ∧ ((0 < a ∧ (kidsTo ts us a a)[a - 1]? = some x ∧ (kidsTo ts us a a).length = a ∧ kidsTo ts us a (a + 1) = (kidsTo ts us a a).set (a - 1) u) ∨ (a = 0 ∧ 2 ≤ ts.length ∧ ts[1]? = some x ∧ kidsTo ts us a 2 = [u]))

theorem with_keep (q k : Int) (ts : List Tree) (h : q ∉ idls ts) : WithK q k ts ts ts.length := by
  have hk : ∀ i, i ≤ ts.length → kidsTo ts ts ts.length i = ts.take i := fun i hi => if_pos hi
  refine ⟨fun i t hi _ _ => ?_, fun i bl p hi _ e => h (idls_at q ts i _ hi (by simp [Tree.idl, e])), fun t ht => ?_⟩
  · have hlt := (List.getElem?_eq_some_iff.1 hi).1
    rw [hk i (by omega), hk (i + 1) (by omega), List.take_add_one, hi]
    rfl
  · rw [List.getElem?_eq_none (Nat.le_refl _)] at ht
    cases ht

theorem set5at_belowB {B : Nat} {W0 W : World} (h : Below B W0 W) (g o : Nat) (hg : B ≤ g) (n : Node) (sl : Value) : Below B W0 (set5at W g o n sl) := by
  have hs : ∀ (X : World) (a : Addr) (v : Value), B ≤ a.block → Below B W0 X → Below B W0 (X.setCell a v) := fun X a v ha hX => ⟨hX.os, hX.tape, hX.output, by simpa using hX.size, fun q hq => (heap_setCell_other X a q v (by omega)).trans (hX.block q hq)⟩
  unfold set5at
  exact hs _ _ _ hg (hs _ _ _ hg (hs _ _ _ hg (hs _ _ _ hg (hs _ _ _ hg h))))

end Go.Proofs.Ytnepemlagnnngaa

namespace Go.Proofs.Ytnepemlagnnngaa
open Go.RowKit
set_option linter.unusedVariables false
set_option maxRecDepth 20000

theorem flat_sizes (k : Int) (t : Tree) : sizes (flatT k t) ≤ t.size := by
  cases t with
  | leaf b p => exact Nat.le_refl _
  | split b k' ts =>
    show sizes (if k' = k then ts else [.split b k' ts]) ≤ 1 + sizes ts
    split
    · omega
    · show 1 + sizes ts + 0 ≤ 1 + sizes ts
      omega
theorem flats_sizes (k : Int) : ∀ (rs : List Tree), sizes (flats k rs) ≤ sizes rs
  | [] => Nat.le_refl _
  | t :: rs => by
    show sizes (flatT k t ++ flats k rs) ≤ t.size + sizes rs
    rw [sizes_append]
    have := flat_sizes k t
    have := flats_sizes k rs
    omega
theorem flats_id (b : Box) (k : Int) : ∀ (ts : List Tree), soundAll ts b k = true → flats k ts = ts
  | [], _ => rfl
  | t :: ts, h => by
    unfold soundAll at h
    simp only [Bool.and_eq_true, decide_eq_true_eq, Bool.not_eq_true'] at h
    show flatT k t ++ flats k ts = t :: ts
    rw [flatT_no h.1.2.1, flats_id b k ts h.2]
    rfl
theorem flats_append (k : Int) (a b : List Tree) : flats k (a ++ b) = flats k a ++ flats k b := by
  unfold flats
  exact List.flatMap_append
theorem shut_size (q : Int) {t t' : Tree} (h : Shut q t t') : t.sound = true → t.kinds → t'.size ≤ t.size := by
  induction h with
  | keep t _ => exact fun _ _ => Nat.le_refl _
  | here b k ts a bl x u us hG _ =>
    intro hs hk
    have hO := gone_ok hs hk hG
    have h1 := hO.size
    show _ ≤ 1 + sizes ts
    match us, h1 with
    | [], _ => show 1 + 0 ≤ _; omega
    | [c], h1 =>
      change c.size + 0 + 1 = sizes ts at h1
      show c.size ≤ _
      omega
    | c :: d :: r, h1 =>
      show 1 + sizes (c :: d :: r) ≤ _
      omega
  | deep b k ts i s s' hi hsp hS hoth ih =>
    intro hs hk
    have hs0 := hs
    unfold Tree.sound at hs
    simp only [Bool.and_eq_true, decide_eq_true_eq] at hs
    have hsd := soundAll_at ts b k i s hi hs.2.1
    simp only [Bool.and_eq_true] at hsd
    have h1 := ih hsd.1 (kindsAll_at ts i s hi hk.2)
    have h2 := flat_sizes k s'
    have h3 : sizes ts = sizes (ts.take i) + (s.size + sizes (ts.drop (i + 1))) := by
      conv => lhs; rw [mid_eq hi]
      rw [sizes_append]
      rfl
    show 1 + sizes (ts.take i ++ (flatT k s' ++ ts.drop (i + 1))) ≤ 1 + sizes ts
    rw [sizes_append, sizes_append]
    omega

theorem with_keepO (q k : Int) (ts : List Tree) (h : ∀ (i : Nat) bl p, ts[i]? = some (.leaf bl p) → p ≠ q) : WithK q k ts ts ts.length := by
  have hk : ∀ i, i ≤ ts.length → kidsTo ts ts ts.length i = ts.take i := fun i hi => if_pos hi
  refine ⟨fun i t hi _ _ => ?_, fun i bl p hi _ => h i bl p hi, fun t ht => ?_⟩
  · have hlt := (List.getElem?_eq_some_iff.1 hi).1
    rw [hk i (by omega), hk (i + 1) (by omega), List.take_add_one, hi]
    rfl
  · rw [List.getElem?_eq_none (Nat.le_refl _)] at ht
    cases ht
theorem erase_get (ts : List Tree) (a i : Nat) : (ts.eraseIdx a)[i]? = if i < a then ts[i]? else ts[i + 1]? := List.getElem?_eraseIdx
theorem with_here {q k : Int} {ts us : List Tree} {a : Nat} {bl : Box} {x u : Tree} (hG : Gone k ts a bl q x u us) (h2 : 2 ≤ ts.length) (hq : q ∉ idls (ts.eraseIdx a)) (hb : 1 ≤ bl.ext k ∧ bl.ext k ≤ 1000) : WithK q k ts us a := by
  have hal := (List.getElem?_eq_some_iff.1 hG.leaf).1
  have hul : us.length + 1 = ts.length := by
    rw [hG.list, List.length_set, List.length_eraseIdx_of_lt hal]
    omega
  refine ⟨fun i t hi hia h0 => ?_, fun i bl' p hi hia e => hq ?_, fun t ht => ?_⟩
  · have hlt := (List.getElem?_eq_some_iff.1 hi).1
    unfold kidsTo
    by_cases hlt2 : i < a
    · rw [if_pos (by omega), if_pos (by omega), List.take_add_one, hi]
      rfl
    · rw [if_neg (by omega), if_neg (by omega), Nat.add_sub_cancel]
      have hu1 : us[i - 1]? = some t := by
        rw [hG.list, List.getElem?_set_ne (by omega), erase_get, if_neg (by omega), show i - 1 + 1 = i by omega]
        exact hi
      have := List.take_add_one (l := us) (i := i - 1)
      rw [show i - 1 + 1 = i by omega, hu1] at this
      exact this
  · have hin : ∃ j : Nat, (ts.eraseIdx a)[j]? = some (Tree.leaf bl' p) := by
      by_cases hlt2 : i < a
      · exact ⟨i, by rw [erase_get, if_pos hlt2]; exact hi⟩
      · exact ⟨i - 1, by rw [erase_get, if_neg (by omega), show i - 1 + 1 = i by omega]; exact hi⟩
    obtain ⟨j, hj⟩ := hin
    exact idls_at q _ j _ hj (by simp [Tree.idl, e])
  · rw [hG.leaf] at ht
    cases ht
    refine ⟨bl, x, u, rfl, hG.str, hb, ?_⟩
    have hka : kidsTo ts us a a = ts.take a := if_pos (Nat.le_refl _)
    rcases Nat.eq_zero_or_pos a with h0 | h0
    · right
      subst h0
      have hn := hG.near
      rw [erase_get, if_neg (by omega)] at hn
      refine ⟨rfl, h2, hn, ?_⟩
      unfold kidsTo
      rw [if_neg (by omega), hG.list]
      obtain ⟨c, r, hc⟩ : ∃ c r, ts.eraseIdx 0 = c :: r := by
        cases he : ts.eraseIdx 0 with
        | nil =>
          have := List.length_eraseIdx_of_lt hal
          rw [he] at this
          simp at this
          omega
        | cons c r => exact ⟨c, r, rfl⟩
      rw [hc]
      rfl
    · left
      have hn := hG.near
      rw [erase_get, if_pos (by omega)] at hn
      refine ⟨h0, ?_, ?_, ?_⟩
      · rw [hka, List.getElem?_take_of_lt (by omega)]
        exact hn
      · rw [hka, List.length_take]
        omega
      · unfold kidsTo
        rw [if_neg (by omega), if_pos (Nat.le_refl _), Nat.add_sub_cancel, hG.list, List.take_set]
        congr 1
        rw [List.eraseIdx_eq_take_drop_succ, List.take_left' (by rw [List.length_take]; omega)]

theorem nodeOf_k1 (t : Tree) (hk : t.kinds) : ((∃ bl p, t = .leaf bl p) ∧ (nodeOf t).k = 1) ∨ ((∃ b k ts, t = .split b k ts) ∧ (nodeOf t).k ≠ 1) := by
  cases t with
  | leaf bl p => exact .inl ⟨⟨bl, p, rfl⟩, rfl⟩
  | split b k ts =>
    refine .inr ⟨⟨b, k, ts, rfl⟩, ?_⟩
    show k ≠ 1
    have := hk.1
    omega

end Go.Proofs.Ytnepemlagnnngaa
