/-
  Layouts: a list of nodes that is being made: one of them changed, one more.
-/
import Derived.Test.YtjnmjoigmbpodaaCFq
import Derived.Test.YtjnmjoigmbpodaaCFj
import Derived.Test.YtjnmjoigmbpodaaCFs
namespace Go.Proofs.Ytjnmjoigmbpodaa
open Go.RowKit
set_option linter.unusedVariables false
set_option maxRecDepth 100000

/-- A list of nodes that is being made; the blocks that its nodes reach are such ones. -/
def KidsA (w : World) (B : Nat) (A : Nat → Prop) (v : Value) (ns : List Node) : Prop := ∃ fs, KidsF w B v ns fs ∧ ∀ y ∈ fs, A y
theorem KidsA.nil (w : World) (B : Nat) (A : Nat → Prop) : KidsA w B A (.slice none 0 0) [] := ⟨[], KidsF.nil _ _, fun y hy => by cases hy⟩
theorem KidsA.below {w w' : World} {B : Nat} {A : Nat → Prop} {v : Value} {ns : List Node} (h : KidsA w B A v ns) (hb : Below w.heap.size w w') : KidsA w' B A v ns := by
  obtain ⟨fs, h1, h2⟩ := h
  exact ⟨fs, h1.below hb, h2⟩
theorem KidsA.sl {w : World} {B : Nat} {A : Nat → Prop} {v : Value} {ns : List Node} (h : KidsA w B A v ns) : ∃ a c, v = .slice a ns.length c := by
  obtain ⟨fs, ⟨cs, h1, _⟩, _⟩ := h
  exact own_sl5 h1
theorem KidsA.lt {w : World} {B : Nat} {A : Nat → Prop} {v : Value} {ns : List Node} (h : KidsA w B A v ns) : ∀ g, v.ownBlock = some g → B ≤ g ∧ g < w.heap.size := by
  obtain ⟨fs, h1, _⟩ := h
  exact h1.lt

/-- One node of the list: where it lies, and what stands when another is put in its place. -/
theorem KidsA.one {wr : World} {B g L cap : Nat} {A : Nat → Prop} {ns : List Node} (h : KidsA wr B A (.slice (some ⟨g, 0, none⟩) L cap) ns) (hA : ∀ y, wr.heap.size ≤ y → A y) (i : Nat) (n : Node) (hi : ns[i]? = some n) :
    ∃ sa sn sc f, n.In wr (.slice sa sn sc) f ∧ (∀ q ∈ f, q < wr.heap.size ∧ A q) ∧ KidIn wr g (i * 5) n (.slice sa sn sc) ∧ (∀ o, wr.frozen? ⟨g, o, none⟩ = false) ∧
      ∀ X n' sl' f', Below wr.heap.size wr X → n'.In X sl' f' → (∀ q ∈ f', q ∈ f ∨ wr.heap.size ≤ q) → KidsA (set5at X g (i * 5) n' sl') B A (.slice (some ⟨g, 0, none⟩) L cap) (ns.set i n') := by
  have hlt := (h.lt g (by simp [Value.ownBlock])).2
  obtain ⟨fs, ⟨cs, h1, h2, h3⟩, h4⟩ := h
  have hL : L = ns.length := by
    obtain ⟨a, c, e⟩ := own_sl5 h1
    cases e
    rfl
  subst hL
  have hgf : g ∉ fs := h3 g (by simp [Value.ownBlock])
  obtain ⟨sl, f, e1, e2, e3⟩ := nodesIn.one h2 i n hi
  have hil := (List.getElem?_eq_some_iff.1 hi).1
  obtain ⟨sl2, f2, g1, g2, g3⟩ := h2.get i n hi
  have hcell : ∀ o, o < 5 → wr.cell? ⟨g, i * 5 + o, none⟩ = (nodeL n sl2)[o]? := fun o ho => by
    rw [World.ownsRow.cellAt h1 (i * 5 + o) (by omega), g3 o ho]
  obtain ⟨ad, c, hsl⟩ := g1.sl
  subst hsl
  refine ⟨ad, _, c, f2, g1, fun y hy => ⟨g1.lt y hy, h4 y (g2 y hy)⟩, ⟨hcell 0 (by omega), hcell 1 (by omega), hcell 2 (by omega), hcell 3 (by omega), hcell 4 (by omega)⟩, fun o => World.ownsRow.frozenAt h1 o, fun X n' sl' f' hb hn hf => ?_⟩
  have hfg : ∀ q ∈ f', q ≠ g := fun q hq e => by
    rcases hf q hq with h8 | h8
    · exact hgf (e ▸ g2 q h8)
    · omega
  have hkeep : ∀ q ∈ fs, (set5at X g (i * 5) n' sl').heap[q]? = wr.heap[q]? := fun q hq => by
    have hqg : q ≠ g := fun e => hgf (e ▸ hq)
    rw [set5at_block _ _ _ _ _ q hqg]
    exact hb.block q (h2.lt q hq)
  obtain ⟨fp', k1, k2⟩ := e3 _ n' sl' f' hkeep (hn.keep fun q hq => set5at_block _ _ _ _ _ q (hfg q hq))
  refine ⟨fp', ⟨_, ?_, k1, fun g' hg' hin => ?_⟩, fun y hy => ?_⟩
  · rw [List.length_set]
    exact set5at_row (own_kept5 h1 fun q hq => hb.block q (own_lt5 h1 q hq)) (i * 5) n' sl'
  · have : g' = g := by simpa [Value.ownBlock, eq_comm] using hg'
    subst this
    rcases k2 g' hin with h6 | h6
    · exact hgf h6
    · exact hfg g' h6 rfl
  · rcases k2 y hy with h6 | h6
    · exact h4 y h6
    · rcases hf y h6 with h7 | h7
      · exact h4 y (g2 y h7)
      · exact hA y h7

theorem step_append_nodeX {ops : Array Oper} {o : Oper} {a : Act} {K : Act → World → Prop} {Q : Exit → Act → World → Prop} {E : Prop} (w : World) (hgd : o.guard = none) (s x : Operand)
    (ho : o.op = .call { callee := .builtin .append, args := #[s, x], argTypes := #[65, 65] })
    (B : Nat) (v : Value) (m : Nat) (cs : List Value) (n : Node) (sa : Option Addr) (sn sc : Nat) (hs : a.eval s = v) (hown : w.ownsRow B 67 5 v m cs) (hx : a.eval x = .slice (some ⟨w.heap.size, 0, none⟩) 1 1) (hlen : m ≤ 1000000) (hB : B ≤ w.heap.size)
    (h : ∀ v' w', (∀ cs, (w.alloc (.cells (nodeV n (.slice sa sn sc)) 67)).ownsRow B 67 5 v m cs → w'.ownsRow B 67 5 v' (m + 1) (cs ++ nodeL n (.slice sa sn sc))) → (w.alloc (.cells (nodeV n (.slice sa sn sc)) 67)).grownBy w' v.ownBlock → (v'.ownBlock = v.ownBlock ∨ ∃ g, v'.ownBlock = some g ∧ w.heap.size ≤ g) → (∃ ra rc, v' = .slice ra (m + 1) rc) → K (a.put o.dst v') w') : if Region.wanted o (yielded ops a.tmps) = true then Oper.wp Try.prog o a (w.alloc (.cells (nodeV n (.slice sa sn sc)) 67)) K Q else E := by
  have hw : Region.wanted o (yielded ops a.tmps) = true := by simp [Region.wanted, hgd]
  rw [if_pos hw]
  obtain ⟨i0, hi, hz0, hz1, hz2⟩ := info_partsL infoNode
  obtain ⟨v', w', hr, h2, h3, h4, h5⟩ := run_append_own_at (P := Try.prog) (w.alloc (.cells (nodeV n (.slice sa sn sc)) 67)) B 65 o.type 67 i0 _ 5 56 Try.underlying65 hi hz0 hz1 hz2 rfl (by decide) v m cs (World.ownsRow.alloc hown _) ⟨w.heap.size, 0, none⟩ 1 1 (nodeL n (.slice sa sn sc)) rfl
    (fun j u hu => by
      rw [show (⟨w.heap.size, 0, none⟩ : Addr).add j = ⟨w.heap.size, j, none⟩ by unfold Addr.add; split <;> simp_all, cell_newL, ← nodeL_get]
      exact hu)
    (fun u hu => by
      have hu' : u ∈ [Value.int .i64 n.k, .int .i64 n.w, .int .i64 n.h, .int .i64 n.i, .slice sa sn sc] := hu
      simp only [List.mem_cons, List.not_mem_nil, or_false] at hu'
      rcases hu' with rfl | rfl | rfl | rfl | rfl <;> rfl)
    (by unfold maxLen; omega) (by omega) (by have : (w.alloc (.cells (nodeV n (.slice sa sn sc)) 67)).heap.size = w.heap.size + 1 := by simp
                                             omega)
  unfold Oper.wp execOp
  simp only [ho, resolve, invoke, builtin, Sem.run_bind, Sem.run_pure, Result.andThen_ok, List.map_toArray, List.map_cons, List.map_nil, hs, hx, hr]
  refine h v' w' (fun cs' hcs' => ?_) h3 ?_ (own_sl5 h2)
  · have := own_same (World.ownsRow.alloc hown _) hcs'
    subst this
    exact h2
  · rcases h5 with h5 | h5
    · exact .inl h5
    · exact .inr ⟨_, h5, by simp⟩

/-- The list grows by one node. -/
theorem KidsA.snoc {w W w' : World} {B : Nat} {A : Nat → Prop} {v v' : Value} {ns : List Node} (h : KidsA w B A v ns) (hW : Below w.heap.size w W) {n : Node} {sl : Value} {f : List Nat} (hn : n.In w sl f) (hd : ∀ g, v.ownBlock = some g → g ∉ f) (hfA : ∀ y ∈ f, A y) (h1 : ∀ cs, W.ownsRow B 67 5 v ns.length cs → w'.ownsRow B 67 5 v' (ns.length + 1) (cs ++ nodeL n sl)) (h2 : W.grownBy w' v.ownBlock) (h3 : v'.ownBlock = v.ownBlock ∨ ∃ g, v'.ownBlock = some g ∧ w.heap.size ≤ g) (hB : B ≤ w.heap.size) : KidsA w' B A v' (ns ++ [n]) ∧ Below B w w' := by
  have hlt := h.lt
  obtain ⟨fs, k1, k2⟩ := h
  refine ⟨⟨fs ++ f, k1.grow hW (ms := [n]) ⟨sl, [], f, [], by simp, hn, ⟨rfl, rfl⟩, by simp⟩ hd h1 h2 h3, fun y hy => ?_⟩, ?_⟩
  · rcases List.mem_append.1 hy with h | h
    · exact k2 y h
    · exact hfA y h
  · exact ⟨h2.os.trans hW.os, h2.tape.trans hW.tape, h2.output.trans hW.output, Nat.le_trans hW.size h2.size, fun q hq => (h2.block q (by have := hW.size; omega) fun e => by have := (hlt q e.symm).1; omega).trans (hW.block q (by omega))⟩

end Go.Proofs.Ytjnmjoigmbpodaa
