/-
  Layouts: takeAll, over what take does.
-/
import Derived.Test.YtcjcekaahooamaaLTakeS
import Derived.Test.YtcjcekaahooamaaLTakeP
import Derived.Maps.AppendAt
import Derived.OwnWalk
namespace Go.Proofs.Ytcjcekaahooamaa
open Go.RowKit
set_option linter.unusedVariables false
set_option maxRecDepth 100000

/-- What take leaves. -/
def TakeGood (W0 : World) (r : List CellV) (v : Value) (d : Int) (X : World) (e : Ending) (w' : World) : Prop :=
  (takeF r d = none ∧ e = .returned (.tuple #[nilPart, v]) ∧ Below X.heap.size X w') ∨
  (∃ t r' T g fp v', takeF r d = some (t, r') ∧ e = .returned (.tuple #[.iface T (.pointer (some ⟨g, 0, none⟩)), v']) ∧ t.At w' 0 (.iface T (.pointer (some ⟨g, 0, none⟩))) fp ∧ fp.Nodup ∧ (∀ q ∈ fp, X.heap.size ≤ q) ∧ CellsIn W0 v' r' ∧ Below X.heap.size X w')

/-- How far takeAll has come. -/
structure AllTo (W0 : World) (l : List CellV) (d : Int) (w : World) (sl v : Value) (ts : List Tree) (r : List CellV) (wr : World) : Prop where
  row : ∃ vs fs, wr.ownsRow 0 35 1 sl vs.length vs ∧ partsAt wr 0 ts vs fs ∧ (sl.ownBlock.toList ++ fs).Nodup ∧ ∀ q ∈ sl.ownBlock.toList ++ fs, w.heap.size ≤ q
  eq : takeAllF l d = (ts ++ (takeAllF r d).1, (takeAllF r d).2)
  rest : CellsIn W0 v r
  below : Below w.heap.size w wr
  len : ts.length + r.length ≤ l.length

theorem partsAt.snoc {W : World} {B : Nat} {t : Tree} {v : Value} {f : List Nat} (h2 : t.At W B v f) : ∀ {ts : List Tree} {vs : List Value} {fs : List Nat}, partsAt W B ts vs fs → partsAt W B (ts ++ [t]) (vs ++ [v]) (fs ++ f)
  | [], vs, fs, h => by
    obtain ⟨rfl, rfl⟩ := h
    exact ⟨v, [], f, [], rfl, h2, ⟨rfl, rfl⟩, by simp⟩
  | a :: ts, vs, fs, h => by
    obtain ⟨v1, vs', f1, f', rfl, h3, h4, rfl⟩ := h
    exact ⟨v1, vs' ++ [v], f1, f' ++ f, rfl, h3, partsAt.snoc h2 h4, by simp⟩

theorem AllTo.none {W0 : World} {l : List CellV} {d : Int} {w : World} {sl v : Value} {ts : List Tree} {r : List CellV} {wr w' : World} (h : AllTo W0 l d w sl v ts r wr) (hn : takeF r d = none) (hb : Below wr.heap.size wr w') : AllTo W0 l d w sl v ts r w' ∧ takeAllF l d = (ts, r) := by
  obtain ⟨vs, fs, h1, h2, h3, h4⟩ := h.row
  refine ⟨⟨⟨vs, fs, own_below h1 hb, h2.below hb, h3, h4⟩, h.eq, h.rest, below_step h.below hb, h.len⟩, ?_⟩
  rw [h.eq, takeAllF_eq r d, hn]
  simp

theorem AllTo.next {W0 : World} {l : List CellV} {d : Int} {w : World} {sl v : Value} {ts : List Tree} {r : List CellV} {wr : World} (h : AllTo W0 l d w sl v ts r wr) {t : Tree} {r' : List CellV} {pv : Value} {fp : List Nat} {v' : Value} {w2 : World} (ht : takeF r d = some (t, r')) (hAt : t.At w2 0 pv fp) (hnd : fp.Nodup) (hfp : ∀ q ∈ fp, wr.heap.size ≤ q) (hc : CellsIn W0 v' r') (hb : Below wr.heap.size wr w2) :
    ∃ vs, w2.ownsRow 0 35 1 sl vs.length vs ∧ vs.length ≤ l.length ∧ ∀ o sl' w3, w3.ownsRow 0 35 1 sl' (vs.length + 1) (vs ++ [pv]) → (w2.alloc o).grownBy w3 sl.ownBlock → (sl'.ownBlock = sl.ownBlock ∨ sl'.ownBlock = some (w2.alloc o).heap.size) → AllTo W0 l d w sl' v' (ts ++ [t]) r' w3 := by
  obtain ⟨vs, fs, h1, h2, h3, h4⟩ := h.row
  have hvl := h2.length
  have hlen := h.len
  refine ⟨vs, own_below h1 hb, by omega, fun o sl' w3 k1 k2 k3 => ?_⟩
  have hsz : (w2.alloc o).heap.size = w2.heap.size + 1 := by simp
  have hk0 : ∀ q, q < w2.heap.size → q ∉ sl.ownBlock.toList → w3.heap[q]? = w2.heap[q]? := fun q hq hn => (k2.block q (by omega) (by intro e; exact hn (by rw [← e]; simp))).trans (((Below.refl w2.heap.size w2).alloc (Nat.le_refl _) o).block q hq)
  have hlow := own_lt h1
  obtain ⟨n1, n2, n3⟩ := List.nodup_append.1 h3
  have h2' := h2.below hb
  have hwr := h.below.size
  have hwb := hb.size
  refine ⟨⟨vs ++ [pv], fs ++ fp, by simpa using k1, partsAt.snoc (hAt.keep fun q hq => hk0 q (hAt.lt q hq) fun e => ?_) (h2'.keep fun q hq => hk0 q (h2'.lt q hq) fun e => ?_), ?_, ?_⟩, ?_, ?_, ?_, ?_⟩
  · have := hlow q e; have := hfp q hq; omega
  · exact n3 q e q hq rfl
  · have hd : (fs ++ fp).Nodup := by
      refine List.nodup_append.2 ⟨n2, hnd, fun a ha b hb' e => ?_⟩
      have := h2.lt a ha
      have := hfp b hb'
      omega
    refine List.nodup_append.2 ⟨?_, hd, fun a ha b hb' e => ?_⟩
    · cases sl'.ownBlock <;> simp
    · subst e
      rcases k3 with k3 | k3
      · rw [k3] at ha
        rcases List.mem_append.1 hb' with hb' | hb'
        · exact n3 a ha a hb' rfl
        · have := hlow a ha; have := hfp a hb'; omega
      · rw [k3] at ha
        simp at ha
        rcases List.mem_append.1 hb' with hb' | hb'
        · have := h2'.lt a hb'; omega
        · have := hAt.lt a hb'; omega
  · intro q hq
    rcases List.mem_append.1 hq with hq | hq
    · rcases k3 with k3 | k3
      · rw [k3] at hq
        exact h4 q (List.mem_append_left _ hq)
      · rw [k3] at hq
        simp at hq
        omega
    · rcases List.mem_append.1 hq with hq | hq
      · exact h4 q (List.mem_append_right _ hq)
      · have := hfp q hq; omega
  · rw [h.eq, takeAllF_eq r d, ht]
    simp
  · exact hc
  · refine ⟨k2.os.trans (hb.os.trans h.below.os), k2.tape.trans (hb.tape.trans h.below.tape), k2.output.trans (hb.output.trans h.below.output), by have := k2.size; omega, fun q hq => ?_⟩
    refine (hk0 q (by omega) fun e => ?_).trans ((hb.block q (by omega)).trans (h.below.block q hq))
    have := h4 q (List.mem_append_left _ e)
    omega
  · have := takeF_shorter r d t r' ht
    rw [List.length_append]
    simp
    omega

theorem infoPart : (Try.prog.info? 35).map (fun i => (i.zero, i.size, i.bytes)) = some (some .nilIface, 1, 16) := by kernel_rfl
theorem wpList_append_part {ops : Array Oper} {rest : List Oper} {o : Oper} {a : Act} {Q : Exit → Act → World → Prop} (w : World) (hgd : o.guard = none) (s x : Operand)
    (ho : o.op = .call { callee := .builtin .append, args := #[s, x], argTypes := #[75, 75] })
    (v : Value) (vs : List Value) (T : TypeId) (g : Nat) (hs : a.eval s = v) (hown : w.ownsRow 0 35 1 v vs.length vs) (hx : a.eval x = .slice (some ⟨w.heap.size, 0, none⟩) 1 1) (hlen : vs.length ≤ 16777216)
    (h : ∀ v' w', w'.ownsRow 0 35 1 v' (vs.length + 1) (vs ++ [.iface T (.pointer (some ⟨g, 0, none⟩))]) → (w.alloc (.cells #[.iface T (.pointer (some ⟨g, 0, none⟩))] 35)).grownBy w' v.ownBlock → (v'.ownBlock = v.ownBlock ∨ v'.ownBlock = some (w.alloc (.cells #[.iface T (.pointer (some ⟨g, 0, none⟩))] 35)).heap.size) → wpList Try.prog ops Q rest (a.put o.dst v') w') : wpList Try.prog ops Q (o :: rest) a (w.alloc (.cells #[.iface T (.pointer (some ⟨g, 0, none⟩))] 35)) := by
  obtain ⟨i0, hi, hz0, hz1, hz2⟩ := info_partsL infoPart
  refine wpList_append_own_at _ hgd s x 75 ho 0 35 i0 .nilIface 1 16 Try.underlying75 hi hz0 hz1 hz2 rfl (by decide) v vs.length vs hs (World.ownsRow.alloc hown _) ⟨w.heap.size, 0, none⟩ 1 1 [.iface T (.pointer (some ⟨g, 0, none⟩))] hx rfl ?_ ?_ ?_ ?_ (Nat.zero_le _) ?_
  · intro j u hu
    rw [show (⟨w.heap.size, 0, none⟩ : Addr).add j = ⟨w.heap.size, j, none⟩ by unfold Addr.add; split <;> simp_all, cell_newL]
    simpa using hu
  · intro u hu
    simp only [List.mem_cons, List.not_mem_nil, or_false] at hu
    subst hu
    rfl
  · unfold maxLen; omega
  · omega
  · intro v' w' h2 h3 _ h5
    exact h v' w' h2 h3 h5

end Go.Proofs.Ytcjcekaahooamaa
