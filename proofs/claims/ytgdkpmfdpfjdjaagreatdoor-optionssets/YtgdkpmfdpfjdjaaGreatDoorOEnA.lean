/-
  Options: lists of settings in memory; sorted.
-/
import Derived.Test.YtgdkpmfdpfjdjaaGreatDoorODc
import Derived.Test.YtgdkpmfdpfjdjaaGreatDoorKBld
import Derived.Test.YtgdkpmfdpfjdjaaGreatDoorQApp
namespace Go.Proofs.YtgdkpmfdpfjdjaaGreatDoor
open Go.RowKit
set_option linter.unusedVariables false
set_option maxRecDepth 100000

def encE (e : Ent) : List Value := [.int .i64 e.sc, .int .i64 e.id, .string e.nm, .string e.vl]
theorem addB (b o j : Nat) : (⟨b, o, none⟩ : Addr).add j = ⟨b, o + j, none⟩ := by unfold Addr.add; split <;> simp_all
/-- A list of settings that is one's own. -/
def EntsAt (w : World) (B : Nat) (v : Value) (l : List Ent) : Prop := w.ownsRow B 87 4 v l.length (l.flatMap encE)
theorem ents_flat (l : List Ent) : (l.flatMap encE).length = l.length * 4 := by
  induction l with
  | nil => rfl
  | cons k r ih => rw [List.flatMap_cons, List.length_append, ih]; simp [encE]; omega
theorem EntsAt.nil (w : World) (B : Nat) : EntsAt w B (.slice none 0 0) [] := World.ownsRow_nil w B _ _
theorem EntsAt.keep {w w' : World} {B : Nat} {v : Value} {l : List Ent} (h : EntsAt w B v l) (hk : ∀ g, v.ownBlock = some g → w'.heap[g]? = w.heap[g]?) : EntsAt w' B v l := by
  refine ⟨h.1, ?_⟩
  rcases h.2 with h0 | ⟨g, cap, cur, rfl, hb, hg, r⟩
  · exact .inl h0
  · exact .inr ⟨g, cap, cur, rfl, hb, (hk g rfl).trans hg, r⟩
theorem EntsAt.blk {w : World} {B : Nat} {v : Value} {l : List Ent} (h : EntsAt w B v l) {g : Nat} (hg : v.ownBlock = some g) : B ≤ g ∧ ∃ cur, w.heap[g]? = some (.cells cur 87 (0, 0)) := by
  rcases h.2 with ⟨e, _⟩ | ⟨g', cap, cur, e, hb, hk, _⟩
  · rw [e] at hg; cases hg
  · rw [e] at hg; cases hg
    exact ⟨hb, cur, hk⟩
theorem EntsAt.below {w w' : World} {B : Nat} {v : Value} {l : List Ent} (h : EntsAt w B v l) (hb : Below w.heap.size w w') : EntsAt w' B v l := h.keep fun g hg => by
  obtain ⟨_, cur, hk⟩ := h.blk hg
  exact hb.block g (lt_block hk)
theorem EntsAt.slice {w : World} {B : Nat} {v : Value} {l : List Ent} (h : EntsAt w B v l) : ∃ a c, v = .slice a l.length c := by
  rcases h.2 with ⟨e, h0⟩ | ⟨g', cap, cur, e, hb, hk, _⟩
  · exact ⟨_, _, by rw [e, h0]⟩
  · exact ⟨_, _, e⟩
theorem infoBindE : (Tryz.prog.info? 87).map (fun i => (i.zero, i.size, i.bytes)) = some (some (.agg #[.int .i64 0, .int .i64 0, .string ⟨#[]⟩, .string ⟨#[]⟩]), 4, 48) := by kernel_rfl
theorem underBinds : Tryz.prog.underlying 32 = some (.slice 87) := by kernel_rfl
theorem flat_ent : ∀ (l : List Ent) (j : Nat) (hj : j < l.length) (c : Nat), c < 4 → (l.flatMap encE)[j * 4 + c]? = (encE l[j])[c]?
  | [], j, hj, _, _ => by simp at hj
  | a :: r, 0, hj, c, hc => by
    rw [List.flatMap_cons, List.getElem?_append_left (by show 0 * 4 + c < 4; omega)]
    simp
  | a :: r, j + 1, hj, c, hc => by
    rw [List.flatMap_cons, List.getElem?_append_right (by show 4 ≤ (j + 1) * 4 + c; omega)]
    have h := flat_ent r j (by simpa using hj) c hc
    have e : (j + 1) * 4 + c - (encE a).length = j * 4 + c := by show (j + 1) * 4 + c - 4 = _; omega
    rw [e, h]
    simp
/-- A list of settings that can be read. -/
def SeeE (w : World) (v : Value) (l : List Ent) : Prop := ∃ ad cp, v = .slice ad l.length cp ∧ (l ≠ [] → ∃ g o, ad = some ⟨g, o, none⟩ ∧ ∀ j (hj : j < l.length) (c : Nat) u, (encE l[j])[c]? = some u → w.cell? ⟨g, o + j * 4 + c, none⟩ = some u)
theorem SeeE.below {w w' : World} {v : Value} {l : List Ent} (h : SeeE w v l) (hb : Below w.heap.size w w') : SeeE w' v l := by
  obtain ⟨a, c, rfl, hc⟩ := h
  refine ⟨a, c, rfl, fun hne => ?_⟩
  obtain ⟨g, o, rfl, hcell⟩ := hc hne
  refine ⟨g, o, rfl, fun j hj c u hu => ?_⟩
  have h1 := hcell j hj c u hu
  exact (hb.cell (World.block_lt_of_cell? w _ h1)).trans h1
theorem EntsAt.see {w : World} {B : Nat} {v : Value} {l : List Ent} (h : EntsAt w B v l) : SeeE w v l := by
  rcases h.2 with ⟨e, h0⟩ | ⟨g, cap, cur, e, hb, hk, h1, h2, h3, h4⟩
  · have : l = [] := List.length_eq_zero_iff.1 h0
    subst this
    exact ⟨_, _, e, fun h => absurd rfl h⟩
  · subst e
    refine ⟨_, _, rfl, fun _ => ⟨g, 0, rfl, fun j hj c u hu => ?_⟩⟩
    have hc : c < 4 := (List.getElem?_eq_some_iff.1 hu).1
    have hf := flat_ent l j hj c hc
    rw [hu] at hf
    have := World.ownsRow.cells h (g := g) rfl (j * 4 + c) u hf
    rw [addB, Nat.zero_add] at this
    rw [Nat.zero_add]
    exact this
/-- A setting is appended. -/
theorem wpList_append_ent (w : World) {ops : Array Oper} {rest : List Oper} {o : Oper} {a : Act} {Q : Exit → Act → World → Prop} (hgd : o.guard = none) (s x : Operand)
    (ho : o.op = .call { callee := .builtin .append, args := #[s, x], argTypes := #[32, 32] })
    (B : Nat) (v : Value) (l : List Ent) (hs : a.eval s = v) (hown : EntsAt w B v l) (G : Nat) (e : Ent) (hx : a.eval x = .slice (some ⟨G, 0, none⟩) 1 1) (hG : w.heap[G]? = some (.cells (encE e).toArray 87 (0, 0)))
    (hlen : l.length ≤ 20000000) (hbase : B ≤ w.heap.size)
    (h : ∀ v' w', EntsAt w' B v' (l ++ [e]) → w.grownBy w' v.ownBlock → wpList Tryz.prog ops Q rest (a.put o.dst v') w') : wpList Tryz.prog ops Q (o :: rest) a w := by
  obtain ⟨i0, hi, hz0, hz1, hz2⟩ := info_parts infoBindE
  refine wpList_append_own w hgd s x 32 ho B 87 i0 (.agg #[.int .i64 0, .int .i64 0, .string ⟨#[]⟩, .string ⟨#[]⟩]) 4 48 underBinds hi hz0 hz1 hz2 rfl (by decide) v l.length (l.flatMap encE) hs hown ⟨G, 0, none⟩ 1 1 (encE e) hx rfl ?_ ?_ (by unfold maxLen; omega) (by omega) hbase ?_
  · intro j u hu
    have hj : j < 4 := (List.getElem?_eq_some_iff.1 hu).1
    rw [addB, Nat.zero_add, cell_at hG j]
    rw [List.getElem?_toArray]
    exact hu
  · intro u hu
    simp only [encE, List.mem_cons, List.not_mem_nil, or_false] at hu
    rcases hu with e | e | e | e <;> rw [e] <;> rfl
  · intro v' w' h2 h3 _
    refine h v' w' ?_ h3
    unfold EntsAt
    rw [List.length_append, List.flatMap_append]
    simpa using h2
end Go.Proofs.YtgdkpmfdpfjdjaaGreatDoor
