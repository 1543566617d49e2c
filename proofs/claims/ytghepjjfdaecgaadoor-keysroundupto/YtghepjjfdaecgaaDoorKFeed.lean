/-
  Keys: lists of keys; Feed.
-/
import Derived.Test.YtghepjjfdaecgaaDoorKTakE
namespace Go.Proofs.YtghepjjfdaecgaaDoor
open Go.RowKit
set_option linter.unusedVariables false
set_option maxRecDepth 100000

def keyV (k : Int × Int) : List Value := [.int .i64 k.1, .int .i64 k.2]
/-- A list of keys that is one's own. -/
def KeysAt (w : World) (B : Nat) (v : Value) (ks : List (Int × Int)) : Prop := w.ownsRow B 30 2 v ks.length (ks.flatMap keyV)
theorem keys_flat (ks : List (Int × Int)) : (ks.flatMap keyV).length = ks.length * 2 := by
  induction ks with
  | nil => rfl
  | cons k r ih => rw [List.flatMap_cons, List.length_append, ih]; simp [keyV]; omega
theorem KeysAt.nil (w : World) (B : Nat) : KeysAt w B (.slice none 0 0) [] := World.ownsRow_nil w B _ _
theorem KeysAt.keep {w w' : World} {B : Nat} {v : Value} {ks : List (Int × Int)} (h : KeysAt w B v ks) (hk : ∀ g, v.ownBlock = some g → w'.heap[g]? = w.heap[g]?) : KeysAt w' B v ks := by
  refine ⟨h.1, ?_⟩
  rcases h.2 with h0 | ⟨g, cap, cur, rfl, hb, hg, r⟩
  · exact .inl h0
  · exact .inr ⟨g, cap, cur, rfl, hb, (hk g rfl).trans hg, r⟩
theorem KeysAt.blk {w : World} {B : Nat} {v : Value} {ks : List (Int × Int)} (h : KeysAt w B v ks) {g : Nat} (hg : v.ownBlock = some g) : B ≤ g ∧ ∃ cur, w.heap[g]? = some (.cells cur 30 (0, 0)) := by
  rcases h.2 with ⟨e, _⟩ | ⟨g', cap, cur, e, hb, hk, _⟩
  · rw [e] at hg; cases hg
  · rw [e] at hg; cases hg
    exact ⟨hb, cur, hk⟩
theorem KeysAt.ft {w w' : World} {B d : Nat} {v : Value} {ks : List (Int × Int)} (h : KeysAt w B v ks) (hf : Ft d w w') (hd : ∃ v T, T ≠ 30 ∧ w.heap[d]? = some (.cells v T (0, 0))) : KeysAt w' B v ks := by
  refine h.keep fun g hg => ?_
  obtain ⟨_, cur, hk⟩ := h.blk hg
  rw [hk]
  refine hf g _ _ _ hk (by decide) ?_
  intro e
  obtain ⟨v', T, hT, hd⟩ := hd
  rw [e, hd] at hk
  simp only [Option.some.injEq, Obj.cells.injEq] at hk
  exact hT hk.2.1
theorem KeysAt.below {w w' : World} {B : Nat} {v : Value} {ks : List (Int × Int)} (h : KeysAt w B v ks) (hb : Below w.heap.size w w') : KeysAt w' B v ks := h.keep fun g hg => by
  obtain ⟨_, cur, hk⟩ := h.blk hg
  exact hb.block g (lt_block hk)
theorem KeysAt.slice {w : World} {B : Nat} {v : Value} {ks : List (Int × Int)} (h : KeysAt w B v ks) : ∃ a c, v = .slice a ks.length c := by
  rcases h.2 with ⟨e, h0⟩ | ⟨g', cap, cur, e, hb, hk, _⟩
  · exact ⟨_, _, by rw [e, h0]⟩
  · exact ⟨_, _, e⟩
theorem infoKeyE : (Tryd.prog.info? 30).map (fun i => (i.zero, i.size, i.bytes)) = some (some (.agg #[.int .i64 0, .int .i64 0]), 2, 16) := by kernel_rfl
theorem underKeys : Tryd.prog.underlying 24 = some (.slice 30) := by kernel_rfl
/-- A key is appended. -/
theorem wpList_append_key (w : World) {ops : Array Oper} {rest : List Oper} {o : Oper} {a : Act} {Q : Exit → Act → World → Prop} (hgd : o.guard = none) (s x : Operand)
    (ho : o.op = .call { callee := .builtin .append, args := #[s, x], argTypes := #[24, 24] })
    (B : Nat) (v : Value) (ks : List (Int × Int)) (hs : a.eval s = v) (hown : KeysAt w B v ks) (G : Nat) (k : Int × Int) (hx : a.eval x = .slice (some ⟨G, 0, none⟩) 1 1) (hG : w.heap[G]? = some (.cells #[.int .i64 k.1, .int .i64 k.2] 30 (0, 0)))
    (hlen : ks.length ≤ 20000000) (hbase : B ≤ w.heap.size)
    (h : ∀ v' w', KeysAt w' B v' (ks ++ [k]) → w.grownBy w' v.ownBlock → wpList Tryd.prog ops Q rest (a.put o.dst v') w') : wpList Tryd.prog ops Q (o :: rest) a w := by
  obtain ⟨i0, hi, hz0, hz1, hz2⟩ := info_parts infoKeyE
  refine wpList_append_own w hgd s x 24 ho B 30 i0 (.agg #[.int .i64 0, .int .i64 0]) 2 16 underKeys hi hz0 hz1 hz2 rfl (by decide) v ks.length (ks.flatMap keyV) hs hown ⟨G, 0, none⟩ 1 1 (keyV k) hx rfl ?_ ?_ (by unfold maxLen; omega) (by omega) hbase ?_
  · intro j u hu
    rw [addr_add, Nat.zero_add, cell_at hG j]
    match j, hu with
    | 0, hu => exact hu
    | 1, hu => exact hu
    | j + 2, hu => simp [keyV] at hu
  · intro u hu
    simp only [keyV, List.mem_cons, List.not_mem_nil, or_false] at hu
    rcases hu with e | e <;> rw [e] <;> rfl
  · intro v' w' h2 h3 _
    refine h v' w' ?_ h3
    unfold KeysAt
    rw [List.length_append, List.flatMap_append]
    simpa using h2
end Go.Proofs.YtghepjjfdaecgaaDoor
