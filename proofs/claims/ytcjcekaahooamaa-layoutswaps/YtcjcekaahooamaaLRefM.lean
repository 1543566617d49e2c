/-
  Layouts: the document's nodes in memory.
-/
import Derived.Test.YtcjcekaahooamaaLRefQ
namespace Go.Proofs.Ytcjcekaahooamaa
open Go.RowKit
set_option linter.unusedVariables false
set_option maxRecDepth 100000

/-- The cells of a node. -/
def nodeL (n : Node) (sl : Value) : List Value := [.int .i64 n.k, .int .i64 n.w, .int .i64 n.h, .int .i64 n.i, sl]
def nodeV (n : Node) (sl : Value) : Array Value := #[.int .i64 n.k, .int .i64 n.w, .int .i64 n.h, .int .i64 n.i, sl]
theorem nodeL_get (n : Node) (sl : Value) (j : Nat) : (nodeL n sl)[j]? = (nodeV n sl)[j]? := by unfold nodeL nodeV; simp
def IsSl (v : Value) : Prop := ∃ a n c, v = .slice a n c
mutual
/-- A node lies in memory: the list of its children, the blocks. -/
def Node.In (W : World) : Node → Value → List Nat → Prop
  | .mk _ _ _ _ ks, sl, fp => ∃ cs fs, W.ownsRow 0 48 5 sl ks.length cs ∧ nodesIn W ks cs fs ∧ fp = sl.ownBlock.toList ++ fs
def nodesIn (W : World) : List Node → List Value → List Nat → Prop
  | [], cs, fp => cs = [] ∧ fp = []
  | n :: r, cs, fp => ∃ sl cs' f f', cs = nodeL n sl ++ cs' ∧ n.In W sl f ∧ nodesIn W r cs' f' ∧ fp = f ++ f'
end

theorem own_kept5 {W W' : World} {B s : Nat} {t : TypeId} {sl : Value} {n : Nat} {vs : List Value} (h : W.ownsRow B t s sl n vs) (hk : ∀ g ∈ sl.ownBlock.toList, W'.heap[g]? = W.heap[g]?) : W'.ownsRow B t s sl n vs := by
  refine ⟨h.1, ?_⟩
  rcases h.2 with h0 | ⟨g, cap, cur, rfl, hb, hg, r⟩
  · exact .inl h0
  · exact .inr ⟨g, cap, cur, rfl, hb, (hk g (by simp [Value.ownBlock])).trans hg, r⟩
theorem own_lt5 {W : World} {B s : Nat} {t : TypeId} {sl : Value} {n : Nat} {vs : List Value} (h : W.ownsRow B t s sl n vs) : ∀ g ∈ sl.ownBlock.toList, g < W.heap.size := fun g hg => (World.ownsRow.lt h g (by simpa using hg)).2
theorem own_sl5 {W : World} {B s : Nat} {t : TypeId} {sl : Value} {n : Nat} {vs : List Value} (h : W.ownsRow B t s sl n vs) : ∃ a c, sl = .slice a n c := by
  rcases h.2 with ⟨h0, h1⟩ | ⟨g, cap, cur, rfl, _⟩
  · exact ⟨none, 0, by rw [h0, h1]⟩
  · exact ⟨_, _, rfl⟩
mutual
theorem Node.In.keep {W W' : World} : ∀ {n : Node} {sl : Value} {fp : List Nat}, n.In W sl fp → (∀ g ∈ fp, W'.heap[g]? = W.heap[g]?) → n.In W' sl fp
  | .mk _ _ _ _ ks, sl, fp, h, hk => by
    obtain ⟨cs, fs, h1, h2, rfl⟩ := h
    exact ⟨cs, fs, own_kept5 h1 (fun q hq => hk q (List.mem_append_left _ hq)), nodesIn.keep h2 (fun q hq => hk q (List.mem_append_right _ hq)), rfl⟩
theorem nodesIn.keep {W W' : World} : ∀ {ns : List Node} {cs : List Value} {fp : List Nat}, nodesIn W ns cs fp → (∀ g ∈ fp, W'.heap[g]? = W.heap[g]?) → nodesIn W' ns cs fp
  | [], cs, fp, h, hk => h
  | n :: r, cs, fp, h, hk => by
    obtain ⟨sl, cs', f, f', h1, h2, h3, rfl⟩ := h
    exact ⟨sl, cs', f, f', h1, Node.In.keep h2 (fun q hq => hk q (List.mem_append_left _ hq)), nodesIn.keep h3 (fun q hq => hk q (List.mem_append_right _ hq)), rfl⟩
end
mutual
theorem Node.In.lt {W : World} : ∀ {n : Node} {sl : Value} {fp : List Nat}, n.In W sl fp → ∀ g ∈ fp, g < W.heap.size
  | .mk _ _ _ _ ks, sl, fp, h => by
    obtain ⟨cs, fs, h1, h2, rfl⟩ := h
    intro g hg
    rcases List.mem_append.1 hg with hg | hg
    · exact own_lt5 h1 g hg
    · exact nodesIn.lt h2 g hg
theorem nodesIn.lt {W : World} : ∀ {ns : List Node} {cs : List Value} {fp : List Nat}, nodesIn W ns cs fp → ∀ g ∈ fp, g < W.heap.size
  | [], cs, fp, h => by
    obtain ⟨_, rfl⟩ := h
    intro g hg
    cases hg
  | n :: r, cs, fp, h => by
    obtain ⟨sl, cs', f, f', h1, h2, h3, rfl⟩ := h
    intro g hg
    rcases List.mem_append.1 hg with hg | hg
    · exact Node.In.lt h2 g hg
    · exact nodesIn.lt h3 g hg
end
theorem Node.In.below {W W' : World} {n : Node} {sl : Value} {fp : List Nat} (h : n.In W sl fp) (hb : Below W.heap.size W W') : n.In W' sl fp := h.keep fun g hg => hb.block g (h.lt g hg)
theorem nodesIn.below {W W' : World} {ns : List Node} {cs : List Value} {fp : List Nat} (h : nodesIn W ns cs fp) (hb : Below W.heap.size W W') : nodesIn W' ns cs fp := h.keep fun g hg => hb.block g (h.lt g hg)
theorem Node.In.sl {W : World} {n : Node} {sl : Value} {fp : List Nat} (h : n.In W sl fp) : ∃ a c, sl = .slice a n.ks.length c := by
  cases n with
  | mk k w h' i ks =>
    obtain ⟨cs, fs, h1, _⟩ := h
    exact own_sl5 h1
theorem nodesIn.length {W : World} : ∀ {ns : List Node} {cs : List Value} {fp : List Nat}, nodesIn W ns cs fp → cs.length = ns.length * 5
  | [], cs, fp, h => by rw [h.1]; rfl
  | n :: r, cs, fp, h => by
    obtain ⟨sl, cs', f, f', rfl, h2, h3, rfl⟩ := h
    rw [List.length_append, nodesIn.length h3, List.length_cons]
    show 5 + _ = _
    omega
theorem nodesIn.get {W : World} : ∀ {ns : List Node} {cs : List Value} {fp : List Nat}, nodesIn W ns cs fp → ∀ (i : Nat) (n : Node), ns[i]? = some n → ∃ sl f, n.In W sl f ∧ (∀ q ∈ f, q ∈ fp) ∧ ∀ j, j < 5 → cs[i * 5 + j]? = (nodeL n sl)[j]?
  | [], cs, fp, h, i, n, hi => by cases hi
  | a :: r, cs, fp, h, 0, n, hi => by
    obtain ⟨sl, cs', f, f', rfl, h2, h3, rfl⟩ := h
    cases hi
    refine ⟨sl, f, h2, fun q hq => List.mem_append_left _ hq, fun j hj => ?_⟩
    rw [Nat.zero_mul, Nat.zero_add, List.getElem?_append_left (by show j < 5; exact hj)]
  | a :: r, cs, fp, h, i + 1, n, hi => by
    obtain ⟨sl, cs', f, f', rfl, h2, h3, rfl⟩ := h
    obtain ⟨sl1, f1, e1, e2, e3⟩ := nodesIn.get h3 i n hi
    refine ⟨sl1, f1, e1, fun q hq => List.mem_append_right _ (e2 q hq), fun j hj => ?_⟩
    rw [← e3 j hj, List.getElem?_append_right (by show 5 ≤ (i + 1) * 5 + j; omega)]
    show cs'[(i + 1) * 5 + j - 5]? = _
    rw [show (i + 1) * 5 + j - 5 = i * 5 + j by omega]
theorem nodesIn.snoc {W : World} {n : Node} {sl : Value} {f : List Nat} (h2 : n.In W sl f) : ∀ {ns : List Node} {cs : List Value} {fs : List Nat}, nodesIn W ns cs fs → nodesIn W (ns ++ [n]) (cs ++ nodeL n sl) (fs ++ f)
  | [], cs, fs, h => by
    obtain ⟨rfl, rfl⟩ := h
    exact ⟨sl, [], f, [], by simp, h2, ⟨rfl, rfl⟩, by simp⟩
  | a :: ns, cs, fs, h => by
    obtain ⟨sl1, cs', f1, f', rfl, h3, h4, rfl⟩ := h
    exact ⟨sl1, cs' ++ nodeL n sl, f1, f' ++ f, by simp, h3, nodesIn.snoc h2 h4, by simp⟩

/-- Where the children of a node lie. -/
structure KidIn (W : World) (b off : Nat) (n : Node) (sl : Value) : Prop where
  q0 : W.cell? ⟨b, off, none⟩ = some (.int .i64 n.k)
  q1 : W.cell? ⟨b, off + 1, none⟩ = some (.int .i64 n.w)
  q2 : W.cell? ⟨b, off + 2, none⟩ = some (.int .i64 n.h)
  q3 : W.cell? ⟨b, off + 3, none⟩ = some (.int .i64 n.i)
  q4 : W.cell? ⟨b, off + 4, none⟩ = some sl
theorem Node.In.kids {W : World} {k w h i : Int} {ks : List Node} {sl : Value} {fp : List Nat} (hn : (Node.mk k w h i ks).In W sl fp) (hne : ks ≠ []) : ∃ g cap, sl = .slice (some ⟨g, 0, none⟩) ks.length cap ∧ g < W.heap.size ∧ ∀ (j : Nat) (n : Node), ks[j]? = some n → ∃ sl' f, n.In W sl' f ∧ KidIn W g (j * 5) n sl' := by
  obtain ⟨cs, fs, h1, h2, rfl⟩ := hn
  rcases h1.2 with ⟨h0, h3⟩ | ⟨g, cap, cur, rfl, _, hg, _, _, h5, h6⟩
  · exact absurd (List.length_eq_zero_iff.1 h3) hne
  · refine ⟨g, cap, rfl, lt_of_block hg, fun j n hj => ?_⟩
    obtain ⟨sl', f, e1, e2, e3⟩ := h2.get j n hj
    have hlt : j < ks.length := (List.getElem?_eq_some_iff.1 hj).1
    have hc : ∀ o, o < 5 → W.cell? ⟨g, j * 5 + o, none⟩ = (nodeL n sl')[o]? := by
      intro o ho
      rw [cell_atL hg, ← e3 o ho, ← h6, List.getElem?_take_of_lt (by omega)]
      simp
    exact ⟨sl', f, e1, hc 0 (by omega), hc 1 (by omega), hc 2 (by omega), hc 3 (by omega), hc 4 (by omega)⟩

theorem infoNode : (Try.prog.info? 48).map (fun i => (i.zero, i.size, i.bytes)) = some (some (.agg #[.int .i64 0, .int .i64 0, .int .i64 0, .int .i64 0, .slice none 0 0]), 5, 56) := by kernel_rfl
theorem wpList_append_node {ops : Array Oper} {rest : List Oper} {o : Oper} {a : Act} {Q : Exit → Act → World → Prop} (w : World) (hgd : o.guard = none) (s x : Operand)
    (ho : o.op = .call { callee := .builtin .append, args := #[s, x], argTypes := #[46, 46] })
    (v : Value) (m : Nat) (cs : List Value) (n : Node) (sa : Option Addr) (sn sc : Nat) (hs : a.eval s = v) (hown : w.ownsRow 0 48 5 v m cs) (hx : a.eval x = .slice (some ⟨w.heap.size, 0, none⟩) 1 1) (hlen : m ≤ 1000000)
    (h : ∀ v' w', w'.ownsRow 0 48 5 v' (m + 1) (cs ++ nodeL n (.slice sa sn sc)) → (w.alloc (.cells (nodeV n (.slice sa sn sc)) 48)).grownBy w' v.ownBlock → (v'.ownBlock = v.ownBlock ∨ v'.ownBlock = some (w.alloc (.cells (nodeV n (.slice sa sn sc)) 48)).heap.size) → wpList Try.prog ops Q rest (a.put o.dst v') w') : wpList Try.prog ops Q (o :: rest) a (w.alloc (.cells (nodeV n (.slice sa sn sc)) 48)) := by
  obtain ⟨i0, hi, hz0, hz1, hz2⟩ := info_partsL infoNode
  refine wpList_append_own_at _ hgd s x 46 ho 0 48 i0 _ 5 56 Try.underlying46 hi hz0 hz1 hz2 rfl (by decide) v m cs hs (World.ownsRow.alloc hown _) ⟨w.heap.size, 0, none⟩ 1 1 (nodeL n (.slice sa sn sc)) hx rfl ?_ ?_ ?_ ?_ (Nat.zero_le _) ?_
  · intro j u hu
    rw [show (⟨w.heap.size, 0, none⟩ : Addr).add j = ⟨w.heap.size, j, none⟩ by unfold Addr.add; split <;> simp_all, cell_newL, ← nodeL_get]
    exact hu
  · intro u hu
    have hu' : u ∈ [Value.int .i64 n.k, .int .i64 n.w, .int .i64 n.h, .int .i64 n.i, .slice sa sn sc] := hu
    simp only [List.mem_cons, List.not_mem_nil, or_false] at hu'
    rcases hu' with rfl | rfl | rfl | rfl | rfl <;> rfl
  · unfold maxLen; omega
  · omega
  · intro v' w' h2 h3 _ h5
    exact h v' w' h2 h3 h5

/-- What grows, without fuel. -/
theorem grows_shorter : ∀ (m : Nat), (∀ c r, (growT m c r).2.length ≤ r.length) ∧ (∀ d r, (growAllT m d r).2.length ≤ r.length)
  | 0 => ⟨fun c r => Nat.le_refl _, fun d r => Nat.le_refl _⟩
  | m + 1 => by
    obtain ⟨i1, i2⟩ := grows_shorter m
    refine ⟨fun c r => i2 c.depth r, fun d r => ?_⟩
    cases r with
    | nil => exact Nat.le_refl _
    | cons c r =>
      unfold growAllT
      simp only []
      split
      · have h1 := i1 c r
        have h2 := i2 d (growT m c r).2
        rw [List.length_cons]
        simp only []
        omega
      · exact Nat.le_refl _
theorem grows_fuel : ∀ (q : Nat), (∀ m m' c r, r.length < q → 2 * r.length + 1 ≤ m → 2 * r.length + 1 ≤ m' → growT m c r = growT m' c r) ∧ (∀ m m' d r, r.length < q → 2 * r.length ≤ m → 2 * r.length ≤ m' → growAllT m d r = growAllT m' d r)
  | 0 => ⟨fun _ _ _ _ h => by omega, fun _ _ _ _ h => by omega⟩
  | q + 1 => by
    obtain ⟨i1, i2⟩ := grows_fuel q
    have two : ∀ m m' d r, r.length < q + 1 → 2 * r.length ≤ m → 2 * r.length ≤ m' → growAllT m d r = growAllT m' d r := by
      intro m m' d r hr hm hm'
      cases r with
      | nil => cases m <;> cases m' <;> rfl
      | cons c r =>
        rw [List.length_cons] at hr hm hm'
        obtain ⟨k, rfl⟩ : ∃ k, m = k + 1 := ⟨m - 1, by omega⟩
        obtain ⟨k', rfl⟩ : ∃ k, m' = k + 1 := ⟨m' - 1, by omega⟩
        unfold growAllT
        simp only []
        have h1 := i1 k k' c r (by omega) (by omega) (by omega)
        have h2 := (grows_shorter k').1 c r
        rw [h1, i2 k k' d (growT k' c r).2 (by omega) (by omega) (by omega)]
    refine ⟨fun m m' c r hr hm hm' => ?_, two⟩
    obtain ⟨k, rfl⟩ : ∃ k, m = k + 1 := ⟨m - 1, by omega⟩
    obtain ⟨k', rfl⟩ : ∃ k, m' = k + 1 := ⟨m' - 1, by omega⟩
    unfold growT
    rw [two k k' c.depth r hr (by omega) (by omega)]
def growF (c : CellV) (r : List CellV) : Node × List CellV := growT (2 * r.length + 1) c r
def growAllF (d : Int) (r : List CellV) : List Node × List CellV := growAllT (2 * r.length) d r
theorem growF_eq (c : CellV) (r : List CellV) : growF c r = (.mk c.kind c.w c.h c.p (growAllF c.depth r).1, (growAllF c.depth r).2) := by
  unfold growF growAllF growT
  rfl
theorem growAllF_nil (d : Int) : growAllF d [] = ([], []) := rfl
theorem growF_shorter (c : CellV) (r : List CellV) : (growF c r).2.length ≤ r.length := (grows_shorter _).1 c r
theorem growAllF_cons (d : Int) (c : CellV) (r : List CellV) : growAllF d (c :: r) = if d < c.depth then ((growF c r).1 :: (growAllF d (growF c r).2).1, (growAllF d (growF c r).2).2) else ([], c :: r) := by
  have hs := growF_shorter c r
  unfold growF at hs ⊢
  unfold growAllF
  rw [show 2 * (c :: r).length = (2 * r.length + 1) + 1 by rw [List.length_cons]; omega]
  conv => lhs; unfold growAllT
  simp only []
  rw [(grows_fuel (r.length + 1)).2 (2 * r.length + 1) (2 * (growT (2 * r.length + 1) c r).2.length) d (growT (2 * r.length + 1) c r).2 (by omega) (by omega) (by omega)]
theorem IsLay.growF {l : List CellV} {t : Tree} (h : IsLay l t) {c : CellV} {r : List CellV} (hl : l = c :: r) : Go.Proofs.Ytcjcekaahooamaa.growF c r = (nodeOf t, []) := by
  rw [← h.grow hl]
  have := h.size
  rw [hl, List.length_cons] at this
  exact (grows_fuel (r.length + 1)).1 _ 200 c r (by omega) (by omega) (by omega)

end Go.Proofs.Ytcjcekaahooamaa
