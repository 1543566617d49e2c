/-
  Layouts: the document's joined, pair, sized, fresh.
  Layouts: the document's pair, sized, fresh.
  Layouts: lists of nodes that the document makes, whose nodes may be as new as the list itself.
  Layouts: lists of nodes that the document makes, with the blocks that they reach.
-/
import Derived.Test.YtnepemlagnnngaaCFj
namespace Go.Proofs.Ytnepemlagnnngaa
open Go.RowKit
set_option linter.unusedVariables false
set_option maxRecDepth 100000

def flatN (k : Int) (n : Node) : List Node := if n.k = k then n.ks else [n]
theorem nodesOf_append : ∀ (a b : List Tree), nodesOf (a ++ b) = nodesOf a ++ nodesOf b
  | [], b => rfl
  | t :: a, b => by
    show nodeOf t :: nodesOf (a ++ b) = nodeOf t :: (nodesOf a ++ nodesOf b)
    rw [nodesOf_append a b]
theorem flatN_of (k : Int) (hk : k = 2 ∨ k = 3) (t : Tree) : flatN k (nodeOf t) = nodesOf (flatT k t) := by
  cases t with
  | leaf b p =>
    show (if (1 : Int) = k then [] else [Node.mk 1 b.w b.h p []]) = [Node.mk 1 b.w b.h p []]
    rw [if_neg (by omega)]
  | split b k' ts =>
    show (if k' = k then nodesOf ts else [Node.mk k' b.w b.h 0 (nodesOf ts)]) = nodesOf (if k' = k then ts else [.split b k' ts])
    split <;> rfl

theorem wpList_append_nodeB {ops : Array Oper} {rest : List Oper} {o : Oper} {a : Act} {Q : Exit → Act → World → Prop} (w : World) (hgd : o.guard = none) (s x : Operand)
    (ho : o.op = .call { callee := .builtin .append, args := #[s, x], argTypes := #[78, 78] })
    (B : Nat) (v : Value) (m : Nat) (cs : List Value) (n : Node) (sa : Option Addr) (sn sc : Nat) (hs : a.eval s = v) (hown : w.ownsRow B 80 5 v m cs) (hx : a.eval x = .slice (some ⟨w.heap.size, 0, none⟩) 1 1) (hlen : m ≤ 1000000) (hB : B ≤ w.heap.size)
    (h : ∀ v' w', w'.ownsRow B 80 5 v' (m + 1) (cs ++ nodeL n (.slice sa sn sc)) → (w.alloc (.cells (nodeV n (.slice sa sn sc)) 80)).grownBy w' v.ownBlock → wpList Try.prog ops Q rest (a.put o.dst v') w') : wpList Try.prog ops Q (o :: rest) a (w.alloc (.cells (nodeV n (.slice sa sn sc)) 80)) := by
  obtain ⟨i0, hi, hz0, hz1, hz2⟩ := info_partsL infoNode
  refine wpList_append_own_at _ hgd s x 78 ho B 80 i0 _ 5 56 Try.underlying78 hi hz0 hz1 hz2 rfl (by decide) v m cs hs (World.ownsRow.alloc hown _) ⟨w.heap.size, 0, none⟩ 1 1 (nodeL n (.slice sa sn sc)) hx rfl ?_ ?_ ?_ ?_ ?_ ?_
  · intro j u hu
    rw [show (⟨w.heap.size, 0, none⟩ : Addr).add j = ⟨w.heap.size, j, none⟩ by unfold Addr.add; split <;> simp_all, cell_newL, ← nodeL_get]
    exact hu
  · intro u hu
    have hu' : u ∈ [Value.int .i64 n.k, .int .i64 n.w, .int .i64 n.h, .int .i64 n.i, .slice sa sn sc] := hu
    simp only [List.mem_cons, List.not_mem_nil, or_false] at hu'
    rcases hu' with rfl | rfl | rfl | rfl | rfl <;> rfl
  · unfold maxLen; omega
  · omega
  · have : (w.alloc (.cells (nodeV n (.slice sa sn sc)) 80)).heap.size = w.heap.size + 1 := by simp
    omega
  · intro v' w' h2 h3 _ _
    exact h v' w' h2 h3

/-- A list of nodes that is being made, from block B on. -/
structure NodesOwn (w : World) (B : Nat) (v : Value) (ns : List Node) (S : List Nat) : Prop where
  row : ∃ cs fs, w.ownsRow B 80 5 v ns.length cs ∧ nodesIn w ns cs fs ∧ ∀ q ∈ fs, q ∈ S
theorem NodesOwn.keep {w w' : World} {B : Nat} {v : Value} {ns : List Node} {S : List Nat} (h : NodesOwn w B v ns S) (hk : ∀ q, B ≤ q ∨ q ∈ S → q < w.heap.size → w'.heap[q]? = w.heap[q]?) : NodesOwn w' B v ns S := by
  obtain ⟨cs, fs, h1, h2, h3⟩ := h.row
  exact ⟨cs, fs, own_kept5 h1 fun q hq => hk q (.inl (World.ownsRow.lt h1 q (by simpa using hq)).1) (own_lt5 h1 q hq), h2.keep fun q hq => hk q (.inr (h3 q hq)) (h2.lt q hq), h3⟩
theorem nodesIn.append {W : World} : ∀ {ns : List Node} {cs : List Value} {fs : List Nat} {ms : List Node} {ds : List Value} {gs : List Nat}, nodesIn W ns cs fs → nodesIn W ms ds gs → nodesIn W (ns ++ ms) (cs ++ ds) (fs ++ gs)
  | [], cs, fs, ms, ds, gs, h, h2 => by
    obtain ⟨rfl, rfl⟩ := h
    exact h2
  | a :: ns, cs, fs, ms, ds, gs, h, h2 => by
    obtain ⟨sl1, cs', f1, f', rfl, h3, h4, rfl⟩ := h
    exact ⟨sl1, cs' ++ ds, f1, f' ++ gs, by simp, h3, nodesIn.append h4 h2, by simp⟩
theorem NodesOwn.more {w w' : World} {B : Nat} {v v' : Value} {ns ms : List Node} {S : List Nat} (h : NodesOwn w B v ns S) {ds : List Value} {gs : List Nat} (hm : nodesIn w ms ds gs) (hgs : ∀ q ∈ gs, q ∈ S) (hS : ∀ q ∈ S, q < B) (h1 : ∀ cs, w.ownsRow B 80 5 v ns.length cs → w'.ownsRow B 80 5 v' (ns.length + ms.length) (cs ++ ds)) (hb : Below B w w') : NodesOwn w' B v' (ns ++ ms) S := by
  obtain ⟨cs, fs, a1, a2, a3⟩ := h.row
  have hk : ∀ q, q ∈ S → q < w.heap.size → w'.heap[q]? = w.heap[q]? := fun q hq hl => hb.block q (hS q hq)
  refine ⟨cs ++ ds, fs ++ gs, ?_, ?_, fun q hq => ?_⟩
  · rw [List.length_append]
    exact h1 cs a1
  · exact (a2.keep fun q hq => hk q (a3 q hq) (a2.lt q hq)).append (hm.keep fun q hq => hk q (hgs q hq) (hm.lt q hq))
  · rcases List.mem_append.1 hq with h | h
    · exact a3 q h
    · exact hgs q h

set_option maxHeartbeats 1000000 in
theorem joined_any (kd : Int) (n : Node) (sa : Option Addr) (sn sc : Nat) (f S : List Nat) (B : Nat) (v : Value) (ns : List Node) (w : World) (hO : NodesOwn w B v ns S) (hIn : n.In w (.slice sa sn sc) f) (hf : ∀ q ∈ f, q ∈ S) (hS : ∀ q ∈ S, q < B) (hB : B ≤ w.heap.size) (hl : ns.length ≤ 1000) (hl2 : n.ks.length ≤ 1000) :
    Calls Try.prog 69 #[v, .int .i64 kd, .agg (nodeV n (.slice sa sn sc))] w fun e w' => ∃ ra rn rc, e = .returned (.slice ra rn rc) ∧ NodesOwn w' B (.slice ra rn rc) (ns ++ flatN kd n) S ∧ Below B w w' := by
  cases n with
  | mk k wd ht i ks =>
    obtain ⟨cs, fs, a1, a2, a3⟩ := hO.row
    obtain ⟨va, vc, hv⟩ := own_sl5 a1
    subst hv
    obtain ⟨cs2, fs2, b1, b2, b3⟩ := hIn
    obtain ⟨m, hm⟩ : ∃ m, ns.length = m := ⟨_, rfl⟩
    change ks.length ≤ 1000 at hl2
    rw [hm] at a1 hl ⊢
    have HO : Hid (NodesOwn w B (.slice va m vc) ns S) := hm ▸ hO
    have HS : Hid (∀ q ∈ S, q < B) := hS
    have HA1 : Hid (w.ownsRow B 80 5 (.slice va m vc) m cs) := a1
    have hlt : ∀ q, (Value.slice va m vc).ownBlock = some q → B ≤ q := fun q hq => (World.ownsRow.lt a1 q hq).1
    have HBl : Hid (∀ o w', (w.alloc o).grownBy w' (Value.slice va m vc).ownBlock → Below B w w') := fun o w' hg => by
      have h0 : Below B w (w.alloc o) := (Below.refl B w).alloc hB o
      exact ⟨hg.os.trans h0.os, hg.tape.trans h0.tape, hg.output.trans h0.output, Nat.le_trans h0.size hg.size, fun q hq => (hg.block q (by have := h0.size; omega) fun e => by have := hlt q e.symm; omega).trans (h0.block q hq)⟩
    obtain ⟨R, hR⟩ : ∃ R, flatN kd (.mk k wd ht i ks) = R := ⟨_, rfl⟩
    rw [hR]
    show Calls Try.prog 69 #[.slice va m vc, .int .i64 kd, .agg #[.int .i64 k, .int .i64 wd, .int .i64 ht, .int .i64 i, .slice sa sn sc]] w fun e w' => ∃ ra rn rc, e = .returned (.slice ra rn rc) ∧ NodesOwn w' B (.slice ra rn rc) (ns ++ R) S ∧ Below B w w'
    by_cases hk : k = kd
    · have hk1 : (k == kd) = true := by simpa using hk
      obtain ⟨L, hL⟩ : ∃ L, ks.length = L := ⟨_, rfl⟩
      rw [hL] at b1 hl2
      have HOw : Hid (∀ o, (w.alloc o).ownsRow B 80 5 (.slice va m vc) m cs ∧ (w.alloc o).ownsRow 0 80 5 (.slice sa sn sc) L cs2) := fun o => ⟨a1.alloc o, b1.alloc o⟩
      have HOne : Hid (∀ u ∈ cs2, u.oneCell' = true) := b2.oneCell
      have HEnd : Hid (∀ o v' w', w'.ownsRow B 80 5 v' (m + L) (cs ++ cs2) → (w.alloc o).grownBy w' (Value.slice va m vc).ownBlock → ∃ ra rn rc, v' = .slice ra rn rc ∧ NodesOwn w' B (.slice ra rn rc) (ns ++ R) S ∧ Below B w w') := fun o v' w' h1 h2 => by
        obtain ⟨ra, rc, rfl⟩ := own_sl5 h1
        have hb := HBl.out o w' h2
        refine ⟨ra, _, rc, rfl, ?_, hb⟩
        rw [show R = ks by rw [← hR]; exact if_pos hk]
        have hk' : ∀ q, q ∈ S → w'.heap[q]? = w.heap[q]? := fun q hq => hb.block q (hS q hq)
        refine ⟨cs ++ cs2, fs ++ fs2, by rw [List.length_append, hm, hL]; exact h1, (a2.keep fun q hq => hk' q (a3 q hq)).append (b2.keep fun q hq => hk' q (hf q (by rw [b3]; exact List.mem_append_right _ hq))), fun q hq => ?_⟩
        rcases List.mem_append.1 hq with h | h
        · exact a3 q h
        · exact hf q (by rw [b3]; exact List.mem_append_right _ h)
      clear hk a1 a2 a3 b1 b2 b3 hO hf hlt hm hL HO hR
      go_enter Try.func69, Try.ntmps69
      go_wp2_with (at_builtin; refine wpList_append_row _ rfl (.tmp 11) (.tmp 13) 78 80 rfl (.agg zeroN) 5 56 Try.underlying78 infoNode rfl (by decide) (by decide) B (.slice va m vc) m cs rfl (HOw.out _).1 0 (.slice sa sn sc) L cs2 rfl (HOw.out _).2 HOne.out ?x1 ?x2 ?_; (case x1 => omega); (case x2 => simp; omega); intro v' w6 a1 a2; have he := HEnd.out _ v' w6 a1 a2; obtain ⟨ra, rn, rc, hv', hn6, hb6⟩ := he; subst hv'; have HN6 : Hid (NodesOwn w6 B (.slice ra rn rc) (ns ++ R) S ∧ Below B w w6) := ⟨hn6, hb6⟩; clear a1 a2 hn6 hb6)
      go_ret
      exact ⟨_, _, _, rfl, HN6.out.1, HN6.out.2⟩
    · have hk1 : (k == kd) = false := by simpa using hk
      have HOw : Hid (∀ o, (w.alloc o).ownsRow B 80 5 (.slice va m vc) m cs) := fun o => a1.alloc o
      have HSz : Hid (∀ o, B ≤ (w.alloc o).heap.size) := fun o => by
        show B ≤ _
        have : (w.alloc o).heap.size = w.heap.size + 1 := by simp
        omega
      have HEnd : Hid (∀ o o2 v' w', w'.ownsRow B 80 5 v' (m + 1) (cs ++ nodeL (.mk k wd ht i ks) (.slice sa sn sc)) → ((w.alloc o).alloc o2).grownBy w' (Value.slice va m vc).ownBlock → ∃ ra rn rc, v' = .slice ra rn rc ∧ NodesOwn w' B (.slice ra rn rc) (ns ++ R) S ∧ Below B w w') := fun o o2 v' w' h1 hg => by
        obtain ⟨ra, rc, rfl⟩ := own_sl5 h1
        have hs1 : (w.alloc o).heap.size = w.heap.size + 1 := by simp
        have h0 : Below B w ((w.alloc o).alloc o2) := ((Below.refl B w).alloc hB o).alloc (by omega) o2
        have hb : Below B w w' := ⟨hg.os.trans h0.os, hg.tape.trans h0.tape, hg.output.trans h0.output, Nat.le_trans h0.size hg.size, fun q hq => (hg.block q (by have := h0.size; omega) fun e => by have := hlt q e.symm; omega).trans (h0.block q hq)⟩
        refine ⟨ra, _, rc, rfl, ?_, hb⟩
        rw [show R = [.mk k wd ht i ks] by rw [← hR]; exact if_neg hk]
        have hk' : ∀ q, q ∈ S → w'.heap[q]? = w.heap[q]? := fun q hq => hb.block q (hS q hq)
        have hnode : (Node.mk k wd ht i ks).In w (.slice sa sn sc) f := ⟨cs2, fs2, b1, b2, b3⟩
        refine ⟨cs ++ nodeL (.mk k wd ht i ks) (.slice sa sn sc), fs ++ f, by rw [List.length_append, hm]; exact h1, nodesIn.snoc (hnode.keep fun q hq => hk' q (hf q hq)) (a2.keep fun q hq => hk' q (a3 q hq)), fun q hq => ?_⟩
        rcases List.mem_append.1 hq with h | h
        · exact a3 q h
        · exact hf q h
      clear hk a1 a2 a3 b1 b2 b3 hO hf hlt hm HO hR
      go_enter Try.func69, Try.ntmps69
      go_wp2_with (at_builtin; refine wpList_append_nodeB (w.alloc (.cells #[.int .i64 k, .int .i64 wd, .int .i64 ht, .int .i64 i, .slice sa sn sc] 80)) rfl (.tmp 15) (.tmp 17) rfl B (.slice va m vc) m cs (.mk k wd ht i ks) sa sn sc ?y1 (HOw.out _) ?y2 ?x1 (HSz.out _) ?_; (case y1 => rfl); (case y2 => simp [Act.eval]); (case x1 => omega); intro v' w6 a1 a2; have he := HEnd.out _ _ v' w6 a1 a2; obtain ⟨ra, rn, rc, hv', hn6, hb6⟩ := he; subst hv'; have HN6 : Hid (NodesOwn w6 B (.slice ra rn rc) (ns ++ R) S ∧ Below B w w6) := ⟨hn6, hb6⟩; clear a1 a2 hn6 hb6)
      go_ret
      exact ⟨_, _, _, rfl, HN6.out.1, HN6.out.2⟩

end Go.Proofs.Ytnepemlagnnngaa

namespace Go.Proofs.Ytnepemlagnnngaa
open Go.RowKit
set_option linter.unusedVariables false
set_option maxRecDepth 100000

theorem sized_any (n : Node) (sa : Option Addr) (sn sc : Nat) (id k z : Int) (hk : k = 2 ∨ k = 3) (w : World) : Calls Try.prog 68 #[.agg (nodeV n (.slice sa sn sc)), .int .i64 id, .int .i64 k, .int .i64 z] w fun e w' => e = .returned (.agg #[.int .i64 1, .int .i64 (if k = 2 then z else n.w), .int .i64 (if k = 2 then n.h else z), .int .i64 id, .slice none 0 0]) ∧ Below w.heap.size w w' := by
  have HB : Hid (∀ o1 o2 o3, Below w.heap.size w (((w.alloc o1).alloc o2).alloc o3)) := fun o1 o2 o3 => by
    have s1 : (w.alloc o1).heap.size = w.heap.size + 1 := by simp
    have s2 : ((w.alloc o1).alloc o2).heap.size = w.heap.size + 1 + 1 := by simp
    exact (((Below.refl _ _).alloc (Nat.le_refl _) o1).alloc (by omega) o2).alloc (by omega) o3
  show Calls Try.prog 68 #[.agg #[.int .i64 n.k, .int .i64 n.w, .int .i64 n.h, .int .i64 n.i, .slice sa sn sc], .int .i64 id, .int .i64 k, .int .i64 z] w _
  rcases hk with rfl | rfl
  · simp only [if_true]
    go_enter Try.func68, Try.ntmps68
    go_wp2
    exact bodyPost_ret (v := .agg #[.int .i64 1, .int .i64 z, .int .i64 n.h, .int .i64 id, .slice none 0 0]) (by simp [results, Try.results68, go_sem]) rfl ⟨rfl, HB.out _ _ _⟩
  · simp only [show ¬ ((3 : Int) = 2) by decide, if_false]
    go_enter Try.func68, Try.ntmps68
    go_wp2
    exact bodyPost_ret (v := .agg #[.int .i64 1, .int .i64 n.w, .int .i64 z, .int .i64 id, .slice none 0 0]) (by simp [results, Try.results68, go_sem]) rfl ⟨rfl, HB.out _ _ _⟩

theorem fresh_any (u : Value) (l : List CellV) (id : Int) (B : Nat) (w : World) (h : IOwns w B u (idsOf l)) (h1 : 1 ≤ (idsOf l).length) (h2 : (idsOf l).length ≤ 32) : Calls Try.prog 38 #[u, .int .i64 id] w fun e w' => e = .returned (.int .i64 (joinE l id)) ∧ w = w' := by
  have HH : Hid (Calls Try.prog 37 #[u, .int .i64 id] w fun e w' => e = .returned (.bool (decide (id ∈ idsOf l))) ∧ w = w') := has_any u _ B id w h (by omega) (by intro e; rw [e] at h1; simp at h1)
  obtain ⟨ua, uc, hu⟩ := own_sl5 h
  obtain ⟨m, hm⟩ : ∃ m, (idsOf l).length = m := ⟨_, rfl⟩
  rw [hm] at hu h1 h2
  subst hu
  obtain ⟨c, hc⟩ : ∃ c, decide (id ∈ idsOf l) = c := ⟨_, rfl⟩
  rw [hc] at HH
  have hcc : (idsOf l).contains id = c := by rw [← hc]; exact List.contains_eq_mem id (idsOf l)
  have hjv := joinE_val l id (idB id) c m rfl hcc hm
  obtain ⟨R, hR⟩ : ∃ R, joinE l id = R := ⟨_, rfl⟩
  rw [hR] at hjv ⊢
  have HJ : Hid (R = if idB id = false ∨ c = true then 43 else if m = 32 then 45 else 0) := hjv
  clear h hm hc hcc hjv hR
  by_cases a1 : id < 1
  · have HR : Hid (R = 43) := by
      show R = 43
      rw [HJ.out, if_pos (.inl (by unfold idB; simp; omega))]
    clear HJ HH
    go_enter Try.func38, Try.ntmps38
    go_wp2
    all_goals go_ret
    all_goals exact ⟨by rw [HR.out]; rfl, rfl⟩
  · by_cases a2 : 4611686018427387904 < id
    · have HR : Hid (R = 43) := by
        show R = 43
        rw [HJ.out, if_pos (.inl (by unfold idB; simp; omega))]
      clear HJ HH
      go_enter Try.func38, Try.ntmps38
      go_wp2
      all_goals go_ret
      all_goals exact ⟨by rw [HR.out]; rfl, rfl⟩
    · have hid : idB id = true := by unfold idB; simp; omega
      rw [hid] at HJ
      cases c with
      | true =>
        have HR : Hid (R = 43) := by
          show R = 43
          rw [HJ.out, if_pos (.inr rfl)]
        clear HJ hid
        go_enter Try.func38, Try.ntmps38
        go_wp2_with fail
        refine HH.out.mono ?_
        rintro e w1 ⟨rfl, rfl⟩
        go_wp2
        all_goals go_ret
        all_goals exact ⟨by rw [HR.out]; rfl, rfl⟩
      | false =>
        by_cases h32 : m = 32
        · have HR : Hid (R = 45) := by
            show R = 45
            rw [HJ.out, if_neg (by simp), if_pos h32]
          clear HJ hid
          subst h32
          go_enter Try.func38, Try.ntmps38
          go_wp2_with fail
          refine HH.out.mono ?_
          rintro e w1 ⟨rfl, rfl⟩
          go_wp2
          all_goals go_ret
          all_goals exact ⟨by rw [HR.out]; rfl, rfl⟩
        · have HR : Hid (R = 0) := by
            show R = 0
            rw [HJ.out, if_neg (by simp), if_neg h32]
          have h33 : ¬ (32 : Int) ≤ (m : Int) := by omega
          clear HJ hid h32
          go_enter Try.func38, Try.ntmps38
          go_wp2_with fail
          refine HH.out.mono ?_
          rintro e w1 ⟨rfl, rfl⟩
          go_wp2
          all_goals go_ret
          all_goals exact ⟨by rw [HR.out]; rfl, rfl⟩

end Go.Proofs.Ytnepemlagnnngaa

namespace Go.Proofs.Ytnepemlagnnngaa
open Go.RowKit
set_option linter.unusedVariables false
set_option maxRecDepth 100000

/-- A list of nodes that is being made, from block B on: no node of it reaches the list's own block. -/
def KidsOwn (w : World) (B : Nat) (v : Value) (ns : List Node) : Prop := ∃ cs fs, w.ownsRow B 80 5 v ns.length cs ∧ nodesIn w ns cs fs ∧ ∀ g, v.ownBlock = some g → g ∉ fs
theorem KidsOwn.nil (w : World) (B : Nat) : KidsOwn w B (.slice none 0 0) [] := ⟨[], [], World.ownsRow_nil _ _ _ _, ⟨rfl, rfl⟩, fun g h => by simp⟩
theorem KidsOwn.below {w w' : World} {B : Nat} {v : Value} {ns : List Node} (h : KidsOwn w B v ns) (hb : Below w.heap.size w w') : KidsOwn w' B v ns := by
  obtain ⟨cs, fs, h1, h2, h3⟩ := h
  exact ⟨cs, fs, own_kept5 h1 fun q hq => hb.block q (own_lt5 h1 q hq), h2.below hb, h3⟩
theorem KidsOwn.sl {w : World} {B : Nat} {v : Value} {ns : List Node} (h : KidsOwn w B v ns) : ∃ a c, v = .slice a ns.length c := by
  obtain ⟨cs, fs, h1, _⟩ := h
  exact own_sl5 h1
theorem KidsOwn.lt {w : World} {B : Nat} {v : Value} {ns : List Node} (h : KidsOwn w B v ns) : ∀ g, v.ownBlock = some g → B ≤ g ∧ g < w.heap.size := by
  obtain ⟨cs, fs, h1, _⟩ := h
  exact World.ownsRow.lt h1
theorem KidsOwn.in_ {w : World} {B : Nat} {v : Value} {ns : List Node} (h : KidsOwn w B v ns) (k wd ht i : Int) : ∃ fp, (Node.mk k wd ht i ns).In w v fp := by
  obtain ⟨cs, fs, h1, h2, h3⟩ := h
  refine ⟨v.ownBlock.toList ++ fs, cs, fs, ⟨h1.1, ?_⟩, h2, rfl⟩
  rcases h1.2 with h0 | ⟨g, cap, cur, rfl, hb, r⟩
  · exact .inl h0
  · exact .inr ⟨g, cap, cur, rfl, Nat.zero_le _, r⟩
/-- The list grows by nodes. -/
theorem KidsOwn.grow {w W w' : World} {B : Nat} {v v' : Value} {ns ms : List Node} (h : KidsOwn w B v ns) (hW : Below w.heap.size w W) {ds : List Value} {gs : List Nat} (hm : nodesIn w ms ds gs) (hd : ∀ g, v.ownBlock = some g → g ∉ gs) (h1 : ∀ cs, W.ownsRow B 80 5 v ns.length cs → w'.ownsRow B 80 5 v' (ns.length + ms.length) (cs ++ ds)) (h2 : W.grownBy w' v.ownBlock) (h3 : v'.ownBlock = v.ownBlock ∨ ∃ g, v'.ownBlock = some g ∧ w.heap.size ≤ g) : KidsOwn w' B v' (ns ++ ms) := by
  obtain ⟨cs, fs, a1, a2, a3⟩ := h
  have hk : ∀ q, q < w.heap.size → some q ≠ v.ownBlock → w'.heap[q]? = w.heap[q]? := fun q hq hn => (h2.block q (Nat.lt_of_lt_of_le hq hW.size) hn).trans (hW.block q hq)
  refine ⟨cs ++ ds, fs ++ gs, ?_, ?_, fun g hg hin => ?_⟩
  · rw [List.length_append]
    exact h1 cs (own_kept5 a1 fun q hq => hW.block q (own_lt5 a1 q hq))
  · exact (a2.keep fun q hq => hk q (a2.lt q hq) fun e => a3 q e.symm hq).append (hm.keep fun q hq => hk q (hm.lt q hq) fun e => hd q e.symm hq)
  · rcases h3 with h3 | ⟨g', h3, hge⟩
    · rw [h3] at hg
      rcases List.mem_append.1 hin with h | h
      · exact a3 g hg h
      · exact hd g hg h
    · rw [h3] at hg
      cases hg
      rcases List.mem_append.1 hin with h | h
      · have := a2.lt g h
        omega
      · have := hm.lt g h
        omega
theorem own_same {w : World} {B s : Nat} {e : TypeId} {v : Value} {n : Nat} {cs cs' : List Value} (h : w.ownsRow B e s v n cs) (h' : w.ownsRow B e s v n cs') : cs = cs' := by
  rcases h.2 with ⟨h0, h1⟩ | ⟨g, cap, cur, hv, hb, hg, r1, r2, r3, r4⟩
  · have l1 := h.1
    have l2 := h'.1
    rw [h1, Nat.zero_mul] at l1 l2
    rw [List.length_eq_zero_iff.1 l1, List.length_eq_zero_iff.1 l2]
  · rcases h'.2 with ⟨h0, h1⟩ | ⟨g', cap', cur', hv', hb', hg', s1, s2, s3, s4⟩
    · rw [hv] at h0
      cases h0
    · rw [hv] at hv'
      cases hv'
      rw [hg] at hg'
      cases hg'
      rw [← r4, ← s4]
theorem wpList_append_nodeX {ops : Array Oper} {rest : List Oper} {o : Oper} {a : Act} {Q : Exit → Act → World → Prop} (w : World) (hgd : o.guard = none) (s x : Operand)
    (ho : o.op = .call { callee := .builtin .append, args := #[s, x], argTypes := #[78, 78] })
    (B : Nat) (v : Value) (m : Nat) (cs : List Value) (n : Node) (sa : Option Addr) (sn sc : Nat) (hs : a.eval s = v) (hown : w.ownsRow B 80 5 v m cs) (hx : a.eval x = .slice (some ⟨w.heap.size, 0, none⟩) 1 1) (hlen : m ≤ 1000000) (hB : B ≤ w.heap.size)
    (h : ∀ v' w', (∀ cs, (w.alloc (.cells (nodeV n (.slice sa sn sc)) 80)).ownsRow B 80 5 v m cs → w'.ownsRow B 80 5 v' (m + 1) (cs ++ nodeL n (.slice sa sn sc))) → (w.alloc (.cells (nodeV n (.slice sa sn sc)) 80)).grownBy w' v.ownBlock → (v'.ownBlock = v.ownBlock ∨ ∃ g, v'.ownBlock = some g ∧ w.heap.size ≤ g) → (∃ ra rc, v' = .slice ra (m + 1) rc) → wpList Try.prog ops Q rest (a.put o.dst v') w') : wpList Try.prog ops Q (o :: rest) a (w.alloc (.cells (nodeV n (.slice sa sn sc)) 80)) := by
  obtain ⟨i0, hi, hz0, hz1, hz2⟩ := info_partsL infoNode
  refine wpList_append_own_at _ hgd s x 78 ho B 80 i0 _ 5 56 Try.underlying78 hi hz0 hz1 hz2 rfl (by decide) v m cs hs (World.ownsRow.alloc hown _) ⟨w.heap.size, 0, none⟩ 1 1 (nodeL n (.slice sa sn sc)) hx rfl ?_ ?_ ?_ ?_ ?_ ?_
  · intro j u hu
    rw [show (⟨w.heap.size, 0, none⟩ : Addr).add j = ⟨w.heap.size, j, none⟩ by unfold Addr.add; split <;> simp_all, cell_newL, ← nodeL_get]
    exact hu
  · intro u hu
    have hu' : u ∈ [Value.int .i64 n.k, .int .i64 n.w, .int .i64 n.h, .int .i64 n.i, .slice sa sn sc] := hu
    simp only [List.mem_cons, List.not_mem_nil, or_false] at hu'
    rcases hu' with rfl | rfl | rfl | rfl | rfl <;> rfl
  · unfold maxLen; omega
  · omega
  · have : (w.alloc (.cells (nodeV n (.slice sa sn sc)) 80)).heap.size = w.heap.size + 1 := by simp
    omega
  · intro v' w' h2 h3 _ h5
    refine h v' w' (fun cs' hcs' => ?_) h3 ?_ (own_sl5 h2)
    · have := own_same (World.ownsRow.alloc hown _) hcs'
      subst this
      exact h2
    · rcases h5 with h5 | h5
      · exact .inl h5
      · exact .inr ⟨_, h5, by simp⟩

theorem wpList_append_nodesX {ops : Array Oper} {rest : List Oper} {o : Oper} {a : Act} {Q : Exit → Act → World → Prop} (w : World) (hgd : o.guard = none) (s x : Operand)
    (ho : o.op = .call { callee := .builtin .append, args := #[s, x], argTypes := #[78, 78] })
    (B : Nat) (v : Value) (m : Nat) (cs : List Value) (hs : a.eval s = v) (hown : w.ownsRow B 80 5 v m cs) (u : Value) (l : Nat) (ys : List Value) (hx : a.eval x = u) (hown' : w.ownsRow 0 80 5 u l ys) (hone : ∀ y ∈ ys, y.oneCell' = true) (hlen : m + l ≤ 1000000) (hB : B ≤ w.heap.size)
    (h : ∀ v' w', (∀ cs, w.ownsRow B 80 5 v m cs → w'.ownsRow B 80 5 v' (m + l) (cs ++ ys)) → w.grownBy w' v.ownBlock → (v'.ownBlock = v.ownBlock ∨ ∃ g, v'.ownBlock = some g ∧ w.heap.size ≤ g) → (∃ ra rc, v' = .slice ra (m + l) rc) → wpList Try.prog ops Q rest (a.put o.dst v') w') : wpList Try.prog ops Q (o :: rest) a w := by
  obtain ⟨i0, hi, hz0, hz1, hz2⟩ := info_partsL infoNode
  rcases hown'.2 with ⟨h0, h1⟩ | ⟨g, cap, cur, hu, hb, hg, hc1, hc2, hc3, hc4⟩
  · subst h0 h1
    have hy : ys = [] := List.length_eq_zero_iff.1 (by have := hown'.1; omega)
    subst hy
    refine wpList_append_own_none hgd s x 78 ho B 80 i0 5 Try.underlying78 hi v m cs hs hown hx ?_
    exact h v w (fun cs' h' => by simpa using h') ⟨rfl, rfl, rfl, Nat.le_refl _, fun _ _ _ => rfl⟩ (.inl rfl) (own_sl5 hown)
  · subst hu
    refine wpList_append_own_at _ hgd s x 78 ho B 80 i0 _ 5 56 Try.underlying78 hi hz0 hz1 hz2 rfl (by decide) v m cs hs hown ⟨g, 0, none⟩ l cap ys hx hown'.1 (World.ownsRow.cells hown' rfl) hone ?_ ?_ hB ?_
    · unfold maxLen; omega
    · omega
    · intro v' w' h2 h3 _ h5
      refine h v' w' (fun cs' hcs' => ?_) h3 ?_ (own_sl5 h2)
      · have := own_same hown hcs'
        subst this
        exact h2
      · rcases h5 with h5 | h5
        · exact .inl h5
        · exact .inr ⟨_, h5, Nat.le_refl _⟩

set_option maxHeartbeats 1000000 in
/-- A child, or its children, behind the others. -/
theorem joined_sep (kd : Int) (n : Node) (sa : Option Addr) (sn sc : Nat) (f : List Nat) (B : Nat) (v : Value) (ns : List Node) (w : World) (hO : KidsOwn w B v ns) (hIn : n.In w (.slice sa sn sc) f) (hd : ∀ g, v.ownBlock = some g → g ∉ f) (hB : B ≤ w.heap.size) (hl : ns.length ≤ 1000) (hl2 : n.ks.length ≤ 1000) :
    Calls Try.prog 69 #[v, .int .i64 kd, .agg (nodeV n (.slice sa sn sc))] w fun e w' => ∃ ra rn rc, e = .returned (.slice ra rn rc) ∧ KidsOwn w' B (.slice ra rn rc) (ns ++ flatN kd n) ∧ Below B w w' := by
  cases n with
  | mk k wd ht i ks =>
    have hO0 := hO
    obtain ⟨cs, fs, a1, a2, a3⟩ := hO
    obtain ⟨va, vc, hv⟩ := own_sl5 a1
    subst hv
    obtain ⟨cs2, fs2, b1, b2, b3⟩ := hIn
    obtain ⟨m, hm⟩ : ∃ m, ns.length = m := ⟨_, rfl⟩
    change ks.length ≤ 1000 at hl2
    have hlt : ∀ q, (Value.slice va ns.length vc).ownBlock = some q → B ≤ q := fun q hq => (World.ownsRow.lt a1 q hq).1
    have HBl : Hid (∀ W w', Below w.heap.size w W → W.grownBy w' (Value.slice va ns.length vc).ownBlock → Below B w w') := fun W w' h0 hg => by
      exact ⟨hg.os.trans h0.os, hg.tape.trans h0.tape, hg.output.trans h0.output, Nat.le_trans h0.size hg.size, fun q hq => (hg.block q (by have := h0.size; omega) fun e => by have := hlt q e.symm; omega).trans (h0.block q (by omega))⟩
    obtain ⟨R, hR⟩ : ∃ R, flatN kd (.mk k wd ht i ks) = R := ⟨_, rfl⟩
    rw [hR]
    show Calls Try.prog 69 #[.slice va ns.length vc, .int .i64 kd, .agg #[.int .i64 k, .int .i64 wd, .int .i64 ht, .int .i64 i, .slice sa sn sc]] w fun e w' => ∃ ra rn rc, e = .returned (.slice ra rn rc) ∧ KidsOwn w' B (.slice ra rn rc) (ns ++ R) ∧ Below B w w'
    by_cases hk : k = kd
    · have hk1 : (k == kd) = true := by simpa using hk
      obtain ⟨L, hL⟩ : ∃ L, ks.length = L := ⟨_, rfl⟩
      rw [hL] at b1 hl2
      have HOw : Hid (∀ o, (w.alloc o).ownsRow B 80 5 (.slice va ns.length vc) ns.length cs ∧ (w.alloc o).ownsRow 0 80 5 (.slice sa sn sc) L cs2) := fun o => ⟨a1.alloc o, b1.alloc o⟩
      have HOne : Hid (∀ u ∈ cs2, u.oneCell' = true) := b2.oneCell
      have HEnd : Hid (∀ o v' w', (∀ cs, (w.alloc o).ownsRow B 80 5 (.slice va ns.length vc) ns.length cs → w'.ownsRow B 80 5 v' (ns.length + L) (cs ++ cs2)) → (w.alloc o).grownBy w' (Value.slice va ns.length vc).ownBlock → (v'.ownBlock = (Value.slice va ns.length vc).ownBlock ∨ ∃ g, v'.ownBlock = some g ∧ (w.alloc o).heap.size ≤ g) → KidsOwn w' B v' (ns ++ R) ∧ Below B w w') := fun o v' w' h1 h2 h3 => by
        have h0 : Below w.heap.size w (w.alloc o) := (Below.refl _ _).alloc (Nat.le_refl _) o
        rw [show R = ks by rw [← hR]; exact if_pos hk]
        refine ⟨hO0.grow h0 b2 (fun g hg e => hd g hg (by rw [b3]; exact List.mem_append_right _ e)) (fun cs' h' => by rw [hL]; exact h1 cs' h') h2 ?_, HBl.out _ w' h0 h2⟩
        rcases h3 with h3 | ⟨g, h3, hge⟩
        · exact .inl h3
        · exact .inr ⟨g, h3, Nat.le_trans h0.size hge⟩
      have HSz : Hid (∀ o, B ≤ (w.alloc o).heap.size) := fun o => by
        show B ≤ _
        have : (w.alloc o).heap.size = w.heap.size + 1 := by simp
        omega
      rw [hm] at HOw HEnd hl ⊢
      clear hk a1 a2 a3 b1 b2 b3 hO0 hd hlt hm hL hR HBl
      go_enter Try.func69, Try.ntmps69
      go_wp2_with (at_builtin; refine wpList_append_nodesX _ rfl (.tmp 11) (.tmp 13) rfl B (.slice va m vc) m cs rfl (HOw.out _).1 (.slice sa sn sc) L cs2 rfl (HOw.out _).2 HOne.out ?x1 (HSz.out _) ?_; (case x1 => omega); intro v' w6 a1 a2 a3 a4; have he := HEnd.out _ v' w6 a1 a2 a3; obtain ⟨ra, rc, hv'⟩ := a4; subst hv'; have HN6 : Hid (KidsOwn w6 B (.slice ra (m + L) rc) (ns ++ R) ∧ Below B w w6) := he; clear a1 a2 a3 he)
      go_ret
      exact ⟨_, _, _, rfl, HN6.out.1, HN6.out.2⟩
    · have hk1 : (k == kd) = false := by simpa using hk
      have HOw : Hid (∀ o, (w.alloc o).ownsRow B 80 5 (.slice va ns.length vc) ns.length cs) := fun o => a1.alloc o
      have HSz : Hid (∀ o, B ≤ (w.alloc o).heap.size) := fun o => by
        show B ≤ _
        have : (w.alloc o).heap.size = w.heap.size + 1 := by simp
        omega
      have HEnd : Hid (∀ o v' w', (∀ cs, ((w.alloc o).alloc (.cells (nodeV (.mk k wd ht i ks) (.slice sa sn sc)) 80)).ownsRow B 80 5 (.slice va ns.length vc) ns.length cs → w'.ownsRow B 80 5 v' (ns.length + 1) (cs ++ nodeL (.mk k wd ht i ks) (.slice sa sn sc))) → ((w.alloc o).alloc (.cells (nodeV (.mk k wd ht i ks) (.slice sa sn sc)) 80)).grownBy w' (Value.slice va ns.length vc).ownBlock → (v'.ownBlock = (Value.slice va ns.length vc).ownBlock ∨ ∃ g, v'.ownBlock = some g ∧ (w.alloc o).heap.size ≤ g) → KidsOwn w' B v' (ns ++ R) ∧ Below B w w') := fun o v' w' h1 h2 h3 => by
        have hs1 : (w.alloc o).heap.size = w.heap.size + 1 := by simp
        have h0 : Below w.heap.size w ((w.alloc o).alloc (.cells (nodeV (.mk k wd ht i ks) (.slice sa sn sc)) 80)) := ((Below.refl _ _).alloc (Nat.le_refl _) o).alloc (by omega) _
        rw [show R = [.mk k wd ht i ks] by rw [← hR]; exact if_neg hk]
        have hnode : nodesIn w [.mk k wd ht i ks] (nodeL (.mk k wd ht i ks) (.slice sa sn sc)) f := ⟨.slice sa sn sc, [], f, [], by simp, ⟨cs2, fs2, b1, b2, b3⟩, ⟨rfl, rfl⟩, by simp⟩
        refine ⟨hO0.grow h0 hnode hd h1 h2 ?_, HBl.out _ w' h0 h2⟩
        rcases h3 with h3 | ⟨g, h3, hge⟩
        · exact .inl h3
        · exact .inr ⟨g, h3, by omega⟩
      rw [hm] at HOw HEnd hl ⊢
      clear hk a1 a2 a3 b1 b2 b3 hO0 hd hlt hm hR HBl
      go_enter Try.func69, Try.ntmps69
      go_wp2_with (at_builtin; refine wpList_append_nodeX (w.alloc (.cells #[.int .i64 k, .int .i64 wd, .int .i64 ht, .int .i64 i, .slice sa sn sc] 80)) rfl (.tmp 15) (.tmp 17) rfl B (.slice va m vc) m cs (.mk k wd ht i ks) sa sn sc ?y1 (HOw.out _) ?y2 ?x1 (HSz.out _) ?_; (case y1 => rfl); (case y2 => simp [Act.eval]); (case x1 => omega); intro v' w6 a1 a2 a3 a4; have he := HEnd.out _ v' w6 a1 a2 a3; obtain ⟨ra, rc, hv'⟩ := a4; subst hv'; have HN6 : Hid (KidsOwn w6 B (.slice ra (m + 1) rc) (ns ++ R) ∧ Below B w w6) := he; clear a1 a2 a3 he)
      go_ret
      exact ⟨_, _, _, rfl, HN6.out.1, HN6.out.2⟩

end Go.Proofs.Ytnepemlagnnngaa

namespace Go.Proofs.Ytnepemlagnnngaa
open Go.RowKit
set_option linter.unusedVariables false
set_option maxRecDepth 100000

/-- A list of nodes that is being made, and the blocks that its nodes reach. -/
def KidsF (w : World) (B : Nat) (v : Value) (ns : List Node) (fs : List Nat) : Prop := ∃ cs, w.ownsRow B 80 5 v ns.length cs ∧ nodesIn w ns cs fs ∧ ∀ g, v.ownBlock = some g → g ∉ fs
theorem KidsF.nil (w : World) (B : Nat) : KidsF w B (.slice none 0 0) [] [] := ⟨[], World.ownsRow_nil _ _ _ _, ⟨rfl, rfl⟩, fun g h => by simp⟩
theorem KidsF.below {w w' : World} {B : Nat} {v : Value} {ns : List Node} {fs : List Nat} (h : KidsF w B v ns fs) (hb : Below w.heap.size w w') : KidsF w' B v ns fs := by
  obtain ⟨cs, h1, h2, h3⟩ := h
  exact ⟨cs, own_kept5 h1 fun q hq => hb.block q (own_lt5 h1 q hq), h2.below hb, h3⟩
theorem KidsF.lt {w : World} {B : Nat} {v : Value} {ns : List Node} {fs : List Nat} (h : KidsF w B v ns fs) : ∀ g, v.ownBlock = some g → B ≤ g ∧ g < w.heap.size := by
  obtain ⟨cs, h1, _⟩ := h
  exact World.ownsRow.lt h1
theorem KidsF.in_ {w : World} {B : Nat} {v : Value} {ns : List Node} {fs : List Nat} (h : KidsF w B v ns fs) (k wd ht i : Int) : (Node.mk k wd ht i ns).In w v (v.ownBlock.toList ++ fs) := by
  obtain ⟨cs, h1, h2, h3⟩ := h
  refine ⟨cs, fs, ⟨h1.1, ?_⟩, h2, rfl⟩
  rcases h1.2 with h0 | ⟨g, cap, cur, rfl, hb, r⟩
  · exact .inl h0
  · exact .inr ⟨g, cap, cur, rfl, Nat.zero_le _, r⟩
/-- The list grows by nodes. -/
theorem KidsF.grow {w W w' : World} {B : Nat} {v v' : Value} {ns ms : List Node} {fs : List Nat} (h : KidsF w B v ns fs) (hW : Below w.heap.size w W) {ds : List Value} {gs : List Nat} (hm : nodesIn w ms ds gs) (hd : ∀ g, v.ownBlock = some g → g ∉ gs) (h1 : ∀ cs, W.ownsRow B 80 5 v ns.length cs → w'.ownsRow B 80 5 v' (ns.length + ms.length) (cs ++ ds)) (h2 : W.grownBy w' v.ownBlock) (h3 : v'.ownBlock = v.ownBlock ∨ ∃ g, v'.ownBlock = some g ∧ w.heap.size ≤ g) : KidsF w' B v' (ns ++ ms) (fs ++ gs) := by
  obtain ⟨cs, a1, a2, a3⟩ := h
  have hk : ∀ q, q < w.heap.size → some q ≠ v.ownBlock → w'.heap[q]? = w.heap[q]? := fun q hq hn => (h2.block q (Nat.lt_of_lt_of_le hq hW.size) hn).trans (hW.block q hq)
  refine ⟨cs ++ ds, ?_, ?_, fun g hg hin => ?_⟩
  · rw [List.length_append]
    exact h1 cs (own_kept5 a1 fun q hq => hW.block q (own_lt5 a1 q hq))
  · exact (a2.keep fun q hq => hk q (a2.lt q hq) fun e => a3 q e.symm hq).append (hm.keep fun q hq => hk q (hm.lt q hq) fun e => hd q e.symm hq)
  · rcases h3 with h3 | ⟨g', h3, hge⟩
    · rw [h3] at hg
      rcases List.mem_append.1 hin with h | h
      · exact a3 g hg h
      · exact hd g hg h
    · rw [h3] at hg
      cases hg
      rcases List.mem_append.1 hin with h | h
      · have := a2.lt g h
        omega
      · have := hm.lt g h
        omega

set_option maxHeartbeats 1000000 in
/-- A child, or its children, behind the others. -/
theorem joined_sepF (kd : Int) (n : Node) (sa : Option Addr) (sn sc : Nat) (f : List Nat) (B : Nat) (v : Value) (ns : List Node) (fs : List Nat) (w : World) (hO : KidsF w B v ns fs) (hIn : n.In w (.slice sa sn sc) f) (hd : ∀ g, v.ownBlock = some g → g ∉ f) (hB : B ≤ w.heap.size) (hl : ns.length ≤ 1000) (hl2 : n.ks.length ≤ 1000) :
    Calls Try.prog 69 #[v, .int .i64 kd, .agg (nodeV n (.slice sa sn sc))] w fun e w' => ∃ ra rn rc, e = .returned (.slice ra rn rc) ∧ (∃ gs, (∀ y ∈ gs, y ∈ f) ∧ KidsF w' B (.slice ra rn rc) (ns ++ flatN kd n) (fs ++ gs)) ∧ Below B w w' := by
  cases n with
  | mk k wd ht i ks =>
    have hO0 := hO
    obtain ⟨cs, a1, a2, a3⟩ := hO
    obtain ⟨va, vc, hv⟩ := own_sl5 a1
    subst hv
    obtain ⟨cs2, fs2, b1, b2, b3⟩ := hIn
    obtain ⟨m, hm⟩ : ∃ m, ns.length = m := ⟨_, rfl⟩
    change ks.length ≤ 1000 at hl2
    have hlt : ∀ q, (Value.slice va ns.length vc).ownBlock = some q → B ≤ q := fun q hq => (World.ownsRow.lt a1 q hq).1
    have HBl : Hid (∀ W w', Below w.heap.size w W → W.grownBy w' (Value.slice va ns.length vc).ownBlock → Below B w w') := fun W w' h0 hg => by
      exact ⟨hg.os.trans h0.os, hg.tape.trans h0.tape, hg.output.trans h0.output, Nat.le_trans h0.size hg.size, fun q hq => (hg.block q (by have := h0.size; omega) fun e => by have := hlt q e.symm; omega).trans (h0.block q (by omega))⟩
    obtain ⟨R, hR⟩ : ∃ R, flatN kd (.mk k wd ht i ks) = R := ⟨_, rfl⟩
    rw [hR]
    show Calls Try.prog 69 #[.slice va ns.length vc, .int .i64 kd, .agg #[.int .i64 k, .int .i64 wd, .int .i64 ht, .int .i64 i, .slice sa sn sc]] w fun e w' => ∃ ra rn rc, e = .returned (.slice ra rn rc) ∧ (∃ gs, (∀ y ∈ gs, y ∈ f) ∧ KidsF w' B (.slice ra rn rc) (ns ++ R) (fs ++ gs)) ∧ Below B w w'
    by_cases hk : k = kd
    · have hk1 : (k == kd) = true := by simpa using hk
      obtain ⟨L, hL⟩ : ∃ L, ks.length = L := ⟨_, rfl⟩
      rw [hL] at b1 hl2
      have HOw : Hid (∀ o, (w.alloc o).ownsRow B 80 5 (.slice va ns.length vc) ns.length cs ∧ (w.alloc o).ownsRow 0 80 5 (.slice sa sn sc) L cs2) := fun o => ⟨a1.alloc o, b1.alloc o⟩
      have HOne : Hid (∀ u ∈ cs2, u.oneCell' = true) := b2.oneCell
      have HEnd : Hid (∀ o v' w', (∀ cs, (w.alloc o).ownsRow B 80 5 (.slice va ns.length vc) ns.length cs → w'.ownsRow B 80 5 v' (ns.length + L) (cs ++ cs2)) → (w.alloc o).grownBy w' (Value.slice va ns.length vc).ownBlock → (v'.ownBlock = (Value.slice va ns.length vc).ownBlock ∨ ∃ g, v'.ownBlock = some g ∧ (w.alloc o).heap.size ≤ g) → (∃ gs, (∀ y ∈ gs, y ∈ f) ∧ KidsF w' B v' (ns ++ R) (fs ++ gs)) ∧ Below B w w') := fun o v' w' h1 h2 h3 => by
        have h0 : Below w.heap.size w (w.alloc o) := (Below.refl _ _).alloc (Nat.le_refl _) o
        rw [show R = ks by rw [← hR]; exact if_pos hk]
        refine ⟨⟨fs2, fun y hy => by rw [b3]; exact List.mem_append_right _ hy, hO0.grow h0 b2 (fun g hg e => hd g hg (by rw [b3]; exact List.mem_append_right _ e)) (fun cs' h' => by rw [hL]; exact h1 cs' h') h2 ?_⟩, HBl.out _ w' h0 h2⟩
        rcases h3 with h3 | ⟨g, h3, hge⟩
        · exact .inl h3
        · exact .inr ⟨g, h3, Nat.le_trans h0.size hge⟩
      have HSz : Hid (∀ o, B ≤ (w.alloc o).heap.size) := fun o => by
        show B ≤ _
        have : (w.alloc o).heap.size = w.heap.size + 1 := by simp
        omega
      rw [hm] at HOw HEnd hl ⊢
      clear hk a1 a2 a3 b1 b2 b3 hO0 hd hlt hm hL hR HBl
      go_enter Try.func69, Try.ntmps69
      go_wp2_with (at_builtin; refine wpList_append_nodesX _ rfl (.tmp 11) (.tmp 13) rfl B (.slice va m vc) m cs rfl (HOw.out _).1 (.slice sa sn sc) L cs2 rfl (HOw.out _).2 HOne.out ?x1 (HSz.out _) ?_; (case x1 => omega); intro v' w6 a1 a2 a3 a4; have he := HEnd.out _ v' w6 a1 a2 a3; obtain ⟨ra, rc, hv'⟩ := a4; subst hv'; have HN6 : Hid ((∃ gs, (∀ y ∈ gs, y ∈ f) ∧ KidsF w6 B (.slice ra (m + L) rc) (ns ++ R) (fs ++ gs)) ∧ Below B w w6) := he; clear a1 a2 a3 he)
      go_ret
      exact ⟨_, _, _, rfl, HN6.out.1, HN6.out.2⟩
    · have hk1 : (k == kd) = false := by simpa using hk
      have HOw : Hid (∀ o, (w.alloc o).ownsRow B 80 5 (.slice va ns.length vc) ns.length cs) := fun o => a1.alloc o
      have HSz : Hid (∀ o, B ≤ (w.alloc o).heap.size) := fun o => by
        show B ≤ _
        have : (w.alloc o).heap.size = w.heap.size + 1 := by simp
        omega
      have HEnd : Hid (∀ o v' w', (∀ cs, ((w.alloc o).alloc (.cells (nodeV (.mk k wd ht i ks) (.slice sa sn sc)) 80)).ownsRow B 80 5 (.slice va ns.length vc) ns.length cs → w'.ownsRow B 80 5 v' (ns.length + 1) (cs ++ nodeL (.mk k wd ht i ks) (.slice sa sn sc))) → ((w.alloc o).alloc (.cells (nodeV (.mk k wd ht i ks) (.slice sa sn sc)) 80)).grownBy w' (Value.slice va ns.length vc).ownBlock → (v'.ownBlock = (Value.slice va ns.length vc).ownBlock ∨ ∃ g, v'.ownBlock = some g ∧ (w.alloc o).heap.size ≤ g) → (∃ gs, (∀ y ∈ gs, y ∈ f) ∧ KidsF w' B v' (ns ++ R) (fs ++ gs)) ∧ Below B w w') := fun o v' w' h1 h2 h3 => by
        have hs1 : (w.alloc o).heap.size = w.heap.size + 1 := by simp
        have h0 : Below w.heap.size w ((w.alloc o).alloc (.cells (nodeV (.mk k wd ht i ks) (.slice sa sn sc)) 80)) := ((Below.refl _ _).alloc (Nat.le_refl _) o).alloc (by omega) _
        rw [show R = [.mk k wd ht i ks] by rw [← hR]; exact if_neg hk]
        have hnode : nodesIn w [.mk k wd ht i ks] (nodeL (.mk k wd ht i ks) (.slice sa sn sc)) f := ⟨.slice sa sn sc, [], f, [], by simp, ⟨cs2, fs2, b1, b2, b3⟩, ⟨rfl, rfl⟩, by simp⟩
        refine ⟨⟨f, fun y hy => hy, hO0.grow h0 hnode hd h1 h2 ?_⟩, HBl.out _ w' h0 h2⟩
        rcases h3 with h3 | ⟨g, h3, hge⟩
        · exact .inl h3
        · exact .inr ⟨g, h3, by omega⟩
      rw [hm] at HOw HEnd hl ⊢
      clear hk a1 a2 a3 b1 b2 b3 hO0 hd hlt hm hR HBl
      go_enter Try.func69, Try.ntmps69
      go_wp2_with (at_builtin; refine wpList_append_nodeX (w.alloc (.cells #[.int .i64 k, .int .i64 wd, .int .i64 ht, .int .i64 i, .slice sa sn sc] 80)) rfl (.tmp 15) (.tmp 17) rfl B (.slice va m vc) m cs (.mk k wd ht i ks) sa sn sc ?y1 (HOw.out _) ?y2 ?x1 (HSz.out _) ?_; (case y1 => rfl); (case y2 => simp [Act.eval]); (case x1 => omega); intro v' w6 a1 a2 a3 a4; have he := HEnd.out _ v' w6 a1 a2 a3; obtain ⟨ra, rc, hv'⟩ := a4; subst hv'; have HN6 : Hid ((∃ gs, (∀ y ∈ gs, y ∈ f) ∧ KidsF w6 B (.slice ra (m + 1) rc) (ns ++ R) (fs ++ gs)) ∧ Below B w w6) := he; clear a1 a2 a3 he)
      go_ret
      exact ⟨_, _, _, rfl, HN6.out.1, HN6.out.2⟩

end Go.Proofs.Ytnepemlagnnngaa
