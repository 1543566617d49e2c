/-
  Layouts: the document's joined, pair, sized, fresh.
  Layouts: the document's pair, sized, fresh.
-/
import Derived.Test.YtfmlebimlacdpaaCFa
namespace Go.Proofs.Ytfmlebimlacdpaa
open Go.RowKit
set_option linter.unusedVariables false
set_option maxRecDepth 100000

def flatN (k : Int) (n : Node) : List Node := if n.k = k then n.ks else [n]
theorem nodesOf_append : ∀ (a b : List Tree), nodesOf (a ++ b) = nodesOf a ++ nodesOf b
  | [], b => rfl
  | t :: a, b => by
    show nodeOf t :: nodesOf (a ++ b) = nodeOf t :: (nodesOf a ++ nodesOf b)
    rw [nodesOf_append a b]
theorem flatN_of (k : Int) (hk : k = 2 ∨ k = 3) (t : Tree) : flatN k (nodeOf t) = nodesOf (flatT k t) := by
  cases t with
  | leaf b p =>
    show (if (1 : Int) = k then [] else [Node.mk 1 b.w b.h p []]) = [Node.mk 1 b.w b.h p []]
    rw [if_neg (by omega)]
  | split b k' ts =>
    show (if k' = k then nodesOf ts else [Node.mk k' b.w b.h 0 (nodesOf ts)]) = nodesOf (if k' = k then ts else [.split b k' ts])
    split <;> rfl

theorem wpList_append_nodeB {ops : Array Oper} {rest : List Oper} {o : Oper} {a : Act} {Q : Exit → Act → World → Prop} (w : World) (hgd : o.guard = none) (s x : Operand)
    (ho : o.op = .call { callee := .builtin .append, args := #[s, x], argTypes := #[71, 71] })
    (B : Nat) (v : Value) (m : Nat) (cs : List Value) (n : Node) (sa : Option Addr) (sn sc : Nat) (hs : a.eval s = v) (hown : w.ownsRow B 73 5 v m cs) (hx : a.eval x = .slice (some ⟨w.heap.size, 0, none⟩) 1 1) (hlen : m ≤ 1000000) (hB : B ≤ w.heap.size)
    (h : ∀ v' w', w'.ownsRow B 73 5 v' (m + 1) (cs ++ nodeL n (.slice sa sn sc)) → (w.alloc (.cells (nodeV n (.slice sa sn sc)) 73)).grownBy w' v.ownBlock → wpList Try.prog ops Q rest (a.put o.dst v') w') : wpList Try.prog ops Q (o :: rest) a (w.alloc (.cells (nodeV n (.slice sa sn sc)) 73)) := by
  obtain ⟨i0, hi, hz0, hz1, hz2⟩ := info_partsL infoNode
  refine wpList_append_own_at _ hgd s x 71 ho B 73 i0 _ 5 56 Try.underlying71 hi hz0 hz1 hz2 rfl (by decide) v m cs hs (World.ownsRow.alloc hown _) ⟨w.heap.size, 0, none⟩ 1 1 (nodeL n (.slice sa sn sc)) hx rfl ?_ ?_ ?_ ?_ ?_ ?_
  · intro j u hu
    rw [show (⟨w.heap.size, 0, none⟩ : Addr).add j = ⟨w.heap.size, j, none⟩ by unfold Addr.add; split <;> simp_all, cell_newL, ← nodeL_get]
    exact hu
  · intro u hu
    have hu' : u ∈ [Value.int .i64 n.k, .int .i64 n.w, .int .i64 n.h, .int .i64 n.i, .slice sa sn sc] := hu
    simp only [List.mem_cons, List.not_mem_nil, or_false] at hu'
    rcases hu' with rfl | rfl | rfl | rfl | rfl <;> rfl
  · unfold maxLen; omega
  · omega
  · have : (w.alloc (.cells (nodeV n (.slice sa sn sc)) 73)).heap.size = w.heap.size + 1 := by simp
    omega
  · intro v' w' h2 h3 _ _
    exact h v' w' h2 h3

/-- A list of nodes that is being made, from block B on. -/
structure NodesOwn (w : World) (B : Nat) (v : Value) (ns : List Node) (S : List Nat) : Prop where
  row : ∃ cs fs, w.ownsRow B 73 5 v ns.length cs ∧ nodesIn w ns cs fs ∧ ∀ q ∈ fs, q ∈ S
theorem NodesOwn.keep {w w' : World} {B : Nat} {v : Value} {ns : List Node} {S : List Nat} (h : NodesOwn w B v ns S) (hk : ∀ q, B ≤ q ∨ q ∈ S → q < w.heap.size → w'.heap[q]? = w.heap[q]?) : NodesOwn w' B v ns S := by
  obtain ⟨cs, fs, h1, h2, h3⟩ := h.row
  exact ⟨cs, fs, own_kept5 h1 fun q hq => hk q (.inl (World.ownsRow.lt h1 q (by simpa using hq)).1) (own_lt5 h1 q hq), h2.keep fun q hq => hk q (.inr (h3 q hq)) (h2.lt q hq), h3⟩
theorem nodesIn.append {W : World} : ∀ {ns : List Node} {cs : List Value} {fs : List Nat} {ms : List Node} {ds : List Value} {gs : List Nat}, nodesIn W ns cs fs → nodesIn W ms ds gs → nodesIn W (ns ++ ms) (cs ++ ds) (fs ++ gs)
  | [], cs, fs, ms, ds, gs, h, h2 => by
    obtain ⟨rfl, rfl⟩ := h
    exact h2
  | a :: ns, cs, fs, ms, ds, gs, h, h2 => by
    obtain ⟨sl1, cs', f1, f', rfl, h3, h4, rfl⟩ := h
    exact ⟨sl1, cs' ++ ds, f1, f' ++ gs, by simp, h3, nodesIn.append h4 h2, by simp⟩
theorem NodesOwn.more {w w' : World} {B : Nat} {v v' : Value} {ns ms : List Node} {S : List Nat} (h : NodesOwn w B v ns S) {ds : List Value} {gs : List Nat} (hm : nodesIn w ms ds gs) (hgs : ∀ q ∈ gs, q ∈ S) (hS : ∀ q ∈ S, q < B) (h1 : ∀ cs, w.ownsRow B 73 5 v ns.length cs → w'.ownsRow B 73 5 v' (ns.length + ms.length) (cs ++ ds)) (hb : Below B w w') : NodesOwn w' B v' (ns ++ ms) S := by
  obtain ⟨cs, fs, a1, a2, a3⟩ := h.row
  have hk : ∀ q, q ∈ S → q < w.heap.size → w'.heap[q]? = w.heap[q]? := fun q hq hl => hb.block q (hS q hq)
  refine ⟨cs ++ ds, fs ++ gs, ?_, ?_, fun q hq => ?_⟩
  · rw [List.length_append]
    exact h1 cs a1
  · exact (a2.keep fun q hq => hk q (a3 q hq) (a2.lt q hq)).append (hm.keep fun q hq => hk q (hgs q hq) (hm.lt q hq))
  · rcases List.mem_append.1 hq with h | h
    · exact a3 q h
    · exact hgs q h

set_option maxHeartbeats 1000000 in
theorem joined_any (kd : Int) (n : Node) (sa : Option Addr) (sn sc : Nat) (f S : List Nat) (B : Nat) (v : Value) (ns : List Node) (w : World) (hO : NodesOwn w B v ns S) (hIn : n.In w (.slice sa sn sc) f) (hf : ∀ q ∈ f, q ∈ S) (hS : ∀ q ∈ S, q < B) (hB : B ≤ w.heap.size) (hl : ns.length ≤ 1000) (hl2 : n.ks.length ≤ 1000) :
    Calls Try.prog 75 #[v, .int .i64 kd, .agg (nodeV n (.slice sa sn sc))] w fun e w' => ∃ ra rn rc, e = .returned (.slice ra rn rc) ∧ NodesOwn w' B (.slice ra rn rc) (ns ++ flatN kd n) S ∧ Below B w w' := by
  cases n with
  | mk k wd ht i ks =>
    obtain ⟨cs, fs, a1, a2, a3⟩ := hO.row
    obtain ⟨va, vc, hv⟩ := own_sl5 a1
    subst hv
    obtain ⟨cs2, fs2, b1, b2, b3⟩ := hIn
    obtain ⟨m, hm⟩ : ∃ m, ns.length = m := ⟨_, rfl⟩
    change ks.length ≤ 1000 at hl2
    rw [hm] at a1 hl ⊢
    have HO : Hid (NodesOwn w B (.slice va m vc) ns S) := hm ▸ hO
    have HS : Hid (∀ q ∈ S, q < B) := hS
    have HA1 : Hid (w.ownsRow B 73 5 (.slice va m vc) m cs) := a1
    have hlt : ∀ q, (Value.slice va m vc).ownBlock = some q → B ≤ q := fun q hq => (World.ownsRow.lt a1 q hq).1
    have HBl : Hid (∀ o w', (w.alloc o).grownBy w' (Value.slice va m vc).ownBlock → Below B w w') := fun o w' hg => by
      have h0 : Below B w (w.alloc o) := (Below.refl B w).alloc hB o
      exact ⟨hg.os.trans h0.os, hg.tape.trans h0.tape, hg.output.trans h0.output, Nat.le_trans h0.size hg.size, fun q hq => (hg.block q (by have := h0.size; omega) fun e => by have := hlt q e.symm; omega).trans (h0.block q hq)⟩
    obtain ⟨R, hR⟩ : ∃ R, flatN kd (.mk k wd ht i ks) = R := ⟨_, rfl⟩
    rw [hR]
    show Calls Try.prog 75 #[.slice va m vc, .int .i64 kd, .agg #[.int .i64 k, .int .i64 wd, .int .i64 ht, .int .i64 i, .slice sa sn sc]] w fun e w' => ∃ ra rn rc, e = .returned (.slice ra rn rc) ∧ NodesOwn w' B (.slice ra rn rc) (ns ++ R) S ∧ Below B w w'
    by_cases hk : k = kd
    · have hk1 : (k == kd) = true := by simpa using hk
      obtain ⟨L, hL⟩ : ∃ L, ks.length = L := ⟨_, rfl⟩
      rw [hL] at b1 hl2
      have HOw : Hid (∀ o, (w.alloc o).ownsRow B 73 5 (.slice va m vc) m cs ∧ (w.alloc o).ownsRow 0 73 5 (.slice sa sn sc) L cs2) := fun o => ⟨a1.alloc o, b1.alloc o⟩
      have HOne : Hid (∀ u ∈ cs2, u.oneCell' = true) := b2.oneCell
      have HEnd : Hid (∀ o v' w', w'.ownsRow B 73 5 v' (m + L) (cs ++ cs2) → (w.alloc o).grownBy w' (Value.slice va m vc).ownBlock → ∃ ra rn rc, v' = .slice ra rn rc ∧ NodesOwn w' B (.slice ra rn rc) (ns ++ R) S ∧ Below B w w') := fun o v' w' h1 h2 => by
        obtain ⟨ra, rc, rfl⟩ := own_sl5 h1
        have hb := HBl.out o w' h2
        refine ⟨ra, _, rc, rfl, ?_, hb⟩
        rw [show R = ks by rw [← hR]; exact if_pos hk]
        have hk' : ∀ q, q ∈ S → w'.heap[q]? = w.heap[q]? := fun q hq => hb.block q (hS q hq)
        refine ⟨cs ++ cs2, fs ++ fs2, by rw [List.length_append, hm, hL]; exact h1, (a2.keep fun q hq => hk' q (a3 q hq)).append (b2.keep fun q hq => hk' q (hf q (by rw [b3]; exact List.mem_append_right _ hq))), fun q hq => ?_⟩
        rcases List.mem_append.1 hq with h | h
        · exact a3 q h
        · exact hf q (by rw [b3]; exact List.mem_append_right _ h)
      clear hk a1 a2 a3 b1 b2 b3 hO hf hlt hm hL HO hR
      go_enter Try.func75, Try.ntmps75
      go_wp2_with (at_builtin; refine wpList_append_row _ rfl (.tmp 11) (.tmp 13) 71 73 rfl (.agg zeroN) 5 56 Try.underlying71 infoNode rfl (by decide) (by decide) B (.slice va m vc) m cs rfl (HOw.out _).1 0 (.slice sa sn sc) L cs2 rfl (HOw.out _).2 HOne.out ?x1 ?x2 ?_; (case x1 => omega); (case x2 => simp; omega); intro v' w6 a1 a2; have he := HEnd.out _ v' w6 a1 a2; obtain ⟨ra, rn, rc, hv', hn6, hb6⟩ := he; subst hv'; have HN6 : Hid (NodesOwn w6 B (.slice ra rn rc) (ns ++ R) S ∧ Below B w w6) := ⟨hn6, hb6⟩; clear a1 a2 hn6 hb6)
      go_ret
      exact ⟨_, _, _, rfl, HN6.out.1, HN6.out.2⟩
    · have hk1 : (k == kd) = false := by simpa using hk
      have HOw : Hid (∀ o, (w.alloc o).ownsRow B 73 5 (.slice va m vc) m cs) := fun o => a1.alloc o
      have HSz : Hid (∀ o, B ≤ (w.alloc o).heap.size) := fun o => by
        show B ≤ _
        have : (w.alloc o).heap.size = w.heap.size + 1 := by simp
        omega
      have HEnd : Hid (∀ o o2 v' w', w'.ownsRow B 73 5 v' (m + 1) (cs ++ nodeL (.mk k wd ht i ks) (.slice sa sn sc)) → ((w.alloc o).alloc o2).grownBy w' (Value.slice va m vc).ownBlock → ∃ ra rn rc, v' = .slice ra rn rc ∧ NodesOwn w' B (.slice ra rn rc) (ns ++ R) S ∧ Below B w w') := fun o o2 v' w' h1 hg => by
        obtain ⟨ra, rc, rfl⟩ := own_sl5 h1
        have hs1 : (w.alloc o).heap.size = w.heap.size + 1 := by simp
        have h0 : Below B w ((w.alloc o).alloc o2) := ((Below.refl B w).alloc hB o).alloc (by omega) o2
        have hb : Below B w w' := ⟨hg.os.trans h0.os, hg.tape.trans h0.tape, hg.output.trans h0.output, Nat.le_trans h0.size hg.size, fun q hq => (hg.block q (by have := h0.size; omega) fun e => by have := hlt q e.symm; omega).trans (h0.block q hq)⟩
        refine ⟨ra, _, rc, rfl, ?_, hb⟩
        rw [show R = [.mk k wd ht i ks] by rw [← hR]; exact if_neg hk]
        have hk' : ∀ q, q ∈ S → w'.heap[q]? = w.heap[q]? := fun q hq => hb.block q (hS q hq)
        have hnode : (Node.mk k wd ht i ks).In w (.slice sa sn sc) f := ⟨cs2, fs2, b1, b2, b3⟩
        refine ⟨cs ++ nodeL (.mk k wd ht i ks) (.slice sa sn sc), fs ++ f, by rw [List.length_append, hm]; exact h1, nodesIn.snoc (hnode.keep fun q hq => hk' q (hf q hq)) (a2.keep fun q hq => hk' q (a3 q hq)), fun q hq => ?_⟩
        rcases List.mem_append.1 hq with h | h
        · exact a3 q h
        · exact hf q h
      clear hk a1 a2 a3 b1 b2 b3 hO hf hlt hm HO hR
      go_enter Try.func75, Try.ntmps75
      go_wp2_with (at_builtin; refine wpList_append_nodeB (w.alloc (.cells #[.int .i64 k, .int .i64 wd, .int .i64 ht, .int .i64 i, .slice sa sn sc] 73)) rfl (.tmp 15) (.tmp 17) rfl B (.slice va m vc) m cs (.mk k wd ht i ks) sa sn sc ?y1 (HOw.out _) ?y2 ?x1 (HSz.out _) ?_; (case y1 => rfl); (case y2 => simp [Act.eval]); (case x1 => omega); intro v' w6 a1 a2; have he := HEnd.out _ _ v' w6 a1 a2; obtain ⟨ra, rn, rc, hv', hn6, hb6⟩ := he; subst hv'; have HN6 : Hid (NodesOwn w6 B (.slice ra rn rc) (ns ++ R) S ∧ Below B w w6) := ⟨hn6, hb6⟩; clear a1 a2 hn6 hb6)
      go_ret
      exact ⟨_, _, _, rfl, HN6.out.1, HN6.out.2⟩

end Go.Proofs.Ytfmlebimlacdpaa

namespace Go.Proofs.Ytfmlebimlacdpaa
open Go.RowKit
set_option linter.unusedVariables false
set_option maxRecDepth 100000

theorem sized_any (n : Node) (sa : Option Addr) (sn sc : Nat) (id k z : Int) (hk : k = 2 ∨ k = 3) (w : World) : Calls Try.prog 58 #[.agg (nodeV n (.slice sa sn sc)), .int .i64 id, .int .i64 k, .int .i64 z] w fun e w' => e = .returned (.agg #[.int .i64 1, .int .i64 (if k = 2 then z else n.w), .int .i64 (if k = 2 then n.h else z), .int .i64 id, .slice none 0 0]) ∧ Below w.heap.size w w' := by
  have HB : Hid (∀ o1 o2 o3, Below w.heap.size w (((w.alloc o1).alloc o2).alloc o3)) := fun o1 o2 o3 => by
    have s1 : (w.alloc o1).heap.size = w.heap.size + 1 := by simp
    have s2 : ((w.alloc o1).alloc o2).heap.size = w.heap.size + 1 + 1 := by simp
    exact (((Below.refl _ _).alloc (Nat.le_refl _) o1).alloc (by omega) o2).alloc (by omega) o3
  show Calls Try.prog 58 #[.agg #[.int .i64 n.k, .int .i64 n.w, .int .i64 n.h, .int .i64 n.i, .slice sa sn sc], .int .i64 id, .int .i64 k, .int .i64 z] w _
  rcases hk with rfl | rfl
  · simp only [if_true]
    go_enter Try.func58, Try.ntmps58
    go_wp2
    exact bodyPost_ret (v := .agg #[.int .i64 1, .int .i64 z, .int .i64 n.h, .int .i64 id, .slice none 0 0]) (by simp [results, Try.results58, go_sem]) rfl ⟨rfl, HB.out _ _ _⟩
  · simp only [show ¬ ((3 : Int) = 2) by decide, if_false]
    go_enter Try.func58, Try.ntmps58
    go_wp2
    exact bodyPost_ret (v := .agg #[.int .i64 1, .int .i64 n.w, .int .i64 z, .int .i64 id, .slice none 0 0]) (by simp [results, Try.results58, go_sem]) rfl ⟨rfl, HB.out _ _ _⟩

theorem fresh_any (u : Value) (l : List CellV) (id : Int) (B : Nat) (w : World) (h : IOwns w B u (idsOf l)) (h1 : 1 ≤ (idsOf l).length) (h2 : (idsOf l).length ≤ 32) : Calls Try.prog 39 #[u, .int .i64 id] w fun e w' => e = .returned (.int .i64 (joinE l id)) ∧ w = w' := by
  have HH : Hid (Calls Try.prog 38 #[u, .int .i64 id] w fun e w' => e = .returned (.bool (decide (id ∈ idsOf l))) ∧ w = w') := has_any u _ B id w h (by omega) (by intro e; rw [e] at h1; simp at h1)
  obtain ⟨ua, uc, hu⟩ := own_sl5 h
  obtain ⟨m, hm⟩ : ∃ m, (idsOf l).length = m := ⟨_, rfl⟩
  rw [hm] at hu h1 h2
  subst hu
  obtain ⟨c, hc⟩ : ∃ c, decide (id ∈ idsOf l) = c := ⟨_, rfl⟩
  rw [hc] at HH
  have hcc : (idsOf l).contains id = c := by rw [← hc]; exact List.contains_eq_mem id (idsOf l)
  have hjv := joinE_val l id (idB id) c m rfl hcc hm
  obtain ⟨R, hR⟩ : ∃ R, joinE l id = R := ⟨_, rfl⟩
  rw [hR] at hjv ⊢
  have HJ : Hid (R = if idB id = false ∨ c = true then 43 else if m = 32 then 45 else 0) := hjv
  clear h hm hc hcc hjv hR
  by_cases a1 : id < 1
  · have HR : Hid (R = 43) := by
      show R = 43
      rw [HJ.out, if_pos (.inl (by unfold idB; simp; omega))]
    clear HJ HH
    go_enter Try.func39, Try.ntmps39
    go_wp2
    all_goals go_ret
    all_goals exact ⟨by rw [HR.out]; rfl, rfl⟩
  · by_cases a2 : 4611686018427387904 < id
    · have HR : Hid (R = 43) := by
        show R = 43
        rw [HJ.out, if_pos (.inl (by unfold idB; simp; omega))]
      clear HJ HH
      go_enter Try.func39, Try.ntmps39
      go_wp2
      all_goals go_ret
      all_goals exact ⟨by rw [HR.out]; rfl, rfl⟩
    · have hid : idB id = true := by unfold idB; simp; omega
      rw [hid] at HJ
      cases c with
      | true =>
        have HR : Hid (R = 43) := by
          show R = 43
          rw [HJ.out, if_pos (.inr rfl)]
        clear HJ hid
        go_enter Try.func39, Try.ntmps39
        go_wp2_with fail
        refine HH.out.mono ?_
        rintro e w1 ⟨rfl, rfl⟩
        go_wp2
        all_goals go_ret
        all_goals exact ⟨by rw [HR.out]; rfl, rfl⟩
      | false =>
        by_cases h32 : m = 32
        · have HR : Hid (R = 45) := by
            show R = 45
            rw [HJ.out, if_neg (by simp), if_pos h32]
          clear HJ hid
          subst h32
          go_enter Try.func39, Try.ntmps39
          go_wp2_with fail
          refine HH.out.mono ?_
          rintro e w1 ⟨rfl, rfl⟩
          go_wp2
          all_goals go_ret
          all_goals exact ⟨by rw [HR.out]; rfl, rfl⟩
        · have HR : Hid (R = 0) := by
            show R = 0
            rw [HJ.out, if_neg (by simp), if_neg h32]
          have h33 : ¬ (32 : Int) ≤ (m : Int) := by omega
          clear HJ hid h32
          go_enter Try.func39, Try.ntmps39
          go_wp2_with fail
          refine HH.out.mono ?_
          rintro e w1 ⟨rfl, rfl⟩
          go_wp2
          all_goals go_ret
          all_goals exact ⟨by rw [HR.out]; rfl, rfl⟩

end Go.Proofs.Ytfmlebimlacdpaa
