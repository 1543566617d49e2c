/-
  Layouts: the document's cut, of a pane; and of every tree.
  Layouts: the document's cell.
  Layouts: the document's cut, of the pane itself; and of every tree.
-/
import Derived.Test.YtnepemlagnnngaaCCu
import Derived.Test.YtnepemlagnnngaaCWa
namespace Go.Proofs.Ytnepemlagnnngaa
open Go.RowKit
set_option linter.unusedVariables false
set_option maxRecDepth 100000

theorem pair_cut {q k n id : Int} {bf : Bool} {bl : Box} (hk : k = 2 ∨ k = 3) (hC : CutOk q k n id bf bl) (hls : (Tree.leaf bl q).sound = true) (hn : 1 ≤ n ∧ n ≤ bl.ext k - 2) (w : World) :
    Calls Try.prog 67 #[.int .i64 k, .agg #[.int .i64 1, .int .i64 (bl.str k (-n - 1)).w, .int .i64 (bl.str k (-n - 1)).h, .int .i64 q, .slice none 0 0], .agg #[.int .i64 1, .int .i64 (bl.with k n).w, .int .i64 (bl.with k n).h, .int .i64 id, .slice none 0 0], .bool bf] w (StrN (cutT q k n id bf bl) [] w) := by
  have hB := hC.beside
  have hsd := (Tree.leaf bl q).sound_sides hls
  change (1 ≤ bl.w ∧ bl.w ≤ 1000) ∧ (1 ≤ bl.h ∧ bl.h ≤ 1000) at hsd
  have hnd := hB.node
  obtain ⟨A, hA⟩ : ∃ A, bl.str k (-n - 1) = A := ⟨_, rfl⟩
  obtain ⟨B, hBx⟩ : ∃ B, bl.with k n = B := ⟨_, rfl⟩
  have hnum : ((0 ≤ A.w ∧ A.w ≤ 1000) ∧ (0 ≤ A.h ∧ A.h ≤ 1000)) ∧ ((0 ≤ B.w ∧ B.w ≤ 1000) ∧ (0 ≤ B.h ∧ B.h ≤ 1000)) ∧ (k = 2 → B.h = A.h) ∧ (k = 3 → B.w = A.w) := by
    rw [← hA, ← hBx]
    rcases hk with rfl | rfl
    · unfold Box.ext at hn
      simp only [if_true] at hn
      simp [Box.with, Box.str, Box.ext]
      omega
    · unfold Box.ext at hn
      simp at hn
      simp [Box.with, Box.str, Box.ext]
      omega
  unfold cutT
  rw [hA, hBx] at hnd ⊢
  have hLa : (Node.mk 1 A.w A.h q []).In w (.slice none 0 0) [] := ⟨[], [], World.ownsRow_nil _ _ _ _, ⟨rfl, rfl⟩, rfl⟩
  have hLb : (Node.mk 1 B.w B.h id []).In w (.slice none 0 0) [] := ⟨[], [], World.ownsRow_nil _ _ _ _, ⟨rfl, rfl⟩, rfl⟩
  have key : ∀ (N : Node), N = nodeOf (besideT k bf (.leaf A q) (.leaf B id)) → ∀ e w', PairN N ([] ++ []) w e w' → StrN (besideT k bf (.leaf A q) (.leaf B id)) [] w e w' := by
    rintro N rfl e w' ⟨ta, tn, tc, fp', h1, h2, h4, h3⟩
    exact ⟨ta, tn, tc, fp', h1, h2, h4, h3⟩
  have key2 : ∀ (k0 x y x' y' : Int) (ks : List Node), x = x' → y = y' → Node.mk k0 x y 0 ks = Node.mk k0 x' y' 0 ks := by
    rintro k0 x y x' y' ks rfl rfl
    rfl
  rcases hk with hk | hk
  · subst hk
    have hh := hnum.2.2.1 rfl
    cases bf with
    | false =>
      refine (pair_beh2 (.mk 1 A.w A.h q []) (.mk 1 B.w B.h id []) none 0 0 none 0 0 [] [] w hLa hLb (by simp [Node.ks]) (by simp [Node.ks]) hnum.1 hnum.2.1).mono (key _ ?_)
      rw [hnd]
      rfl
    | true =>
      refine (pair_bef2 (.mk 1 A.w A.h q []) (.mk 1 B.w B.h id []) none 0 0 none 0 0 [] [] w hLa hLb (by simp [Node.ks]) (by simp [Node.ks]) hnum.1 hnum.2.1).mono (key _ ?_)
      rw [hnd]
      exact key2 2 _ _ _ _ _ (by show B.w + A.w + 1 = A.w + B.w + 1; omega) hh
  · subst hk
    have hh := hnum.2.2.2 rfl
    cases bf with
    | false =>
      refine (pair_beh3 (.mk 1 A.w A.h q []) (.mk 1 B.w B.h id []) none 0 0 none 0 0 [] [] w hLa hLb (by simp [Node.ks]) (by simp [Node.ks]) hnum.1 hnum.2.1).mono (key _ ?_)
      rw [hnd]
      rfl
    | true =>
      refine (pair_bef3 (.mk 1 A.w A.h q []) (.mk 1 B.w B.h id []) none 0 0 none 0 0 [] [] w hLa hLb (by simp [Node.ks]) (by simp [Node.ks]) hnum.1 hnum.2.1).mono (key _ ?_)
      rw [hnd]
      exact key2 3 _ _ _ _ _ hh (by show B.h + A.h + 1 = A.h + B.h + 1; omega)

theorem two_alloc (w : World) (o1 o2 : Obj) : Below w.heap.size w ((w.alloc o1).alloc o2) ∧ ((w.alloc o1).alloc o2).heap.size = w.heap.size + 2 ∧ ((w.alloc o1).alloc o2).heap[w.heap.size + 1]? = some o2 ∧ ((w.alloc o1).alloc o2).heap[w.heap.size]? = some o1 := by
  have s1 : (w.alloc o1).heap.size = w.heap.size + 1 := by simp
  refine ⟨((Below.refl _ _).alloc (Nat.le_refl _) o1).alloc (by omega) o2, by simp, ?_, ?_⟩
  · have := heap_alloc_new (w.alloc o1) o2
    rw [s1] at this
    rw [this]
  · exact (Below.heap_alloc _ _ _ (by omega)).trans (heap_alloc_new _ _)
theorem cutd_size (q : Int) (c : Box → Tree) (bl : Box) (hc : (c bl).size ≤ 3) {t t' : Tree} (h : Cutd q c bl t t') : t'.size ≤ t.size + 2 := by
  induction h with
  | keep t _ => omega
  | here => show _ ≤ 1 + 2; omega
  | deep b k ts i s s' hi hS hoth ih =>
    have h2 := flat_sizes k s'
    have h3 : sizes ts = sizes (ts.take i) + (s.size + sizes (ts.drop (i + 1))) := by
      conv => lhs; rw [mid_eq hi]
      rw [sizes_append]
      rfl
    show 1 + sizes (ts.take i ++ (flatT k s' ++ ts.drop (i + 1))) ≤ 1 + sizes ts + 2
    rw [sizes_append, sizes_append]
    omega
set_option maxHeartbeats 1000000 in
/-- A pane that is another one stays. -/
theorem cut_other (q k z id : Int) (bf : Bool) (bl : Box) (p : Int) (hp : p ≠ q) : CutG q k z id bf (.leaf bl p) (.leaf bl p) := by
  intro sl fp w hIn
  obtain ⟨ad, c, hsl⟩ := hIn.sl
  subst hsl
  change Calls Try.prog 42 #[.agg #[.int .i64 1, .int .i64 bl.w, .int .i64 bl.h, .int .i64 p, .slice ad 0 c], .int .i64 q, .int .i64 k, .int .i64 z, .bool bf, .int .i64 id] w _
  have hpb : (p != q) = true := by simpa using hp
  obtain ⟨W, hW⟩ : ∃ W, (w.alloc (.cells #[.int .i64 1, .int .i64 bl.w, .int .i64 bl.h, .int .i64 p, .slice ad 0 c] 80)).alloc (.cells #[.int .i64 0, .int .i64 0, .int .i64 0, .int .i64 0, .slice none 0 0] 80) = W := ⟨_, rfl⟩
  have HE : Hid ((w.alloc (.cells #[.int .i64 1, .int .i64 bl.w, .int .i64 bl.h, .int .i64 p, .slice ad 0 c] 80)).alloc (.cells #[.int .i64 0, .int .i64 0, .int .i64 0, .int .i64 0, .slice none 0 0] 80) = W) := hW
  obtain ⟨hbW, hWs, hres, hblk⟩ := two_alloc w (.cells #[.int .i64 1, .int .i64 bl.w, .int .i64 bl.h, .int .i64 p, .slice ad 0 c] 80) (.cells #[.int .i64 0, .int .i64 0, .int .i64 0, .int .i64 0, .slice none 0 0] 80)
  rw [hW] at hbW hWs hres hblk
  have HF : Hid (∀ v0 v1 v2 v3 v4, StrN (.leaf bl p) fp w (.returned (.agg #[.int .i64 1, .int .i64 bl.w, .int .i64 bl.h, .int .i64 p, .slice ad 0 c])) (set5 W (w.heap.size + 1) v0 v1 v2 v3 v4)) := fun v0 v1 v2 v3 v4 => by
    have hb : Below w.heap.size w (set5 W (w.heap.size + 1) v0 v1 v2 v3 v4) := set5_below hbW _ (by omega) _ _ _ _ _
    exact ⟨ad, 0, c, fp, rfl, hIn.below hb, fun y hy => .inl hy, hb⟩
  have m0 : W.cell? ⟨w.heap.size, 0, none⟩ = some (.int .i64 1) := cell_atL hblk 0
  have m1 : W.cell? ⟨w.heap.size, 1, none⟩ = some (.int .i64 bl.w) := cell_atL hblk 1
  have m2 : W.cell? ⟨w.heap.size, 2, none⟩ = some (.int .i64 bl.h) := cell_atL hblk 2
  have m3 : W.cell? ⟨w.heap.size, 3, none⟩ = some (.int .i64 p) := cell_atL hblk 3
  have m4 : W.cell? ⟨w.heap.size, 4, none⟩ = some (.slice ad 0 c) := cell_atL hblk 4
  have r0 : W.cell? ⟨w.heap.size + 1, 0, none⟩ = some (.int .i64 0) := cell_atL hres 0
  have r1 : W.cell? ⟨w.heap.size + 1, 1, none⟩ = some (.int .i64 0) := cell_atL hres 1
  have r2 : W.cell? ⟨w.heap.size + 1, 2, none⟩ = some (.int .i64 0) := cell_atL hres 2
  have r3 : W.cell? ⟨w.heap.size + 1, 3, none⟩ = some (.int .i64 0) := cell_atL hres 3
  have r4 : W.cell? ⟨w.heap.size + 1, 4, none⟩ = some (.slice none 0 0) := cell_atL hres 4
  have f0 := free_atL hres 0
  have f1 := free_atL hres 1
  have f2 := free_atL hres 2
  have f3 := free_atL hres 3
  have f4 := free_atL hres 4
  clear hIn hW hbW hWs hres hblk
  go_enter Try.func42, Try.ntmps42
  go_upto_region 1 with fail
  rw [HE.out]
  go_wp2
  exact bodyPost_ret (v := .agg #[.int .i64 1, .int .i64 bl.w, .int .i64 bl.h, .int .i64 p, .slice ad 0 c]) (by simp [results, Try.results42, go_sem, r0, r1, r2, r3, r4]) rfl (HF.out _ _ _ _ _)

end Go.Proofs.Ytnepemlagnnngaa

namespace Go.Proofs.Ytnepemlagnnngaa
open Go.RowKit
set_option linter.unusedVariables false
set_option maxRecDepth 100000

theorem cel_idl (t : Tree) (hk : t.kinds) : (nodeOf t).ids = t.idl := (ids_told t 0 hk).trans (idl_told t 0 hk).symm
theorem cel_ne (t : Tree) (hk : t.kinds) (hs : t.sound = true) : (nodeOf t).ids ≠ [] := fun e => by
  have := size_ids t hk hs
  rw [e] at this
  simp at this
theorem cel_kid {W : World} {k wd ht i : Int} {ts : List Tree} {g L cap : Nat} {fp : List Nat} (hn : (Node.mk k wd ht i (nodesOf ts)).In W (.slice (some ⟨g, 0, none⟩) L cap) fp) (hL : ts.length = L) (j : Nat) (t : Tree) (ht' : ts[j]? = some t) : ∃ sa sn sc f, (∀ q ∈ f, q ∈ fp) ∧ ∀ X, Below W.heap.size W X → (nodeOf t).In X (.slice sa sn sc) f ∧ KidIn X g (j * 5) (nodeOf t) (.slice sa sn sc) := by
  obtain ⟨cs, fs, h1, h2, rfl⟩ := hn
  rw [nodesOf_length, hL] at h1
  have hjl : j < L := by rw [← hL]; exact (List.getElem?_eq_some_iff.1 ht').1
  obtain ⟨sl2, f2, g1, g2, g3⟩ := h2.get j (nodeOf t) (nodesOf_get ts j t ht')
  have hcell : ∀ o, o < 5 → W.cell? ⟨g, j * 5 + o, none⟩ = (nodeL (nodeOf t) sl2)[o]? := fun o ho => by
    rw [World.ownsRow.cellAt h1 (j * 5 + o) (by omega), g3 o ho]
  obtain ⟨ad, c, hsl⟩ := g1.sl
  subst hsl
  have hg : g < W.heap.size := own_lt5 h1 g (by simp [Value.ownBlock])
  refine ⟨ad, _, c, f2, fun q hq => List.mem_append_right _ (g2 q hq), fun X hX => ⟨g1.below hX, ?_⟩⟩
  have hc : ∀ o, X.cell? ⟨g, o, none⟩ = W.cell? ⟨g, o, none⟩ := fun o => hX.cell (p := ⟨g, o, none⟩) hg
  exact ⟨(hc _).trans (hcell 0 (by omega)), (hc _).trans (hcell 1 (by omega)), (hc _).trans (hcell 2 (by omega)), (hc _).trans (hcell 3 (by omega)), (hc _).trans (hcell 4 (by omega))⟩

def CellA (bl : Box) (q : Int) (w : World) (e : Ending) (w' : World) : Prop := ∃ sa sn sc, e = .returned (.agg #[.int .i64 1, .int .i64 bl.w, .int .i64 bl.h, .int .i64 q, .slice sa sn sc]) ∧ Below w.heap.size w w'
/-- What the document's cell answers of a tree in which the pane stands. -/
def CellG (q : Int) (bl : Box) (t : Tree) : Prop := ∀ sl fp w, (nodeOf t).In w sl fp → Calls Try.prog 40 #[.agg (nodeV (nodeOf t) sl), .int .i64 q] w (CellA bl q w)

set_option maxHeartbeats 1000000 in
theorem cell_leaf (q : Int) (bl : Box) : CellG q bl (.leaf bl q) := by
  intro sl fp w hIn
  obtain ⟨ad, c, hsl⟩ := hIn.sl
  subst hsl
  change Calls Try.prog 40 #[.agg #[.int .i64 1, .int .i64 bl.w, .int .i64 bl.h, .int .i64 q, .slice ad 0 c], .int .i64 q] w _
  obtain ⟨W, hW⟩ : ∃ W, (w.alloc (.cells #[.int .i64 1, .int .i64 bl.w, .int .i64 bl.h, .int .i64 q, .slice ad 0 c] 80)).alloc (.cells #[.int .i64 0, .int .i64 0, .int .i64 0, .int .i64 0, .slice none 0 0] 80) = W := ⟨_, rfl⟩
  have HE : Hid ((w.alloc (.cells #[.int .i64 1, .int .i64 bl.w, .int .i64 bl.h, .int .i64 q, .slice ad 0 c] 80)).alloc (.cells #[.int .i64 0, .int .i64 0, .int .i64 0, .int .i64 0, .slice none 0 0] 80) = W) := hW
  obtain ⟨hbW, hWs, hres, hblk⟩ := two_alloc w (.cells #[.int .i64 1, .int .i64 bl.w, .int .i64 bl.h, .int .i64 q, .slice ad 0 c] 80) (.cells #[.int .i64 0, .int .i64 0, .int .i64 0, .int .i64 0, .slice none 0 0] 80)
  rw [hW] at hbW hWs hres hblk
  have HF : Hid (∀ v0 v1 v2 v3 v4, CellA bl q w (.returned (.agg #[.int .i64 1, .int .i64 bl.w, .int .i64 bl.h, .int .i64 q, .slice ad 0 c])) (set5 W (w.heap.size + 1) v0 v1 v2 v3 v4)) := fun v0 v1 v2 v3 v4 => ⟨ad, 0, c, rfl, set5_below hbW _ (by omega) _ _ _ _ _⟩
  have m0 : W.cell? ⟨w.heap.size, 0, none⟩ = some (.int .i64 1) := cell_atL hblk 0
  have m1 : W.cell? ⟨w.heap.size, 1, none⟩ = some (.int .i64 bl.w) := cell_atL hblk 1
  have m2 : W.cell? ⟨w.heap.size, 2, none⟩ = some (.int .i64 bl.h) := cell_atL hblk 2
  have m3 : W.cell? ⟨w.heap.size, 3, none⟩ = some (.int .i64 q) := cell_atL hblk 3
  have m4 : W.cell? ⟨w.heap.size, 4, none⟩ = some (.slice ad 0 c) := cell_atL hblk 4
  have r0 : W.cell? ⟨w.heap.size + 1, 0, none⟩ = some (.int .i64 0) := cell_atL hres 0
  have r1 : W.cell? ⟨w.heap.size + 1, 1, none⟩ = some (.int .i64 0) := cell_atL hres 1
  have r2 : W.cell? ⟨w.heap.size + 1, 2, none⟩ = some (.int .i64 0) := cell_atL hres 2
  have r3 : W.cell? ⟨w.heap.size + 1, 3, none⟩ = some (.int .i64 0) := cell_atL hres 3
  have r4 : W.cell? ⟨w.heap.size + 1, 4, none⟩ = some (.slice none 0 0) := cell_atL hres 4
  have f0 := free_atL hres 0
  have f1 := free_atL hres 1
  have f2 := free_atL hres 2
  have f3 := free_atL hres 3
  have f4 := free_atL hres 4
  clear hIn hW hbW hWs hres hblk
  go_enter Try.func40, Try.ntmps40
  go_upto_region 1 with fail
  rw [HE.out]
  go_wp2
  exact bodyPost_ret (v := .agg #[.int .i64 1, .int .i64 bl.w, .int .i64 bl.h, .int .i64 q, .slice ad 0 c]) (by simp [results, Try.results40, go_sem, r0, r1, r2, r3, r4]) rfl (HF.out _ _ _ _ _)

set_option maxHeartbeats 4000000 in
theorem cell_deep (q : Int) (b : Box) (k' : Int) (ts : List Tree) (i : Nat) (s : Tree) (bl : Box) (hi : ts[i]? = some s) (hpre : ∀ (a : Nat) u, a < i → ts[a]? = some u → q ∉ u.idl) (hq : q ∈ s.idl) (hs : (Tree.split b k' ts).sound = true) (hk : (Tree.split b k' ts).kinds) (hz : (Tree.split b k' ts).size ≤ 900) (IH : CellG q bl s) : CellG q bl (.split b k' ts) := by
  intro sl fp w hIn
  unfold Tree.sound at hs
  simp only [Bool.and_eq_true, decide_eq_true_eq] at hs
  change 1 + sizes ts ≤ 900 at hz
  have h2 := hs.1.1
  have hll := length_sizes ts
  have hIn0 := hIn
  change (Node.mk k' b.w b.h 0 (nodesOf ts)).In w sl fp at hIn
  obtain ⟨g, cap0, hsl, hg, hkd⟩ := hIn.kids (by intro e; have := congrArg List.length e; rw [nodesOf_length] at this; simp at this; rw [this] at h2; simp at h2)
  rw [nodesOf_length] at hsl
  obtain ⟨L, hL⟩ : ∃ L, ts.length = L := ⟨_, rfl⟩
  rw [hL] at hsl h2 hll
  subst hsl
  have hil : i < L := by rw [← hL]; exact (List.getElem?_eq_some_iff.1 hi).1
  have hL9 : L ≤ 900 := by omega
  have hk1 : (k' == 1) = false := by
    have := hk.1
    have : k' ≠ 1 := by omega
    simpa using this
  obtain ⟨W, hW⟩ : ∃ W, (w.alloc (.cells #[.int .i64 k', .int .i64 b.w, .int .i64 b.h, .int .i64 0, .slice (some ⟨g, 0, none⟩) L cap0] 80)).alloc (.cells zeroN 80) = W := ⟨_, rfl⟩
  have hbW : Below w.heap.size w W := by rw [← hW]; exact ((Below.refl _ _).alloc (Nat.le_refl _) _).alloc (by simp) _
  have hWs : W.heap.size = w.heap.size + 2 := by rw [← hW]; simp
  have hP : W.heap[w.heap.size]? = some (.cells #[.int .i64 k', .int .i64 b.w, .int .i64 b.h, .int .i64 0, .slice (some ⟨g, 0, none⟩) L cap0] 80 (0, 0)) := by
    rw [← hW]
    exact (Below.heap_alloc _ _ _ (by simp)).trans (heap_alloc_new _ _)
  have hR : W.heap[w.heap.size + 1]? = some (.cells zeroN 80 (0, 0)) := by
    rw [← hW]
    have h := heap_alloc_new (w.alloc (.cells #[.int .i64 k', .int .i64 b.w, .int .i64 b.h, .int .i64 0, .slice (some ⟨g, 0, none⟩) L cap0] 80)) (.cells zeroN 80)
    rw [show (w.alloc (.cells #[.int .i64 k', .int .i64 b.w, .int .i64 b.h, .int .i64 0, .slice (some ⟨g, 0, none⟩) L cap0] 80)).heap.size = w.heap.size + 1 by simp] at h
    exact h
  have HPa : Hid (∀ X, Below W.heap.size W X → X.heap[w.heap.size]? = some (.cells #[.int .i64 k', .int .i64 b.w, .int .i64 b.h, .int .i64 0, .slice (some ⟨g, 0, none⟩) L cap0] 80 (0, 0))) := fun X hX => (hX.block _ (by omega)).trans hP
  have HRe : Hid (∀ X, Below W.heap.size W X → X.heap[w.heap.size + 1]? = some (.cells zeroN 80 (0, 0))) := fun X hX => (hX.block _ (by omega)).trans hR
  have HKid : Hid (∀ (j : Nat) t, ts[j]? = some t → ∃ sa sn sc f, (∀ q ∈ f, q ∈ fp) ∧ ∀ X, Below W.heap.size W X → (nodeOf t).In X (.slice sa sn sc) f ∧ KidIn X g (j * 5) (nodeOf t) (.slice sa sn sc)) := fun j t ht => cel_kid (hIn.below hbW) hL j t ht
  have HIds : Hid (∀ (j : Nat) t, ts[j]? = some t → (nodeOf t).ids = t.idl ∧ t.idl.length ≤ 1000 ∧ t.idl ≠ [] ∧ (nodeOf t).cnt ≤ 1000) := fun j t ht => by
    have hsd := soundAll_at ts b k' j t ht hs.2.1
    simp only [Bool.and_eq_true, decide_eq_true_eq] at hsd
    have hkt := kindsAll_at ts j t ht hk.2
    have hst := sizes_at ts j t ht
    have h1 := cel_idl t hkt
    have h3 := ids_cnt (nodeOf t)
    rw [cnt_of] at h3
    exact ⟨h1, by rw [← h1]; omega, by rw [← h1]; exact cel_ne t hkt hsd.1, by rw [cnt_of]; omega⟩
  have HBW : Hid (Below w.heap.size w W) := hbW
  have HWs : Hid (W.heap.size = w.heap.size + 2) := hWs
  have HW : Hid ((w.alloc (.cells #[.int .i64 k', .int .i64 b.w, .int .i64 b.h, .int .i64 0, .slice (some ⟨g, 0, none⟩) L cap0] 80)).alloc (.cells zeroN 80) = W) := hW
  have HL : Hid (ts.length = L) := hL
  have HPre : Hid (∀ (a : Nat) u, a < i → ts[a]? = some u → q ∉ u.idl) := hpre
  have HQ : Hid (q ∈ s.idl) := hq
  have HI : Hid (ts[i]? = some s) := hi
  have HIH : Hid (CellG q bl s) := IH
  unfold zeroN at HW
  show Calls Try.prog 40 #[.agg #[.int .i64 k', .int .i64 b.w, .int .i64 b.h, .int .i64 0, .slice (some ⟨g, 0, none⟩) L cap0], .int .i64 q] w _
  clear hkd hIn hIn0 hbW hWs hP hR hW hs hk hz hll hL hpre hq hi IH
  go_enter Try.func40, Try.ntmps40
  go_upto_region 1 with fail
  rw [HW.out]
  have p0 : W.cell? ⟨w.heap.size, 0, none⟩ = some (.int .i64 k') := cell_atL (HPa.out W (Below.refl _ _)) 0
  go_wp2_with fail
  clear p0
  go_loopw [5] (fun v wr => ∃ j : Nat, j ≤ i ∧ v = .int .i64 j ∧ Hid (Below W.heap.size W wr)) (fun v _ => i - (intOf v).toNat)
  case atStart => exact ⟨0, Nat.zero_le _, rfl, Below.refl _ _⟩
  case round =>
    obtain ⟨j, hj, rfl, HBr⟩ := hrel
    obtain ⟨t, ht⟩ : ∃ t, ts[j]? = some t := ⟨_, List.getElem?_eq_getElem (by rw [HL.out]; omega)⟩
    obtain ⟨sa, sn, sc, f, hf, hKX⟩ := HKid.out j t ht
    obtain ⟨e1, ⟨q0, q1, q2, q3, q4⟩⟩ := hKX wr HBr.out
    obtain ⟨i1, i2, i3, i4⟩ := HIds.out j t ht
    have hjL : j < L := by omega
    have HId : Hid (Calls Try.prog 36 #[.agg #[.int .i64 (nodeOf t).k, .int .i64 (nodeOf t).w, .int .i64 (nodeOf t).h, .int .i64 (nodeOf t).i, .slice sa sn sc]] wr fun e w' => ∃ u, e = .returned u ∧ Below W.heap.size W w' ∧ Calls Try.prog 37 #[u, .int .i64 q] w' fun e w'' => e = .returned (.bool (decide (q ∈ t.idl))) ∧ w' = w'') := by
      refine (ids_good (nodeOf t) i4 _ f wr e1).mono ?_
      rintro e w' ⟨u, rfl, h1, h2⟩
      rw [i1] at h1
      exact ⟨u, rfl, below_step HBr.out h2, has_any u t.idl _ q w' h1 i2 i3⟩
    have b4 : wr.cell? ⟨w.heap.size, 4, none⟩ = some (.slice (some ⟨g, 0, none⟩) L cap0) := cell_atL (HPa.out wr HBr.out) 4
    have HKX : Hid (∀ X, Below W.heap.size W X → (nodeOf t).In X (.slice sa sn sc) f ∧ KidIn X g (j * 5) (nodeOf t) (.slice sa sn sc)) := hKX
    have HT : Hid (ts[j]? = some t) := ht
    obtain ⟨nn, hnn⟩ : ∃ x, nodeOf t = x := ⟨_, rfl⟩
    have HNo : Hid (nodeOf t = nn) := hnn
    rw [hnn] at q0 q1 q2 q3 HId
    clear e1 i1 i2 i3 i4 ht hf hKX hnn
    by_cases hlt : j < i
    · have HD : Hid (decide (q ∈ t.idl) = false) := decide_eq_false (HPre.out j t hlt HT.out)
      rw [HD.out] at HId
      go_wp2_with fail
      refine HId.out.mono ?_
      rintro e w2 ⟨u, rfl, hb2, hh⟩
      have HH : Hid (Calls Try.prog 37 #[u, .int .i64 q] w2 fun e w'' => e = .returned (.bool false) ∧ w2 = w'') := hh
      have HB2 : Hid (Below W.heap.size W w2) := hb2
      clear hb2 hh HId q0 q1 q2 q3 q4 b4
      go_wp2_with fail
      refine HH.out.mono ?_
      rintro e w3 ⟨rfl, rfl⟩
      go_wp2
      go_roundw
      case rel => exact ⟨j + 1, by omega, by go_num, HB2⟩
      case measure => simp [intOf]; omega
    · have hji : j = i := by omega
      subst hji
      have hts : t = s := by
        have h1 := HT.out
        rw [HI.out] at h1
        exact (Option.some.inj h1).symm
      subst hts
      have HD : Hid (decide (q ∈ t.idl) = true) := decide_eq_true HQ.out
      rw [HD.out] at HId
      have HPu : Hid (∀ X, Below W.heap.size W X → Calls Try.prog 40 #[.agg #[.int .i64 nn.k, .int .i64 nn.w, .int .i64 nn.h, .int .i64 nn.i, .slice sa sn sc], .int .i64 q] X fun e w' => ∃ ta tn tc, e = .returned (.agg #[.int .i64 1, .int .i64 bl.w, .int .i64 bl.h, .int .i64 q, .slice ta tn tc]) ∧ Below W.heap.size W w') := fun X hX => by
        have h := HIH.out _ f X (HKX.out X hX).1
        rw [HNo.out] at h
        refine Calls.mono h ?_
        rintro e w' ⟨ta, tn, tc, rfl, h3⟩
        exact ⟨ta, tn, tc, rfl, below_step hX h3⟩
      go_wp2_with fail
      refine HId.out.mono ?_
      rintro e w2 ⟨u, rfl, hb2, hh⟩
      have HH : Hid (Calls Try.prog 37 #[u, .int .i64 q] w2 fun e w'' => e = .returned (.bool true) ∧ w2 = w'') := hh
      have HB2 : Hid (Below W.heap.size W w2) := hb2
      clear hb2 hh HId q0 q1 q2 q3 q4 b4
      obtain ⟨_, ⟨q0, q1, q2, q3, q4⟩⟩ := HKX.out w2 HB2.out
      rw [HNo.out] at q0 q1 q2 q3
      have b4 : w2.cell? ⟨w.heap.size, 4, none⟩ = some (.slice (some ⟨g, 0, none⟩) L cap0) := cell_atL (HPa.out w2 HB2.out) 4
      go_wp2_with fail
      refine HH.out.mono ?_
      rintro e w3 ⟨rfl, rfl⟩
      go_wp2_with fail
      refine (HPu.out w2 HB2.out).mono ?_
      rintro e w3 ⟨ta, tn, tc, rfl, hb3⟩
      have HF : Hid (∀ v0 v1 v2 v3 v4, CellA bl q w (.returned (.agg #[.int .i64 1, .int .i64 bl.w, .int .i64 bl.h, .int .i64 q, .slice ta tn tc])) (set5 w3 (w.heap.size + 1) v0 v1 v2 v3 v4)) := fun v0 v1 v2 v3 v4 => ⟨ta, tn, tc, rfl, set5_below (below_step HBW.out hb3) _ (by omega) _ _ _ _ _⟩
      have hrV := HRe.out w3 hb3
      have r0 : w3.cell? ⟨w.heap.size + 1, 0, none⟩ = some (.int .i64 0) := cell_atL hrV 0
      have r1 : w3.cell? ⟨w.heap.size + 1, 1, none⟩ = some (.int .i64 0) := cell_atL hrV 1
      have r2 : w3.cell? ⟨w.heap.size + 1, 2, none⟩ = some (.int .i64 0) := cell_atL hrV 2
      have r3 : w3.cell? ⟨w.heap.size + 1, 3, none⟩ = some (.int .i64 0) := cell_atL hrV 3
      have r4 : w3.cell? ⟨w.heap.size + 1, 4, none⟩ = some (.slice none 0 0) := cell_atL hrV 4
      have f0 := free_atL hrV 0
      have f1 := free_atL hrV 1
      have f2 := free_atL hrV 2
      have f3 := free_atL hrV 3
      have f4 := free_atL hrV 4
      clear hrV hb3 HH HPu HB2 q0 q1 q2 q3 q4 b4
      go_wp2
      exact bodyPost_ret (v := .agg #[.int .i64 1, .int .i64 bl.w, .int .i64 bl.h, .int .i64 q, .slice ta tn tc]) (by simp [results, Try.results40, go_sem, r0, r1, r2, r3, r4]) rfl (HF.out _ _ _ _ _)

theorem cell_any (q : Int) (bl : Box) : ∀ (ps : List Nat) (t : Tree), t.sound = true → t.kinds → t.size ≤ 900 → t.idl.Nodup → t.path q = some ps → t.subAt ps = some (.leaf bl q) → CellG q bl t
  | [], t, hs, hk, hz, hn, hp, hsub => by
    unfold Tree.subAt at hsub
    cases hsub
    exact cell_leaf q bl
  | i :: ps, .leaf b p, hs, hk, hz, hn, hp, hsub => by
    unfold Tree.path at hp
    split at hp <;> cases hp
  | i :: ps, .split b k ts, hs, hk, hz, hn, hp, hsub => by
    unfold Tree.path at hp
    obtain ⟨i', s, ps', e, hi, hps⟩ := pathAll_inv q ts 0 _ hp
    rw [Nat.zero_add] at e
    cases e
    unfold Tree.idl at hn
    have hs0 := hs
    unfold Tree.sound at hs
    simp only [Bool.and_eq_true, decide_eq_true_eq] at hs
    have hqs : q ∈ s.idl := Classical.byContradiction fun h => by rw [(path_mem s q).2 h] at hps; cases hps
    have hsd := soundAll_at ts b k i s hi hs.2.1
    simp only [Bool.and_eq_true, decide_eq_true_eq] at hsd
    have hks := kindsAll_at ts i s hi hk.2
    have hzs := sizes_at ts i s hi
    have hz' : 1 + sizes ts ≤ 900 := hz
    have hsub' : s.subAt ps = some (.leaf bl q) := by
      unfold Tree.subAt at hsub
      rw [hi] at hsub
      exact hsub
    exact cell_deep q b k ts i s bl hi (fun a u ha hu => idls_apart q ts hn i a s u hi hu (by omega) hqs) hqs hs0 hk hz (cell_any q bl ps s hsd.1 hks (by omega) (idls_nodup ts hn i s hi) hps hsub')

end Go.Proofs.Ytnepemlagnnngaa

namespace Go.Proofs.Ytnepemlagnnngaa
open Go.RowKit
set_option linter.unusedVariables false
set_option maxRecDepth 100000

set_option maxHeartbeats 1000000 in
theorem cut_here (q k z id : Int) (bf : Bool) (bl : Box) (n : Int) (hk : k = 2 ∨ k = 3) (h3 : 3 ≤ bl.ext k) (hn : n = min (wantedF z (bl.ext k)) (bl.ext k - 2)) (hC : CutOk q k n id bf bl) (hls : (Tree.leaf bl q).sound = true) : CutG q k z id bf (.leaf bl q) (cutT q k n id bf bl) := by
  intro sl fp w hIn
  obtain ⟨ad, c, hsl⟩ := hIn.sl
  subst hsl
  change Calls Try.prog 42 #[.agg #[.int .i64 1, .int .i64 bl.w, .int .i64 bl.h, .int .i64 q, .slice ad 0 c], .int .i64 q, .int .i64 k, .int .i64 z, .bool bf, .int .i64 id] w _
  have hsd := (Tree.leaf bl q).sound_sides hls
  change (1 ≤ bl.w ∧ bl.w ≤ 1000) ∧ (1 ≤ bl.h ∧ bl.h ≤ 1000) at hsd
  have hse := sides_ext bl k hsd
  have hn1 : 1 ≤ n ∧ n ≤ bl.ext k - 2 := by
    rw [hn]
    unfold wantedF halfF
    split <;> omega
  have hA : (bl.str k (-n - 1)).w = (if k = 2 then bl.ext k - 1 - n else bl.w) ∧ (bl.str k (-n - 1)).h = (if k = 2 then bl.h else bl.ext k - 1 - n) := by
    rcases hk with rfl | rfl <;> simp [Box.str, Box.ext] <;> omega
  have hB : (bl.with k n).w = (if k = 2 then n else bl.w) ∧ (bl.with k n).h = (if k = 2 then bl.h else n) := by
    rcases hk with rfl | rfl <;> simp [Box.with, Box.str, Box.ext] <;> omega
  have hPr := pair_cut (q := q) (id := id) hk hC hls hn1
  rw [hA.1, hA.2, hB.1, hB.2] at hPr
  obtain ⟨E, hE⟩ : ∃ x, bl.ext k = x := ⟨_, rfl⟩
  rw [hE] at hPr hn hn1 hse h3
  have HEx : Hid (∀ X, Calls Try.prog 39 #[.agg #[.int .i64 1, .int .i64 bl.w, .int .i64 bl.h, .int .i64 q, .slice ad 0 c], .int .i64 k] X fun e w' => e = .returned (.int .i64 E) ∧ Below X.heap.size X w') := fun X => by
    have := ref_extent (.mk 1 bl.w bl.h q []) ad 0 c k X
    rw [← hE]
    exact this
  obtain ⟨fw, hfw⟩ : ∃ f : Int → Int, ∀ m, (if k = 2 then m else bl.w) = f m := ⟨_, fun _ => rfl⟩
  obtain ⟨fh, hfh⟩ : ∃ f : Int → Int, ∀ m, (if k = 2 then bl.h else m) = f m := ⟨_, fun _ => rfl⟩
  have HSz : Hid (∀ i m X, Calls Try.prog 68 #[.agg #[.int .i64 1, .int .i64 bl.w, .int .i64 bl.h, .int .i64 q, .slice ad 0 c], .int .i64 i, .int .i64 k, .int .i64 m] X fun e w' => e = .returned (.agg #[.int .i64 1, .int .i64 (fw m), .int .i64 (fh m), .int .i64 i, .slice none 0 0]) ∧ Below X.heap.size X w') := fun i m X => by
    have := sized_any (.mk 1 bl.w bl.h q []) ad 0 c i k m hk X
    rw [← hfw m, ← hfh m]
    exact this
  rw [hfw (E - 1 - n), hfh (E - 1 - n), hfw n, hfh n] at hPr
  have hw1 : IntKind.i64.wrap (E - 1) = E - 1 := by rw [IntKind.wrap_i64]; omega
  have hq : (E - 1).tdiv 2 = halfF E := by unfold halfF; rw [Int.tdiv_eq_ediv_of_nonneg (by omega)]
  have hw2 : IntKind.i64.wrap (halfF E) = halfF E := by rw [IntKind.wrap_i64]; unfold halfF; omega
  have hw3 : IntKind.i64.wrap (E - 2) = E - 2 := by rw [IntKind.wrap_i64]; omega
  have hw4 : IntKind.i64.wrap (E - 1 - n) = E - 1 - n := by rw [IntKind.wrap_i64]; omega
  obtain ⟨T, hT⟩ : ∃ T, cutT q k n id bf bl = T := ⟨_, rfl⟩
  rw [hT] at hPr ⊢
  have hlt := hIn.lt
  have HW0 : Hid (∀ o1 o2, Below w.heap.size w ((w.alloc o1).alloc o2) ∧ ((w.alloc o1).alloc o2).heap.size = w.heap.size + 2) := fun o1 o2 => ⟨((Below.refl _ _).alloc (Nat.le_refl _) o1).alloc (by simp) o2, by simp⟩
  obtain ⟨W, hW⟩ : ∃ W, (w.alloc (.cells #[.int .i64 1, .int .i64 bl.w, .int .i64 bl.h, .int .i64 q, .slice ad 0 c] 80)).alloc (.cells #[.int .i64 0, .int .i64 0, .int .i64 0, .int .i64 0, .slice none 0 0] 80) = W := ⟨_, rfl⟩
  have HE : Hid ((w.alloc (.cells #[.int .i64 1, .int .i64 bl.w, .int .i64 bl.h, .int .i64 q, .slice ad 0 c] 80)).alloc (.cells #[.int .i64 0, .int .i64 0, .int .i64 0, .int .i64 0, .slice none 0 0] 80) = W) := hW
  have HB : Hid (Below w.heap.size w W ∧ W.heap.size = w.heap.size + 2 ∧ W.heap[w.heap.size + 1]? = some (.cells #[.int .i64 0, .int .i64 0, .int .i64 0, .int .i64 0, .slice none 0 0] 80 (0, 0)) ∧ W.heap[w.heap.size]? = some (.cells #[.int .i64 1, .int .i64 bl.w, .int .i64 bl.h, .int .i64 q, .slice ad 0 c] 80 (0, 0))) := by
    rw [← hW]
    obtain ⟨O1, hO1⟩ : ∃ o, Obj.cells #[.int .i64 1, .int .i64 bl.w, .int .i64 bl.h, .int .i64 q, .slice ad 0 c] 80 = o := ⟨_, rfl⟩
    obtain ⟨O2, hO2⟩ : ∃ o, Obj.cells #[.int .i64 0, .int .i64 0, .int .i64 0, .int .i64 0, .slice none 0 0] 80 = o := ⟨_, rfl⟩
    have s1 : (w.alloc O1).heap.size = w.heap.size + 1 := by simp
    show Below _ _ _ ∧ _ ∧ _ ∧ _
    rw [hO1, hO2]
    refine ⟨((Below.refl _ _).alloc (Nat.le_refl _) O1).alloc (by omega) O2, by simp, ?_, ?_⟩
    · have := heap_alloc_new (w.alloc O1) O2
      rw [s1] at this
      rw [this]
    · exact (Below.heap_alloc _ _ _ (by omega)).trans (heap_alloc_new _ _)
  have HP5 : Hid (∀ X, Below W.heap.size W X → X.cell? ⟨w.heap.size, 0, none⟩ = some (.int .i64 1) ∧ X.cell? ⟨w.heap.size, 1, none⟩ = some (.int .i64 bl.w) ∧ X.cell? ⟨w.heap.size, 2, none⟩ = some (.int .i64 bl.h) ∧ X.cell? ⟨w.heap.size, 3, none⟩ = some (.int .i64 q) ∧ X.cell? ⟨w.heap.size, 4, none⟩ = some (.slice ad 0 c)) := fun X hX => by
    have h := (hX.block w.heap.size (by have := HB.out.2.1; omega)).trans HB.out.2.2.2
    exact ⟨cell_atL h 0, cell_atL h 1, cell_atL h 2, cell_atL h 3, cell_atL h 4⟩
  have HR5 : Hid (∀ X, Below W.heap.size W X → X.heap[w.heap.size + 1]? = some (.cells #[.int .i64 0, .int .i64 0, .int .i64 0, .int .i64 0, .slice none 0 0] 80 (0, 0))) := fun X hX => (hX.block (w.heap.size + 1) (by have := HB.out.2.1; omega)).trans HB.out.2.2.1
  have HPr : Hid (∀ X, Below W.heap.size W X → Calls Try.prog 67 #[.int .i64 k, .agg #[.int .i64 1, .int .i64 (fw (E - 1 - n)), .int .i64 (fh (E - 1 - n)), .int .i64 q, .slice none 0 0], .agg #[.int .i64 1, .int .i64 (fw n), .int .i64 (fh n), .int .i64 id, .slice none 0 0], .bool bf] X fun e Y => ∃ (nr : Node), ∃ ta tn tc, e = .returned (.agg #[.int .i64 nr.k, .int .i64 nr.w, .int .i64 nr.h, .int .i64 nr.i, .slice ta tn tc]) ∧ Below W.heap.size W Y ∧ ∀ v0 v1 v2 v3 v4, StrN T fp w (.returned (.agg #[.int .i64 nr.k, .int .i64 nr.w, .int .i64 nr.h, .int .i64 nr.i, .slice ta tn tc])) (set5 Y (w.heap.size + 1) v0 v1 v2 v3 v4)) := fun X hX => by
    refine (hPr X).mono ?_
    rintro e Y ⟨ta, tn, tc, f', rfl, h1, h2, h3⟩
    have hY := below_step hX h3
    refine ⟨nodeOf T, ta, tn, tc, rfl, hY, fun v0 v1 v2 v3 v4 => ?_⟩
    have hge : ∀ y ∈ f', X.heap.size ≤ y := fun y hy => by
      rcases h2 y hy with h | h
      · cases h
      · exact h
    have hXs := hX.size
    have hWs := HB.out.2.1
    refine ⟨ta, tn, tc, f', rfl, h1.keep fun y hy => set5_block _ _ _ _ _ _ _ y (by have := hge y hy; omega), fun y hy => .inr (by have := hge y hy; omega), set5_below (below_step HB.out.1 hY) _ (by omega) _ _ _ _ _⟩
  have hzc : (z < 1 ∧ halfF E = n) ∨ (¬ z < 1 ∧ min z (E - 2) = n) := by
    unfold wantedF at hn
    by_cases hz : z < 1
    · rw [if_pos hz] at hn
      refine .inl ⟨hz, ?_⟩
      unfold halfF at hn ⊢
      omega
    · rw [if_neg hz] at hn
      exact .inr ⟨hz, hn.symm⟩
  have HZ : Hid ((z < 1 ∧ halfF E = n) ∨ (¬ z < 1 ∧ min z (E - 2) = n)) := hzc
  clear hzc hIn hlt hn hn1 hPr hse hsd h3 hA hB hC hls hE hfw hfh hT hW hk HW0
  go_enter Try.func42, Try.ntmps42
  go_upto_region 1 with fail
  rw [HE.out]
  obtain ⟨m0, m1, m2, m3, m4⟩ := HP5.out W (Below.refl _ _)
  go_wp2_with fail
  refine (HEx.out _).mono ?_
  rintro e w1 ⟨rfl, hb1⟩
  have HB1 : Hid (Below W.heap.size W w1) := hb1
  clear hb1 m0 m1 m2 m3 m4 HEx
  obtain ⟨m0, m1, m2, m3, m4⟩ := HP5.out w1 HB1.out
  have HBx := hiddenC HB1.out
  rcases HZ.out with ⟨hz, hnz⟩ | ⟨hz, hnz⟩
  · have hz' : ¬ 1 ≤ z := by omega
    rw [hnz] at hq hw2
    go_wp2_with fail
    go_region_held3 (fun X => X.cell? ⟨w.heap.size, 0, none⟩ = some (.int .i64 1) ∧ X.cell? ⟨w.heap.size, 1, none⟩ = some (.int .i64 bl.w) ∧ X.cell? ⟨w.heap.size, 2, none⟩ = some (.int .i64 bl.h) ∧ X.cell? ⟨w.heap.size, 3, none⟩ = some (.int .i64 q) ∧ X.cell? ⟨w.heap.size, 4, none⟩ = some (.slice ad 0 c)) (go_keep) (first
      | (go_at_call 68; refine (HSz.out _ _ _).mono ?_; rintro e wS ⟨rfl, hbS⟩; have HBn : Hid (Below W.heap.size W wS) := below_step (by first | exact HBx.out | exact HBx.out.drew) hbS; clear hbS; clear HBx; have HBx := hiddenC HBn.out; clear HBn; obtain ⟨m0, m1, m2, m3, m4⟩ := HP5.out wS HBx.out)
      | (go_at_call 67; refine (HPr.out _ (by first | exact HBx.out | exact HBx.out.drew)).mono ?_; rintro e Y ⟨nr, ta, tn, tc, rfl, hbY, hF⟩; have HF := hiddenC hF; have HBY := hiddenC hbY; have r0 : Y.cell? ⟨w.heap.size + 1, 0, none⟩ = some (.int .i64 0) := cell_atL (HR5.out Y hbY) 0; have f0 := free_atL (HR5.out Y hbY) 0; have r1 : Y.cell? ⟨w.heap.size + 1, 1, none⟩ = some (.int .i64 0) := cell_atL (HR5.out Y hbY) 1; have f1 := free_atL (HR5.out Y hbY) 1; have r2 : Y.cell? ⟨w.heap.size + 1, 2, none⟩ = some (.int .i64 0) := cell_atL (HR5.out Y hbY) 2; have f2 := free_atL (HR5.out Y hbY) 2; have r3 : Y.cell? ⟨w.heap.size + 1, 3, none⟩ = some (.int .i64 0) := cell_atL (HR5.out Y hbY) 3; have f3 := free_atL (HR5.out Y hbY) 3; have r4 : Y.cell? ⟨w.heap.size + 1, 4, none⟩ = some (.slice none 0 0) := cell_atL (HR5.out Y hbY) 4; have f4 := free_atL (HR5.out Y hbY) 4; obtain ⟨m0, m1, m2, m3, m4⟩ := HP5.out Y hbY; clear hF hbY))
    all_goals (
      go_wp2
      exact bodyPost_ret (v := .agg #[.int .i64 nr.k, .int .i64 nr.w, .int .i64 nr.h, .int .i64 nr.i, .slice ta tn tc]) (by simp [results, Try.results42, go_sem, r0, r1, r2, r3, r4]) rfl (HF.out _ _ _ _ _))
  · have hz' : 1 ≤ z := by omega
    go_wp2_with fail
    go_region_held3 (fun X => X.cell? ⟨w.heap.size, 0, none⟩ = some (.int .i64 1) ∧ X.cell? ⟨w.heap.size, 1, none⟩ = some (.int .i64 bl.w) ∧ X.cell? ⟨w.heap.size, 2, none⟩ = some (.int .i64 bl.h) ∧ X.cell? ⟨w.heap.size, 3, none⟩ = some (.int .i64 q) ∧ X.cell? ⟨w.heap.size, 4, none⟩ = some (.slice ad 0 c)) (go_keep) (first
      | (go_at_call 68; refine (HSz.out _ _ _).mono ?_; rintro e wS ⟨rfl, hbS⟩; have HBn : Hid (Below W.heap.size W wS) := below_step (by first | exact HBx.out | exact HBx.out.drew) hbS; clear hbS; clear HBx; have HBx := hiddenC HBn.out; clear HBn; obtain ⟨m0, m1, m2, m3, m4⟩ := HP5.out wS HBx.out)
      | (go_at_call 67; refine (HPr.out _ (by first | exact HBx.out | exact HBx.out.drew)).mono ?_; rintro e Y ⟨nr, ta, tn, tc, rfl, hbY, hF⟩; have HF := hiddenC hF; have HBY := hiddenC hbY; have r0 : Y.cell? ⟨w.heap.size + 1, 0, none⟩ = some (.int .i64 0) := cell_atL (HR5.out Y hbY) 0; have f0 := free_atL (HR5.out Y hbY) 0; have r1 : Y.cell? ⟨w.heap.size + 1, 1, none⟩ = some (.int .i64 0) := cell_atL (HR5.out Y hbY) 1; have f1 := free_atL (HR5.out Y hbY) 1; have r2 : Y.cell? ⟨w.heap.size + 1, 2, none⟩ = some (.int .i64 0) := cell_atL (HR5.out Y hbY) 2; have f2 := free_atL (HR5.out Y hbY) 2; have r3 : Y.cell? ⟨w.heap.size + 1, 3, none⟩ = some (.int .i64 0) := cell_atL (HR5.out Y hbY) 3; have f3 := free_atL (HR5.out Y hbY) 3; have r4 : Y.cell? ⟨w.heap.size + 1, 4, none⟩ = some (.slice none 0 0) := cell_atL (HR5.out Y hbY) 4; have f4 := free_atL (HR5.out Y hbY) 4; obtain ⟨m0, m1, m2, m3, m4⟩ := HP5.out Y hbY; clear hF hbY))
    all_goals (
      go_wp2
      exact bodyPost_ret (v := .agg #[.int .i64 nr.k, .int .i64 nr.w, .int .i64 nr.h, .int .i64 nr.i, .slice ta tn tc]) (by simp [results, Try.results42, go_sem, r0, r1, r2, r3, r4]) rfl (HF.out _ _ _ _ _))

theorem cut_any (q k z id : Int) (bf : Bool) (bl : Box) (n : Int) (hk : k = 2 ∨ k = 3) (h3 : 3 ≤ bl.ext k) (hn : n = min (wantedF z (bl.ext k)) (bl.ext k - 2)) (hC : CutOk q k n id bf bl) (hls : (Tree.leaf bl q).sound = true) : ∀ (N : Nat) (t : Tree), t.size ≤ N → t.size ≤ 100 → t.sound = true → t.kinds → ∀ t', Cutd q (cutT q k n id bf) bl t t' → CutG q k z id bf t t'
  | 0, t, hN, _, _, _, _, _ => by
    have := t.size_pos
    omega
  | N + 1, .leaf b p, hN, hz, hs, hkd, t', hS => by
    cases hS with
    | keep _ hq => exact cut_other q k z id bf b p (fun e => hq (by simp [Tree.idl, e]))
    | here => exact cut_here q k z id bf bl n hk h3 hn hC hls
  | N + 1, .split b k' ts, hN, hz, hs, hkd, t', hS => by
    have hs0 := hs
    unfold Tree.sound at hs
    simp only [Bool.and_eq_true, decide_eq_true_eq] at hs
    have hN' : 1 + sizes ts ≤ N + 1 := hN
    have hz' : 1 + sizes ts ≤ 100 := hz
    have hlenA : ∀ rs : List Tree, sizes rs ≤ 200 → ∀ j, (flats k' (rs.take j)).length ≤ 1000 := fun rs hr j => by
      have h1 := length_sizes (flats k' (rs.take j))
      have h3 := flats_sizes k' (rs.take j)
      have h4 : sizes (rs.take j) ≤ sizes rs := by
        conv => rhs; rw [← List.take_append_drop j rs]
        rw [sizes_append]
        omega
      omega
    have hksA : ∀ rs : List Tree, sizes rs ≤ 200 → ∀ r ∈ rs, (nodeOf r).ks.length ≤ 1000 := fun rs hr r hin => by
      obtain ⟨j, hj⟩ := List.getElem?_of_mem hin
      have h1 := sizes_at rs j r hj
      have := ks_length r (by omega)
      omega
    have hkid : ∀ (j : Nat) t, ts[j]? = some t → q ∉ t.idl → CutG q k z id bf t t := fun j t hj hq => by
      have hsd := soundAll_at ts b k' j t hj hs.2.1
      simp only [Bool.and_eq_true] at hsd
      have hkt := kindsAll_at ts j t hj hkd.2
      have hzt := sizes_at ts j t hj
      exact cut_any q k z id bf bl n hk h3 hn hC hls N t (by omega) (by omega) hsd.1 hkt t (.keep t hq)
    cases hS with
    | keep _ hq =>
      have hq' : q ∉ idls ts := hq
      have h := cut_loop q k z id bf b k' ts ts hs0 hkd hz rfl (hlenA ts (by omega)) (hksA ts (by omega)) (fun j t r hj hr => by
        rw [hj] at hr
        cases hr
        exact hkid j t hj fun h => hq' (idls_at q ts j t hj h))
      rw [flats_id b k' ts hs.2.1] at h
      exact h
    | deep _ _ _ i s s' hi hSs hoth =>
      have hsd := soundAll_at ts b k' i s hi hs.2.1
      simp only [Bool.and_eq_true, decide_eq_true_eq, Bool.not_eq_true'] at hsd
      have hks := kindsAll_at ts i s hi hkd.2
      have hzs := sizes_at ts i s hi
      have hlt := (List.getElem?_eq_some_iff.1 hi).1
      have hsz := cutd_size q (cutT q k n id bf) bl hC.size hSs
      have hset := sizes_set s s' ts i hi
      have hfl : flats k' (ts.set i s') = spliceT k' ts i s' := by
        have hsa := hs.2.1
        rw [mid_eq hi, soundAll_append] at hsa
        simp only [Bool.and_eq_true] at hsa
        have hsb := hsa.2
        unfold soundAll at hsb
        simp only [Bool.and_eq_true] at hsb
        rw [List.set_eq_take_append_cons_drop, if_pos hlt, flats_append, flats_id b k' _ hsa.1]
        show ts.take i ++ (flatT k' s' ++ flats k' (ts.drop (i + 1))) = spliceT k' ts i s'
        rw [flats_id b k' _ hsb.2]
        rfl
      have h := cut_loop q k z id bf b k' ts (ts.set i s') hs0 hkd hz (by rw [List.length_set]) (hlenA _ (by omega)) (hksA _ (by omega)) (fun j t r hj hr => by
        by_cases hji : j = i
        · subst hji
          rw [hi] at hj
          cases hj
          rw [List.getElem?_set_self hlt] at hr
          cases hr
          exact cut_any q k z id bf bl n hk h3 hn hC hls N s (by omega) (by omega) hsd.1 hks s' hSs
        · rw [List.getElem?_set_ne (Ne.symm hji)] at hr
          rw [hj] at hr
          cases hr
          exact hkid j t hj (hoth j t hji hj))
      rw [hfl] at h
      exact h

end Go.Proofs.Ytnepemlagnnngaa
