/-
  Layouts: the document's pushed, in words.
  Layouts: a node's children copied, and one put in its place.
  Layouts: the document's border, on or back.
-/
import Derived.Test.YtkaaadbfmbkjeaaCPg
import Derived.Test.YtkaaadbfmbkjeaaCPe
import Derived.Test.YtkaaadbfmbkjeaaCPf
namespace Go.Proofs.Ytkaaadbfmbkjeaa
open Go.RowKit
set_option linter.unusedVariables false
set_option maxRecDepth 20000

theorem pathAll_first (q : Int) : ∀ (ts : List Tree) (k : Nat) (qs : List Nat), pathAll ts q k = some qs → ∃ i t ps, qs = (k + i) :: ps ∧ ts[i]? = some t ∧ t.path q = some ps ∧ ∀ (a : Nat) u, a < i → ts[a]? = some u → u.path q = none
  | [], k, qs, h => by unfold pathAll at h; cases h
  | t :: ts, k, qs, h => by
    unfold pathAll at h
    cases hp : t.path q with
    | some ps =>
      rw [hp] at h
      cases h
      exact ⟨0, t, ps, rfl, rfl, hp, fun a u ha => absurd ha (Nat.not_lt_zero _)⟩
    | none =>
      rw [hp] at h
      obtain ⟨i, t', ps, e, h1, h2, h3⟩ := pathAll_first q ts (k + 1) qs h
      refine ⟨i + 1, t', ps, by rw [e, show k + 1 + i = k + (i + 1) by omega], by simpa using h1, h2, fun a u ha hu => ?_⟩
      cases a with
      | zero => simp at hu; subst hu; exact hp
      | succ a => exact h3 a u (by omega) (by simpa using hu)
theorem ids_idl (t : Tree) (hk : t.kinds) : (nodeOf t).ids = t.idl := (ids_told t 0 hk).trans (idl_told t 0 hk).symm
theorem idl_ne (t : Tree) (hk : t.kinds) (hs : t.sound = true) : (nodeOf t).ids ≠ [] := fun e => by
  have := size_ids t hk hs
  rw [e] at this
  simp at this

/-- The border behind part c is moved by m lines, as the document does it. -/
structure Moved (k : Int) (ts : List Tree) (m : Int) (rs : List Tree) (c : Nat) (got : Int) : Prop where
  lo : -1000 ≤ m
  hi : m ≤ 1000
  on : 0 ≤ m → Giv k c (List.range' (c + 1) (ts.length - 1 - c)) m ts rs got
  back : m < 0 → Giv k (c + 1) (List.range (c + 1)).reverse (-m) ts rs got

/-- By how many lines: as it is said, or so that the part has the extent that is said. -/
def byOf (set : Bool) (n k : Int) (ts : List Tree) (a : Nat) (s : Tree) : Int := if set = true then (if min a (ts.length - 2) = a then n - s.box.ext k else -(n - s.box.ext k)) else n
/-- What pushed makes of a tree: the tree, how far, whether there was a border. -/
inductive Pu (set : Bool) (n k : Int) : Tree → List Nat → Tree → Int → Bool → Prop
  | leaf (b : Box) (p : Int) : Pu set n k (.leaf b p) [] (.leaf b p) 0 false
  | deep (b : Box) (k' : Int) (ts : List Tree) (i : Nat) (ps : List Nat) (s s' : Tree) (mv : Int) : ts[i]? = some s → Pu set n k s ps s' mv true → Pu set n k (.split b k' ts) (i :: ps) (.split b k' (ts.set i s')) mv true
  | none (b : Box) (k' : Int) (ts : List Tree) (i : Nat) (ps : List Nat) (s : Tree) : ts[i]? = some s → Pu set n k s ps s 0 false → k' ≠ k → Pu set n k (.split b k' ts) (i :: ps) (.split b k' ts) 0 false
  | here (b : Box) (ts : List Tree) (i : Nat) (ps : List Nat) (s : Tree) (rs : List Tree) (c : Nat) (got : Int) : ts[i]? = some s → Pu set n k s ps s 0 false → c = min i (ts.length - 2) → Moved k ts (byOf set n k ts i s) rs c got → Pu set n k (.split b k ts) (i :: ps) (.split b k rs) (movedI (byOf set n k ts i s) got) true
/-- What pushed answers. -/
def PuA (t' : Tree) (mv : Int) (ok : Bool) (fp : List Nat) (w : World) (e : Ending) (w' : World) : Prop := ∃ sa sn sc fp', e = .returned (.tuple #[.agg (nodeV (nodeOf t') (.slice sa sn sc)), .int .i64 mv, .bool ok]) ∧ (nodeOf t').In w' (.slice sa sn sc) fp' ∧ (∀ q ∈ fp', q ∈ fp ∨ w.heap.size ≤ q) ∧ Below w.heap.size w w'
def PuGood (set : Bool) (n k q : Int) (t t' : Tree) (mv : Int) (ok : Bool) : Prop := ∀ sl fp w, (nodeOf t).In w sl fp → Calls Try.prog 52 #[.agg (nodeV (nodeOf t) sl), .int .i64 q, .int .i64 k, .int .i64 n, .bool set] w (PuA t' mv ok fp w)

/-- The way's nearest split, and what pushed makes. -/
theorem pu_none (set : Bool) (n k : Int) : ∀ (ps : List Nat) (t : Tree) (q : Int), t.path q = some ps → nearF k t ps = none → Pu set n k t ps t 0 false
  | [], .leaf b p, q, hp, hn => .leaf b p
  | i :: ps, .leaf b p, q, hp, hn => by
    unfold Tree.path at hp
    split at hp
    · cases hp
    · cases hp
  | qs, .split b k' ts, q, hp, hn => by
    unfold Tree.path at hp
    obtain ⟨i, s, ps, e, h1, h2, h3⟩ := pathAll_first q ts 0 qs hp
    rw [Nat.zero_add] at e
    subst e
    cases hs : nearF k s ps with
    | some r => simp only [nearF, h1, hs] at hn; cases hn
    | none =>
      simp only [nearF, h1, hs] at hn
      split at hn
      · cases hn
      · rename_i e
        exact .none b k' ts i ps s h1 (pu_none set n k ps s q h2 hs) e
  termination_by ps => ps.length
theorem pu_some (set : Bool) (n k : Int) : ∀ (ps : List Nat) (t : Tree) (q : Int) (qs : List Nat) (a : Nat) (b : Box) (ts : List Tree) (s : Tree) (rs : List Tree) (c : Nat) (got : Int), t.path q = some ps → nearF k t ps = some (qs, a) → t.subAt qs = some (.split b k ts) → ts[a]? = some s → c = min a (ts.length - 2) → Moved k ts (byOf set n k ts a s) rs c got → Pu set n k t ps (t.putAt qs (.split b k rs)) (movedI (byOf set n k ts a s) got) true
  | [], t, q, qs, a, b, ts, s, rs, c, got, hp, hn, hsub, ha, hc, hM => by simp [nearF] at hn
  | i :: ps, .leaf b' p, q, qs, a, b, ts, s, rs, c, got, hp, hn, hsub, ha, hc, hM => by simp [nearF] at hn
  | i :: ps, .split b' k' us, q, qs, a, b, ts, s, rs, c, got, hp, hn, hsub, ha, hc, hM => by
    unfold Tree.path at hp
    obtain ⟨i', u, ps', e, h1, h2, h3⟩ := pathAll_first q us 0 _ hp
    rw [Nat.zero_add] at e
    injection e with e1 e2
    subst e1
    subst e2
    cases hs : nearF k u ps with
    | some r =>
      obtain ⟨qs', a'⟩ := r
      simp only [nearF, h1, hs] at hn
      cases hn
      simp only [Tree.subAt, h1] at hsub
      have := pu_some set n k ps u q _ _ b ts s rs c got h2 hs hsub ha hc hM
      have hput : (Tree.split b' k' us).putAt (i :: qs') (.split b k rs) = .split b' k' (us.set i (u.putAt qs' (.split b k rs))) := by simp [Tree.putAt, h1]
      rw [hput]
      exact .deep b' k' us i ps u _ _ h1 this
    | none =>
      simp only [nearF, h1, hs] at hn
      split at hn
      · rename_i e
        subst e
        cases hn
        simp only [Tree.subAt, Option.some.injEq, Tree.split.injEq] at hsub
        obtain ⟨rfl, _, rfl⟩ := hsub
        rw [h1] at ha
        have hus : u = s := Option.some.inj ha
        subst hus
        show Pu set n k' (.split b' k' us) (i :: ps) (.split b' k' rs) _ true
        exact .here b' us i ps u rs c got h1 (pu_none set n k' ps u q h2 hs) hc hM
      · cases hn

end Go.Proofs.Ytkaaadbfmbkjeaa

namespace Go.Proofs.Ytkaaadbfmbkjeaa
open Go.RowKit
set_option linter.unusedVariables false
set_option maxRecDepth 20000

theorem KidsAt.copy {W w6 : World} {fp : List Nat} {ts : List Tree} {cs : List Value} {fs : List Nat} (hfs : fs ⊆ fp) (hlt : ∀ q ∈ fp, q < W.heap.size) (hN : nodesIn W (nodesOf ts) cs fs) (hg : W.grownBy w6 none) {v : Value} (hr : w6.ownsRow W.heap.size 73 5 v ts.length cs) (h0 : 0 < ts.length) (mb : Nat) (hm : mb < W.heap.size) (hmf : mb ∉ fs) :
    ∃ g cap, v = .slice (some ⟨g, 0, none⟩) ts.length cap ∧ W.heap.size ≤ g ∧ KidsAt g ts.length cap fp ts (w6.setCell ⟨mb, 4, none⟩ v) := by
  rcases hr.2 with ⟨_, h1⟩ | ⟨g, cap, cur, rfl, hb, hgc, r⟩
  · omega
  · refine ⟨g, cap, rfl, hb, ⟨⟨cs, fs, ?_, ?_, fun q hq => .inl (hfs hq)⟩, fun q hq => ?_, rfl⟩⟩
    · refine own_kept5 (W := w6) ⟨hr.1, .inr ⟨g, cap, cur, rfl, Nat.zero_le _, hgc, r⟩⟩ fun q hq => ?_
      have : q = g := by simpa [Value.ownBlock, eq_comm] using hq
      exact Below.heap_setCell _ _ _ _ (by show q ≠ mb; omega)
    · refine hN.keep fun q hq => ?_
      have hq' := hlt q (hfs hq)
      exact (Below.heap_setCell _ _ _ _ (by show q ≠ mb; intro e; exact hmf (e ▸ hq))).trans (hg.block q hq' (by simp))
    · have := hlt q hq
      omega
/-- One child is put in another's place, which was made before. -/
theorem KidsAt.put {g L cap : Nat} {fp : List Nat} {us : List Tree} {wr : World} (h : KidsAt g L cap fp us wr) (i : Nat) (t t' : Tree) (ht : us[i]? = some t) (sl' : Value) (f' : List Nat) (hn : (nodeOf t').In wr sl' f') (hf : ∀ q ∈ f', q ∈ fp ∨ g < q) : KidsAt g L cap fp (us.set i t') (set5at wr g (i * 5) (nodeOf t') sl') := by
  obtain ⟨cs, fs, h1, h2, h3⟩ := h.row
  obtain ⟨sl, f, e1, e2, e3⟩ := nodesIn.one h2 i (nodeOf t) (nodesOf_get us i t ht)
  have hne : ∀ q, q ∈ fp ∨ g < q → q ≠ g := fun q hq => by
    rcases hq with h5 | h5
    · have := h.old q h5
      omega
    · omega
  have hkeep : ∀ q ∈ fs, (set5at wr g (i * 5) (nodeOf t') sl').heap[q]? = wr.heap[q]? := fun q hq => set5at_block _ _ _ _ _ q (hne q (h3 q hq))
  obtain ⟨fp', k1, k2⟩ := e3 _ (nodeOf t') sl' f' hkeep (hn.keep fun q hq => set5at_block _ _ _ _ _ q (hne q (hf q hq)))
  refine ⟨⟨_, fp', set5at_row h1 (i * 5) (nodeOf t') sl', ?_, fun q hq => ?_⟩, h.old, by rw [List.length_set]; exact h.len⟩
  · rw [nodesOf_set]
    exact k1
  · rcases k2 q hq with h6 | h6
    · exact h3 q h6
    · exact hf q h6

/-- One child of a node. -/
theorem node_kid {W : World} {k wd ht i : Int} {ts : List Tree} {g L cap : Nat} {fp : List Nat} (hn : (Node.mk k wd ht i (nodesOf ts)).In W (.slice (some ⟨g, 0, none⟩) L cap) fp) (hL : ts.length = L) (j : Nat) (t : Tree) (ht' : ts[j]? = some t) : ∃ sa sn sc f, (∀ q ∈ f, q ∈ fp) ∧ ∀ X, Below W.heap.size W X → (nodeOf t).In X (.slice sa sn sc) f ∧ KidIn X g (j * 5) (nodeOf t) (.slice sa sn sc) := by
  obtain ⟨cs, fs, h1, h2, rfl⟩ := hn
  rw [nodesOf_length, hL] at h1
  have hjl : j < L := by rw [← hL]; exact (List.getElem?_eq_some_iff.1 ht').1
  obtain ⟨sl2, f2, g1, g2, g3⟩ := h2.get j (nodeOf t) (nodesOf_get ts j t ht')
  have hcell : ∀ o, o < 5 → W.cell? ⟨g, j * 5 + o, none⟩ = (nodeL (nodeOf t) sl2)[o]? := fun o ho => by
    rw [World.ownsRow.cellAt h1 (j * 5 + o) (by omega), g3 o ho]
  obtain ⟨ad, c, hsl⟩ := g1.sl
  subst hsl
  have hg : g < W.heap.size := own_lt5 h1 g (by simp [Value.ownBlock])
  refine ⟨ad, _, c, f2, fun q hq => List.mem_append_right _ (g2 q hq), fun X hX => ⟨g1.below hX, ?_⟩⟩
  have hc : ∀ o, X.cell? ⟨g, o, none⟩ = W.cell? ⟨g, o, none⟩ := fun o => hX.cell (p := ⟨g, o, none⟩) hg
  exact ⟨(hc _).trans (hcell 0 (by omega)), (hc _).trans (hcell 1 (by omega)), (hc _).trans (hcell 2 (by omega)), (hc _).trans (hcell 3 (by omega)), (hc _).trans (hcell 4 (by omega))⟩
/-- The answer's node is the one that was handed in. -/
theorem pu_same {w X : World} {b : Box} {k' mv : Int} {ts : List Tree} {g L cap : Nat} {fp : List Nat} {ok : Bool} (hIn : (nodeOf (.split b k' ts)).In w (.slice (some ⟨g, 0, none⟩) L cap) fp) (hB : Below w.heap.size w X) (v0 v1 v2 v3 v4 : Value) : PuA (.split b k' ts) mv ok fp w (.returned (.tuple #[.agg #[.int .i64 k', .int .i64 b.w, .int .i64 b.h, .int .i64 0, .slice (some ⟨g, 0, none⟩) L cap], .int .i64 mv, .bool ok])) (set5 X (w.heap.size + 1) v0 v1 v2 v3 v4) := by
  have h5 := set5_below hB (w.heap.size + 1) (by omega) v0 v1 v2 v3 v4
  exact ⟨_, _, _, fp, rfl, hIn.below h5, fun q hq => .inl hq, h5⟩
/-- The answer's node is one that was made. -/
theorem pu_made {w X : World} {nn : Node} {t' : Tree} {mv : Int} {sa : Option Addr} {sn sc : Nat} {fp fp' : List Nat} {ok : Bool} (hnn : nodeOf t' = nn) (hIn : (nodeOf t').In X (.slice sa sn sc) fp') (hf : ∀ q ∈ fp', q ∈ fp ∨ w.heap.size + 2 ≤ q) (hlt : ∀ q ∈ fp, q < w.heap.size) (hB : Below w.heap.size w X) (v0 v1 v2 v3 v4 : Value) : PuA t' mv ok fp w (.returned (.tuple #[.agg #[.int .i64 nn.k, .int .i64 nn.w, .int .i64 nn.h, .int .i64 nn.i, .slice sa sn sc], .int .i64 mv, .bool ok])) (set5 X (w.heap.size + 1) v0 v1 v2 v3 v4) := by
  subst hnn
  refine ⟨sa, sn, sc, fp', rfl, hIn.keep fun q hq => set5_block _ _ _ _ _ _ _ q ?_, fun q hq => ?_, set5_below hB (w.heap.size + 1) (by omega) v0 v1 v2 v3 v4⟩
  · rcases hf q hq with h | h
    · have := hlt q h
      omega
    · omega
  · rcases hf q hq with h | h
    · exact .inl h
    · exact .inr (by omega)

/-- The answer's node: the one with another child. -/
theorem pu_deep {w : World} {b : Box} {k' : Int} {ts : List Tree} {i : Nat} {s s' : Tree} {mv : Int} {fp fk : List Nat} {W w6 : World} {g L cap kb : Nat} {ka : Value}
    (hK : KidsAt g L cap (fp ++ fk) ts (w6.setCell ⟨kb, 4, none⟩ (.slice (some ⟨g, 0, none⟩) L cap))) (hi : ts[i]? = some s) (hIn : (nodeOf s').In W ka fk) (hfp : ∀ q ∈ fp, q < w.heap.size) (hfk : ∀ q ∈ fk, q ∈ fp ∨ w.heap.size + 2 ≤ q) (hg : w.heap.size + 2 ≤ g) (hgr : W.grownBy w6 none) (hkb : w.heap.size + 2 ≤ kb) (hkf : kb ∉ fk) (hB : Below w.heap.size w W) (v0 v1 v2 v3 v4 : Value) :
    PuA (.split b k' (ts.set i s')) mv true fp w (.returned (.tuple #[.agg #[.int .i64 k', .int .i64 b.w, .int .i64 b.h, .int .i64 0, .slice (some ⟨g, 0, none⟩) L cap], .int .i64 mv, .bool true])) (set5 (set5at (w6.setCell ⟨kb, 4, none⟩ (.slice (some ⟨g, 0, none⟩) L cap)) g (i * 5) (nodeOf s') ka) (w.heap.size + 1) v0 v1 v2 v3 v4) := by
  have hIn6 : (nodeOf s').In (w6.setCell ⟨kb, 4, none⟩ (.slice (some ⟨g, 0, none⟩) L cap)) ka fk := hIn.keep fun q hq => (Below.heap_setCell _ _ _ _ (by show q ≠ kb; intro e; exact hkf (e ▸ hq))).trans (hgr.block q (hIn.lt q hq) (by simp))
  have hK2 := hK.put i s s' hi ka fk hIn6 fun q hq => .inl (List.mem_append_right _ hq)
  obtain ⟨fp', h1, h2⟩ := (hK2.keep (X := set5 (set5at (w6.setCell ⟨kb, 4, none⟩ (.slice (some ⟨g, 0, none⟩) L cap)) g (i * 5) (nodeOf s') ka) (w.heap.size + 1) v0 v1 v2 v3 v4) fun q hq => set5_block _ _ _ _ _ _ _ q (by
    rcases hq with h | h
    · rcases List.mem_append.1 h with h | h
      · have := hfp q h
        omega
      · rcases hfk q h with h | h
        · have := hfp q h
          omega
        · omega
    · omega)).node k' b.w b.h 0
  have hB6 : Below w.heap.size w w6 := ⟨hgr.os.trans hB.os, hgr.tape.trans hB.tape, hgr.output.trans hB.output, Nat.le_trans hB.size hgr.size, fun q hq => (hgr.block q (Nat.lt_of_lt_of_le hq hB.size) (by simp)).trans (hB.block q hq)⟩
  refine ⟨some ⟨g, 0, none⟩, L, cap, fp', rfl, h1, fun q hq => ?_, set5_below (set5at_below (below_grown hB6 (grownBy_set _ _ _ _) (by omega)) g _ (by omega) _ _) _ (by omega) _ _ _ _ _⟩
  rcases h2 q hq with h | h
  · rcases List.mem_append.1 h with h | h
    · exact .inl h
    · rcases hfk q h with h | h
      · exact .inl h
      · exact .inr (by omega)
  · exact .inr (by omega)

end Go.Proofs.Ytkaaadbfmbkjeaa

namespace Go.Proofs.Ytkaaadbfmbkjeaa
open Go.RowKit
set_option linter.unusedVariables false
set_option maxRecDepth 20000

theorem bordR_any (b : Box) (k : Int) (ts rs : List Tree) (c : Nat) (m got : Int) (sl : Value) (fp : List Nat) (w : World) (hM : Moved k ts m rs c got) (h2 : 2 ≤ ts.length) (hl : ts.length ≤ 900) (hc : c + 1 < ts.length) (hIn : (nodeOf (.split b k ts)).In w sl fp) :
    Calls Try.prog 77 #[.agg (nodeV (nodeOf (.split b k ts)) sl), .int .i64 c, .int .i64 m] w (BordA b k rs (movedI m got) fp w) := by
  obtain ⟨m1, m2, m3, m4⟩ := hM
  unfold movedI
  by_cases h : 0 ≤ m
  · rw [if_pos h]
    exact border_on b k ts rs c m got sl fp w ⟨h, m2⟩ h2 hl hc (m3 h) hIn
  · rw [if_neg h]
    have := border_back b k ts rs c (-m) got sl fp w ⟨by omega, by omega⟩ h2 hl hc (m4 (by omega)) hIn
    rwa [Int.neg_neg] at this

end Go.Proofs.Ytkaaadbfmbkjeaa
