/-
  Lines of commands: lists of words that are written over and made longer.
-/
import Derived.Test.YtghkhnnlhkdceaaXTwoR
import Derived.Test.YtghkhnnlhkdceaaXRefD
namespace Go.Proofs.Ytghkhnnlhkdceaa
open Go.RowKit
set_option linter.unusedVariables false
set_option maxRecDepth 100000

theorem Rows2.app {w : World} {lo mid : Nat} {vs : List Value} {cs : List (List (List UInt8))} (h : Rows2 w lo vs cs mid) {us : List Value} {ds : List (List (List UInt8))} {hi : Nat} (k : Rows2 w mid us ds hi) : Rows2 w lo (vs ++ us) (cs ++ ds) hi := by
  induction k with
  | nil hi h0 => rw [List.append_nil, List.append_nil]; exact h.up h0
  | snoc us ds mid' hi v c _ hv hlt hle ih =>
    rw [← List.append_assoc, ← List.append_assoc]
    exact .snoc _ _ mid' hi v c ih hv hlt hle
theorem Rows2.in_ {w : World} {lo : Nat} {vs : List Value} {cs : List (List (List UInt8))} {hi : Nat} (h : Rows2 w lo vs cs hi) : lo ≤ hi ∧ ∀ (i : Nat) v g, vs[i]? = some v → v.ownBlock = some g → lo ≤ g ∧ g < hi := by
  induction h with
  | nil hi h0 => exact ⟨h0, fun i v g hv => by simp at hv⟩
  | snoc vs cs mid hi v c _ hv hlt hle ih =>
    refine ⟨Nat.le_trans ih.1 hle, fun i u g hu hg => ?_⟩
    by_cases e : i < vs.length
    · rw [List.getElem?_append_left e] at hu
      have := ih.2 i u g hu hg
      omega
    · rw [List.getElem?_append_right (by omega)] at hu
      have h1 := List.mem_of_getElem? hu
      rw [List.mem_singleton] at h1
      subst h1
      have h2 := (World.ownsRow.lt hv g hg).1
      have h3 := hlt g hg
      have := ih.1
      omega

/-- Lists of words, each in a block of its own. -/
structure Fam (w : World) (B : Nat) (vs : List Value) (xss : List (List Value)) : Prop where
  len : vs.length = xss.length
  row : ∀ (i : Nat) v xs, vs[i]? = some v → xss[i]? = some xs → w.ownsRow B 9 1 v xs.length xs
  apart : ∀ (i j : Nat) u v g, vs[i]? = some u → vs[j]? = some v → u.ownBlock = some g → v.ownBlock = some g → i = j
theorem StrRow.weak {w : World} {B B' : Nat} {v : Value} {c : List (List UInt8)} (h : StrRow w B v c) (hB : B' ≤ B) : w.ownsRow B' 9 1 v (c.map strV).length (c.map strV) := by
  rw [List.length_map]
  exact h.base hB
theorem Rows2.fam {w : World} {lo : Nat} {vs : List Value} {cs : List (List (List UInt8))} {hi : Nat} (h : Rows2 w lo vs cs hi) : Fam w lo vs (cs.map (·.map strV)) := by
  induction h with
  | nil hi h0 => exact ⟨rfl, fun i v xs hv => by simp at hv, fun i j u v g hu => by simp at hu⟩
  | snoc vs cs mid hi v c hr hv hlt hle ih =>
    have hl := hr.length
    refine ⟨by simp [hl], fun i u xs hu hx => ?_, fun i j u u' g hu hu' hg hg' => ?_⟩
    · rw [List.map_append] at hx
      by_cases e : i < vs.length
      · rw [List.getElem?_append_left e] at hu
        rw [List.getElem?_append_left (by rw [List.length_map, ← hl]; exact e)] at hx
        exact ih.row i u xs hu hx
      · rw [List.getElem?_append_right (by omega)] at hu
        rw [List.getElem?_append_right (by rw [List.length_map, ← hl]; omega)] at hx
        have h1 := List.mem_of_getElem? hu
        have h2 := List.mem_of_getElem? hx
        simp only [List.map_cons, List.map_nil, List.mem_singleton] at h1 h2
        subst h1 h2
        exact hv.weak hr.in_.1
    · have h3 : ∀ g, v.ownBlock = some g → mid ≤ g := fun g hg => (World.ownsRow.lt hv g hg).1
      by_cases e : i < vs.length
      · rw [List.getElem?_append_left e] at hu
        by_cases e' : j < vs.length
        · rw [List.getElem?_append_left e'] at hu'
          exact ih.apart i j u u' g hu hu' hg hg'
        · rw [List.getElem?_append_right (by omega)] at hu'
          have h1 := List.mem_of_getElem? hu'
          rw [List.mem_singleton] at h1
          subst h1
          have h4 := h3 g hg'
          have h5 := (hr.in_.2 i u g hu hg).2
          omega
      · have hi' := (List.getElem?_eq_some_iff.1 hu).1
        have hj' := (List.getElem?_eq_some_iff.1 hu').1
        rw [List.length_append, List.length_singleton] at hi' hj'
        by_cases e' : j < vs.length
        · rw [List.getElem?_append_left e'] at hu'
          rw [List.getElem?_append_right (by omega)] at hu
          have h1 := List.mem_of_getElem? hu
          rw [List.mem_singleton] at h1
          subst h1
          have h4 := h3 g hg
          have h5 := (hr.in_.2 j u' g hu' hg').2
          omega
        · omega
theorem own_same {w w' : World} {B : Nat} {e : TypeId} {v : Value} {n : Nat} {xs : List Value} (h : w.ownsRow B e 1 v n xs) (hk : ∀ g cur, v.ownBlock = some g → w.heap[g]? = some (.cells cur e (0, 0)) → w'.heap[g]? = w.heap[g]?) : w'.ownsRow B e 1 v n xs := by
  refine ⟨h.1, ?_⟩
  rcases h.2 with h0 | ⟨g, cap, cur, rfl, hb, hg, r⟩
  · exact .inl h0
  · exact .inr ⟨g, cap, cur, rfl, hb, by rw [hk g cur rfl hg]; exact hg, r⟩
theorem own_set {w : World} {B : Nat} {e : TypeId} {g n cap : Nat} {xs : List Value} (h : w.ownsRow B e 1 (.slice (some ⟨g, 0, none⟩) n cap) n xs) (k : Nat) (x : Value) : (w.setCell ⟨g, k, none⟩ x).ownsRow B e 1 (.slice (some ⟨g, 0, none⟩) n cap) n (xs.set k x) := by
  refine ⟨by rw [List.length_set]; exact h.1, ?_⟩
  rcases h.2 with ⟨h0, _⟩ | ⟨g', cap', cur, h0, hb, hg, h1, h2, h3, h4⟩
  · cases h0
  · cases h0
    refine .inr ⟨g, cap, cur.set! k x, rfl, hb, set_at hg k x, h1, h2, by simpa using h3, ?_⟩
    rw [← h4, Array.set!_eq_setIfInBounds, Array.toList_setIfInBounds, List.take_set]
theorem Fam.set {w : World} {B : Nat} {vs : List Value} {xss : List (List Value)} (h : Fam w B vs xss) {i : Nat} {g n cap : Nat} {xs : List Value} (hv : vs[i]? = some (.slice (some ⟨g, 0, none⟩) n cap)) (hx : xss[i]? = some xs) (k : Nat) (x : Value) : Fam (w.setCell ⟨g, k, none⟩ x) B vs (xss.set i (xs.set k x)) := by
  have hi := (List.getElem?_eq_some_iff.1 hx).1
  refine ⟨by rw [List.length_set]; exact h.len, fun j v ys hj hy => ?_, h.apart⟩
  by_cases e : i = j
  · subst e
    rw [hv] at hj
    cases hj
    rw [List.getElem?_set_self hi] at hy
    cases hy
    have h1 := h.row i _ xs hv hx
    rw [List.length_set]
    have hn : xs.length = n := by
      rcases h1.2 with ⟨h0, _⟩ | ⟨g', cap', cur, h0, _⟩
      · cases h0
      · exact (Value.slice.inj h0).2.1.symm
    rw [hn] at h1 ⊢
    exact own_set h1 k x
  · rw [List.getElem?_set_ne e] at hy
    exact own_same (h.row j v ys hj hy) fun g' cur hg' _ => Below.heap_setCell _ _ _ _ fun e' => e (h.apart i j _ v g hv hj rfl (by rw [hg', e']))
/-- What has been written over, up to a place of a list. -/
def Done (M : Nat → Value) (i k : Nat) (xss : List (List Value)) : Prop := ∀ (j l : Nat) xs x, xss[j]? = some xs → xs[l]? = some x → (j < i ∨ j = i ∧ l < k) → x = M j
theorem Done.start (M : Nat → Value) (xss : List (List Value)) : Done M 0 0 xss := fun j l xs x _ _ h => by omega
theorem Done.set {M : Nat → Value} {i k : Nat} {xss : List (List Value)} {xs : List Value} (h : Done M i k xss) (hx : xss[i]? = some xs) (hk : k < xs.length) : Done M i (k + 1) (xss.set i (xs.set k (M i))) := by
  intro j l ys y hj hl hlt
  have hi := (List.getElem?_eq_some_iff.1 hx).1
  by_cases e : i = j
  · subst e
    rw [List.getElem?_set_self hi] at hj
    cases hj
    by_cases e' : k = l
    · subst e'
      rw [List.getElem?_set_self hk] at hl
      exact (Option.some.inj hl).symm
    · rw [List.getElem?_set_ne e'] at hl
      exact h i l xs y hx hl (by omega)
  · rw [List.getElem?_set_ne e] at hj
    exact h j l ys y hj hl (by omega)
theorem Done.next {M : Nat → Value} {i k : Nat} {xss : List (List Value)} {xs : List Value} (h : Done M i k xss) (hx : xss[i]? = some xs) (hk : xs.length ≤ k) : Done M (i + 1) 0 xss := by
  intro j l ys y hj hl hlt
  refine h j l ys y hj hl ?_
  by_cases e : j < i
  · exact .inl e
  · have e2 : j = i := by omega
    subst e2
    rw [hx] at hj
    cases hj
    have := (List.getElem?_eq_some_iff.1 hl).1
    omega
theorem Done.all {M : Nat → Value} {n : Nat} {xss : List (List Value)} (h : Done M n 0 xss) {j : Nat} {xs : List Value} (hx : xss[j]? = some xs) (hj : j < n) : xs = List.replicate xs.length (M j) :=
  List.eq_replicate_iff.2 ⟨rfl, fun x hm => by
    obtain ⟨l, hl⟩ := List.getElem?_of_mem hm
    exact h j l xs x hx hl (.inl hj)⟩

/-- What can be read of a list of words. -/
def See9 (w : World) (v : Value) (xs : List Value) : Prop := ∃ a cap, v = .slice a xs.length cap ∧ (xs ≠ [] → ∃ g cur, a = some ⟨g, 0, none⟩ ∧ w.heap[g]? = some (.cells cur 9 (0, 0)) ∧ ∀ (i : Nat) x, xs[i]? = some x → cur[i]? = some x)
theorem own_see {w : World} {B : Nat} {v : Value} {xs : List Value} (h : w.ownsRow B 9 1 v xs.length xs) : See9 w v xs := by
  rcases h.2 with ⟨rfl, h0⟩ | ⟨g, cap, cur, rfl, hb, hg, h1, h2, h3, h4⟩
  · exact ⟨none, 0, by rw [h0], fun hne => absurd (List.length_eq_zero_iff.1 h0) hne⟩
  · refine ⟨_, _, rfl, fun _ => ⟨g, cur, rfl, hg, fun i x hx => ?_⟩⟩
    rw [← h4, List.getElem?_take] at hx
    split at hx
    · simpa using hx
    · cases hx
theorem See9.keep {w w' : World} {v : Value} {xs : List Value} (h : See9 w v xs) (hk : ∀ g cur, v.ownBlock = some g → w.heap[g]? = some (.cells cur 9 (0, 0)) → w'.heap[g]? = w.heap[g]?) : See9 w' v xs := by
  obtain ⟨a, cap, rfl, h2⟩ := h
  refine ⟨a, cap, rfl, fun hne => ?_⟩
  obtain ⟨g, cur, rfl, hg, h3⟩ := h2 hne
  exact ⟨g, cur, rfl, by rw [hk g cur rfl hg]; exact hg, h3⟩
theorem See9.cell {w : World} {v : Value} {xs : List Value} (h : See9 w v xs) {k : Nat} {x : Value} (hx : xs[k]? = some x) : ∃ g cap, v = .slice (some ⟨g, 0, none⟩) xs.length cap ∧ w.cell? ⟨g, k, none⟩ = some x := by
  obtain ⟨a, cap, rfl, h2⟩ := h
  obtain ⟨g, cur, rfl, hg, h3⟩ := h2 (fun e => by rw [e] at hx; simp at hx)
  exact ⟨g, cap, rfl, (cell_at hg k).trans (h3 k x hx)⟩
/-- The words of a list, seen in what it was made longer to in its place. -/
theorem see_longer {w w' : World} {B n : Nat} {v u : Value} {xs ys : List Value} (h : See9 w v xs) (ho : w'.ownsRow B 9 1 u n (xs ++ ys)) (he : u.ownBlock = v.ownBlock) : See9 w' v xs := by
  obtain ⟨a, cap, rfl, h2⟩ := h
  refine ⟨a, cap, rfl, fun hne => ?_⟩
  obtain ⟨g, cur, rfl, hg, h3⟩ := h2 hne
  rcases ho.2 with ⟨rfl, h0⟩ | ⟨g', cap', cur', rfl, hb, hg', h1, _, _, h4⟩
  · cases he
  · have e0 : g' = g := Option.some.inj he
    subst e0
    refine ⟨_, cur', rfl, hg', fun i x hx => ?_⟩
    have hi := (List.getElem?_eq_some_iff.1 hx).1
    have h5 : (xs ++ ys)[i]? = some x := by rw [List.getElem?_append_left hi]; exact hx
    rw [← h4, List.getElem?_take] at h5
    split at h5
    · simpa using h5
    · cases h5

/-- One thing appended: in its place, or in a new block. -/
theorem wpList_append_oneF {ops : Array Oper} {rest : List Oper} {o : Oper} {a : Act} {Q : Exit → Act → World → Prop} (w : World) (hgd : o.guard = none) (s x : Operand) (t e : TypeId)
    (ho : o.op = .call { callee := .builtin .append, args := #[s, x], argTypes := #[t, t] }) (z : Value) (bytes : Nat) (ht : Try.prog.underlying t = some (.slice e)) (hinfo : (Try.prog.info? e).map (fun i => (i.zero, i.size, i.bytes)) = some (some z, 1, bytes)) (hzs : z.cells.size = 1) (hby : bytes ≤ 24)
    (B : Nat) (v : Value) (k : Nat) (xs : List Value) (u : Value) (hu : u.oneCell' = true) (hs : a.eval s = v) (hown : w.ownsRow B e 1 v k xs) (hx : a.eval x = .slice (some ⟨w.heap.size, 0, none⟩) 1 1) (hlen : k ≤ 16777216) (hB : B ≤ w.heap.size)
    (h : ∀ v' w', w'.ownsRow B e 1 v' (k + 1) (xs ++ [u]) → But v.ownBlock.toList w w' → (v'.ownBlock = v.ownBlock ∨ Below w.heap.size w w' ∧ ∃ g, w.heap.size ≤ g ∧ v'.ownBlock = some g) → wpList Try.prog ops Q rest (a.put o.dst v') w') : wpList Try.prog ops Q (o :: rest) a (w.alloc (.cells #[u] e)) := by
  obtain ⟨i0, hi, hz0, hz1, hz2⟩ := info_parts hinfo
  obtain ⟨W, hW⟩ : ∃ x, w.alloc (.cells #[u] e) = x := ⟨_, rfl⟩
  have hown' : W.ownsRow B e 1 v k xs := by rw [← hW]; exact World.ownsRow.alloc hown _
  have hbW : Below w.heap.size w W := by rw [← hW]; exact (Below.refl _ _).alloc (Nat.le_refl _) _
  have hc : ∀ j y, [u][j]? = some y → W.cell? ((⟨w.heap.size, 0, none⟩ : Addr).add j) = some y := by
    intro j y hy
    rw [← hW, show (⟨w.heap.size, 0, none⟩ : Addr).add j = ⟨w.heap.size, j, none⟩ by unfold Addr.add; split <;> simp_all, World.cell?_alloc_mark]
    simpa using hy
  have h1 : ∀ y ∈ [u], y.oneCell' = true := by
    intro y hy
    have : y = u := by simpa using hy
    rw [this]; exact hu
  have hsz : B ≤ W.heap.size := Nat.le_trans hB hbW.size
  have h24 : (k + 1) * bytes ≤ 140737488355328 := Nat.le_trans (Nat.mul_le_mul (show k + 1 ≤ 16777217 by omega) hby) (by decide)
  obtain ⟨v', w', hr, h2, h3, h4⟩ := run_append_own (P := Try.prog) W B t o.type e i0 z 1 bytes ht hi hz0 hz1 hz2 hzs (by decide) v k xs hown' ⟨w.heap.size, 0, none⟩ 1 1 [u] rfl hc h1 (by unfold maxLen; omega) h24 hsz
  have hbut : But v.ownBlock.toList w w' := But.grown (But.of hbW) h3 fun g hg => .inl (by rw [hg]; simp)
  have hfine : v'.ownBlock = v.ownBlock ∨ Below w.heap.size w w' ∧ ∃ g, w.heap.size ≤ g ∧ v'.ownBlock = some g := by
    rcases hown'.2 with ⟨rfl, rfl⟩ | ⟨g, cap, cur, rfl, hbg, hg, hnc, hcm, hcs, htake⟩
    · refine .inr ⟨⟨hbut.os, hbut.tape, hbut.output, hbut.size, fun g hg => hbut.block g hg (by simp [Value.ownBlock])⟩, ?_⟩
      rcases h2.2 with ⟨e0, h0⟩ | ⟨g', cap', cur', rfl, hb', hg', _⟩
      · omega
      · refine ⟨g', ?_, rfl⟩
        have hr2 := run_append_nil (P := Try.prog) W t o.type e i0 z ht hi hz0 ⟨w.heap.size, 0, none⟩ 1 1 [u] (by rw [hz1]; rfl) hc (by omega) (by omega) (by rw [hz2]; omega)
        rw [hr2] at hr
        have e1 := (Result.ok.inj hr).1
        have e2 := (Value.slice.inj e1).1
        have e3 : W.heap.size = g' := congrArg (fun o => match o with | some a => a.block | none => 0) e2
        have := hbW.size
        omega
    · by_cases hroom : k + 1 ≤ cap
      · have hr2 := run_append_room (P := Try.prog) W t o.type e i0 ht hi g k cap cur hg ⟨w.heap.size, 0, none⟩ 1 1 [u] (by rw [hz1]; rfl) hc h1 hroom (by rw [hz1, hcs]; simpa using hroom)
        rw [hr2] at hr
        have e1 := (Result.ok.inj hr).1
        rw [← e1]
        exact .inl rfl
      · have holds : ∀ j u, xs[j]? = some u → W.cell? ((⟨g, 0, none⟩ : Addr).add j) = some u := hown'.cells (g := g) rfl
        have hr2 := run_append_grow (P := Try.prog) W t o.type e i0 z ht hi hz0 ⟨g, 0, none⟩ k cap xs (by rw [hz1]; exact hown'.1) holds ⟨w.heap.size, 0, none⟩ 1 1 [u] (by rw [hz1]; rfl) hc (by omega) (by omega) (growslice_fits (by omega) (by rw [hz2]; exact h24))
        rw [hr2] at hr
        have e1 := (Result.ok.inj hr).1
        have e2 := (Result.ok.inj hr).2
        refine .inr ⟨?_, ?_⟩
        · rw [← e2]
          have hd : Below w.heap.size w W.drew := ⟨hbW.os, hbW.tape, hbW.output, hbW.size, hbW.block⟩
          exact hd.alloc hbW.size _
        · rw [← e1]
          exact ⟨_, hbW.size, rfl⟩
  rw [hW]
  refine wpList_plain hgd fun _ hK => ?_
  unfold Oper.wp execOp
  simp only [ho, resolve, invoke, builtin, Sem.run_bind, Sem.run_pure, Result.andThen_ok, List.map_toArray, List.map_cons, List.map_nil, hs, hx, hr]
  exact hK _ _ (h v' w' h2 hbut hfine)

end Go.Proofs.Ytghkhnnlhkdceaa
