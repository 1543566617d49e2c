/-
  Binds: lists of bindings in memory; sorted.
  Binds: List.
-/
import Derived.Test.YtbonnjilbocldaaGreatDoorBKey
import Derived.Test.YtbonnjilbocldaaGreatDoorQApp
import Derived.Shelf.SlSortCmp.NoneTotal
namespace Go.Proofs.YtbonnjilbocldaaGreatDoor
open Go.RowKit Go.Sort
set_option linter.unusedVariables false
set_option maxRecDepth 100000

theorem addB (b o j : Nat) : (⟨b, o, none⟩ : Addr).add j = ⟨b, o + j, none⟩ := by unfold Addr.add; split <;> simp_all
/-- A list of bindings that is one's own. -/
def EntsAt (w : World) (B : Nat) (v : Value) (l : List Ent) : Prop := w.ownsRow B 39 5 v l.length (l.flatMap encE)
theorem ents_flat (l : List Ent) : (l.flatMap encE).length = l.length * 5 := by
  induction l with
  | nil => rfl
  | cons k r ih => rw [List.flatMap_cons, List.length_append, ih]; simp [encE]; omega
theorem EntsAt.nil (w : World) (B : Nat) : EntsAt w B (.slice none 0 0) [] := World.ownsRow_nil w B _ _
theorem EntsAt.keep {w w' : World} {B : Nat} {v : Value} {l : List Ent} (h : EntsAt w B v l) (hk : ∀ g, v.ownBlock = some g → w'.heap[g]? = w.heap[g]?) : EntsAt w' B v l := by
  refine ⟨h.1, ?_⟩
  rcases h.2 with h0 | ⟨g, cap, cur, rfl, hb, hg, r⟩
  · exact .inl h0
  · exact .inr ⟨g, cap, cur, rfl, hb, (hk g rfl).trans hg, r⟩
theorem EntsAt.blk {w : World} {B : Nat} {v : Value} {l : List Ent} (h : EntsAt w B v l) {g : Nat} (hg : v.ownBlock = some g) : B ≤ g ∧ ∃ cur, w.heap[g]? = some (.cells cur 39 (0, 0)) := by
  rcases h.2 with ⟨e, _⟩ | ⟨g', cap, cur, e, hb, hk, _⟩
  · rw [e] at hg; cases hg
  · rw [e] at hg; cases hg
    exact ⟨hb, cur, hk⟩
theorem EntsAt.below {w w' : World} {B : Nat} {v : Value} {l : List Ent} (h : EntsAt w B v l) (hb : Below w.heap.size w w') : EntsAt w' B v l := h.keep fun g hg => by
  obtain ⟨_, cur, hk⟩ := h.blk hg
  exact hb.block g (lt_block hk)
theorem EntsAt.slice {w : World} {B : Nat} {v : Value} {l : List Ent} (h : EntsAt w B v l) : ∃ a c, v = .slice a l.length c := by
  rcases h.2 with ⟨e, h0⟩ | ⟨g', cap, cur, e, hb, hk, _⟩
  · exact ⟨_, _, by rw [e, h0]⟩
  · exact ⟨_, _, e⟩
theorem infoBindE : (Tryz.prog.info? 39).map (fun i => (i.zero, i.size, i.bytes)) = some (some (.agg #[.string ⟨#[]⟩, .int .i64 0, .int .i64 0, .bool false, .string ⟨#[]⟩]), 5, 56) := by kernel_rfl
theorem underBinds : Tryz.prog.underlying 31 = some (.slice 39) := by kernel_rfl
theorem flat_ent : ∀ (l : List Ent) (j : Nat) (hj : j < l.length) (c : Nat), c < 5 → (l.flatMap encE)[j * 5 + c]? = (encE l[j])[c]?
  | [], j, hj, _, _ => by simp at hj
  | a :: r, 0, hj, c, hc => by
    rw [List.flatMap_cons, List.getElem?_append_left (by show 0 * 5 + c < 5; omega)]
    simp
  | a :: r, j + 1, hj, c, hc => by
    rw [List.flatMap_cons, List.getElem?_append_right (by show 5 ≤ (j + 1) * 5 + c; omega)]
    have h := flat_ent r j (by simpa using hj) c hc
    have e : (j + 1) * 5 + c - (encE a).length = j * 5 + c := by show (j + 1) * 5 + c - 5 = _; omega
    rw [e, h]
    simp
/-- A list of bindings that can be read. -/
def SeeE (w : World) (v : Value) (l : List Ent) : Prop := ∃ ad cp, v = .slice ad l.length cp ∧ (l ≠ [] → ∃ g o, ad = some ⟨g, o, none⟩ ∧ ∀ j (hj : j < l.length) (c : Nat) u, (encE l[j])[c]? = some u → w.cell? ⟨g, o + j * 5 + c, none⟩ = some u)
theorem SeeE.below {w w' : World} {v : Value} {l : List Ent} (h : SeeE w v l) (hb : Below w.heap.size w w') : SeeE w' v l := by
  obtain ⟨a, c, rfl, hc⟩ := h
  refine ⟨a, c, rfl, fun hne => ?_⟩
  obtain ⟨g, o, rfl, hcell⟩ := hc hne
  refine ⟨g, o, rfl, fun j hj c u hu => ?_⟩
  have h1 := hcell j hj c u hu
  exact (hb.cell (World.block_lt_of_cell? w _ h1)).trans h1
theorem EntsAt.see {w : World} {B : Nat} {v : Value} {l : List Ent} (h : EntsAt w B v l) : SeeE w v l := by
  rcases h.2 with ⟨e, h0⟩ | ⟨g, cap, cur, e, hb, hk, h1, h2, h3, h4⟩
  · have : l = [] := List.length_eq_zero_iff.1 h0
    subst this
    exact ⟨_, _, e, fun h => absurd rfl h⟩
  · subst e
    refine ⟨_, _, rfl, fun _ => ⟨g, 0, rfl, fun j hj c u hu => ?_⟩⟩
    have hc : c < 5 := (List.getElem?_eq_some_iff.1 hu).1
    have hf := flat_ent l j hj c hc
    rw [hu] at hf
    have := World.ownsRow.cells h (g := g) rfl (j * 5 + c) u hf
    rw [addB, Nat.zero_add] at this
    rw [Nat.zero_add]
    exact this
/-- A binding is appended. -/
theorem wpList_append_ent (w : World) {ops : Array Oper} {rest : List Oper} {o : Oper} {a : Act} {Q : Exit → Act → World → Prop} (hgd : o.guard = none) (s x : Operand)
    (ho : o.op = .call { callee := .builtin .append, args := #[s, x], argTypes := #[31, 31] })
    (B : Nat) (v : Value) (l : List Ent) (hs : a.eval s = v) (hown : EntsAt w B v l) (G : Nat) (e : Ent) (hx : a.eval x = .slice (some ⟨G, 0, none⟩) 1 1) (hG : w.heap[G]? = some (.cells (encE e).toArray 39 (0, 0)))
    (hlen : l.length ≤ 20000000) (hbase : B ≤ w.heap.size)
    (h : ∀ v' w', EntsAt w' B v' (l ++ [e]) → w.grownBy w' v.ownBlock → wpList Tryz.prog ops Q rest (a.put o.dst v') w') : wpList Tryz.prog ops Q (o :: rest) a w := by
  obtain ⟨i0, hi, hz0, hz1, hz2⟩ := info_parts infoBindE
  refine wpList_append_own w hgd s x 31 ho B 39 i0 (.agg #[.string ⟨#[]⟩, .int .i64 0, .int .i64 0, .bool false, .string ⟨#[]⟩]) 5 56 underBinds hi hz0 hz1 hz2 rfl (by decide) v l.length (l.flatMap encE) hs hown ⟨G, 0, none⟩ 1 1 (encE e) hx rfl ?_ ?_ (by unfold maxLen; omega) (by omega) hbase ?_
  · intro j u hu
    have hj : j < 5 := (List.getElem?_eq_some_iff.1 hu).1
    rw [addB, Nat.zero_add, cell_at hG j]
    rw [List.getElem?_toArray]
    exact hu
  · intro u hu
    simp only [encE, List.mem_cons, List.not_mem_nil, or_false] at hu
    rcases hu with e | e | e | e | e <;> rw [e] <;> rfl
  · intro v' w' h2 h3 _
    refine h v' w' ?_ h3
    unfold EntsAt
    rw [List.length_append, List.flatMap_append]
    simpa using h2
/-- What a sorted row of one table's bindings is. -/
theorem sorted_up {l l' : List Ent} (hp : l'.Perm l) (hs : ∀ (i j : Nat) (hi : i < l'.length) (hj : j < l'.length), i < j → ¬ keyLt l'[j] l'[i]) (hn : l.Pairwise fun a b => ¬ (a.c = b.c ∧ a.m = b.m)) : l'.Pairwise keyLt := by
  have hn' : l'.Pairwise fun a b => ¬ (a.c = b.c ∧ a.m = b.m) := (hp.pairwise_iff (fun {a b} h => fun q => h ⟨q.1.symm, q.2.symm⟩)).2 hn
  rw [List.pairwise_iff_getElem] at hn' ⊢
  intro i j hi hj hij
  have h1 := hs i j hi hj hij
  have h2 := hn' i j hi hj hij
  unfold keyLt at h1 ⊢
  omega
theorem holds_ents {w : World} {g : Nat} {cur : Array Value} {T : TypeId} {l : List Ent} (hg : w.heap[g]? = some (.cells cur T (0, 0))) (ht : cur.toList.take (l.length * 5) = l.flatMap encE) : HoldsK encE 5 w g 0 l.toArray := by
  intro j hj
  rw [size_flatK] at hj
  have hj' : j < l.length * 5 := by simpa using hj
  refine ⟨?_, free_at hg _⟩
  have h1 : (cur.toList.take (l.length * 5))[j]? = (l.flatMap encE)[j]? := by rw [ht]
  rw [List.getElem?_take_of_lt hj'] at h1
  have hd : j / 5 < l.length := by omega
  have h2 := flat_ent l (j / 5) hd (j % 5) (by omega)
  rw [show j / 5 * 5 + j % 5 = j by omega] at h2
  rw [Nat.zero_add, cell_at hg, ← Array.getElem?_toList, h1, h2, get_flatK _ _ _ _ hj]
  have h3 : (l.toArray)[j / 5]! = l[j / 5] := by
    rw [getElem!_pos l.toArray (j / 5) (by simpa using hd)]
    simp
  rw [h3]
  have hc : j % 5 < (encE l[j / 5]).length := by show _ < 5; omega
  rw [List.getElem?_eq_getElem hc]
  show some _ = some ((encE l[j / 5])[j % 5]!)
  rw [getElem!_pos (encE l[j / 5]) (j % 5) hc]
theorem isAggB : ∀ w, (isAgg 39).run Tryz.prog w = .ok true w := fun w => by kernel_rfl
theorem sizeOfB : ∀ w, (Go.sizeOf 39).run Tryz.prog w = .ok 5 w := fun w => by kernel_rfl
/-- A block of cells that reads as a list is one's own. -/
theorem ents_of_see {w' : World} {B g cap n : Nat} {l' : List Ent} {cur' : Array Value} (hB : B ≤ g) (h1 : n ≤ cap) (h2 : cap ≤ maxLen) (h3 : cur'.size = cap * 5) (hk : w'.heap[g]? = some (.cells cur' 39 (0, 0))) (hn : l'.length = n) (hs : SeeE w' (.slice (some ⟨g, 0, none⟩) n cap) l') : EntsAt w' B (.slice (some ⟨g, 0, none⟩) n cap) l' := by
  subst hn
  refine ⟨ents_flat l', .inr ⟨g, cap, cur', rfl, hB, hk, h1, h2, h3, ?_⟩⟩
  apply List.ext_getElem?
  intro x
  rw [List.getElem?_take]
  by_cases hx : x < l'.length * 5
  · rw [if_pos hx, Array.getElem?_toList]
    have hd : x / 5 < l'.length := by omega
    have h5 := flat_ent l' (x / 5) hd (x % 5) (by omega)
    rw [show x / 5 * 5 + x % 5 = x by omega] at h5
    have hc5 : x % 5 < (encE l'[x / 5]).length := by show x % 5 < 5; omega
    obtain ⟨u, hu⟩ : ∃ u, (encE l'[x / 5])[x % 5]? = some u := ⟨_, List.getElem?_eq_getElem hc5⟩
    obtain ⟨a, c, e, hc⟩ := hs
    cases e
    obtain ⟨g', o', e, hcell⟩ := hc (fun e => by rw [e] at hd; simp at hd)
    cases e
    have := hcell (x / 5) hd (x % 5) u hu
    rw [cell_at hk, show 0 + x / 5 * 5 + x % 5 = x by omega] at this
    rw [this, h5, hu]
  · rw [if_neg hx, List.getElem?_eq_none (by rw [ents_flat]; omega)]
set_option maxHeartbeats 1000000 in
/-- The list of one table is sorted. -/
theorem sort_own {w : World} {B g cap : Nat} {l : List Ent} (hrow : EntsAt w B (.slice (some ⟨g, 0, none⟩) l.length cap) l) (hn : l.Pairwise fun a b => ¬ (a.c = b.c ∧ a.m = b.m)) (hlen : l.length ≤ 20000000) :
    Calls Tryz.prog 38 #[.slice (some ⟨g, 0, none⟩) l.length cap, .func (.func 39) #[] #[]] w fun e w' => e = .returned (.tuple #[]) ∧ ∃ l', l'.Perm l ∧ l'.Pairwise keyLt ∧ SeeE w' (.slice (some ⟨g, 0, none⟩) l.length cap) l' ∧ w.grownBy w' (some g) ∧ EntsAt w' B (.slice (some ⟨g, 0, none⟩) l.length cap) l' := by
  rcases hrow.2 with ⟨e, _⟩ | ⟨g', cap', cur, e, hb, hg, h1, h2, h3, h4⟩
  · cases e
  · cases e
    have hH := holds_ents hg h4
    have hblk : g < w.heap.size := lt_block hg
    have eg : ∀ args w, (callFunc 39 args).run Tryz.prog w = .ok (.enter 39 args) w := enters_of Tryz.func39 (by kernel_rfl) rfl
    have hcmp : CmpLays Tryz.prog 39 #[] encE 5 cmpE g 0 l.toArray.size w := fun _ _ _ _ x y => byKey_any x y _
    have hcon := AnyQ.slices_SortFunc Tryz.sortB 5 isAggB sizeOfB encE (fun _ => rfl) (fun x v hv => by
      simp only [encE, List.mem_cons, List.not_mem_nil, or_false] at hv
      rcases hv with e | e | e | e | e <;> rw [e] <;> rfl) cmpE cmpE_swo 39 #[] g 0 cap l.toArray w eg hcmp hH hblk (by simp; omega)
    simp only [List.size_toArray] at hcon
    refine Calls.mono (f := 38) hcon ?_
    rintro e w' ⟨rfl, d', n, os, hp, hs, rfl⟩
    obtain ⟨p1, _, p3⟩ := hp
    have hsz : d'.toList.length = l.length := by rw [Array.length_toList, p1]; simp
    have hperm : d'.toList.Perm l := by
      have q1 : d'.extract 0 l.length = d' := by
        have : l.length = d'.size := by rw [p1]; simp
        rw [this]; simp
      have q2 : l.toArray.extract 0 l.length = l.toArray := by simp
      rw [q1, q2] at p3
      simpa using p3
    have hHo := holdsK_sortWorldK_c encE 5 w g 0 l.toArray d' n os hH hblk p1
    have hsee : SeeE (sortWorldK encE 5 w g 0 n d' os) (.slice (some ⟨g, 0, none⟩) l.length cap) d'.toList := by
      refine ⟨_, _, by rw [hsz], fun _ => ⟨g, 0, rfl, fun j hj c u hu => ?_⟩⟩
      have hc : c < 5 := (List.getElem?_eq_some_iff.1 hu).1
      have hjd : j < d'.size := by simpa using hj
      have h9 := (hHo.cell hjd hc).1
      rw [h9, getElem!_pos d' j hjd]
      have hu2 : (encE d'[j])[c]? = some u := by simpa using hu
      have hcl : c < (encE d'[j]).length := (List.getElem?_eq_some_iff.1 hu2).1
      rw [List.getElem?_eq_getElem hcl] at hu2
      rw [getElem!_pos (encE d'[j]) c hcl]
      exact hu2
    refine ⟨rfl, d'.toList, hperm, sorted_up hperm (fun i j hi hj hij q => ?_) hn, hsee, ?_, ?_⟩
    · have h9 := hs i j (Nat.zero_le _) hij (by rw [hsz] at hj; simpa using hj)
      rw [getElem!_pos d' j (by simpa using hj), getElem!_pos d' i (by simpa using hi)] at h9
      have := (cmpE_lt d'[j] d'[i]).2 (by simpa using q)
      rw [this] at h9
      cases h9
    · unfold sortWorldK putRowK
      refine ⟨rfl, rfl, rfl, by simp, fun k hk hne => ?_⟩
      rw [heap_grow_old _ _ (by simpa using hk)]
      have : g ≠ k := fun e => hne (by rw [e])
      simp [putRow, mapBlock, Sort.ahead, Array.getElem?_modify, this]
    · have hblk2 : (sortWorldK encE 5 w g 0 n d' os).heap[g]? = some (.cells (putCells id 0 (flatK encE 5 d') cur) 39 (0, 0)) := by
        unfold sortWorldK putRowK
        rw [heap_grow_old _ _ (by simpa using hblk)]
        simp [putRow, mapBlock, Sort.ahead, Array.getElem?_modify, hg, onCells]
      exact ents_of_see hb h1 h2 (by simp [putCells, h3]) hblk2 hsz hsee
theorem sort_any {w : World} {B g cap : Nat} {l : List Ent} (hrow : EntsAt w B (.slice (some ⟨g, 0, none⟩) l.length cap) l) (hn : l.Pairwise fun a b => ¬ (a.c = b.c ∧ a.m = b.m)) (hlen : l.length ≤ 20000000) :
    Calls Tryz.prog 38 #[.slice (some ⟨g, 0, none⟩) l.length cap, .func (.func 39) #[] #[]] w fun e w' => e = .returned (.tuple #[]) ∧ ∃ l', l'.Perm l ∧ l'.Pairwise keyLt ∧ SeeE w' (.slice (some ⟨g, 0, none⟩) l.length cap) l' ∧ w.grownBy w' (some g) := by
  refine Calls.mono (f := 38) (sort_own hrow hn hlen) ?_
  rintro e w' ⟨he, l', h1, h2, h3, h4, _⟩
  exact ⟨he, l', h1, h2, h3, h4⟩
end Go.Proofs.YtbonnjilbocldaaGreatDoor

namespace Go.Proofs.YtbonnjilbocldaaGreatDoor
open Go.RowKit Go.Sort Go.Maps
set_option linter.unusedVariables false
set_option maxRecDepth 100000

theorem toList_inj {t s : ByteArray} (h : t.toList = s.toList) : t = s := by
  rw [Lib.toList_data, Lib.toList_data] at h
  exact ByteArray.ext (Array.ext' h)
structure Lg (w wr : World) (b n : Nat) (D : DataW Unit) (t : ByteArray) (ov : Value) (l : List Ent) (left : Lit → Bool) (cnt : Nat) : Prop where
  rg : wr.ranges Tryz.prog 76 meanR b w.heap.size n D left cnt
  below : Below w.heap.size w wr
  own : EntsAt wr (w.heap.size + 1) ov l
  mem : ∀ e, e ∈ l ↔ e.t = t ∧ e.In D ∧ left e.k = false
  nd : l.Pairwise fun a b => ¬ (a.c = b.c ∧ a.m = b.m)
theorem Lg.skip {w wr w2 : World} {b n : Nat} {D : DataW Unit} {t : ByteArray} {ov : Value} {l : List Ent} {left : Lit → Bool} {cnt cnt1 : Nat} (H : Lg w wr b n D t ov l left cnt) {e : Ent} (hin : e.In D) (net : e.t ≠ t)
    (hrg : w2.ranges Tryz.prog 76 meanR b w.heap.size n D (fun z => left z && !z.sameKey e.k) cnt1) (hb : Below w.heap.size w w2) (ho : EntsAt w2 (w.heap.size + 1) ov l) : Lg w w2 b n D t ov l (fun z => left z && !z.sameKey e.k) cnt1 := by
  refine ⟨hrg, hb, ho, fun x => (H.mem x).trans ⟨fun ⟨q1, q2, q3⟩ => ⟨q1, q2, by simp [q3]⟩, fun ⟨q1, q2, q3⟩ => ⟨q1, q2, ?_⟩⟩, H.nd⟩
  simp only [Bool.and_eq_false_iff, Bool.not_eq_false'] at q3
  rcases q3 with q | q
  · exact q
  · have := Ent.k_inj q2.wf hin.wf (WideAt.sameKey_eq q)
    exact absurd (this.1.symm.trans q1) net
theorem Lg.more {w wr w2 : World} {b n : Nat} {D : DataW Unit} {t : ByteArray} {ov ov2 : Value} {l : List Ent} {left : Lit → Bool} {cnt cnt1 : Nat} (H : Lg w wr b n D t ov l left cnt) {e : Ent} (hin : e.In D) (het : e.t = t) (hl : left e.k = true)
    (hrg : w2.ranges Tryz.prog 76 meanR b w.heap.size n D (fun z => left z && !z.sameKey e.k) cnt1) (hb : Below w.heap.size w w2) (ho : EntsAt w2 (w.heap.size + 1) ov2 (l ++ [e])) : Lg w w2 b n D t ov2 (l ++ [e]) (fun z => left z && !z.sameKey e.k) cnt1 := by
  refine ⟨hrg, hb, ho, fun x => ?_, ?_⟩
  · rw [List.mem_append, List.mem_singleton, H.mem]
    simp only [Bool.and_eq_false_iff, Bool.not_eq_false']
    constructor
    · rintro (⟨q1, q2, q3⟩ | rfl)
      · exact ⟨q1, q2, .inl q3⟩
      · exact ⟨het, hin, .inr (WideAt.sameKey_self (Ent.key hin.wf))⟩
    · rintro ⟨q1, q2, q3 | q3⟩
      · exact .inl ⟨q1, q2, q3⟩
      · exact .inr (q2.one hin (Ent.k_inj q2.wf hin.wf (WideAt.sameKey_eq q3)))
  · rw [List.pairwise_append]
    refine ⟨H.nd, by simp, fun a ha c hc hq => ?_⟩
    rw [List.mem_singleton] at hc
    subst hc
    obtain ⟨q1, q2, q3⟩ := (H.mem a).1 ha
    have := Ent.k_of ⟨q1.trans het.symm, hq⟩
    rw [this, hl] at q3
    cases q3
theorem Lg.len {w wr : World} {b n : Nat} {D : DataW Unit} {t : ByteArray} {ov : Value} {l : List Ent} {left : Lit → Bool} {cnt : Nat} (H : Lg w wr b n D t ov l left cnt) (hD : Ok D) : l.length ≤ 200 := by
  refine Nat.le_trans (in_len hD.tidy (H.nd.imp_of_mem fun {a b} ha hb hab q => ?_) fun e he => ((H.mem e).1 he).2.1.has) hD.few
  have := Ent.k_inj ((H.mem a).1 ha).2.1.wf ((H.mem b).1 hb).2.1.wf q
  exact hab this.2
theorem Lg.grown {w wr w1 : World} {b n : Nat} {D : DataW Unit} {t : ByteArray} {ov : Value} {l : List Ent} {left : Lit → Bool} {cnt : Nat} (H : Lg w wr b n D t ov l left cnt) (hg : wr.grownBy w1 (some w.heap.size)) : Below w.heap.size w w1 ∧ EntsAt w1 (w.heap.size + 1) ov l := by
  refine ⟨H.below.grown hg H.below.size (fun j hj => by cases hj; exact Nat.le_refl _), H.own.keep fun g hgo => ?_⟩
  obtain ⟨q1, cur, q2⟩ := H.own.blk hgo
  exact hg.block g (lt_block q2) (fun q => by cases q; omega)
set_option maxHeartbeats 1000000 in
theorem list_own {w : World} {d b n : Nat} {D : DataW Unit} (h : Tb w d b n D) (hD : Ok D) (t : ByteArray) (ht : t.size ≤ 140737488355328) :
    Calls Tryz.prog 16 #[.pointer (some ⟨d, 0, none⟩), .string t] w fun e w' => ∃ v l, e = .returned v ∧ Lst D t l ∧ EntsAt w' (w.heap.size + 1) v l ∧ Below w.heap.size w w' := by
  have hc0 := cell_at h.blk 0
  have HOwn := hidK h.own
  go_enter Tryz.func16, Tryz.ntmps16
  go_wp2_with (first
    | (at_range; refine wpList_range_own _ rfl (.tmp 11) 64 rfl 76 78 slotKeyed underRows meanR b n D rfl HOwn.out ?_; intro w0 hrg0 hg0 hs0)
    | go_in)
  go_frame
  go_loopw [5] (fun ov wr => ∃ l left cnt, Hid (Lg w wr b n D t ov l left cnt)) (fun _ wr => wr.rangeLeft b w.heap.size)
  case atStart =>
    refine ⟨[], _, _, hidK ⟨hrg0, (Below.refl _ _).grown hg0 (Nat.le_refl _) (fun j hj => by cases hj), EntsAt.nil _ _, fun e => ?_, List.Pairwise.nil⟩⟩
    simp only [List.not_mem_nil, false_iff]
    rintro ⟨q1, q2, q3⟩
    rw [q2.has] at q3
    cases q3
  case round =>
    obtain ⟨l, left, cnt, HL⟩ := hrel
    go_wp2_with (first
      | (at_next; refine wpList_next_ranges _ rfl (.tmp 12) rfl 76 slotKeyed meanR (fun x : Value => x) (fun x : Value => x) (fun key _ _ => ⟨key, rfl⟩) (fun v _ _ => ⟨v, rfl⟩) b w.heap.size n D left cnt rfl HL.out.rg ?_ ?_)
      | go_in)
    · intro hz hlz
      have hmem : ∀ e, e ∈ l ↔ e.t = t ∧ e.In D := fun e => by rw [HL.out.mem, hlz]; simp
      have hlen := HL.out.len hD
      have HM := hidK hmem
      have HN := hidK HL.out.nd
      have HBw := hidK HL.out.below
      have HOw := hidK HL.out.own
      rcases HL.out.own.2 with ⟨rfl, hl0⟩ | ⟨g, cap, cur, rfl, hbg, hg, r1⟩
      · have hl : l = [] := List.length_eq_zero_iff.1 hl0
        subst hl
        clear hmem hlz HL hl0 hlen
        go_wp2_with (go_at_call 38; refine (AnyF.slices_SortFunc_none Tryz.sortB none 0 _ _).mono ?_; rintro e w' ⟨rfl, rfl⟩)
        go_ret
        exact ⟨_, [], rfl, ⟨List.Pairwise.nil, HM.out⟩, HOw.out, HBw.out⟩
      · have HG := hidK (And.intro hbg (lt_block hg))
        clear hmem hlz HL hbg hg r1
        have HLn := hidK hlen
        clear hlen
        go_wp2_with (go_at_call 38; refine (sort_own HOw.out HN.out (by have := HLn.out; omega)).mono ?_; rintro e w' ⟨rfl, hex⟩; have HX := hidK hex; clear hex)
        go_ret
        obtain ⟨l', hp, hu, _, hgr, hs⟩ := HX.out
        refine ⟨_, l', rfl, ⟨hu, fun e => ?_⟩, hs, HBw.out.grown hgr HBw.out.size (fun j hj => by cases hj; have := HG.out.1; omega)⟩
        rw [hp.mem_iff]
        exact HM.out e
    · intro key val kl y1 y2 w1 cnt1 hkey hleft hval hat hrg1 hlt hg1 hs1 hen
      have hhas := Maps.has_true_of_atKey hat
      obtain ⟨e, hek, hin, hw, hv⟩ := hD.keys kl hhas
      obtain ⟨s, r, rfl, hz⟩ := meanR_inv hval
      have hkv : key = .agg #[.string e.t, .int .i64 e.c, .int .i64 e.m] := by
        subst hek
        exact slotKeyed.inj hkey (slot_key (by have := hin.wf.1; unfold maxLen; omega) hin.wf.2.1 hin.wf.2.2)
      have hsr : e.ln = s ∧ e.rp = r := by
        refine meanD_inj ?_
        rw [← hin.at_, hek, hat]
        exact congrArg Prod.fst hz
      obtain ⟨q1, q2⟩ := hsr
      subst q1 q2 hkv hek
      clear hval hz hat
      obtain ⟨hb1, ho1⟩ := HL.out.grown hg1
      have HTo : Hid (∀ Y, Calls Tryz.prog 37 #[.agg #[.string e.t, .int .i64 e.c, .int .i64 e.m], .agg #[.string e.ln, .bool e.rp]] Y fun q w' => q = .returned (.agg #[.string e.t, .int .i64 e.c, .int .i64 e.m, .bool e.rp, .string e.ln]) ∧ Below Y.heap.size Y w') := fun Y => told_any e.t e.ln e.c e.m e.rp Y hin.wf.1 (by have := h.short _ _ _ hin.at_; omega)
      obtain ⟨w2, hw2⟩ : ∃ W, (w1.alloc (.cells #[.string e.t, .int .i64 e.c, .int .i64 e.m] 76)).alloc (.cells #[.string e.ln, .bool e.rp] 78) = W := ⟨_, rfl⟩
      have hA : w2.heap[wr.heap.size]? = some (.cells #[.string e.t, .int .i64 e.c, .int .i64 e.m] 76 (0, 0)) := by rw [← hw2, ← hs1]; exact alloc_at (heap_alloc_new _ _) _
      have hB : w2.heap[wr.heap.size + 1]? = some (.cells #[.string e.ln, .bool e.rp] 78 (0, 0)) := by
        have q : (w1.alloc (.cells #[.string e.t, .int .i64 e.c, .int .i64 e.m] 76)).heap.size = wr.heap.size + 1 := by simp [hs1]
        rw [← hw2, ← q]; exact heap_alloc_new _ _
      have a0 := cell_at hA 0
      have a1 := cell_at hA 1
      have a2 := cell_at hA 2
      have b0 := cell_at hB 0
      have b1 := cell_at hB 1
      clear hA hB
      have hb2 : Below w1.heap.size w1 w2 := by rw [← hw2]; exact ((Below.refl _ _).alloc (Nat.le_refl _) _).alloc (by simp) _
      have hrg2 : w2.ranges Tryz.prog 76 meanR b w.heap.size n D (fun z => left z && !z.sameKey e.k) cnt1 := by rw [← hw2]; exact (hrg1.alloc _).alloc _
      have HR2 := hidK hrg2
      have HO2 := hidK (ho1.below hb2)
      have HB2 := hidK (below_step2 hb1 hb2 hb1.size)
      have HLt : Hid (w2.rangeLeft b w.heap.size < wr.rangeLeft b w.heap.size) := by
        show _ < _
        rw [HR2.out.left_eq, HL.out.rg.left_eq]; exact hlt
      clear hc0 hb2 hrg2 ho1 hb1 hrg1 hg1
      have HKe := HO2
      have HSz : Hid (w.heap.size + 1 ≤ w2.heap.size) := by
        have h1 := HB2.out.size
        have h2 := HR2.out.lt
        show _ ≤ _
        omega
      have HLn := hidK (HL.out.len hD)
      go_wp2_with (first
        | (go_at_call 37; refine (HTo.out _).mono ?_; rintro q Y ⟨rfl, hbY⟩; have HKY : Hid (EntsAt Y (w.heap.size + 1) u5 l) := (HKe.out.below hbY); have HbY := hidK hbY; clear hbY)
        | (at_builtin; refine wpList_append_ent _ rfl (.tmp 22) (.tmp 26) rfl (w.heap.size + 1) _ l rfl (HKY.out.below ((Below.refl _ _).alloc (Nat.le_refl _) _)) Y.heap.size e rfl (heap_alloc_new Y _) ?x1 ?x2 ?_; (case x1 => have := HLn.out; omega); (case x2 => have h1 := HSz.out; have h2 := HbY.out.size; simp; omega); intro ov2 w6 ho6 hg6))
      · have hgY : w2.grownBy Y none := ⟨HbY.out.os, HbY.out.tape, HbY.out.output, HbY.out.size, fun i hi _ => HbY.out.block i hi⟩
        have hgA := World.grownBy_alloc Y (.cells #[.string e.t, .int .i64 e.c, .int .i64 e.m, .bool e.rp, .string e.ln] 39) none
        have hnb : ∀ g, u5.ownBlock = some g → w.heap.size + 1 ≤ g := fun g hg => (HKe.out.blk hg).1
        have hr6 := ((HR2.out.kept hgY (by simp) (by simp)).kept hgA (by simp) (by simp)).kept hg6 (fun q => by have h1 := hnb _ q.symm; have h2 := h.lt.2; omega) (fun q => by have h1 := hnb _ q.symm; omega)
        have hbl : Below w.heap.size w (Y.alloc (.cells #[.string e.t, .int .i64 e.c, .int .i64 e.m, .bool e.rp, .string e.ln] 39)) := below_step2 HB2.out ((HbY.out.alloc HbY.out.size _)) HB2.out.size
        have hb6 : Below w.heap.size w w6 := hbl.grown hg6 hbl.size (fun j hj => by have := hnb j hj; omega)
        refine ⟨⟨_, _, _, hidK (HL.out.more hin (toList_inj (by simpa using ‹(e.t.toList == t.toList) = true›)) hleft hr6 hb6 ho6)⟩, ?_⟩
        have h1 := HLt.out
        rw [HR2.out.left_eq] at h1
        rw [hr6.left_eq]
        exact h1
      · exact ⟨⟨_, _, _, hidK (HL.out.skip hin (fun q => by have q2 := ‹(e.t.toList == t.toList) = false›; rw [q] at q2; simp at q2) HR2.out HB2.out HO2.out)⟩, HLt.out⟩
theorem list_any {w : World} {d b n : Nat} {D : DataW Unit} (h : Tb w d b n D) (hD : Ok D) (t : ByteArray) (ht : t.size ≤ 140737488355328) :
    Calls Tryz.prog 16 #[.pointer (some ⟨d, 0, none⟩), .string t] w fun e w' => ∃ v l, e = .returned v ∧ Lst D t l ∧ SeeE w' v l ∧ Below w.heap.size w w' := by
  refine (list_own h hD t ht).mono ?_
  rintro e w' ⟨v, l, h1, h2, h3, h4⟩
  exact ⟨v, l, h1, h2, h3.see, h4⟩
end Go.Proofs.YtbonnjilbocldaaGreatDoor
