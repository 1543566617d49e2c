/-
  Options: what is set, compared by its name.
  Options: a list of what is set, sorted by its names.
  Options: what is set of one thing, by its names (pure).
-/
import Derived.Test.YtgdkpmfdpfjdjaaGreatDoorOEnA
import Derived.Test.YtgdkpmfdpfjdjaaGreatDoorOTb
import Derived.Test.YtgdkpmfdpfjdjaaGreatDoorOSrL
import Derived.Test.YtgdkpmfdpfjdjaaGreatDoorOSp
import Derived.Sort.Grow
import Derived.Sort.Walk0
import Derived.Laws.Cover1
import Derived.Shelf.SlSortCmp.NoneTotal
namespace Go.Proofs.YtgdkpmfdpfjdjaaGreatDoor
open Go.RowKit Go.Sort
set_option linter.unusedVariables false
set_option maxRecDepth 100000

theorem isNaN_any (s : ByteArray) (w : World) : Calls Tryz.prog 104 #[.string s] w fun e w' => e = .returned (.bool false) ∧ w = w' := by
  have h1 : (s.toList == s.toList) = true := by simp
  go_enter Tryz.func104, Tryz.ntmps104
  go_wp2_with fail
  go_ret
  exact ⟨rfl, rfl⟩
/-- How two texts compare. -/
def cmpS (x y : ByteArray) : Int := if x.toList < y.toList then -1 else if x = y then 0 else 1
theorem cmpS_any (x y : ByteArray) (w : World) : Calls Tryz.prog 73 #[.string x, .string y] w fun e w' => e = .returned (.int .i64 (cmpS x y)) ∧ w = w' := by
  have HN := hidK (fun s => isNaN_any s w)
  by_cases h : x.toList < y.toList
  · have HR : Hid (cmpS x y = -1) := if_pos h
    have h1 : Op.bytesLess x.toList y.toList = true := by rw [bytesLess_eq]; exact decide_eq_true h
    clear h
    go_enter Tryz.func73, Tryz.ntmps73
    go_wp2_with (first | (go_at_call 104; refine (HN.out _).mono ?_; rintro e w' ⟨rfl, rfl⟩))
    go_ret
    exact ⟨by rw [HR.out]; rfl, rfl⟩
  have h1 : Op.bytesLess x.toList y.toList = false := by rw [bytesLess_eq]; exact decide_eq_false h
  by_cases h2 : x = y
  · have HR : Hid (cmpS x y = 0) := (if_neg h).trans (if_pos h2)
    have h3 : (x.toList == y.toList) = true := by rw [h2]; simp
    clear h h2
    go_enter Tryz.func73, Tryz.ntmps73
    go_wp2_with (first | (go_at_call 104; refine (HN.out _).mono ?_; rintro e w' ⟨rfl, rfl⟩))
    go_ret
    exact ⟨by rw [HR.out]; rfl, rfl⟩
  · have HR : Hid (cmpS x y = 1) := (if_neg h).trans (if_neg h2)
    have h3 : (x.toList == y.toList) = false := by
      rw [beq_eq_false_iff_ne]
      intro q
      rw [Lib.toList_data, Lib.toList_data] at q
      exact h2 (Go.WideShapes.bytes_inj q)
    clear h h2
    go_enter Tryz.func73, Tryz.ntmps73
    go_wp2_with (first | (go_at_call 104; refine (HN.out _).mono ?_; rintro e w' ⟨rfl, rfl⟩))
    go_ret
    exact ⟨by rw [HR.out]; rfl, rfl⟩
def keyLt (x y : Ent) : Prop := x.nm.toList < y.nm.toList
theorem u8_irr : ∀ a : UInt8, ¬ a < a := fun a h => by simp at h
theorem keyLt_irrefl (x : Ent) : ¬ keyLt x x := fun h => List.lt_irrefl _ h
theorem keyLt_trans (x y z : Ent) (h1 : keyLt x y) (h2 : keyLt y z) : keyLt x z := List.lt_trans h1 h2
theorem keyLt_tot {x y : Ent} (h1 : ¬ keyLt x y) (h2 : ¬ keyLt y x) : x.nm = y.nm := by
  have h : x.nm.toList = y.nm.toList := List.le_antisymm (List.not_lt.1 h2) (List.not_lt.1 h1)
  rw [Lib.toList_data, Lib.toList_data] at h
  exact Go.WideShapes.bytes_inj h
/-- How two settings compare. -/
def cmpE (x y : Ent) : Int := cmpS x.nm y.nm
theorem cmpE_lt (x y : Ent) : ltOf cmpE x y = true ↔ keyLt x y := by
  unfold ltOf cmpE cmpS keyLt
  rw [decide_eq_true_iff]
  by_cases h : x.nm.toList < y.nm.toList
  · rw [if_pos h]
    exact ⟨fun _ => h, fun _ => by decide⟩
  · rw [if_neg h]
    refine ⟨fun q => ?_, fun q => absurd q h⟩
    by_cases h2 : x.nm = y.nm
    · rw [if_pos h2] at q; omega
    · rw [if_neg h2] at q; omega
theorem cmpE_swo : SWO (ltOf cmpE) where
  irrefl x := by
    cases h : ltOf cmpE x x
    · rfl
    · exact absurd ((cmpE_lt x x).1 h) (keyLt_irrefl x)
  trans x y z h1 h2 := (cmpE_lt x z).2 (keyLt_trans x y z ((cmpE_lt x y).1 h1) ((cmpE_lt y z).1 h2))
  ntrans x y z h1 h2 := by
    cases h : ltOf cmpE x z
    · rfl
    · exfalso
      have h3 := (cmpE_lt x z).1 h
      have n1 : ¬ keyLt x y := fun q => by rw [(cmpE_lt x y).2 q] at h1; cases h1
      have n2 : ¬ keyLt y z := fun q => by rw [(cmpE_lt y z).2 q] at h2; cases h2
      exact absurd h3 (List.not_lt.2 (List.le_trans (List.not_lt.1 n2) (List.not_lt.1 n1)))
set_option maxHeartbeats 1000000 in
theorem byName_any (x y : Ent) (w : World) : Calls Tryz.prog 57 #[.agg (encE x).toArray, .agg (encE y).toArray] w fun e w' => e = .returned (.int .i64 (cmpE x y)) ∧ ∃ q os', w' = grow (w.drewN q) os' := by
  obtain ⟨xs, xi, xn, xv⟩ := x
  obtain ⟨ys, yi, yn, yv⟩ := y
  have HC := hidK (fun W => cmpS_any xn yn W)
  obtain ⟨R, hR⟩ : ∃ R, cmpS xn yn = R := ⟨_, rfl⟩
  have HR : Hid (cmpE ⟨xs, xi, xn, xv⟩ ⟨ys, yi, yn, yv⟩ = R) := hR
  rw [hR] at HC
  rw [HR.out]
  unfold encE
  obtain ⟨W1, hW1, a1, b1, s1⟩ := two_blk (w := w) #[.int .i64 xs, .int .i64 xi, .string xn, .string xv] 87
  obtain ⟨W2, hW2, a2, b2, s2⟩ := two_blk (w := W1) #[.int .i64 ys, .int .i64 yi, .string yn, .string yv] 87
  obtain ⟨Q1, hQ1⟩ : ∃ Q, w.heap.size = Q := ⟨_, rfl⟩
  obtain ⟨Q2, hQ2⟩ : ∃ Q, W1.heap.size = Q := ⟨_, rfl⟩
  rw [hQ1] at a1
  rw [hQ2] at a2
  have c1 := cell_at (kpO b2 a1) 2
  have c2 := cell_at a2 2
  have HG : Hid (∃ q os', W2 = grow (w.drewN q) os') := ⟨0, #[.cells #[.int .i64 xs, .int .i64 xi, .string xn, .string xv] 87] ++ #[.cells #[.int .i64 ys, .int .i64 yi, .string yn, .string yv] 87], by
    rw [← hW2, ← hW1, alloc_eq_grow, alloc_eq_grow]
    show grow (grow w #[_]) #[_] = _
    rw [grow_grow]
    rfl⟩
  clear hR a1 b1 s1 a2 b2 s2
  go_enter Tryz.func57, Tryz.ntmps57
  go_wp2_with (first | (go_at_call 73; refine (HC.out _).mono ?_; rintro e w' ⟨rfl, rfl⟩))
  go_ret
  exact ⟨rfl, HG.out⟩
end Go.Proofs.YtgdkpmfdpfjdjaaGreatDoor

namespace Go.Proofs.YtgdkpmfdpfjdjaaGreatDoor
open Go.RowKit Go.Sort
set_option linter.unusedVariables false
set_option maxRecDepth 100000

theorem up_unique {α : Type} {r : α → α → Prop} (hi : ∀ a, ¬ r a a) (ht : ∀ a b c, r a b → r b c → r a c) : ∀ {l l' : List α}, l.Pairwise r → l'.Pairwise r → (∀ x, x ∈ l ↔ x ∈ l') → l = l'
  | [], [], _, _, _ => rfl
  | [], b :: s, _, _, h => by have := (h b).2 (by simp); simp at this
  | a :: s, [], _, _, h => by have := (h a).1 (by simp); simp at this
  | a :: r1, b :: s, h1, h2, h => by
    obtain ⟨a1, a2⟩ := List.pairwise_cons.1 h1
    obtain ⟨b1, b2⟩ := List.pairwise_cons.1 h2
    have hab : a = b := by
      rcases List.mem_cons.1 ((h a).1 (by simp)) with e | ha
      · exact e
      · rcases List.mem_cons.1 ((h b).2 (by simp)) with e | hb
        · exact e.symm
        · exact absurd (ht _ _ _ (a1 b hb) (b1 a ha)) (hi a)
    subst hab
    rw [up_unique hi ht a2 b2 (fun p => ⟨fun hp => by
      rcases List.mem_cons.1 ((h p).1 (by simp [hp])) with e | hp'
      · exact absurd (e ▸ a1 p hp) (hi a)
      · exact hp', fun hp => by
      rcases List.mem_cons.1 ((h p).2 (by simp [hp])) with e | hp'
      · exact absurd (e ▸ b1 p hp) (hi a)
      · exact hp'⟩)]
theorem sorted_up {l l' : List Ent} (hp : l'.Perm l) (hs : ∀ (i j : Nat) (hi : i < l'.length) (hj : j < l'.length), i < j → ¬ keyLt l'[j] l'[i]) (hn : l.Pairwise fun a b => ¬ a.nm = b.nm) : l'.Pairwise keyLt := by
  have hn' : l'.Pairwise fun a b => ¬ a.nm = b.nm := (hp.pairwise_iff (fun {a b} h => fun q => h q.symm)).2 hn
  rw [List.pairwise_iff_getElem] at hn' ⊢
  intro i j hi hj hij
  have h1 := hs i j hi hj hij
  have h2 := hn' i j hi hj hij
  exact Classical.byContradiction fun q => h2 (keyLt_tot q h1)
theorem holds_ents {w : World} {g : Nat} {cur : Array Value} {T : TypeId} {l : List Ent} (hg : w.heap[g]? = some (.cells cur T (0, 0))) (ht : cur.toList.take (l.length * 4) = l.flatMap encE) : HoldsK encE 4 w g 0 l.toArray := by
  intro j hj
  rw [size_flatK] at hj
  have hj' : j < l.length * 4 := by simpa using hj
  refine ⟨?_, free_at hg _⟩
  have h1 : (cur.toList.take (l.length * 4))[j]? = (l.flatMap encE)[j]? := by rw [ht]
  rw [List.getElem?_take_of_lt hj'] at h1
  have hd : j / 4 < l.length := by omega
  have h2 := flat_ent l (j / 4) hd (j % 4) (by omega)
  rw [show j / 4 * 4 + j % 4 = j by omega] at h2
  rw [Nat.zero_add, cell_at hg, ← Array.getElem?_toList, h1, h2, get_flatK _ _ _ _ hj]
  have h3 : (l.toArray)[j / 4]! = l[j / 4] := by
    rw [getElem!_pos l.toArray (j / 4) (by simpa using hd)]
    simp
  rw [h3]
  have hc : j % 4 < (encE l[j / 4]).length := by show _ < 4; omega
  rw [List.getElem?_eq_getElem hc]
  show some _ = some ((encE l[j / 4])[j % 4]!)
  rw [getElem!_pos (encE l[j / 4]) (j % 4) hc]
theorem isAggB : ∀ w, (isAgg 87).run Tryz.prog w = .ok true w := fun w => by kernel_rfl
theorem sizeOfB : ∀ w, (Go.sizeOf 87).run Tryz.prog w = .ok 4 w := fun w => by kernel_rfl
/-- A block of cells that reads as a list is one's own. -/
theorem ents_of_see {w' : World} {B g cap n : Nat} {l' : List Ent} {cur' : Array Value} (hB : B ≤ g) (h1 : n ≤ cap) (h2 : cap ≤ maxLen) (h3 : cur'.size = cap * 4) (hk : w'.heap[g]? = some (.cells cur' 87 (0, 0))) (hn : l'.length = n) (hs : SeeE w' (.slice (some ⟨g, 0, none⟩) n cap) l') : EntsAt w' B (.slice (some ⟨g, 0, none⟩) n cap) l' := by
  subst hn
  refine ⟨ents_flat l', .inr ⟨g, cap, cur', rfl, hB, hk, h1, h2, h3, ?_⟩⟩
  apply List.ext_getElem?
  intro x
  rw [List.getElem?_take]
  by_cases hx : x < l'.length * 4
  · rw [if_pos hx, Array.getElem?_toList]
    have hd : x / 4 < l'.length := by omega
    have h4 := flat_ent l' (x / 4) hd (x % 4) (by omega)
    rw [show x / 4 * 4 + x % 4 = x by omega] at h4
    have hc4 : x % 4 < (encE l'[x / 4]).length := by show x % 4 < 4; omega
    obtain ⟨u, hu⟩ : ∃ u, (encE l'[x / 4])[x % 4]? = some u := ⟨_, List.getElem?_eq_getElem hc4⟩
    obtain ⟨a, c, e, hc⟩ := hs
    cases e
    obtain ⟨g', o', e, hcell⟩ := hc (fun e => by rw [e] at hd; simp at hd)
    cases e
    have := hcell (x / 4) hd (x % 4) u hu
    rw [cell_at hk, show 0 + x / 4 * 4 + x % 4 = x by omega] at this
    rw [this, h4, hu]
  · rw [if_neg hx, List.getElem?_eq_none (by rw [ents_flat]; omega)]
set_option maxHeartbeats 1000000 in
/-- The list of one table is sorted. -/
theorem sort_own {w : World} {B g cap : Nat} {l : List Ent} (hrow : EntsAt w B (.slice (some ⟨g, 0, none⟩) l.length cap) l) (hn : l.Pairwise fun a b => ¬ a.nm = b.nm) (hlen : l.length ≤ 20000000) :
    Calls Tryz.prog 56 #[.slice (some ⟨g, 0, none⟩) l.length cap, .func (.func 57) #[] #[]] w fun e w' => e = .returned (.tuple #[]) ∧ ∃ l', l'.Perm l ∧ l'.Pairwise keyLt ∧ SeeE w' (.slice (some ⟨g, 0, none⟩) l.length cap) l' ∧ w.grownBy w' (some g) ∧ EntsAt w' B (.slice (some ⟨g, 0, none⟩) l.length cap) l' := by
  rcases hrow.2 with ⟨e, _⟩ | ⟨g', cap', cur, e, hb, hg, h1, h2, h3, h4⟩
  · cases e
  · cases e
    have hH := holds_ents hg h4
    have hblk : g < w.heap.size := lt_block hg
    have eg : ∀ args w, (callFunc 57 args).run Tryz.prog w = .ok (.enter 57 args) w := enters_of Tryz.func57 (by kernel_rfl) rfl
    have hcmp : CmpLays Tryz.prog 57 #[] encE 4 cmpE g 0 l.toArray.size w := fun _ _ _ _ x y => byName_any x y _
    have hcon := AnyQ.slices_SortFunc Tryz.sortB 4 isAggB sizeOfB encE (fun _ => rfl) (fun x v hv => by
      simp only [encE, List.mem_cons, List.not_mem_nil, or_false] at hv
      rcases hv with e | e | e | e <;> rw [e] <;> rfl) cmpE cmpE_swo 57 #[] g 0 cap l.toArray w eg hcmp hH hblk (by simp; omega)
    simp only [List.size_toArray] at hcon
    refine Calls.mono (f := 56) hcon ?_
    rintro e w' ⟨rfl, d', n, os, hp, hs, rfl⟩
    obtain ⟨p1, _, p3⟩ := hp
    have hsz : d'.toList.length = l.length := by rw [Array.length_toList, p1]; simp
    have hperm : d'.toList.Perm l := by
      have q1 : d'.extract 0 l.length = d' := by
        have : l.length = d'.size := by rw [p1]; simp
        rw [this]; simp
      have q2 : l.toArray.extract 0 l.length = l.toArray := by simp
      rw [q1, q2] at p3
      simpa using p3
    have hHo := holdsK_sortWorldK_c encE 4 w g 0 l.toArray d' n os hH hblk p1
    have hsee : SeeE (sortWorldK encE 4 w g 0 n d' os) (.slice (some ⟨g, 0, none⟩) l.length cap) d'.toList := by
      refine ⟨_, _, by rw [hsz], fun _ => ⟨g, 0, rfl, fun j hj c u hu => ?_⟩⟩
      have hc : c < 4 := (List.getElem?_eq_some_iff.1 hu).1
      have hjd : j < d'.size := by simpa using hj
      have h9 := (hHo.cell hjd hc).1
      rw [h9, getElem!_pos d' j hjd]
      have hu2 : (encE d'[j])[c]? = some u := by simpa using hu
      have hcl : c < (encE d'[j]).length := (List.getElem?_eq_some_iff.1 hu2).1
      rw [List.getElem?_eq_getElem hcl] at hu2
      rw [getElem!_pos (encE d'[j]) c hcl]
      exact hu2
    refine ⟨rfl, d'.toList, hperm, sorted_up hperm (fun i j hi hj hij q => ?_) hn, hsee, ?_, ?_⟩
    · have h9 := hs i j (Nat.zero_le _) hij (by rw [hsz] at hj; simpa using hj)
      rw [getElem!_pos d' j (by simpa using hj), getElem!_pos d' i (by simpa using hi)] at h9
      have := (cmpE_lt d'[j] d'[i]).2 (by simpa using q)
      rw [this] at h9
      cases h9
    · unfold sortWorldK putRowK
      refine ⟨rfl, rfl, rfl, by simp, fun k hk hne => ?_⟩
      rw [heap_grow_old _ _ (by simpa using hk)]
      have : g ≠ k := fun e => hne (by rw [e])
      simp [putRow, mapBlock, Sort.ahead, Array.getElem?_modify, this]
    · have hblk2 : (sortWorldK encE 4 w g 0 n d' os).heap[g]? = some (.cells (putCells id 0 (flatK encE 4 d') cur) 87 (0, 0)) := by
        unfold sortWorldK putRowK
        rw [heap_grow_old _ _ (by simpa using hblk)]
        simp [putRow, mapBlock, Sort.ahead, Array.getElem?_modify, hg, onCells]
      exact ents_of_see hb h1 h2 (by simp [putCells, h3]) hblk2 hsz hsee
theorem sort_any {w : World} {B g cap : Nat} {l : List Ent} (hrow : EntsAt w B (.slice (some ⟨g, 0, none⟩) l.length cap) l) (hn : l.Pairwise fun a b => ¬ a.nm = b.nm) (hlen : l.length ≤ 20000000) :
    Calls Tryz.prog 56 #[.slice (some ⟨g, 0, none⟩) l.length cap, .func (.func 57) #[] #[]] w fun e w' => e = .returned (.tuple #[]) ∧ ∃ l', l'.Perm l ∧ l'.Pairwise keyLt ∧ SeeE w' (.slice (some ⟨g, 0, none⟩) l.length cap) l' ∧ w.grownBy w' (some g) := by
  refine Calls.mono (f := 56) (sort_own hrow hn hlen) ?_
  rintro e w' ⟨he, l', h1, h2, h3, h4, _⟩
  exact ⟨he, l', h1, h2, h3, h4⟩
end Go.Proofs.YtgdkpmfdpfjdjaaGreatDoor

namespace Go.Proofs.YtgdkpmfdpfjdjaaGreatDoor
open Go.RowKit Go.Maps
set_option linter.unusedVariables false
set_option maxRecDepth 100000

theorem nodup_len {α : Type} : ∀ {l es : List α}, l.Pairwise (fun a b => a ≠ b) → (∀ x ∈ l, x ∈ es) → l.length ≤ es.length
  | [], _, _, _ => Nat.zero_le _
  | a :: l, es, hp, h => by
    obtain ⟨p1, p2⟩ := List.pairwise_cons.1 hp
    obtain ⟨s, t, rfl⟩ := List.append_of_mem (h a (by simp))
    have := nodup_len (l := l) (es := s ++ t) p2 fun x hx => by
      have hx2 := h x (by simp [hx])
      have hne := p1 x hx
      simp only [List.mem_append, List.mem_cons] at hx2 ⊢
      rcases hx2 with q | q | q
      · exact .inl q
      · exact absurd q.symm hne
      · exact .inr q
    simp only [List.length_append, List.length_cons] at this ⊢
    omega
theorem rows_up : rowsO.Pairwise fun a b => a.name.toList < b.name.toList := by
  simp only [Lib.toList_data]
  decide
theorem local_up (L : List Ent) (sc id : Int) : (localF L sc id).Pairwise keyLt := by
  unfold localF
  rw [List.pairwise_filterMap]
  refine rows_up.imp fun {a b} h x hx y hy => ?_
  obtain ⟨v, _, rfl⟩ := Option.map_eq_some_iff.1 hx
  obtain ⟨u, _, rfl⟩ := Option.map_eq_some_iff.1 hy
  exact h
theorem at_of_mem {D : DataW Unit} {L : List Ent} (hd : Dc D L) {e : Ent} (he : e ∈ L) : atF L e.sc e.id e.nm = some e.vl := by
  cases q : atF L e.sc e.id e.nm with
  | none => exact absurd ⟨rfl, rfl, rfl⟩ (atF_none q e he)
  | some v =>
    have h1 := (hd.mem _).1 (atF_mem q)
    have h2 := (hd.mem e).1 he
    have h3 : heldD v = heldD e.vl := h1.at_.symm.trans h2.at_
    rw [heldD_inj h3]
theorem local_mem {D : DataW Unit} {L : List Ent} (hd : Dc D L) (hG : Good L) {sc id : Int} (e : Ent) : e ∈ localF L sc id ↔ (e.sc = sc ∧ e.id = id) ∧ e ∈ L := by
  unfold localF
  rw [List.mem_filterMap]
  constructor
  · rintro ⟨r, hr, hx⟩
    obtain ⟨v, hv, rfl⟩ := Option.map_eq_some_iff.1 hx
    exact ⟨⟨rfl, rfl⟩, atF_mem hv⟩
  · rintro ⟨⟨rfl, rfl⟩, he⟩
    obtain ⟨_, r, hr, _⟩ := hG.each e he
    refine ⟨r, (rowO_mem hr).1, ?_⟩
    rw [(rowO_mem hr).2, at_of_mem hd he]
    rfl
/-- What rises and has the members is the document's list. -/
theorem local_is {D : DataW Unit} {L : List Ent} (hd : Dc D L) (hG : Good L) {sc id : Int} {l : List Ent} (hu : l.Pairwise keyLt) (hm : ∀ e, e ∈ l ↔ (e.sc = sc ∧ e.id = id) ∧ e.In D) : l = localF L sc id :=
  up_unique keyLt_irrefl keyLt_trans hu (local_up L sc id) fun e => by rw [hm, local_mem hd hG, hd.mem]
end Go.Proofs.YtgdkpmfdpfjdjaaGreatDoor
