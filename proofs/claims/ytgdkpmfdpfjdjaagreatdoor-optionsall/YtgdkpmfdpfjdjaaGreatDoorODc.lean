/-
  Options: what is set, as a list, beside the map (pure).
-/
import Derived.Test.YtgdkpmfdpfjdjaaGreatDoorOMap
namespace Go.Proofs.YtgdkpmfdpfjdjaaGreatDoor
open Go.RowKit Go.Maps
set_option linter.unusedVariables false
set_option maxRecDepth 100000

/-- What is set once. -/
structure Ent where
  sc : Int
  id : Int
  nm : ByteArray
  vl : ByteArray
deriving Inhabited
def Ent.k (e : Ent) : Lit := slotK e.sc e.id e.nm.data.toList
def keyWf (sc id : Int) (nm : ByteArray) : Prop := (Lit.int .i64 sc).wf = true ∧ (Lit.int .i64 id).wf = true ∧ nm.size ≤ 140737488355328
def Ent.wf (e : Ent) : Prop := keyWf e.sc e.id e.nm
def Ent.same (a b : Ent) : Prop := a.sc = b.sc ∧ a.id = b.id ∧ a.nm = b.nm
theorem keyWf.key {sc id : Int} {nm : ByteArray} (h : keyWf sc id nm) : keyOf Tryz.prog 69 (slotV sc id nm) = some (slotK sc id nm.data.toList) := slot_key (by have := h.2.2; unfold maxLen; omega) h.1 h.2.1
theorem keyWf.lit {sc id : Int} {nm : ByteArray} (h : keyWf sc id nm) : WideAt.IsKeyLit (slotK sc id nm.data.toList) := slot_lit (by have := h.2.2; unfold maxLen; omega) h.1 h.2.1
theorem Ent.lit {e : Ent} (h : e.wf) : WideAt.IsKeyLit e.k := keyWf.lit h
theorem Ent.k_inj {a b : Ent} (ha : a.wf) (hb : b.wf) (h : a.k = b.k) : a.same b :=
  slot_inj (by have := ha.2.2; unfold maxLen; omega) ha.1 ha.2.1 (by have := hb.2.2; unfold maxLen; omega) hb.1 hb.2.1 h
theorem Ent.k_of {a b : Ent} (h : a.same b) : a.k = b.k := by
  unfold Ent.k
  rw [h.1, h.2.1, h.2.2]
theorem Ent.ext' {a b : Ent} (h : a.same b) (h2 : a.vl = b.vl) : a = b := by
  obtain ⟨a1, a2, a3, a4⟩ := a
  obtain ⟨b1, b2, b3, b4⟩ := b
  obtain ⟨h1, h3, h4⟩ := h
  simp only at h1 h3 h4 h2
  subst h1 h3 h4 h2
  rfl
/-- It is there. -/
structure Ent.In (e : Ent) (D : DataW Unit) : Prop where
  wf : e.wf
  has : Maps.has D e.k = true
  at_ : D.atKey e.k zeroD = heldD e.vl
/-- Not of that key. -/
def offB (sc id : Int) (nm : ByteArray) (e : Ent) : Bool := !(decide (e.sc = sc) && decide (e.id = id) && decide (e.nm = nm))
theorem offB_iff {sc id : Int} {nm : ByteArray} {e : Ent} : offB sc id nm e = true ↔ ¬ (e.sc = sc ∧ e.id = id ∧ e.nm = nm) := by
  unfold offB
  simp
  by_cases h1 : e.sc = sc <;> by_cases h2 : e.id = id <;> simp [h1, h2]
theorem offB_no {sc id : Int} {nm : ByteArray} {e : Ent} : offB sc id nm e = false ↔ (e.sc = sc ∧ e.id = id ∧ e.nm = nm) := by
  rw [← Bool.not_eq_true, offB_iff, Classical.not_not]
/-- What is set there. -/
def atF (L : List Ent) (sc id : Int) (nm : ByteArray) : Option ByteArray := (L.find? fun e => !offB sc id nm e).map Ent.vl
theorem atF_nil (sc id : Int) (nm : ByteArray) : atF [] sc id nm = none := rfl
theorem atF_yes {e : Ent} {sc id : Int} {nm : ByteArray} (L : List Ent) (h : e.sc = sc ∧ e.id = id ∧ e.nm = nm) : atF (e :: L) sc id nm = some e.vl := by
  unfold atF
  rw [List.find?_cons_of_pos (by rw [offB_no.2 h]; rfl)]
  rfl
theorem atF_no {e : Ent} {sc id : Int} {nm : ByteArray} (L : List Ent) (h : ¬ (e.sc = sc ∧ e.id = id ∧ e.nm = nm)) : atF (e :: L) sc id nm = atF L sc id nm := by
  unfold atF
  rw [List.find?_cons_of_neg (by rw [offB_iff.2 h]; simp)]
theorem atF_mem {L : List Ent} {sc id : Int} {nm v : ByteArray} (h : atF L sc id nm = some v) : (⟨sc, id, nm, v⟩ : Ent) ∈ L := by
  unfold atF at h
  obtain ⟨e, he, hv⟩ := Option.map_eq_some_iff.1 h
  have h1 := List.mem_of_find?_eq_some he
  have h2 := List.find?_some he
  have h3 := offB_no.1 (by simpa using h2)
  obtain ⟨a, b, c, d⟩ := e
  obtain ⟨rfl, rfl, rfl⟩ := h3
  cases hv
  exact h1
theorem atF_none {L : List Ent} {sc id : Int} {nm : ByteArray} (h : atF L sc id nm = none) : ∀ e ∈ L, ¬ (e.sc = sc ∧ e.id = id ∧ e.nm = nm) := fun e he q => by
  unfold atF at h
  have h1 := List.find?_eq_none.1 (Option.map_eq_none_iff.1 h) e he
  rw [offB_no.2 q] at h1
  exact h1 rfl
/-- The document's list is what the map holds, each once. -/
structure Dc (D : DataW Unit) (L : List Ent) : Prop where
  tidy : Maps.Tidy D
  size : Maps.size D = L.length
  mem : ∀ e, e ∈ L ↔ e.In D
  keys : ∀ k, Maps.has D k = true → ∃ e : Ent, e.k = k ∧ e.In D
  apart : L.Pairwise fun a b => ¬ a.same b
theorem dc_empty : Dc (.map []) [] := ⟨tidy_empty, by simp [Maps.size], fun e => ⟨fun h => by simp at h, fun h => by have := h.has; simp [Maps.has] at this⟩, fun k h => by simp [Maps.has] at h, List.Pairwise.nil⟩
theorem Dc.wf {D : DataW Unit} {L : List Ent} (h : Dc D L) {x : Ent} (hx : x ∈ L) : x.wf := ((h.mem x).1 hx).wf
/-- The map's word on a key. -/
theorem Dc.look {D : DataW Unit} {L : List Ent} (h : Dc D L) {sc id : Int} {nm : ByteArray} (hw : keyWf sc id nm) : Maps.has D (slotK sc id nm.data.toList) = (atF L sc id nm).isSome ∧ ((atF L sc id nm).isSome = true → D.atKey (slotK sc id nm.data.toList) zeroD = heldD ((atF L sc id nm).getD ⟨#[]⟩)) := by
  cases q : atF L sc id nm with
  | some v =>
    have hin := (h.mem _).1 (atF_mem q)
    exact ⟨hin.has, fun _ => hin.at_⟩
  | none =>
    refine ⟨?_, fun e => by cases e⟩
    cases z : Maps.has D (slotK sc id nm.data.toList) with
    | false => rfl
    | true =>
      obtain ⟨x, hx, hin⟩ := h.keys _ z
      have := Ent.k_inj (b := ⟨sc, id, nm, ⟨#[]⟩⟩) hin.wf hw hx
      exact absurd this (atF_none q x ((h.mem x).2 hin))
theorem off_none {L : List Ent} {sc id : Int} {nm : ByteArray} (h : atF L sc id nm = none) : L.filter (offB sc id nm) = L :=
  List.filter_eq_self.2 fun x hx => offB_iff.2 (atF_none h x hx)
theorem off_mem {L : List Ent} {sc id : Int} {nm : ByteArray} {x : Ent} : x ∈ L.filter (offB sc id nm) ↔ x ∈ L ∧ ¬ (x.sc = sc ∧ x.id = id ∧ x.nm = nm) := by
  rw [List.mem_filter, offB_iff]
theorem off_len {sc id : Int} {nm v : ByteArray} : ∀ {L : List Ent}, L.Pairwise (fun a b => ¬ a.same b) → atF L sc id nm = some v → (L.filter (offB sc id nm)).length + 1 = L.length
  | [], _, h => by cases h
  | a :: L, hp, h => by
    obtain ⟨p1, p2⟩ := List.pairwise_cons.1 hp
    by_cases ha : a.sc = sc ∧ a.id = id ∧ a.nm = nm
    · rw [List.filter_cons_of_neg (by rw [offB_no.2 ha]; decide)]
      have : L.filter (offB sc id nm) = L := List.filter_eq_self.2 fun y hy => offB_iff.2 fun q => p1 y hy ⟨ha.1.trans q.1.symm, ha.2.1.trans q.2.1.symm, ha.2.2.trans q.2.2.symm⟩
      rw [this]
      rfl
    · rw [List.filter_cons_of_pos (offB_iff.2 ha)]
      rw [atF_no L ha] at h
      have := off_len p2 h
      simp only [List.length_cons]
      omega
/-- Something is set. -/
theorem Dc.put {D : DataW Unit} {L : List Ent} (h : Dc D L) {e : Ent} (hw : e.wf) : Dc (D.put e.k (heldD e.vl)) (L.filter (offB e.sc e.id e.nm) ++ [e]) := by
  have key := Ent.lit hw
  have hm : ∀ x : Ent, x ∈ L.filter (offB e.sc e.id e.nm) ++ [e] ↔ x.In (D.put e.k (heldD e.vl)) := fun x => by
    rw [List.mem_append, List.mem_singleton, off_mem, h.mem]
    constructor
    · rintro (⟨q, hne⟩ | rfl)
      · have hk2 : x.k ≠ e.k := fun z => hne (Ent.k_inj q.wf hw z)
        exact ⟨q.wf, by rw [has_put_other hk2]; exact q.has, by rw [atKey_put_other hk2]; exact q.at_⟩
      · exact ⟨hw, has_put_same h.tidy.isMap key _, atKey_put_same h.tidy.isMap key _ _⟩
    · intro q
      by_cases hne : x.k = e.k
      · refine .inr (Ent.ext' (Ent.k_inj q.wf hw hne) (heldD_inj ?_))
        rw [← q.at_, hne, atKey_put_same h.tidy.isMap key]
      · refine .inl ⟨⟨q.wf, by have := q.has; rwa [has_put_other hne] at this, by have := q.at_; rwa [atKey_put_other hne] at this⟩, fun z => hne (Ent.k_of z)⟩
  refine ⟨h.tidy.put key _, ?_, hm, fun k hk => ?_, ?_⟩
  · rw [size_put h.tidy, List.length_append, h.size, show e.k = slotK e.sc e.id e.nm.data.toList from rfl, (h.look hw).1]
    cases q : atF L e.sc e.id e.nm with
    | some v =>
      have := off_len h.apart q
      simp only [Option.isSome_some, if_true, List.length_singleton]
      omega
    | none =>
      rw [off_none q]
      rfl
  · by_cases q : k = e.k
    · subst q
      exact ⟨e, rfl, (hm e).1 (by simp)⟩
    · rw [has_put_other q] at hk
      obtain ⟨x, rfl, hin⟩ := h.keys k hk
      exact ⟨x, rfl, ⟨hin.wf, by rw [has_put_other q]; exact hin.has, by rw [atKey_put_other q]; exact hin.at_⟩⟩
  · rw [List.pairwise_append]
    refine ⟨h.apart.filter _, by simp, fun a ha b hb => ?_⟩
    rw [List.mem_singleton] at hb
    subst hb
    exact (off_mem.1 ha).2
/-- Something is taken away. -/
theorem Dc.del {D : DataW Unit} {L : List Ent} (h : Dc D L) {sc id : Int} {nm : ByteArray} (hw : keyWf sc id nm) : Dc (D.del (slotK sc id nm.data.toList)) (L.filter (offB sc id nm)) := by
  obtain ⟨e, rfl, rfl, rfl⟩ : ∃ e : Ent, e.sc = sc ∧ e.id = id ∧ e.nm = nm := ⟨⟨sc, id, nm, ⟨#[]⟩⟩, rfl, rfl, rfl⟩
  have hw' : e.wf := hw
  show Dc (D.del e.k) _
  have hm : ∀ x : Ent, x ∈ L.filter (offB e.sc e.id e.nm) ↔ x.In (D.del e.k) := fun x => by
    rw [off_mem, h.mem]
    constructor
    · rintro ⟨q, hne⟩
      have hk2 : x.k ≠ e.k := fun z => hne (Ent.k_inj q.wf hw' z)
      exact ⟨q.wf, by rw [has_del_other hk2]; exact q.has, by rw [atKey_del_other hk2]; exact q.at_⟩
    · intro q
      by_cases hne : x.k = e.k
      · have := q.has
        rw [hne, has_del_same] at this
        cases this
      · exact ⟨⟨q.wf, by have := q.has; rwa [has_del_other hne] at this, by have := q.at_; rwa [atKey_del_other hne] at this⟩, fun z => hne (Ent.k_of z)⟩
  refine ⟨h.tidy.del _, ?_, hm, fun k hk => ?_, h.apart.filter _⟩
  · have h1 := size_del (k := e.k) h.tidy
    have h2 := h.size
    rw [show e.k = slotK e.sc e.id e.nm.data.toList from rfl, (h.look hw).1] at h1
    rw [show e.k = slotK e.sc e.id e.nm.data.toList from rfl]
    cases q : atF L e.sc e.id e.nm with
    | some v =>
      have := off_len h.apart q
      rw [q] at h1
      simp at h1
      omega
    | none =>
      rw [off_none q]
      rw [q] at h1
      simp at h1
      omega
  · by_cases q : k = e.k
    · subst q
      rw [has_del_same] at hk
      cases hk
    · rw [has_del_other q] at hk
      obtain ⟨x, rfl, hin⟩ := h.keys k hk
      exact ⟨x, rfl, ⟨hin.wf, by rw [has_del_other q]; exact hin.has, by rw [atKey_del_other q]; exact hin.at_⟩⟩
theorem Dc.same_mem {D : DataW Unit} {L L' : List Ent} (h : Dc D L) (hm : ∀ e, e ∈ L' ↔ e ∈ L) (hl : L'.length = L.length) (hp : L'.Pairwise fun a b => ¬ a.same b) : Dc D L' :=
  ⟨h.tidy, h.size.trans hl.symm, fun e => (hm e).trans (h.mem e), h.keys, hp⟩
/-- What is set of one place is dropped. -/
def dropF (L : List Ent) (sc id : Int) : List Ent := if id = 0 then L else L.filter fun e => !(decide (e.sc = sc) && decide (e.id = id))
end Go.Proofs.YtgdkpmfdpfjdjaaGreatDoor
