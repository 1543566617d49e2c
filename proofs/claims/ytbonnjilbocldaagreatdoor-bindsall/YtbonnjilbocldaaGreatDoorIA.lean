/-
  Binds, the document's side: its list of bindings beside what the tables read as (pure).
  Binds, the document's List: exchanging what stands wrong, until nothing does; one's own list written to.
-/
import Derived.Test.YtbonnjilbocldaaGreatDoorHN
namespace Go.Proofs.YtbonnjilbocldaaGreatDoor
open Go.RowKit Go.Maps
set_option linter.unusedVariables false
set_option maxRecDepth 100000

/-- The document's bindings are those that the tables hold, each once. -/
structure Dc (D : DataW Unit) (L : List Ent) : Prop where
  is : Is D L
  apart : L.Pairwise apartE
theorem dc_D0 : Dc D0 L0 := ⟨is_D0, allApart_pw L0_apart⟩
theorem dc_empty : Dc (.map []) [] := ⟨is_empty, List.Pairwise.nil⟩
theorem Dc.few {D : DataW Unit} {L : List Ent} (h : Dc D L) : L.length ≤ 200 := by rw [← h.is.size]; exact h.is.ok.few
theorem Dc.wf {D : DataW Unit} {L : List Ent} (h : Dc D L) {x : Ent} (hx : x ∈ L) : x.wf := ((h.is.mem x).1 hx).wf
theorem has_iff {D : DataW Unit} {L : List Ent} (h : Dc D L) {e : Ent} (he : e.wf) : Maps.has D e.k = true ↔ ∃ x ∈ L, x.t = e.t ∧ x.c = e.c ∧ x.m = e.m := by
  constructor
  · intro q
    obtain ⟨x, hx, hin, _⟩ := h.is.ok.keys _ q
    exact ⟨x, (h.is.mem x).2 hin, Ent.k_inj hin.wf he hx⟩
  · rintro ⟨x, hx, hq⟩
    rw [← Ent.k_of hq]
    exact ((h.is.mem x).1 hx).has
theorem off_none {L : List Ent} {t : ByteArray} {c m : Int} (h : ∀ x ∈ L, ¬ (x.t = t ∧ x.c = c ∧ x.m = m)) : L.filter (offB t c m) = L :=
  List.filter_eq_self.2 fun x hx => offB_iff.2 (h x hx)
theorem off_len {t : ByteArray} {c m : Int} : ∀ {L : List Ent}, L.Pairwise apartE → ∀ {x : Ent}, x ∈ L → (x.t = t ∧ x.c = c ∧ x.m = m) → (L.filter (offB t c m)).length + 1 = L.length
  | [], _, x, hx, _ => by simp at hx
  | a :: L, hp, x, hx, hq => by
    obtain ⟨p1, p2⟩ := List.pairwise_cons.1 hp
    by_cases ha : a.t = t ∧ a.c = c ∧ a.m = m
    · have h1 : offB t c m a = false := by
        cases q : offB t c m a
        · rfl
        · exact absurd ha (offB_iff.1 q)
      rw [List.filter_cons_of_neg (by simp [h1]), off_none fun y hy q => p1 y hy ⟨ha.1.trans q.1.symm, ha.2.1.trans q.2.1.symm, ha.2.2.trans q.2.2.symm⟩]
      rfl
    · rw [List.filter_cons_of_pos (offB_iff.2 ha)]
      have hxL : x ∈ L := by
        rcases List.mem_cons.1 hx with e | e
        · subst e; exact absurd hq ha
        · exact e
      have := off_len p2 hxL hq
      simp only [List.length_cons]
      omega
theorem off_mem {L : List Ent} {t : ByteArray} {c m : Int} {x : Ent} : x ∈ L.filter (offB t c m) ↔ x ∈ L ∧ ¬ (x.t = t ∧ x.c = c ∧ x.m = m) := by
  rw [List.mem_filter, offB_iff]
theorem bndOk_iff {D : DataW Unit} {e : Ent} : bndOk D e = true ↔ ¬ (wordB e.t = false ∨ validB e.c e.m = false ∨ 8192 < e.ln.size ∨ (Maps.has D e.k = false ∧ 200 ≤ Maps.size D)) := by
  unfold bndOk
  rw [Bool.not_eq_true', decide_eq_false_iff_not]
theorem ok_put {D : DataW Unit} (h : Ok D) {e : Ent} (hw : e.wf) (hk : bndOk D e = true) : Ok (D.put e.k (meanD e.ln e.rp)) := by
  have h1 : bndD D e.t e.c e.m e.rp e.ln = D.put e.k (meanD e.ln e.rp) := by
    unfold bndD
    rw [show slotK e.t.data.toList e.c e.m = e.k from rfl, if_neg (bndOk_iff.1 hk)]
  rw [← h1]
  exact ok_bnd h _ _ _ _ _ hw
/-- A binding is made. -/
theorem Dc.put {D : DataW Unit} {L : List Ent} (h : Dc D L) {e : Ent} (hw : e.wf) (hk : bndOk D e = true) : Dc (D.put e.k (meanD e.ln e.rp)) (L.filter (offB e.t e.c e.m) ++ [e]) := by
  have key := Ent.key hw
  refine ⟨⟨ok_put h.is.ok hw hk, fun x => ?_, ?_⟩, ?_⟩
  · rw [List.mem_append, List.mem_singleton, off_mem, h.is.mem]
    constructor
    · rintro (⟨q, hne⟩ | rfl)
      · have hk2 : x.k ≠ e.k := fun z => hne (Ent.k_inj q.wf hw z)
        exact ⟨q.wf, by rw [has_put_other hk2]; exact q.has, by rw [atKey_put_other hk2]; exact q.at_⟩
      · exact ⟨hw, has_put_same h.is.ok.tidy.isMap key _, atKey_put_same h.is.ok.tidy.isMap key _ _⟩
    · intro q
      by_cases hne : x.k = e.k
      · refine .inr (Ent.ext' (Ent.k_inj q.wf hw hne) (meanD_inj ?_))
        rw [← q.at_, hne, atKey_put_same h.is.ok.tidy.isMap key]
      · refine .inl ⟨⟨q.wf, by have := q.has; rwa [has_put_other hne] at this, by have := q.at_; rwa [atKey_put_other hne] at this⟩, fun z => hne (Ent.k_of z)⟩
  · rw [size_put h.is.ok.tidy, List.length_append, h.is.size]
    split
    · rename_i q
      obtain ⟨x, hx, hq⟩ := (has_iff h hw).1 q
      have := off_len h.apart hx hq
      simp only [List.length_singleton]
      omega
    · rename_i q
      rw [off_none fun x hx z => q ((has_iff h hw).2 ⟨x, hx, z⟩)]
      rfl
  · rw [List.pairwise_append]
    refine ⟨h.apart.filter _, by simp, fun a ha b hb => ?_⟩
    rw [List.mem_singleton] at hb
    subst hb
    exact (off_mem.1 ha).2
/-- A binding is taken away. -/
theorem Dc.del {D : DataW Unit} {L : List Ent} (h : Dc D L) {e : Ent} (hw : e.wf) : Dc (D.del e.k) (L.filter (offB e.t e.c e.m)) := by
  refine ⟨⟨ok_del h.is.ok _, fun x => ?_, ?_⟩, h.apart.filter _⟩
  · rw [off_mem, h.is.mem]
    constructor
    · rintro ⟨q, hne⟩
      have hk2 : x.k ≠ e.k := fun z => hne (Ent.k_inj q.wf hw z)
      exact ⟨q.wf, by rw [has_del_other hk2]; exact q.has, by rw [atKey_del_other hk2]; exact q.at_⟩
    · intro q
      by_cases hne : x.k = e.k
      · have := q.has
        rw [hne, has_del_same] at this
        cases this
      · exact ⟨⟨q.wf, by have := q.has; rwa [has_del_other hne] at this, by have := q.at_; rwa [atKey_del_other hne] at this⟩, fun z => hne (Ent.k_of z)⟩
  · have h1 := size_del (k := e.k) h.is.ok.tidy
    have h2 := h.is.size
    cases q : Maps.has D e.k
    · rw [q] at h1
      rw [off_none fun x hx z => by rw [(has_iff h hw).2 ⟨x, hx, z⟩] at q; cases q]
      simp at h1
      omega
    · rw [q] at h1
      obtain ⟨x, hx, hq⟩ := (has_iff h hw).1 q
      have := off_len h.apart hx hq
      simp at h1
      omega
/-- How many are left without that one. -/
theorem Dc.room {D : DataW Unit} {L : List Ent} (h : Dc D L) {e : Ent} (hw : e.wf) : 200 ≤ (L.filter (offB e.t e.c e.m)).length ↔ Maps.has D e.k = false ∧ 200 ≤ Maps.size D := by
  have h2 := h.is.size
  have h3 := h.few
  cases q : Maps.has D e.k
  · rw [off_none fun x hx z => by rw [(has_iff h hw).2 ⟨x, hx, z⟩] at q; cases q]
    simp [h2]
  · obtain ⟨x, hx, hq⟩ := (has_iff h hw).1 q
    have := off_len h.apart hx hq
    constructor
    · intro z; omega
    · rintro ⟨z, _⟩; cases z
/-- What Bind tells. -/
def bndC (D : DataW Unit) (e : Ent) : Int := if wordB e.t = false then 73 else if validB e.c e.m = false then 210 else if 8192 < e.ln.size then 2 else if Maps.has D e.k = false ∧ 200 ≤ Maps.size D then 3 else 0
/-- The document's bindings behind a Bind. -/
def bndL (D : DataW Unit) (L : List Ent) (e : Ent) : List Ent := if bndOk D e then L.filter (offB e.t e.c e.m) ++ [e] else L
theorem bndOk_c {D : DataW Unit} {e : Ent} : bndOk D e = true ↔ bndC D e = 0 := by
  rw [bndOk_iff]
  unfold bndC
  by_cases h1 : wordB e.t = false
  · rw [if_pos h1]
    exact ⟨fun h => absurd (.inl h1) h, fun h => by cases h⟩
  · rw [if_neg h1]
    by_cases h2 : validB e.c e.m = false
    · rw [if_pos h2]
      exact ⟨fun h => absurd (.inr (.inl h2)) h, fun h => by cases h⟩
    · rw [if_neg h2]
      by_cases h3 : 8192 < e.ln.size
      · rw [if_pos h3]
        exact ⟨fun h => absurd (.inr (.inr (.inl h3))) h, fun h => by cases h⟩
      · rw [if_neg h3]
        by_cases h4 : Maps.has D e.k = false ∧ 200 ≤ Maps.size D
        · rw [if_pos h4]
          exact ⟨fun h => absurd (.inr (.inr (.inr h4))) h, fun h => by cases h⟩
        · rw [if_neg h4]
          exact ⟨fun _ => rfl, fun _ q => by
            rcases q with q | q | q | q
            · exact h1 q
            · exact h2 q
            · exact h3 q
            · exact h4 q⟩
theorem Dc.bnd {D : DataW Unit} {L : List Ent} (h : Dc D L) {e : Ent} (hw : e.wf) : Dc (bndD D e.t e.c e.m e.rp e.ln) (bndL D L e) := by
  unfold bndL bndD
  rw [show slotK e.t.data.toList e.c e.m = e.k from rfl]
  by_cases q : bndOk D e = true
  · rw [if_pos q, if_neg (bndOk_iff.1 q)]
    exact h.put hw q
  · rw [if_neg q, if_pos (Classical.not_not.1 fun z => q (bndOk_iff.2 z))]
    exact h
/-- The document's bindings behind an Unbind. -/
def unbL (D : DataW Unit) (L : List Ent) (e : Ent) : List Ent := if Maps.has D e.k then L.filter (offB e.t e.c e.m) else L
theorem Dc.unb {D : DataW Unit} {L : List Ent} (h : Dc D L) {e : Ent} (hw : e.wf) : Dc (if Maps.has D e.k then D.del e.k else D) (unbL D L e) := by
  unfold unbL
  split
  · exact h.del hw
  · exact h
/-- What Find tells of the first that is of that key. -/
theorem Dc.find {D : DataW Unit} {L : List Ent} (h : Dc D L) {x : Ent} (hx : x ∈ L) : Maps.has D x.k = true ∧ D.atKey x.k zeroD = meanD x.ln x.rp := ⟨((h.is.mem x).1 hx).has, ((h.is.mem x).1 hx).at_⟩
theorem Dc.none {D : DataW Unit} {L : List Ent} (h : Dc D L) {e : Ent} (hw : e.wf) (hn : ∀ x ∈ L, ¬ (x.t = e.t ∧ x.c = e.c ∧ x.m = e.m)) : Maps.has D e.k = false := by
  cases q : Maps.has D e.k
  · rfl
  · obtain ⟨x, hx, hq⟩ := (has_iff h hw).1 q
    exact absurd hq (hn x hx)
/-- A table's bindings. -/
theorem Dc.table {D : DataW Unit} {L : List Ent} (h : Dc D L) (t : ByteArray) : (L.filter (inT t)).Pairwise (fun a b => ¬ (a.c = b.c ∧ a.m = b.m)) ∧ ∀ e, e ∈ L.filter (inT t) ↔ e.t = t ∧ e.In D := by
  refine ⟨?_, fun e => ?_⟩
  · refine (h.apart.filter _).imp_of_mem fun {a b} ha hb hab q => hab ⟨?_, q⟩
    exact (inT_iff.1 (List.mem_filter.1 ha).2).trans (inT_iff.1 (List.mem_filter.1 hb).2).symm
  · rw [List.mem_filter, h.is.mem, inT_iff]
    exact ⟨fun q => ⟨q.2, q.1⟩, fun q => ⟨q.2, q.1⟩⟩
/-- Rows bound one behind the other. -/
def rowL (D : DataW Unit) (L : List Ent) (t : ByteArray) (rp : Bool) : List Rw → DataW Unit × List Ent
  | [] => (D, L)
  | r :: l => rowL (bndD D t r.c r.m rp r.line) (bndL D L (entOf t rp r)) t rp l
end Go.Proofs.YtbonnjilbocldaaGreatDoor

namespace Go.Proofs.YtbonnjilbocldaaGreatDoor
open Go.RowKit Go.Maps
set_option linter.unusedVariables false
set_option maxRecDepth 100000

def swp (l : List Ent) (i k : Nat) : List Ent := (l.set i l[k]!).set k l[i]!
theorem swp_len (l : List Ent) (i k : Nat) : (swp l i k).length = l.length := by unfold swp; simp
theorem swp_perm {l : List Ent} {i k : Nat} (hi : i < l.length) (hk : k < l.length) : (swp l i k).Perm l := by
  unfold swp
  rw [getElem!_pos l k hk, getElem!_pos l i hi]
  exact List.set_set_perm hi hk
theorem swp_i {l : List Ent} {i k : Nat} (hi : i < l.length) (hk : k < l.length) (hik : i < k) (h : i < (swp l i k).length) : (swp l i k)[i] = l[k] := by
  have q : (swp l i k)[i]? = some l[k] := by
    unfold swp
    rw [List.getElem?_set_ne (by omega), List.getElem?_set_self hi, getElem!_pos l k hk]
  exact (List.getElem?_eq_some_iff.1 q).2
theorem swp_k {l : List Ent} {i k : Nat} (hi : i < l.length) (hk : k < l.length) (h : k < (swp l i k).length) : (swp l i k)[k] = l[i] := by
  have q : (swp l i k)[k]? = some l[i] := by
    unfold swp
    rw [List.getElem?_set_self (by simpa using hk), getElem!_pos l i hi]
  exact (List.getElem?_eq_some_iff.1 q).2
theorem swp_other {l : List Ent} {i k j : Nat} (h1 : j ≠ i) (h2 : j ≠ k) (hj : j < l.length) (h : j < (swp l i k).length) : (swp l i k)[j] = l[j] := by
  have q : (swp l i k)[j]? = some l[j] := by
    unfold swp
    rw [List.getElem?_set_ne (by omega), List.getElem?_set_ne (by omega), List.getElem?_eq_getElem hj]
  exact (List.getElem?_eq_some_iff.1 q).2
/-- How far the exchanging has come. -/
structure Srt (l0 l : List Ent) (i k : Nat) : Prop where
  perm : l.Perm l0
  up : ∀ (a b : Nat) (ha : a < l.length) (hb : b < l.length), a < i → a < b → ¬ keyLt l[b] l[a]
  least : ∀ (j : Nat) (hj : j < l.length) (hi : i < l.length), i < j → j < k → ¬ keyLt l[j] l[i]
theorem Srt.start (l0 : List Ent) : Srt l0 l0 0 1 := ⟨List.Perm.refl _, fun a b _ _ h => by omega, fun j _ _ h h2 => by omega⟩
theorem Srt.keep {l0 l : List Ent} {i k : Nat} (h : Srt l0 l i k) (hi : i < l.length) (hk : k < l.length) (hn : ¬ keyLt l[k] l[i]) : Srt l0 l i (k + 1) :=
  ⟨h.perm, h.up, fun j hj _ h1 h2 => by
    by_cases e : j = k
    · subst e; exact hn
    · exact h.least j hj hi h1 (by omega)⟩
theorem Srt.swap {l0 l : List Ent} {i k : Nat} (h : Srt l0 l i k) (hik : i < k) (hk : k < l.length) (hl : keyLt l[k] l[i]) : Srt l0 (swp l i k) i (k + 1) := by
  have hi : i < l.length := by omega
  refine ⟨(swp_perm hi hk).trans h.perm, fun a b ha hb h1 h2 => ?_, fun j hj _ h1 h2 => ?_⟩
  · have ha' : a < l.length := by rw [swp_len] at ha; exact ha
    have hb' : b < l.length := by rw [swp_len] at hb; exact hb
    rw [swp_other (j := a) (by omega) (by omega) ha' ha]
    by_cases e1 : b = i
    · subst e1
      rw [swp_i hi hk hik hb]
      exact h.up a k ha' hk h1 (by omega)
    · by_cases e2 : b = k
      · subst e2
        rw [swp_k hi hk hb]
        exact h.up a i ha' hi h1 (by omega)
      · rw [swp_other e1 e2 hb' hb]
        exact h.up a b ha' hb' h1 h2
  · have hj' : j < l.length := by rw [swp_len] at hj; exact hj
    have hi2 : i < (swp l i k).length := by rw [swp_len]; exact hi
    rw [swp_i hi hk hik hi2]
    by_cases e2 : j = k
    · subst e2
      rw [swp_k hi hk hj]
      exact fun q => keyLt_irrefl _ (keyLt_trans _ _ _ q hl)
    · rw [swp_other (by omega) e2 hj' hj]
      exact fun q => h.least j hj' hi h1 (by omega) (keyLt_trans _ _ _ q hl)
theorem Srt.next {l0 l : List Ent} {i k : Nat} (h : Srt l0 l i k) (hk : l.length ≤ k) : Srt l0 l (i + 1) (i + 1 + 1) := by
  refine ⟨h.perm, fun a b ha hb h1 h2 => ?_, fun j _ _ h1 h2 => by omega⟩
  by_cases e : a = i
  · subst e
    exact h.least b hb ha h2 (by omega)
  · exact h.up a b ha hb (by omega) h2
theorem Srt.done {l0 l : List Ent} {i k : Nat} (h : Srt l0 l i k) (hi : l.length ≤ i) (hn : l0.Pairwise fun a b => ¬ (a.c = b.c ∧ a.m = b.m)) : l.Pairwise keyLt :=
  sorted_up h.perm (fun a b ha hb hab => h.up a b ha hb (by omega) hab) hn
theorem Srt.len {l0 l : List Ent} {i k : Nat} (h : Srt l0 l i k) : l.length = l0.length := h.perm.length_eq
theorem set_flat : ∀ (l : List Ent) (j : Nat) (e : Ent) (hj : j < l.length) (x : Nat), ((l.set j e).flatMap encE)[x]? = if j * 5 ≤ x ∧ x < j * 5 + 5 then (encE e)[x - j * 5]? else (l.flatMap encE)[x]?
  | [], j, e, hj, x => by simp at hj
  | a :: r, 0, e, hj, x => by
    simp only [List.set_cons_zero, List.flatMap_cons]
    by_cases h : x < 5
    · rw [if_pos (by omega), List.getElem?_append_left (by show x < 5; exact h)]
      simp
    · rw [if_neg (by omega), List.getElem?_append_right (by show 5 ≤ x; omega), List.getElem?_append_right (by show 5 ≤ x; omega)]
      rfl
  | a :: r, j + 1, e, hj, x => by
    simp only [List.set_cons_succ, List.flatMap_cons]
    by_cases h : x < 5
    · rw [if_neg (by omega), List.getElem?_append_left (by show x < 5; exact h), List.getElem?_append_left (by show x < 5; exact h)]
    · rw [List.getElem?_append_right (by show 5 ≤ x; omega), List.getElem?_append_right (by show 5 ≤ x; omega)]
      show ((r.set j e).flatMap encE)[x - 5]? = if _ then _ else (r.flatMap encE)[x - 5]?
      rw [set_flat r j e (by simpa using hj) (x - 5)]
      by_cases h2 : j * 5 ≤ x - 5 ∧ x - 5 < j * 5 + 5
      · rw [if_pos h2, if_pos (by omega)]
        congr 1
        omega
      · rw [if_neg h2, if_neg (by omega)]
/-- One place of one's own list is written over. -/
theorem EntsAt.put5 {w : World} {B g n cap : Nat} {l : List Ent} (h : EntsAt w B (.slice (some ⟨g, 0, none⟩) n cap) l) (j : Nat) (hj : j < l.length) (e : Ent) :
    EntsAt (w.setCells g (j * 5) (encE e)) B (.slice (some ⟨g, 0, none⟩) n cap) (l.set j e) := by
  obtain ⟨q0, q1⟩ := h
  rcases q1 with ⟨e1, _⟩ | ⟨g', cap', cur, e1, hb, hk, h1, h2, h3, h4⟩
  · cases e1
  · cases e1
    have hlen := ents_flat l
    obtain ⟨cur', c1, c2, c3, c4⟩ := setCells_block g _ (encE e) (j * 5) w cur hk (by show j * 5 + 5 ≤ _; rw [h3]; omega)
    refine ⟨by rw [ents_flat], .inr ⟨g, cap, cur', by rw [List.length_set], hb, c1, by rw [List.length_set]; exact h1, h2, by rw [c2, h3], ?_⟩⟩
    rw [List.length_set]
    apply List.ext_getElem?
    intro x
    rw [set_flat l j e hj x, List.getElem?_take]
    by_cases hx : x < l.length * 5
    · rw [if_pos hx, Array.getElem?_toList]
      by_cases h5 : j * 5 ≤ x ∧ x < j * 5 + 5
      · rw [if_pos h5]
        have hc5 : x - j * 5 < (encE e).length := by show x - j * 5 < 5; omega
        obtain ⟨u, hu⟩ : ∃ u, (encE e)[x - j * 5]? = some u := ⟨_, List.getElem?_eq_getElem hc5⟩
        have q3 := c3 _ _ hu
        rw [show j * 5 + (x - j * 5) = x by omega] at q3
        rw [hu]
        exact q3
      · rw [if_neg h5, c4 x (by show _ ∨ j * 5 + 5 ≤ x; omega), ← h4, List.getElem?_take, if_pos hx, Array.getElem?_toList]
    · rw [if_neg hx, if_neg (by omega), List.getElem?_eq_none (by rw [ents_flat]; omega)]
theorem EntsAt.swap {w : World} {B g n cap : Nat} {l : List Ent} (h : EntsAt w B (.slice (some ⟨g, 0, none⟩) n cap) l) {i k : Nat} (hi : i < l.length) (hk : k < l.length) {a b : Ent} (ha : l[i] = a) (hb : l[k] = b) :
    EntsAt ((w.setCells g (i * 5) (encE b)).setCells g (k * 5) (encE a)) B (.slice (some ⟨g, 0, none⟩) n cap) (swp l i k) := by
  unfold swp
  rw [getElem!_pos l k hk, getElem!_pos l i hi, ha, hb]
  exact (h.put5 i hi b).put5 k (by simpa using hk) a
end Go.Proofs.YtbonnjilbocldaaGreatDoor
