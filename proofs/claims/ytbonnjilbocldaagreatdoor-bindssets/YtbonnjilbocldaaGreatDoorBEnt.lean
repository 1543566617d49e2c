/-
  Binds: bindings, lists of them, by what the tables read as (pure).
-/
import Derived.Test.YtbonnjilbocldaaGreatDoorBAll
import Derived.Maps.Ext
namespace Go.Proofs.YtbonnjilbocldaaGreatDoor
open Go.RowKit Go.Maps
set_option linter.unusedVariables false
set_option maxRecDepth 100000

theorem slot_lit {t : ByteArray} {c m : Int} (ht : t.size ≤ maxLen) (hc : (Lit.int .i64 c).wf = true) (hm : (Lit.int .i64 m).wf = true) : WideAt.IsKeyLit (slotK t.data.toList c m) := slotKeyed.key (slot_key ht hc hm)
/-- Two lists that rise by one order and have the same members are one. -/
theorem up_unique {α : Type} {r : α → α → Prop} (hi : ∀ a, ¬ r a a) (ht : ∀ a b c, r a b → r b c → r a c) : ∀ {l l' : List α}, l.Pairwise r → l'.Pairwise r → (∀ x, x ∈ l ↔ x ∈ l') → l = l'
  | [], [], _, _, _ => rfl
  | [], b :: s, _, _, h => by have := (h b).2 (by simp); simp at this
  | a :: s, [], _, _, h => by have := (h a).1 (by simp); simp at this
  | a :: r1, b :: s, h1, h2, h => by
    obtain ⟨a1, a2⟩ := List.pairwise_cons.1 h1
    obtain ⟨b1, b2⟩ := List.pairwise_cons.1 h2
    have hab : a = b := by
      rcases List.mem_cons.1 ((h a).1 (by simp)) with e | ha
      · exact e
      · rcases List.mem_cons.1 ((h b).2 (by simp)) with e | hb
        · exact e.symm
        · exact absurd (ht _ _ _ (a1 b hb) (b1 a ha)) (hi a)
    subst hab
    rw [up_unique hi ht a2 b2 (fun p => ⟨fun hp => by
      rcases List.mem_cons.1 ((h p).1 (by simp [hp])) with e | hp'
      · exact absurd (e ▸ a1 p hp) (hi a)
      · exact hp', fun hp => by
      rcases List.mem_cons.1 ((h p).2 (by simp [hp])) with e | hp'
      · exact absurd (e ▸ b1 p hp) (hi a)
      · exact hp'⟩)]
/-- A binding. -/
structure Ent where
  t : ByteArray
  c : Int
  m : Int
  rp : Bool
  ln : ByteArray
deriving Inhabited
def Ent.k (e : Ent) : Lit := slotK e.t.data.toList e.c e.m
def Ent.wf (e : Ent) : Prop := e.t.size ≤ 140737488355328 ∧ (Lit.int .i64 e.c).wf = true ∧ (Lit.int .i64 e.m).wf = true
theorem Ent.key {e : Ent} (h : e.wf) : WideAt.IsKeyLit e.k := slot_lit (by have := h.1; unfold maxLen; omega) h.2.1 h.2.2
theorem Ent.k_inj {a b : Ent} (ha : a.wf) (hb : b.wf) (h : a.k = b.k) : a.t = b.t ∧ a.c = b.c ∧ a.m = b.m :=
  slot_inj (by have := ha.1; unfold maxLen; omega) ha.2.1 ha.2.2 (by have := hb.1; unfold maxLen; omega) hb.2.1 hb.2.2 h
/-- It is there. -/
structure Ent.In (e : Ent) (D : DataW Unit) : Prop where
  wf : e.wf
  has : Maps.has D e.k = true
  at_ : D.atKey e.k zeroD = meanD e.ln e.rp
theorem Ent.ext' {a b : Ent} (h : a.t = b.t ∧ a.c = b.c ∧ a.m = b.m) (h2 : a.ln = b.ln ∧ a.rp = b.rp) : a = b := by
  obtain ⟨a1, a2, a3, a4, a5⟩ := a
  obtain ⟨b1, b2, b3, b4, b5⟩ := b
  simp only at h h2
  obtain ⟨rfl, rfl, rfl⟩ := h
  obtain ⟨rfl, rfl⟩ := h2
  rfl
theorem Ent.k_of {a b : Ent} (h : a.t = b.t ∧ a.c = b.c ∧ a.m = b.m) : a.k = b.k := by
  unfold Ent.k
  rw [h.1, h.2.1, h.2.2]
theorem Ent.In.one {a b : Ent} {D : DataW Unit} (ha : a.In D) (hb : b.In D) (h : a.t = b.t ∧ a.c = b.c ∧ a.m = b.m) : a = b := by
  refine Ent.ext' h (meanD_inj ?_)
  rw [← ha.at_, ← hb.at_, Ent.k_of h]
/-- What tables hold: bindings' keys, no more than may be. -/
structure Ok (D : DataW Unit) : Prop where
  keys : ∀ k, Maps.has D k = true → ∃ e : Ent, e.k = k ∧ e.In D ∧ wordB e.t = true ∧ validB e.c e.m = true
  few : Maps.size D ≤ 200
  tidy : Maps.Tidy D
theorem ok_empty : Ok (.map []) := ⟨fun k h => by simp [Maps.has] at h, by simp [Maps.size], tidy_empty⟩
theorem ok_bnd {D : DataW Unit} (h : Ok D) (t : ByteArray) (c m : Int) (rp : Bool) (ln : ByteArray) (hw : (Ent.mk t c m rp ln).wf) : Ok (bndD D t c m rp ln) := by
  unfold bndD
  split
  · exact h
  · rename_i hc
    simp only [not_or, not_and, Nat.not_le] at hc
    obtain ⟨h1, h2, h3, h4⟩ := hc
    have hk := Ent.key hw
    refine ⟨fun k hk' => ?_, ?_, h.tidy.put hk _⟩
    · by_cases e : k = slotK t.data.toList c m
      · subst e
        exact ⟨⟨t, c, m, rp, ln⟩, rfl, ⟨hw, has_put_same h.tidy.isMap hk _, atKey_put_same h.tidy.isMap hk _ _⟩, by simpa using h1, by simpa using h2⟩
      · rw [has_put_other e] at hk'
        obtain ⟨q, rfl, hq, r1, r2⟩ := h.keys k hk'
        exact ⟨q, rfl, ⟨hq.wf, by rw [has_put_other e]; exact hq.has, by rw [atKey_put_other e]; exact hq.at_⟩, r1, r2⟩
    · rw [size_put h.tidy]
      have := h.few
      split
      · exact this
      · rename_i hn
        have := h4 (by simpa using hn)
        omega
theorem ok_del {D : DataW Unit} (h : Ok D) (k : Lit) : Ok (D.del k) := by
  refine ⟨fun q hq => ?_, ?_, h.tidy.del k⟩
  · by_cases e : q = k
    · subst e
      rw [has_del_same] at hq
      cases hq
    · rw [has_del_other e] at hq
      obtain ⟨z, rfl, hz, r1, r2⟩ := h.keys q hq
      exact ⟨z, rfl, ⟨hz.wf, by rw [has_del_other e]; exact hz.has, by rw [atKey_del_other e]; exact hz.at_⟩, r1, r2⟩
  · have := size_del (k := k) h.tidy
    have := h.few
    omega
/-- The order of a table's list. -/
def keyLt (a b : Ent) : Prop := a.c < b.c ∨ a.c = b.c ∧ a.m < b.m
theorem keyLt_irrefl (a : Ent) : ¬ keyLt a a := by unfold keyLt; omega
theorem keyLt_trans (a b c : Ent) (h : keyLt a b) (k : keyLt b c) : keyLt a c := by unfold keyLt at *; omega
/-- A table's list. -/
structure Lst (D : DataW Unit) (t : ByteArray) (l : List Ent) : Prop where
  up : l.Pairwise keyLt
  mem : ∀ e, e ∈ l ↔ e.t = t ∧ e.In D
theorem Lst.one {D : DataW Unit} {t : ByteArray} {l l' : List Ent} (h : Lst D t l) (h' : Lst D t l') : l = l' :=
  up_unique keyLt_irrefl keyLt_trans h.up h'.up fun e => (h.mem e).trans (h'.mem e).symm
def nameLt (a b : ByteArray) : Prop := a.data.toList < b.data.toList
theorem nameLt_irrefl (a : ByteArray) : ¬ nameLt a a := List.lt_irrefl _
theorem nameLt_trans (a b c : ByteArray) (h : nameLt a b) (k : nameLt b c) : nameLt a c := List.lt_trans h k
/-- The tables' names. -/
structure Nms (D : DataW Unit) (l : List ByteArray) : Prop where
  up : l.Pairwise nameLt
  mem : ∀ t, t ∈ l ↔ ∃ e : Ent, e.t = t ∧ e.In D
theorem Nms.one {D : DataW Unit} {l l' : List ByteArray} (h : Nms D l) (h' : Nms D l') : l = l' :=
  up_unique nameLt_irrefl nameLt_trans h.up h'.up fun e => (h.mem e).trans (h'.mem e).symm
def entLt (a b : Ent) : Prop := nameLt a.t b.t ∨ a.t = b.t ∧ keyLt a b
theorem entLt_irrefl (a : Ent) : ¬ entLt a a := fun h => by
  rcases h with h | h
  · exact nameLt_irrefl _ h
  · exact keyLt_irrefl _ h.2
theorem entLt_trans (a b c : Ent) (h : entLt a b) (k : entLt b c) : entLt a c := by
  rcases h with h | h
  · rcases k with k | k
    · exact .inl (nameLt_trans _ _ _ h k)
    · exact .inl (k.1 ▸ h)
  · rcases k with k | k
    · exact .inl (by rw [h.1]; exact k)
    · exact .inr ⟨h.1.trans k.1, keyLt_trans _ _ _ h.2 k.2⟩
/-- All bindings. -/
structure AllL (D : DataW Unit) (l : List Ent) : Prop where
  up : l.Pairwise entLt
  mem : ∀ e, e ∈ l ↔ e.In D
theorem AllL.one {D : DataW Unit} {l l' : List Ent} (h : AllL D l) (h' : AllL D l') : l = l' :=
  up_unique entLt_irrefl entLt_trans h.up h'.up fun e => (h.mem e).trans (h'.mem e).symm
/-- One table's list behind those of the names ahead of it. -/
theorem all_join {D : DataW Unit} : ∀ {ns : List ByteArray} {ls : List (List Ent)}, ns.Pairwise nameLt → ns.length = ls.length → (∀ j (h : j < ns.length) (h' : j < ls.length), Lst D ns[j] ls[j]) → ls.flatten.Pairwise entLt ∧ ∀ e, e ∈ ls.flatten ↔ e.t ∈ ns ∧ e.In D
  | [], [], _, _, _ => ⟨by simp, by simp⟩
  | [], _ :: _, _, h, _ => by simp at h
  | _ :: _, [], _, h, _ => by simp at h
  | n :: ns, l :: ls, hp, hl, h => by
    obtain ⟨p1, p2⟩ := List.pairwise_cons.1 hp
    have h0 := h 0 (by simp) (by simp)
    have hr := all_join (ns := ns) (ls := ls) p2 (by simpa using hl) fun j hj hj' => h (j + 1) (by simp; omega) (by simp; omega)
    simp only [List.getElem_cons_zero] at h0
    refine ⟨?_, fun e => ?_⟩
    · rw [List.flatten_cons, List.pairwise_append]
      refine ⟨h0.up.imp_of_mem fun {a b} ha hb hab => .inr ⟨((h0.mem a).1 ha).1.trans ((h0.mem b).1 hb).1.symm, hab⟩, hr.1, fun a ha b hb => .inl ?_⟩
      rw [((h0.mem a).1 ha).1]
      exact p1 _ ((hr.2 b).1 hb).1
    · rw [List.flatten_cons, List.mem_append, h0.mem, hr.2, List.mem_cons]
      constructor
      · rintro (⟨a, b⟩ | ⟨a, b⟩)
        · exact ⟨.inl a, b⟩
        · exact ⟨.inr a, b⟩
      · rintro ⟨a | a, b⟩
        · exact .inl ⟨a, b⟩
        · exact .inr ⟨a, b⟩
theorem all_of {D : DataW Unit} {ns : List ByteArray} {ls : List (List Ent)} (hn : Nms D ns) (hl : ns.length = ls.length) (h : ∀ j (h : j < ns.length) (h' : j < ls.length), Lst D ns[j] ls[j]) : AllL D ls.flatten := by
  obtain ⟨h1, h2⟩ := all_join hn.up hl h
  exact ⟨h1, fun e => ⟨fun q => ((h2 e).1 q).2, fun q => (h2 e).2 ⟨(hn.mem _).2 ⟨e, rfl, q⟩, q⟩⟩⟩
theorem nodup_len {α : Type} : ∀ {l es : List α}, l.Pairwise (fun a b => a ≠ b) → (∀ x ∈ l, x ∈ es) → l.length ≤ es.length
  | [], _, _, _ => Nat.zero_le _
  | a :: l, es, hp, h => by
    obtain ⟨p1, p2⟩ := List.pairwise_cons.1 hp
    obtain ⟨s, t, rfl⟩ := List.append_of_mem (h a (by simp))
    have := nodup_len (l := l) (es := s ++ t) p2 fun x hx => by
      have hx2 := h x (by simp [hx])
      have hne := p1 x hx
      simp only [List.mem_append, List.mem_cons] at hx2 ⊢
      rcases hx2 with q | q | q
      · exact .inl q
      · exact absurd q.symm hne
      · exact .inr q
    simp only [List.length_append, List.length_cons] at this ⊢
    omega
/-- How many there are. -/
theorem in_len {D : DataW Unit} (hD : Maps.Tidy D) {l : List Ent} (hn : l.Pairwise fun a b => a.k ≠ b.k) (hl : ∀ e ∈ l, Maps.has D e.k = true) : l.length ≤ Maps.size D := by
  obtain ⟨es, rfl, hp⟩ := hD
  rw [size_eq]
  have hsub : ∀ x ∈ l.map Ent.k, x ∈ es.map Prod.fst := fun x hx => by
    obtain ⟨e, he, rfl⟩ := List.mem_map.1 hx
    have := hl e he
    rw [has_eq] at this
    obtain ⟨p, hp1, hp2⟩ := List.any_eq_true.1 this
    rw [← WideAt.sameKey_eq hp2]
    exact List.mem_map_of_mem hp1
  have := nodup_len (l := l.map Ent.k) (List.pairwise_map.2 (hn.imp fun h => h)) hsub
  simpa using this
theorem AllL.len {D : DataW Unit} {l : List Ent} (h : AllL D l) (hD : Ok D) : l.length ≤ 200 := by
  refine Nat.le_trans (in_len hD.tidy ?_ fun e he => ((h.mem e).1 he).has) hD.few
  refine h.up.imp_of_mem fun {a b} ha hb hab e => ?_
  have := Ent.In.one ((h.mem a).1 ha) ((h.mem b).1 hb) (Ent.k_inj ((h.mem a).1 ha).wf ((h.mem b).1 hb).wf e)
  subst this
  exact entLt_irrefl _ hab
theorem Lst.len {D : DataW Unit} {t : ByteArray} {l : List Ent} (h : Lst D t l) (hD : Ok D) : l.length ≤ 200 := by
  refine Nat.le_trans (in_len hD.tidy ?_ fun e he => ((h.mem e).1 he).2.has) hD.few
  refine h.up.imp_of_mem fun {a b} ha hb hab e => ?_
  have := Ent.In.one ((h.mem a).1 ha).2 ((h.mem b).1 hb).2 (Ent.k_inj ((h.mem a).1 ha).2.wf ((h.mem b).1 hb).2.wf e)
  subst this
  exact keyLt_irrefl _ hab
/-- A binding that is not of that key. -/
def offB (t : ByteArray) (c m : Int) (e : Ent) : Bool := !(decide (e.t = t) && decide (e.c = c) && decide (e.m = m))
theorem offB_iff {t : ByteArray} {c m : Int} {e : Ent} : offB t c m e = true ↔ ¬ (e.t = t ∧ e.c = c ∧ e.m = m) := by
  unfold offB
  simp
  by_cases h1 : e.t = t <;> by_cases h2 : e.c = c <;> simp [h1, h2]
/-- What is left but one key, where all others are as they were. -/
theorem off_same {D D' : DataW Unit} {l l' : List Ent} {t : ByteArray} {c m : Int} (h : AllL D l) (h' : AllL D' l')
    (hs : ∀ e : Ent, e.wf → ¬ (e.t = t ∧ e.c = c ∧ e.m = m) → (Maps.has D e.k = Maps.has D' e.k ∧ D.atKey e.k zeroD = D'.atKey e.k zeroD)) : l.filter (offB t c m) = l'.filter (offB t c m) := by
  refine up_unique entLt_irrefl entLt_trans (h.up.filter _) (h'.up.filter _) fun e => ?_
  rw [List.mem_filter, List.mem_filter, h.mem, h'.mem, offB_iff]
  constructor
  · rintro ⟨q, hne⟩
    obtain ⟨s1, s2⟩ := hs e q.wf hne
    exact ⟨⟨q.wf, s1 ▸ q.has, s2 ▸ q.at_⟩, hne⟩
  · rintro ⟨q, hne⟩
    obtain ⟨s1, s2⟩ := hs e q.wf hne
    exact ⟨⟨q.wf, s1 ▸ q.has, s2 ▸ q.at_⟩, hne⟩
theorem off_put {D : DataW Unit} {l l' : List Ent} {t : ByteArray} {c m : Int} {d : DataW Unit} (hw : t.size ≤ 140737488355328 ∧ (Lit.int .i64 c).wf = true ∧ (Lit.int .i64 m).wf = true) (h : AllL D l) (h' : AllL (D.put (slotK t.data.toList c m) d) l') : l.filter (offB t c m) = l'.filter (offB t c m) :=
  off_same h h' fun e he hne => by
    have hk : e.k ≠ slotK t.data.toList c m := fun q => hne (Ent.k_inj (b := ⟨t, c, m, false, ⟨#[]⟩⟩) he hw q)
    rw [has_put_other hk, atKey_put_other hk]
    exact ⟨rfl, rfl⟩
theorem off_del {D : DataW Unit} {l l' : List Ent} {t : ByteArray} {c m : Int} (hw : t.size ≤ 140737488355328 ∧ (Lit.int .i64 c).wf = true ∧ (Lit.int .i64 m).wf = true) (h : AllL D l) (h' : AllL (D.del (slotK t.data.toList c m)) l') : l.filter (offB t c m) = l'.filter (offB t c m) :=
  off_same h h' fun e he hne => by
    have hk : e.k ≠ slotK t.data.toList c m := fun q => hne (Ent.k_inj (b := ⟨t, c, m, false, ⟨#[]⟩⟩) he hw q)
    rw [has_del_other hk, atKey_del_other hk]
    exact ⟨rfl, rfl⟩
end Go.Proofs.YtbonnjilbocldaaGreatDoor
