/-
  Buffers: what each call does, told of lists (nothing of the memory).
-/
import Derived.Test.YtgbaeajcgiaboaaDoorUFnd
import Derived.Test.YtgbaeajcgiaboaaDoorBNam
namespace Go.Proofs.YtgbaeajcgiaboaaDoor
open Go.RowKit
set_option linter.unusedVariables false
set_option maxRecDepth 100000

structure St where
  l : List Kp
  lim : Nat
  c : Nat
def word (s : ByteArray) : Bool := nameB s && !has s 32
theorem word_size {s : ByteArray} (h : word s = true) : 0 < s.size ∧ s.size ≤ 32 := by
  unfold word at h
  by_cases hb : 0 < s.size ∧ s.size ≤ 32
  · exact hb
  · rw [nameB_out hb] at h
    simp at h
def nameless (s : ByteArray) : Prop := s.size = 0
/-- One that is there is laid ahead of all. -/
def setOld (s : St) (name text : ByteArray) (k : Nat) (a : Bool) : St := ⟨⟨name, text, a⟩ :: s.l.eraseIdx k, s.lim, s.c⟩
def setNew (s : St) (name text : ByteArray) : St := ⟨⟨name, text, false⟩ :: s.l, s.lim, s.c⟩
def setAut (s : St) (text : ByteArray) : St := ⟨trimG s.lim (⟨nm (nx s.l s.c), text, true⟩ :: s.l), s.lim, nx s.l s.c + 1⟩
def emp : ByteArray := ⟨#[]⟩
def nmdF (s : St) (name text : ByteArray) : St × ByteArray × Int :=
  match s.l.findIdx? (nmd name) with
  | some k => (setOld s name text k ((s.l[k]?.map Kp.a).getD false), name, 0)
  | none => if 20 ≤ named s.l then (s, emp, 3) else (setNew s name text, name, 0)
def setF (s : St) (name text : ByteArray) : St × ByteArray × Int :=
  if 65536 < text.size then (s, emp, 2)
  else if name.size = 0 then (setAut s text, nm (nx s.l s.c), 0)
  else if word name = false then (s, emp, 73)
  else nmdF s name text
def getF (s : St) (name : ByteArray) : ByteArray × ByteArray × Int :=
  match mnt name s.l with
  | some k => ((s.l[k]?.map Kp.n).getD emp, (s.l[k]?.map Kp.t).getD emp, 0)
  | none => (emp, emp, 240)
def delF (s : St) (name : ByteArray) : St × Int :=
  match mnt name s.l with
  | some k => (⟨s.l.eraseIdx k, s.lim, s.c⟩, 0)
  | none => (s, 240)
def renAt (l : List Kp) (k : Nat) (to : ByteArray) : List Kp := l.set k ⟨to, (l[k]?.map Kp.t).getD emp, false⟩
def renF (s : St) (name to : ByteArray) : St × Int :=
  match mnt name s.l with
  | none => (s, 240)
  | some k =>
    if word to = false then (s, 73)
    else if 0 ≤ fidx (nmd to) s.l ∧ fidx (nmd to) s.l ≠ (k : Int) then (s, 74)
    else if (s.l[k]?.map Kp.a).getD false = true ∧ 20 ≤ named s.l then (s, 3)
    else (⟨renAt s.l k to, s.lim, s.c⟩, 0)
def limF (s : St) (n : Int) : St × Int := if n < 1 ∨ 20 < n then (s, 1) else (⟨trimG n.toNat s.l, n.toNat, s.c⟩, 0)

/-- What holds of the buffers, j steps on at the most. -/
structure Good (s : St) (j : Nat) : Prop where
  names : ∀ x ∈ s.l, x.n.size ≤ 32
  texts : ∀ x ∈ s.l, x.t.size ≤ 65536
  one : s.l.Pairwise fun a b => a.n ≠ b.n
  autos : autos s.l ≤ s.lim
  named : named s.l ≤ 20
  lim : 1 ≤ s.lim ∧ s.lim ≤ 20
  c : s.c ≤ 50 * j
theorem Good.len {s : St} {j : Nat} (h : Good s j) : s.l.length ≤ 40 := by
  have := autos_named s.l
  have := h.autos
  have := h.named
  have := h.lim
  omega
theorem Good.more {s : St} {i j : Nat} (h : Good s i) (hij : i ≤ j) : Good s j := ⟨h.names, h.texts, h.one, h.autos, h.named, h.lim, by have := h.c; omega⟩
theorem autos_sub {a b : List Kp} (h : a.Sublist b) : autos a ≤ autos b := (h.filter _).length_le
theorem named_sub {a b : List Kp} (h : a.Sublist b) : named a ≤ named b := (h.filter _).length_le
theorem Good.sub {s : St} {j : Nat} (h : Good s j) {l' : List Kp} (hs : l'.Sublist s.l) : Good ⟨l', s.lim, s.c⟩ j :=
  ⟨fun x hx => h.names x (hs.subset hx), fun x hx => h.texts x (hs.subset hx), h.one.sublist hs, Nat.le_trans (autos_sub hs) h.autos, Nat.le_trans (named_sub hs) h.named, h.lim, h.c⟩
theorem no_name {l : List Kp} {name : ByteArray} (h : l.findIdx? (nmd name) = none) : ∀ x ∈ l, name ≠ x.n := fun x hx e => by
  have := List.findIdx?_eq_none_iff.1 h x hx
  unfold nmd at this
  exact of_decide_eq_false this e.symm
theorem nx_name (s : St) : ∀ x ∈ s.l, nm (nx s.l s.c) ≠ x.n := by
  have h := nx_free s.l s.c
  unfold tkn at h
  rcases fidx_cases (nmd (nm (nx s.l s.c))) s.l with ⟨_, h2⟩ | ⟨k, hk, h1, _⟩
  · intro x hx e
    have := h2 x hx
    unfold nmd at this
    exact of_decide_eq_false this e.symm
  · omega
theorem erase_name {l : List Kp} {name : ByteArray} {k : Nat} (hp : l.Pairwise fun a b => a.n ≠ b.n) (h : l.findIdx? (nmd name) = some k) : ∀ x ∈ l.eraseIdx k, name ≠ x.n := by
  obtain ⟨hk, h2, _⟩ := List.findIdx?_eq_some_iff_getElem.1 h
  have hn : l[k].n = name := of_decide_eq_true h2
  intro x hx e
  rw [List.mem_eraseIdx_iff_getElem] at hx
  obtain ⟨i, hi, hik, hxi⟩ := hx
  rw [List.pairwise_iff_getElem] at hp
  rcases Nat.lt_or_gt_of_ne hik with z | z
  · exact hp i k hi hk z (by rw [hxi, ← e, hn])
  · exact hp k i hk hi z (by rw [hxi, ← e, hn])
theorem split_at {l : List Kp} {k : Nat} (hk : k < l.length) : l = l.take k ++ l[k] :: l.drop (k + 1) := by
  rw [List.getElem_cons_drop, List.take_append_drop]
theorem autos_erase {l : List Kp} {k : Nat} (hk : k < l.length) : autos l = autos (l.eraseIdx k) + (if l[k].a then 1 else 0) ∧ named l = named (l.eraseIdx k) + (if l[k].a then 0 else 1) := by
  have e := split_at hk
  rw [List.eraseIdx_eq_take_drop_succ]
  constructor
  · conv => lhs; rw [e, autos_append, autos_cons]
    rw [autos_append]; omega
  · conv => lhs; rw [e, named_append, named_cons]
    rw [named_append]; omega
theorem good_setOld {s : St} {j : Nat} (h : Good s j) {name text : ByteArray} {k : Nat} (hf : s.l.findIdx? (nmd name) = some k) (hw : name.size ≤ 32) (ht : text.size ≤ 65536) : Good (setOld s name text k ((s.l[k]?.map Kp.a).getD false)) j := by
  have hk := findIdx_lt hf
  have hg := h.sub (List.eraseIdx_sublist s.l k)
  obtain ⟨e1, e2⟩ := autos_erase hk
  refine ⟨fun x hx => ?_, fun x hx => ?_, List.pairwise_cons.2 ⟨fun x hx => erase_name h.one hf x hx, hg.one⟩, ?_, ?_, h.lim, h.c⟩
  · rcases List.mem_cons.1 hx with rfl | hx
    · exact hw
    · exact hg.names x hx
  · rcases List.mem_cons.1 hx with rfl | hx
    · exact ht
    · exact hg.texts x hx
  · unfold setOld
    rw [autos_cons, List.getElem?_eq_getElem hk]
    have := h.autos
    simp only [Option.map_some, Option.getD_some]
    omega
  · unfold setOld
    rw [named_cons, List.getElem?_eq_getElem hk]
    have := h.named
    simp only [Option.map_some, Option.getD_some]
    omega
theorem good_setNew {s : St} {j : Nat} (h : Good s j) {name text : ByteArray} (hf : s.l.findIdx? (nmd name) = none) (hw : name.size ≤ 32) (ht : text.size ≤ 65536) (hn : named s.l < 20) : Good (setNew s name text) j := by
  refine ⟨fun x hx => ?_, fun x hx => ?_, List.pairwise_cons.2 ⟨fun x hx => no_name hf x hx, h.one⟩, ?_, ?_, h.lim, h.c⟩
  · rcases List.mem_cons.1 hx with rfl | hx
    · exact hw
    · exact h.names x hx
  · rcases List.mem_cons.1 hx with rfl | hx
    · exact ht
    · exact h.texts x hx
  · unfold setNew
    rw [autos_cons]
    have := h.autos
    simp only [Bool.false_eq_true, if_false]
    omega
  · unfold setNew
    rw [named_cons]
    simp only [Bool.false_eq_true, if_false]
    omega
theorem good_setAut {s : St} {j : Nat} (h : Good s j) (hj : j ≤ 1000000) {text : ByteArray} (ht : text.size ≤ 65536) : Good (setAut s text) (j + 1) := by
  have hle := nx_le s.l s.c
  have hlen := h.len
  have hc := h.c
  have hs := trimG_sub (⟨nm (nx s.l s.c), text, true⟩ :: s.l) s.lim
  obtain ⟨t1, t2⟩ := trimG_autos (⟨nm (nx s.l s.c), text, true⟩ :: s.l) s.lim
  refine ⟨fun x hx => ?_, fun x hx => ?_, (List.pairwise_cons.2 ⟨fun x hx => nx_name s x hx, h.one⟩).sublist hs, t1, ?_, h.lim, ?_⟩
  · rcases List.mem_cons.1 (hs.subset hx) with rfl | hx
    · exact Nat.le_trans (nm_size (by omega)) (by omega)
    · exact h.names x hx
  · rcases List.mem_cons.1 (hs.subset hx) with rfl | hx
    · exact ht
    · exact h.texts x hx
  · unfold setAut
    show named (trimG _ _) ≤ 20
    rw [t2, named_cons]
    have := h.named
    simp only [if_true]
    omega
  · unfold setAut
    show nx s.l s.c + 1 ≤ _
    omega
theorem good_nmd {s : St} {j : Nat} (h : Good s j) {name text : ByteArray} (hw : name.size ≤ 32) (ht : text.size ≤ 65536) : Good (nmdF s name text).1 j := by
  unfold nmdF
  split
  · rename_i k hk
    exact good_setOld h hk hw ht
  · rename_i hk
    split
    · exact h
    · exact good_setNew h hk hw ht (by omega)
theorem good_set {s : St} {j : Nat} (h : Good s j) (hj : j ≤ 1000000) (name text : ByteArray) : Good (setF s name text).1 (j + 1) := by
  unfold setF
  split
  · exact h.more (by omega)
  · rename_i ht
    split
    · exact good_setAut h hj (by omega)
    · split
      · exact h.more (by omega)
      · rename_i hw
        exact (good_nmd h (word_size (by simpa using hw)).2 (by omega)).more (by omega)
theorem good_del {s : St} {j : Nat} (h : Good s j) (name : ByteArray) : Good (delF s name).1 j := by
  unfold delF
  split
  · exact h.sub (List.eraseIdx_sublist _ _)
  · exact h
theorem good_lim {s : St} {j : Nat} (h : Good s j) (n : Int) : Good (limF s n).1 j := by
  unfold limF
  split
  · exact h
  · rename_i hn
    have hs := trimG_sub s.l n.toNat
    obtain ⟨t1, t2⟩ := trimG_autos s.l n.toNat
    exact ⟨fun x hx => h.names x (hs.subset hx), fun x hx => h.texts x (hs.subset hx), h.one.sublist hs, t1, by show named (trimG _ _) ≤ 20; rw [t2]; exact h.named, by show 1 ≤ n.toNat ∧ n.toNat ≤ 20; omega, h.c⟩
theorem set_split {l : List Kp} {k : Nat} (hk : k < l.length) (x : Kp) : l.set k x = l.take k ++ x :: l.drop (k + 1) := by
  rw [List.set_eq_take_append_cons_drop, if_pos hk]
theorem good_ren {s : St} {j : Nat} (h : Good s j) (name to : ByteArray) : Good (renF s name to).1 j := by
  unfold renF
  split
  · exact h
  · rename_i k hm
    have hk := mnt_lt hm
    split
    · exact h
    · rename_i hw
      split
      · exact h
      · rename_i ht
        split
        · exact h
        · rename_i hfull
          have hws := word_size (s := to) (by simpa using hw)
          have ex : s.l[k]? = some s.l[k] := List.getElem?_eq_getElem hk
          rw [ex] at hfull
          simp only [Option.map_some, Option.getD_some] at hfull
          have hset : renAt s.l k to = s.l.take k ++ ⟨to, s.l[k].t, false⟩ :: s.l.drop (k + 1) := by
            unfold renAt
            rw [ex, set_split hk]
            rfl
          obtain ⟨e1, e2⟩ := autos_erase hk
          rw [List.eraseIdx_eq_take_drop_succ, autos_append] at e1
          rw [List.eraseIdx_eq_take_drop_succ, named_append] at e2
          have hmem : ∀ x ∈ renAt s.l k to, x = ⟨to, s.l[k].t, false⟩ ∨ x ∈ s.l := fun x hx => by
            rw [hset] at hx
            simp only [List.mem_append, List.mem_cons] at hx
            rcases hx with z | z | z
            · exact .inr (List.mem_of_mem_take z)
            · exact .inl z
            · exact .inr (List.mem_of_mem_drop z)
          have hnoto : ∀ i (hi : i < s.l.length), i ≠ k → to ≠ s.l[i].n := fun i hi hik e => by
            apply ht
            rcases fidx_cases (nmd to) s.l with ⟨_, h2⟩ | ⟨q, hq, h1, h2, h3⟩
            · have := h2 s.l[i] (List.getElem_mem hi)
              unfold nmd at this
              exact absurd e.symm (of_decide_eq_false this)
            · refine ⟨by omega, fun e2 => ?_⟩
              have hqk : q = k := by omega
              subst hqk
              have hq2 : s.l[q].n = to := of_decide_eq_true h2
              have hp := h.one
              rw [List.pairwise_iff_getElem] at hp
              rcases Nat.lt_or_gt_of_ne hik with z | z
              · exact hp i q hi hq z (by rw [hq2, e])
              · exact hp q i hq hi z (by rw [hq2, e])
          refine ⟨fun x hx => ?_, fun x hx => ?_, ?_, ?_, ?_, h.lim, h.c⟩
          · rcases hmem x hx with rfl | z
            · exact hws.2
            · exact h.names x z
          · rcases hmem x hx with rfl | z
            · exact h.texts s.l[k] (List.getElem_mem hk)
            · exact h.texts x z
          · show (renAt s.l k to).Pairwise _
            unfold renAt
            rw [List.pairwise_iff_getElem]
            have hp := h.one
            rw [List.pairwise_iff_getElem] at hp
            intro i i' hi hi' hii
            rw [List.length_set] at hi hi'
            simp only [List.getElem_set]
            split
            · split
              · omega
              · exact hnoto i' hi' (by omega)
            · split
              · exact fun e => hnoto i hi (by omega) e.symm
              · exact hp i i' hi hi' hii
          · show autos (renAt s.l k to) ≤ s.lim
            rw [hset, autos_append, autos_cons]
            have := h.autos
            simp only [Bool.false_eq_true, if_false]
            omega
          · show named (renAt s.l k to) ≤ 20
            rw [hset, named_append, named_cons]
            have := h.named
            simp only [Bool.false_eq_true, if_false]
            cases hka : s.l[k].a
            · rw [hka] at e2; simp at e2; omega
            · rw [hka] at e2 hfull
              simp at e2 hfull
              omega
theorem good_new (j : Nat) : Good ⟨[], 20, 0⟩ j := ⟨fun x hx => by simp at hx, fun x hx => by simp at hx, List.Pairwise.nil, Nat.zero_le _, Nat.zero_le _, ⟨by decide, by decide⟩, Nat.zero_le _⟩
end Go.Proofs.YtgbaeajcgiaboaaDoor
