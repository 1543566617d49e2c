/-
  Beginnings of lines, by plain functions: a beginning of a beginning is one.
-/
import Derived.Test.YtplolaondmeccaaGreatDoorWInv
import Derived.Test.YtplolaondmeccaaGreatDoorWSure
namespace Go.Proofs.YtplolaondmeccaaGreatDoor
open Go.RowKit
open Go.Lib (decDigits)
set_option linter.unusedVariables false

/-- The ends of a field; a text that is a field, or becomes one. -/
def endsL (F : FSpec) : List (List UInt8) := Lib.fields F.ends.data.toList
def begF (F : FSpec) (t : List UInt8) : Bool := (F.read t).isSome || (endsL F).any fun e => (F.read (t ++ e)).isSome

theorem begF_self {F : FSpec} {t : List UInt8} (h : (F.read t).isSome = true) : begF F t = true := by unfold begF; rw [h]; rfl
theorem begF_end {F : FSpec} {t e : List UInt8} (he : e ∈ endsL F) (h : (F.read (t ++ e)).isSome = true) : begF F t = true := by
  unfold begF
  rw [Bool.or_eq_true]
  exact .inr (List.any_eq_true.2 ⟨e, he, h⟩)

/-- What begins a field's text begins a field. -/
def Cuts (F : FSpec) : Prop := ∀ t q, (F.read t).isSome = true → q <+: t → begF F q = true

theorem begF_pre {F : FSpec} (hF : Cuts F) {t q : List UInt8} (h : begF F t = true) (hq : q <+: t) : begF F q = true := by
  unfold begF at h
  rw [Bool.or_eq_true] at h
  rcases h with h | h
  · exact hF t q h hq
  · obtain ⟨e, _, h⟩ := List.any_eq_true.1 h
    exact hF (t ++ e) q h (hq.trans (List.prefix_append t e))

/-! Numbers. -/
theorem dec_prefix (u : Nat) : ∀ q, q <+: decDigits u → q = [] ∨ ∃ v, v ≤ u ∧ q = decDigits v ∧ (1 ≤ u → 1 ≤ v) := by
  induction u using Nat.strongRecOn with
  | ind u ih =>
    intro q hq
    by_cases h : u < 10
    · rw [dec_small h] at hq
      rcases List.prefix_cons_iff.1 hq with rfl | ⟨t, rfl, ht⟩
      · exact .inl rfl
      · obtain rfl : t = [] := List.prefix_nil.1 ht
        exact .inr ⟨u, Nat.le_refl _, (dec_small h).symm, id⟩
    · rw [dec_big h] at hq
      rcases List.prefix_concat_iff.1 hq with rfl | hq
      · exact .inr ⟨u, Nat.le_refl _, (dec_big h).symm, id⟩
      · rcases ih (u / 10) (by omega) q hq with rfl | ⟨v, hv, e, h1⟩
        · exact .inl rfl
        · exact .inr ⟨v, by omega, e, fun _ => h1 (by omega)⟩

theorem num_prefix {t q : List UInt8} {n : Int} (h : Num t n) (hq : q <+: t) : q = [] ∨ ∃ v : Int, Num q v ∧ v ≤ n ∧ (1 ≤ n → 1 ≤ v) := by
  obtain ⟨hb, ht⟩ := h
  rw [putL_in hb] at ht
  rw [← ht] at hq
  rcases dec_prefix _ q hq with rfl | ⟨v, hv, e, h1⟩
  · exact .inl rfl
  · have hvb : 0 ≤ (v : Int) ∧ (v : Int) ≤ 4611686018427387904 := by omega
    exact .inr ⟨v, ⟨hvb, by rw [putL_in hvb]; exact e.symm⟩, by omega, fun h => by have := h1 (by omega); omega⟩

theorem num_yes {m : Int} {f : NF} {t : List UInt8} {n : Int} (h : Num t n) (hm : n ≤ m) : ((fNum m f).read t).isSome = true := by
  show ((numOf t).bind fun n => if n ≤ m then some (f.set n) else none).isSome = true
  rw [numOf_some h]
  show (if n ≤ m then some (f.set n) else none).isSome = true
  rw [if_pos hm]
  rfl

theorem some_of {α : Type} {o : Option α} (h : o.isSome = true) : ∃ x, o = some x := Option.isSome_iff_exists.1 h

theorem num_48 : Num [48] 0 := ⟨by decide, putL_0'⟩
where putL_0' : putL 0 = [48] := by unfold putL; rw [if_pos (by decide)]; exact dec_small (by decide)
theorem num_49 : Num [49] 1 := ⟨by decide, putL_1'⟩
where putL_1' : putL 1 = [49] := by unfold putL; rw [if_pos (by decide)]; exact dec_small (by decide)

theorem cuts_num (m : Int) (hm : 0 ≤ m) (f : NF) : Cuts (fNum m f) := by
  intro t q h hq
  obtain ⟨g, hg⟩ := some_of h
  obtain ⟨n, hn, hnm, _⟩ := read_num hg
  rcases num_prefix hn hq with rfl | ⟨v, hv, hvn, _⟩
  · exact begF_end (e := [48]) (by show [48] ∈ Lib.fields [48]; decide) (num_yes num_48 hm)
  · exact begF_self (num_yes hv (by omega))

theorem id_yes {c : UInt8} {f : NF} {t : List UInt8} {n : Int} (h : IsId c t n) : ((fId c f).read t).isSome = true := by
  show ((idOf c t).map f.set).isSome = true
  rw [idOf_some h]
  rfl

theorem cuts_id (c : UInt8) (f : NF) (h1 : [c, 49] ∈ Lib.fields [c, 49, 32, 49]) (h2 : [49] ∈ Lib.fields [c, 49, 32, 49]) : Cuts (fId c f) := by
  intro t q h hq
  obtain ⟨g, hg⟩ := some_of h
  obtain ⟨n, ⟨r, rfl, hr, hn⟩, _⟩ := read_id hg
  rcases List.prefix_cons_iff.1 hq with rfl | ⟨q', rfl, hq'⟩
  · exact begF_end (e := [c, 49]) h1 (id_yes (n := 1) ⟨[49], rfl, num_49, by decide⟩)
  · rcases num_prefix hr hq' with rfl | ⟨v, hv, _, hv1⟩
    · exact begF_end (e := [49]) h2 (id_yes (n := 1) ⟨[49], rfl, num_49, by decide⟩)
    · exact begF_self (id_yes (n := v) ⟨q', rfl, hv, hv1 hn⟩)

/-! Names and words. -/
theorem nameB_iff (l : List UInt8) : nameB (str l) = true ↔ 0 < l.length ∧ l.length ≤ 32 ∧ l.all nb = true ∧ (∃ c, l.head? = some c ∧ has bars c = false) ∧ ∃ c, l.getLast? = some c ∧ c.toNat ≠ 32 := by
  by_cases h : 0 < l.length ∧ l.length ≤ 32
  · have h0 : (str l)[0]'(by rw [str_size]; exact h.1) = l[0]'h.1 := rfl
    have h9 : (str l)[(str l).size - 1]'(by rw [str_size]; omega) = l[l.length - 1]'(by omega) := rfl
    have e1 : l.head? = some (l[0]'h.1) := by rw [List.head?_eq_getElem?, List.getElem?_eq_getElem h.1]
    have e2 : l.getLast? = some (l[l.length - 1]'(by omega)) := by rw [List.getLast?_eq_getElem?, List.getElem?_eq_getElem (by omega)]
    unfold nameB
    rw [dif_pos (show 0 < (str l).size ∧ (str l).size ≤ 32 from h), h0, h9, e1, e2, Bool.and_eq_true, Bool.and_eq_true, str_data, Bool.not_eq_true', decide_eq_true_eq]
    constructor
    · exact fun ⟨a, b, c⟩ => ⟨h.1, h.2, a, ⟨_, rfl, b⟩, _, rfl, c⟩
    · rintro ⟨_, _, a, ⟨_, e, b⟩, _, e', c⟩
      cases e
      cases e'
      exact ⟨a, b, c⟩
  · rw [nameB_out (show ¬ (0 < (str l).size ∧ (str l).size ≤ 32) from h)]
    constructor
    · intro h'; cases h'
    · exact fun ⟨a, b, _⟩ => absurd ⟨a, b⟩ h

theorem name_yes {t : List UInt8} (h : nameB (str t) = true) : (fName.read t).isSome = true := by
  simp [fName, h]
theorem word_yes {t : List UInt8} (h : nameB (str t) = true) (h2 : (32 : UInt8) ∉ t) : (fWord.read t).isSome = true := by
  have h3 : has (str t) 32 = false := by
    unfold has
    rw [str_data, List.any_eq_false]
    intro x hx e
    exact h2 (eq_of_beq e ▸ hx)
  simp [fWord, h, h3]

theorem cuts_name : Cuts fName := by
  intro t q h hq
  obtain ⟨g, hg⟩ := some_of h
  obtain ⟨hn, _⟩ := read_name hg
  obtain ⟨r, rfl⟩ := hq
  obtain ⟨h1, h2, h3, ⟨c, h4, h5⟩, d, h6, h7⟩ := (nameB_iff _).1 hn
  by_cases hr : r = []
  · subst hr
    rw [List.append_nil] at hn
    exact begF_self (name_yes hn)
  refine begF_end (e := [97]) (by show [97] ∈ Lib.fields [97]; decide) (name_yes ((nameB_iff _).2 ⟨?_, ?_, ?_, ?_, 97, ?_, by decide⟩))
  · simp
  · have : 0 < r.length := List.length_pos_iff.2 hr
    rw [List.length_append] at h2 ⊢
    simp only [List.length_cons, List.length_nil]
    omega
  · rw [List.all_append, Bool.and_eq_true] at h3 ⊢
    exact ⟨h3.1, by decide⟩
  · cases q with
    | nil => exact ⟨97, rfl, by decide⟩
    | cons a q => exact ⟨a, rfl, by cases h4; exact h5⟩
  · simp

theorem cuts_word : Cuts fWord := by
  intro t q h hq
  obtain ⟨g, hg⟩ := some_of h
  obtain ⟨hn, _⟩ := read_word hg
  rw [Bool.and_eq_true, Bool.not_eq_true'] at hn
  obtain ⟨hn, hb⟩ := hn
  have hb' : (32 : UInt8) ∉ t := by
    intro hm
    unfold has at hb
    rw [str_data, List.any_eq_false] at hb
    exact hb 32 hm (by decide)
  obtain ⟨r, rfl⟩ := hq
  obtain ⟨h1, h2, h3, ⟨c, h4, h5⟩, d, h6, h7⟩ := (nameB_iff _).1 hn
  cases q with
  | nil => exact begF_end (e := [97]) (by show [97] ∈ Lib.fields [97]; decide) (word_yes (by decide) (by decide))
  | cons a q =>
    have hb2 : (32 : UInt8) ∉ a :: q := fun hm => hb' (List.mem_append_left _ hm)
    refine begF_self (word_yes ((nameB_iff _).2 ⟨by simp, ?_, ?_, ⟨a, rfl, by cases h4; exact h5⟩, (a :: q).getLast (by simp), List.getLast?_eq_some_getLast _, ?_⟩) hb2)
    · rw [List.length_append] at h2; omega
    · rw [List.all_append, Bool.and_eq_true] at h3; exact h3.1
    · intro e
      refine hb2 ?_
      have : (a :: q).getLast (by simp) = 32 := UInt8.toNat_inj.1 e
      rw [← this]
      exact List.getLast_mem _

/-! Plans, the two signs. -/
theorem dropWhile_nil (p : UInt8 → Bool) : ∀ l : List UInt8, l.dropWhile p = [] ↔ ∀ b ∈ l, p b = true
  | [] => by simp
  | b :: l => by
    rw [List.dropWhile_cons]
    cases hb : p b
    · simp [hb]
    · simpa [hb] using dropWhile_nil p l
theorem planOk_iff (l : List UInt8) : planOk l = true ↔ l ≠ [] ∧ l.length ≤ 2048 ∧ ∀ b ∈ l, planSet.contains b = true := by
  unfold planOk Lib.trimLeftS
  rw [Bool.and_eq_true, Bool.and_eq_true, decide_eq_true_eq, Bool.not_eq_true', List.isEmpty_eq_false_iff, List.isEmpty_iff, dropWhile_nil]
theorem plan_yes {f : PF} {t : List UInt8} (h : planOk t = true) : ((fPlan f).read t).isSome = true := by
  simp [fPlan, h]
theorem cuts_plan (f : PF) : Cuts (fPlan f) := by
  intro t q h hq
  obtain ⟨g, hg⟩ := some_of h
  obtain ⟨hn, _⟩ := read_plan hg
  obtain ⟨h1, h2, h3⟩ := (planOk_iff _).1 hn
  by_cases hq0 : q = []
  · subst hq0
    exact begF_end (e := [48]) (by show [48] ∈ Lib.fields [48]; decide) (plan_yes (by decide))
  · exact begF_self (plan_yes ((planOk_iff _).2 ⟨hq0, Nat.le_trans hq.length_le h2, fun b hb => h3 b (hq.subset hb)⟩))

theorem one_prefix {q : List UInt8} {c : UInt8} (h : q <+: [c]) : q = [] ∨ q = [c] := by
  rcases List.prefix_cons_iff.1 h with rfl | ⟨t, rfl, ht⟩
  · exact .inl rfl
  · obtain rfl : t = [] := List.prefix_nil.1 ht
    exact .inr rfl
theorem cuts_zoom : Cuts fZoom := by
  intro t q h hq
  obtain ⟨g, hg⟩ := some_of h
  obtain ⟨z, rfl, _⟩ := read_zoom hg
  have h0 : begF fZoom [] = true := begF_end (e := [45]) (by show [45] ∈ Lib.fields [45]; decide) rfl
  cases z
  · rcases one_prefix hq with rfl | rfl
    · exact h0
    · exact begF_self h
  · rcases one_prefix hq with rfl | rfl
    · exact h0
    · exact begF_self h
theorem cuts_colon : Cuts fColon := by
  intro t q h hq
  obtain ⟨g, hg⟩ := some_of h
  obtain ⟨rfl, _⟩ := read_colon hg
  rcases one_prefix hq with rfl | rfl
  · exact begF_end (e := [58]) (by show [58] ∈ Lib.fields [58]; decide) rfl
  · exact begF_self h

end Go.Proofs.YtplolaondmeccaaGreatDoor
