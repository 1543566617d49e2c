/-
  The document's way of writing an event, by plain functions: letters; nothing of the dump.
  The letters of the document's table.
  The document's table, by plain functions: its rows write and read as the wire does.
  Beginnings as the document says them, by plain functions.
  Beginnings of lines as the document says them.
-/
import Derived.Test.YtplolaondmeccaaGreatDoorWInv
import Derived.Test.YtplolaondmeccaaGreatDoorWWordS
namespace Go.Proofs.YtplolaondmeccaaGreatDoor
open Go.RowKit
set_option linter.unusedVariables false

/-- A field with what is written of it, if it may be, and what is kept of an event. -/
structure Lt where
  F : FSpec
  T : Ev → Option (List UInt8)
  K : Ev → Ev → Ev

structure Lt.Ok (L : Lt) : Prop where
  yes : ∀ e t, L.T e = some t → L.F.put e = t ∧ L.F.read t = some (L.K e)
  no : ∀ e g a, L.F.read (L.F.put e) = some g → g a = e → L.T e ≠ none
/-- What is written has no blank; and what is read back was written. -/
structure Lt.Tight (L : Lt) : Prop where
  nb : ∀ e t, L.T e = some t → ¬ (32 : UInt8) ∈ t
  no : ∀ e g, L.F.read (L.F.put e) = some g → L.T e ≠ none

def putA : List Lt → Ev → Option (List (List UInt8))
  | [], _ => some []
  | L :: ls, e => match L.T e with
    | none => none
    | some t => (putA ls e).map (t :: ·)
def keepAll : List Lt → Ev → Ev → Ev
  | [], _, a => a
  | L :: ls, e, a => keepAll ls e (L.K e a)

theorem putA_cons {L : Lt} {ls : List Lt} {e : Ev} {ts : List (List UInt8)} (h : putA (L :: ls) e = some ts) : ∃ t r, L.T e = some t ∧ putA ls e = some r ∧ ts = t :: r := by
  unfold putA at h
  split at h
  · cases h
  · rename_i t ht
    cases hp : putA ls e with
    | none => rw [hp] at h; cases h
    | some r => rw [hp] at h; exact ⟨t, r, ht, rfl, by cases h; rfl⟩

theorem putA_yes : ∀ (ls : List Lt) (e a : Ev) (ts : List (List UInt8)), (∀ L ∈ ls, L.Ok) → putA ls e = some ts →
    ls.map (·.F.put e) = ts ∧ readAll (ls.map (·.F)) ts a = some (keepAll ls e a)
  | [], e, a, ts, _, h => by cases h; exact ⟨rfl, rfl⟩
  | L :: ls, e, a, ts, hok, h => by
    obtain ⟨t, r, h1, h2, rfl⟩ := putA_cons h
    obtain ⟨y1, y2⟩ := (hok L List.mem_cons_self).yes e t h1
    obtain ⟨z1, z2⟩ := putA_yes ls e (L.K e a) r (fun x hx => hok x (List.mem_cons_of_mem _ hx)) h2
    refine ⟨by rw [List.map_cons, y1, z1], ?_⟩
    show (L.F.read t).bind (fun g => readAll (ls.map (·.F)) r (g a)) = _
    rw [y2]
    exact z2

/-- All but the last write no blank. -/
inductive TightRow : List Lt → Prop where
  | one (L) : TightRow [L]
  | more (L M l) : L.Tight → TightRow (M :: l) → TightRow (L :: M :: l)

theorem putA_no {ls : List Lt} (hr : TightRow ls) : (∀ L ∈ ls, L.Ok) → ∀ (e a : Ev), readAll (ls.map (·.F)) (ls.map (·.F.put e)) a = some e → putA ls e ≠ none := by
  induction hr with
  | one L =>
    intro hok e a h
    obtain ⟨g, h1, h2⟩ := readAll_cons h
    have h3 := (hok L List.mem_cons_self).no e g a h1 (Option.some.inj h2)
    intro k
    unfold putA at k
    split at k
    · exact h3 (by assumption)
    · cases k
  | more L M l hL _ ih =>
    intro hok e a h
    obtain ⟨g, h1, h2⟩ := readAll_cons h
    have h3 := hL.no e g h1
    have h4 := ih (fun x hx => hok x (List.mem_cons_of_mem _ hx)) e (g a) h2
    intro k
    unfold putA at k
    split at k
    · exact h3 (by assumption)
    · exact h4 (Option.map_eq_none_iff.1 k)

theorem nb_all {a : List UInt8} (h : ¬ (32 : UInt8) ∈ a) : ∀ x ∈ a, (x != 32) = true := fun x hx => by
  rw [bne_iff_ne]
  rintro rfl
  exact h hx
theorem cutK_join (a r : List UInt8) (k : Nat) (h : ¬ (32 : UInt8) ∈ a) : cutK (k + 1) (a ++ 32 :: r) = a :: cutK k r := by
  have h1 : (a ++ 32 :: r).takeWhile (· != 32) = a := by
    rw [List.takeWhile_append_of_pos (nb_all h)]
    simp
  have h2 : (a ++ 32 :: r).dropWhile (· != 32) = 32 :: r := by
    rw [List.dropWhile_append_of_pos (nb_all h)]
    simp
  show (if 32 ∈ a ++ 32 :: r then _ else _) = _
  rw [if_pos (by simp), h1, h2]
  rfl

theorem joinW_one' (a : List UInt8) : joinW [a] = a := by simp [joinW, List.intercalate]
theorem joinW_more (a b : List UInt8) (r : List (List UInt8)) : joinW (a :: b :: r) = a ++ 32 :: joinW (b :: r) := by simp [joinW, List.intercalate]

theorem cut_joinW : ∀ (ts : List (List UInt8)) (n : Nat), ts.length = n + 1 → (∀ t ∈ ts.dropLast, ¬ (32 : UInt8) ∈ t) → cutK n (joinW ts) = ts
  | [], n, h, _ => by simp at h
  | [t], n, h, _ => by
    have : n = 0 := by simpa using h.symm
    subst this
    rw [joinW_one']
    rfl
  | t :: u :: r, n, h, hb => by
    obtain ⟨m, rfl⟩ : ∃ m, n = m + 1 := ⟨r.length, by simp at h; omega⟩
    rw [joinW_more, cutK_join _ _ _ (hb t (by simp)), cut_joinW (u :: r) m (by simp at h ⊢; omega) (fun x hx => hb x (by simp at hx ⊢; exact .inr hx))]

theorem putA_tight {ls : List Lt} (h : TightRow ls) : ∀ (e : Ev) (ts : List (List UInt8)), putA ls e = some ts → ts.length = ls.length ∧ ∀ t ∈ ts.dropLast, ¬ (32 : UInt8) ∈ t := by
  induction h with
  | one L =>
    intro e ts h
    obtain ⟨t, r, _, h2, rfl⟩ := putA_cons h
    cases h2
    exact ⟨rfl, fun t ht => absurd ht (by simp)⟩
  | more L M l hL _ ih =>
    intro e ts h
    obtain ⟨t, r, h1, h2, rfl⟩ := putA_cons h
    obtain ⟨a, b⟩ := ih e r h2
    refine ⟨by simp [a], ?_⟩
    obtain ⟨x, xs, rfl⟩ : ∃ x xs, r = x :: xs := by
      cases r with
      | nil => simp at a
      | cons x xs => exact ⟨x, xs, rfl⟩
    intro u hu
    rw [List.dropLast_cons_cons] at hu
    rcases List.mem_cons.1 hu with rfl | hu
    · exact hL.nb e _ h1
    · exact b u hu

/-- The line of an event by a row of letters. -/
theorem encS_by (k : Nat) (h1 : 1 ≤ k) (h2 : k ≤ 24) (ls : List Lt) (hf : fieldsOf k = ls.map (·.F)) (hok : ∀ L ∈ ls, L.Ok) (ht : TightRow ls) (e : Ev) (hk : e.kind = k) :
    ((keepAll ls e (Ev.zero k) = e → encS e = (putA ls e).map (headOf k ++ joinW ·)) ∧ (keepAll ls e (Ev.zero k) ≠ e → encS e = none)) := by
  have hlen : (fieldsOf k).length = ls.length := by rw [hf, List.length_map]
  have hpos : 1 ≤ ls.length := by cases ht <;> simp
  cases hp : putA ls e with
  | some ts =>
    obtain ⟨a1, a2⟩ := putA_yes ls e (Ev.zero k) ts hok hp
    obtain ⟨b1, b2⟩ := putA_tight ht e ts hp
    have hw : writeS k e = headOf k ++ joinW ts := by
      unfold writeS
      rw [hf, List.map_map, ← a1]
      rfl
    have hr : readS k (writeS k e) = some (keepAll ls e (Ev.zero k)) := by
      rw [hw]
      unfold readS
      rw [if_pos (List.prefix_append _ _), List.drop_left]
      show (if (cutK ((fieldsOf k).length - 1) (joinW ts)).length < (fieldsOf k).length then none else readAll (fieldsOf k) (cutK ((fieldsOf k).length - 1) (joinW ts)) (Ev.zero k)) = _
      rw [cut_joinW ts _ (by omega) b2, if_neg (by omega), hf, a2]
    refine ⟨fun h => ?_, fun h => ?_⟩
    · rw [encS_yes e k hk h1 h2 (by rw [hr, h]), hw]
      rfl
    · exact encS_no e k hk (by rw [hr]; exact fun x => h (Option.some.inj x))
  | none =>
    have hn : encS e = none := by
      refine encS_no e k hk fun hr => ?_
      have hp' := readS_head hr
      unfold readS at hr
      rw [if_pos hp'] at hr
      have h' : (if (cutK ((fieldsOf k).length - 1) ((writeS k e).drop (headOf k).length)).length < (fieldsOf k).length then none else readAll (fieldsOf k) (cutK ((fieldsOf k).length - 1) ((writeS k e).drop (headOf k).length)) (Ev.zero k)) = some e := hr
      split at h'
      · cases h'
      · have hn := (fields_len k h1 h2).1
        have hle := cutK_length ((fieldsOf k).length - 1) ((writeS k e).drop (headOf k).length)
        obtain ⟨h3, _⟩ := row_back (goodRow k h1 h2) _ _ _ (by omega) rfl h'
        rw [← h3, hf, List.map_map] at h'
        exact putA_no ht hok e _ h' hp
    exact ⟨fun _ => hn, fun _ => hn⟩

end Go.Proofs.YtplolaondmeccaaGreatDoor

namespace Go.Proofs.YtplolaondmeccaaGreatDoor
open Go.RowKit
set_option linter.unusedVariables false

theorem numPut {n : Int} (h : 0 ≤ n ∧ n ≤ 4611686018427387904) : Num (putL n) n := ⟨h, rfl⟩
theorem num_out {n m : Int} (h : Num (putL n) m) : n = m := by
  by_cases hn : 0 ≤ n ∧ n ≤ 4611686018427387904
  · exact (numPut hn).one h
  · have h2 := h.2
    have hm := h.1
    unfold putL at h2
    rw [if_neg hn, if_pos hm] at h2
    exact absurd h2 (dec_ne _)

noncomputable def lNum (m : Int) (f : NF) : Lt := ⟨fNum m f, fun e => if 0 ≤ f.get e ∧ f.get e ≤ m then some (putL (f.get e)) else none, fun e a => f.set (f.get e) a⟩
noncomputable def lId (c : UInt8) (f : NF) : Lt := ⟨fId c f, fun e => if 1 ≤ f.get e ∧ f.get e ≤ 4611686018427387904 then some (putI c (f.get e)) else none, fun e a => f.set (f.get e) a⟩
noncomputable def lName : Lt := ⟨fName, fun e => if nameB e.name then some e.name.data.toList else none, fun e a => { a with name := e.name }⟩
noncomputable def lWord : Lt := ⟨fWord, fun e => if nameB e.name && !has e.name 32 then some e.name.data.toList else none, fun e a => { a with name := e.name }⟩
noncomputable def lPlan (f : PF) : Lt := ⟨fPlan f, fun e => if planOk (f.get e).data.toList then some (f.get e).data.toList else none, fun e a => f.set (f.get e) a⟩
noncomputable def lZoom : Lt := ⟨fZoom, fun e => some (if e.zoom then [90] else [45]), fun e a => { a with zoom := e.zoom }⟩
noncomputable def lColon : Lt := ⟨fColon, fun _ => some [58], fun _ a => a⟩
noncomputable def lEsc (lo hi : Nat) : Lt := ⟨fEsc lo hi, fun e => if lo ≤ e.text.size ∧ e.text.size ≤ hi then some (esc e.text.data.toList) else none, fun e a => { a with text := e.text }⟩
noncomputable def lBody : Lt := ⟨fBody, fun e => some (escB e.text.data.toList), fun e a => { a with text := e.text }⟩
noncomputable def lReason : Lt := ⟨fReason, fun e => if e.text.size = 0 then some [] else if e.text.size ≤ 1024 then some (32 :: esc e.text.data.toList) else none, fun e a => if e.text.size = 0 then a else { a with text := e.text }⟩

theorem strBack (s : ByteArray) : str s.data.toList = s := rfl

theorem num_strong (m : Int) (hm : m ≤ 4611686018427387904) (f : NF) (e : Ev) (g : Ev → Ev) (h : (fNum m f).read ((fNum m f).put e) = some g) : (lNum m f).T e ≠ none := by
  obtain ⟨n, h1, h2, rfl⟩ := read_num h
  have h3 : f.get e = n := num_out h1
  have h4 := h1.1
  show (if 0 ≤ f.get e ∧ f.get e ≤ m then some (putL (f.get e)) else none) ≠ none
  rw [if_pos ⟨by omega, by omega⟩]
  exact fun h => by cases h
theorem ok_num (m : Int) (hm : m ≤ 4611686018427387904) (f : NF) : (lNum m f).Ok := by
  refine ⟨fun e t h => ?_, fun e g _ h _ => num_strong m hm f e g h⟩
  have h' : (if 0 ≤ f.get e ∧ f.get e ≤ m then some (putL (f.get e)) else none) = some t := h
  split at h'
  · rename_i hc
    cases h'
    refine ⟨rfl, ?_⟩
    show (numOf (putL (f.get e))).bind (fun n => if n ≤ m then some (f.set n) else none) = _
    rw [numOf_some (numPut ⟨hc.1, by omega⟩)]
    show (if f.get e ≤ m then _ else _) = _
    rw [if_pos hc.2]
    rfl
  · cases h'
theorem putL_nb (n : Int) : ¬ (32 : UInt8) ∈ putL n := by
  by_cases hn : 0 ≤ n ∧ n ≤ 4611686018427387904
  · intro h
    have := num_digit (numPut hn) _ h
    exact absurd this (by decide)
  · unfold putL
    rw [if_neg hn]
    exact fun h => by cases h
theorem tight_num (m : Int) (hm : m ≤ 4611686018427387904) (f : NF) : (lNum m f).Tight := by
  refine ⟨fun e t h => ?_, num_strong m hm f⟩
  have h' : (if 0 ≤ f.get e ∧ f.get e ≤ m then some (putL (f.get e)) else none) = some t := h
  split at h'
  · cases h'; exact putL_nb _
  · cases h'

theorem id_strong (c : UInt8) (f : NF) (e : Ev) (g : Ev → Ev) (h : (fId c f).read ((fId c f).put e) = some g) : (lId c f).T e ≠ none := by
  obtain ⟨n, h1, rfl⟩ := read_id h
  show (if 1 ≤ f.get e ∧ f.get e ≤ 4611686018427387904 then some (putI c (f.get e)) else none) ≠ none
  by_cases hc : 1 ≤ f.get e ∧ f.get e ≤ 4611686018427387904
  · rw [if_pos hc]; exact fun h => by cases h
  · obtain ⟨r, h2, _⟩ := h1
    have h3 : putI c (f.get e) = c :: r := h2
    rw [putI_out hc] at h3
    cases h3
theorem ok_id (c : UInt8) (f : NF) : (lId c f).Ok := by
  refine ⟨fun e t h => ?_, fun e g _ h _ => id_strong c f e g h⟩
  have h' : (if 1 ≤ f.get e ∧ f.get e ≤ 4611686018427387904 then some (putI c (f.get e)) else none) = some t := h
  split at h'
  · rename_i hc
    cases h'
    refine ⟨rfl, ?_⟩
    show (idOf c (putI c (f.get e))).map f.set = _
    rw [idOf_some (n := f.get e) ⟨putL (f.get e), putI_in hc, numPut ⟨by omega, hc.2⟩, hc.1⟩]
    rfl
  · cases h'
theorem tight_id (c : UInt8) (hc : c ≠ 32) (f : NF) : (lId c f).Tight := by
  refine ⟨fun e t h => ?_, id_strong c f⟩
  have h' : (if 1 ≤ f.get e ∧ f.get e ≤ 4611686018427387904 then some (putI c (f.get e)) else none) = some t := h
  split at h'
  · rename_i hq
    cases h'
    rw [putI_in hq]
    intro hm
    rcases List.mem_cons.1 hm with hm | hm
    · exact hc hm.symm
    · exact putL_nb _ hm
  · cases h'

theorem ok_name : lName.Ok := by
  refine ⟨fun e t h => ?_, fun e g _ h _ => ?_⟩
  · have h' : (if nameB e.name then some e.name.data.toList else none) = some t := h
    split at h'
    · rename_i hc
      cases h'
      refine ⟨rfl, ?_⟩
      show (if nameB (str e.name.data.toList) then some (fun a : Ev => { a with name := str e.name.data.toList }) else none) = _
      rw [strBack, if_pos hc]
      rfl
    · cases h'
  · obtain ⟨h1, _⟩ := read_name h
    have h1' : nameB e.name = true := h1
    show (if nameB e.name then some e.name.data.toList else none) ≠ none
    rw [if_pos h1']
    exact fun h => by cases h
theorem word_strong (e : Ev) (g : Ev → Ev) (h : fWord.read (fWord.put e) = some g) : lWord.T e ≠ none := by
  obtain ⟨h1, _⟩ := read_word h
  have h1' : (nameB e.name && !has e.name 32) = true := h1
  show (if nameB e.name && !has e.name 32 then some e.name.data.toList else none) ≠ none
  rw [if_pos h1']
  exact fun h => by cases h
theorem ok_word : lWord.Ok := by
  refine ⟨fun e t h => ?_, fun e g _ h _ => word_strong e g h⟩
  have h' : (if nameB e.name && !has e.name 32 then some e.name.data.toList else none) = some t := h
  split at h'
  · rename_i hc
    cases h'
    refine ⟨rfl, ?_⟩
    show (if nameB (str e.name.data.toList) && !has (str e.name.data.toList) 32 then some (fun a : Ev => { a with name := str e.name.data.toList }) else none) = _
    rw [strBack, if_pos hc]
    rfl
  · cases h'
theorem tight_word : lWord.Tight := by
  refine ⟨fun e t h => ?_, word_strong⟩
  have h' : (if nameB e.name && !has e.name 32 then some e.name.data.toList else none) = some t := h
  split at h'
  · rename_i hc
    cases h'
    intro hm
    have h2 : has e.name 32 = true := List.any_eq_true.2 ⟨32, hm, by decide⟩
    rw [h2] at hc
    simp at hc
  · cases h'
theorem plan_strong (f : PF) (e : Ev) (g : Ev → Ev) (h : (fPlan f).read ((fPlan f).put e) = some g) : (lPlan f).T e ≠ none := by
  obtain ⟨h1, _⟩ := read_plan h
  have h1' : planOk (f.get e).data.toList = true := h1
  show (if planOk (f.get e).data.toList then some (f.get e).data.toList else none) ≠ none
  rw [if_pos h1']
  exact fun h => by cases h
theorem ok_plan (f : PF) : (lPlan f).Ok := by
  refine ⟨fun e t h => ?_, fun e g _ h _ => plan_strong f e g h⟩
  have h' : (if planOk (f.get e).data.toList then some (f.get e).data.toList else none) = some t := h
  split at h'
  · rename_i hc
    cases h'
    refine ⟨rfl, ?_⟩
    show (if planOk (f.get e).data.toList then some (f.set (str (f.get e).data.toList)) else none) = _
    rw [strBack, if_pos hc]
    rfl
  · cases h'
theorem trim_nb : ∀ l : List UInt8, (Lib.trimLeftS l planSet).isEmpty = true → ∀ c ∈ l, c ∈ planSet
  | [], _, c, h => by cases h
  | a :: l, h, c, hc => by
    unfold Lib.trimLeftS at h
    by_cases ha : planSet.contains a = true
    · rw [List.dropWhile_cons_of_pos ha] at h
      rcases List.mem_cons.1 hc with rfl | hc
      · simpa using ha
      · exact trim_nb l h c hc
    · rw [List.dropWhile_cons_of_neg ha] at h
      cases h
theorem tight_plan (f : PF) : (lPlan f).Tight := by
  refine ⟨fun e t h => ?_, plan_strong f⟩
  have h' : (if planOk (f.get e).data.toList then some (f.get e).data.toList else none) = some t := h
  split at h'
  · rename_i hc
    cases h'
    intro hm
    unfold planOk at hc
    simp only [Bool.and_eq_true] at hc
    exact absurd (trim_nb _ hc.2.2 _ hm) (by decide)
  · cases h'
theorem ok_zoom : lZoom.Ok := by
  refine ⟨fun e t h => ?_, fun e g _ h _ => fun k => by cases k⟩
  cases h
  refine ⟨rfl, ?_⟩
  show fZoom.read (if e.zoom then [90] else [45]) = some (fun a => { a with zoom := e.zoom })
  cases e.zoom <;> rfl
theorem ok_colon : lColon.Ok := ⟨fun e t h => by cases h; exact ⟨rfl, rfl⟩, fun e g _ h _ => fun k => by cases k⟩
theorem tight_colon : lColon.Tight := ⟨fun e t h => by cases h; decide, fun e g h => fun k => by cases k⟩
theorem ok_esc (lo hi : Nat) : (lEsc lo hi).Ok := by
  refine ⟨fun e t h => ?_, fun e g a h hga => ?_⟩
  · have h' : (if lo ≤ e.text.size ∧ e.text.size ≤ hi then some (esc e.text.data.toList) else none) = some t := h
    split at h'
    · rename_i hc
      cases h'
      refine ⟨?_, ?_⟩
      · show (if hi < e.text.size then [] else esc e.text.data.toList) = _
        rw [if_neg (by omega)]
      · show (unesc (esc e.text.data.toList)).bind (fun t => if lo ≤ t.length ∧ t.length ≤ hi then some (fun e : Ev => { e with text := str t }) else none) = _
        rw [unesc_some rfl]
        show (if lo ≤ e.text.data.toList.length ∧ e.text.data.toList.length ≤ hi then some (fun a : Ev => { a with text := str e.text.data.toList }) else none) = _
        rw [if_pos (by rw [size_data]; exact hc)]
        rfl
    · cases h'
  · obtain ⟨u, h1, h2, h3, rfl⟩ := read_esc h
    have h4 : str u = e.text := by rw [← hga]
    have h5 : e.text.size = u.length := by rw [← h4, str_size]
    show (if lo ≤ e.text.size ∧ e.text.size ≤ hi then some (esc e.text.data.toList) else none) ≠ none
    rw [if_pos (by omega)]
    exact fun h => by cases h
theorem ok_body : lBody.Ok := ⟨fun e t h => by
    cases h
    refine ⟨rfl, ?_⟩
    show (unescB (escB e.text.data.toList)).map (fun t (a : Ev) => { a with text := str t }) = _
    rw [unescB_some rfl]
    rfl, fun e g _ h _ => fun k => by cases k⟩
theorem ok_reason : lReason.Ok := by
  refine ⟨fun e t h => ?_, fun e g a h hga => ?_⟩
  · have h' : (if e.text.size = 0 then some [] else if e.text.size ≤ 1024 then some (32 :: esc e.text.data.toList) else none) = some t := h
    split at h'
    · rename_i hc
      cases h'
      refine ⟨?_, ?_⟩
      · show (if e.text.size = 0 then [] else _) = _
        rw [if_pos hc]
      · show some id = some (fun a : Ev => if e.text.size = 0 then a else { a with text := e.text })
        rw [Option.some.injEq]
        funext a
        rw [if_pos hc]
        rfl
    · split at h'
      · rename_i h0 hc
        cases h'
        have hp : (fEsc 1 1024).put e = esc e.text.data.toList := by
          show (if 1024 < e.text.size then [] else esc e.text.data.toList) = _
          rw [if_neg (by omega)]
        refine ⟨?_, ?_⟩
        · show (if e.text.size = 0 then [] else 32 :: (fEsc 1 1024).put e) = _
          rw [if_neg h0, hp]
        · show (fEsc 1 1024).read (esc e.text.data.toList) = _
          have hy : (fEsc 1 1024).read (esc e.text.data.toList) = some ((lEsc 1 1024).K e) := ((ok_esc 1 1024).yes e _ (if_pos ⟨by omega, hc⟩)).2
          rw [hy, Option.some.injEq]
          funext a
          show _ = if e.text.size = 0 then a else { a with text := e.text }
          rw [if_neg h0]
          rfl
      · cases h'
  · show (if e.text.size = 0 then some [] else if e.text.size ≤ 1024 then some (32 :: esc e.text.data.toList) else none) ≠ none
    split
    · exact fun h => by cases h
    · rename_i h0
      rcases read_reason h with ⟨h1, rfl⟩ | ⟨r, h1, h2⟩
      · have h1' : (if e.text.size = 0 then [] else 32 :: (fEsc 1 1024).put e) = [] := h1
        rw [if_neg h0] at h1'
        cases h1'
      · obtain ⟨u, _, _, h3, rfl⟩ := read_esc h2
        have h4 : str u = e.text := by rw [← hga]
        have h5 : e.text.size = u.length := by rw [← h4, str_size]
        rw [if_pos (by omega)]
        exact fun h => by cases h

end Go.Proofs.YtplolaondmeccaaGreatDoor

namespace Go.Proofs.YtplolaondmeccaaGreatDoor
open Go.RowKit
set_option linter.unusedVariables false

/-- The letters; c stands for the colon alone. -/
inductive Ch where
  | qt | qn | qf | qo | qi | qs | qw | qp | qN | qW | qP | qV | qz | qd | qv | qm | qx | qc
  deriving DecidableEq
def Ch.byte : Ch → UInt8
  | .qt => 116 | .qn => 110 | .qf => 102 | .qo => 111 | .qi => 105 | .qs => 115 | .qw => 119 | .qp => 112 | .qN => 78 | .qW => 87 | .qP => 80 | .qV => 86
  | .qz => 122 | .qd => 100 | .qv => 118 | .qm => 109 | .qx => 120 | .qc => 0
noncomputable def Ch.T : Ch → Ev → Option (List UInt8)
  | .qt => (lNum maxN .tick).T | .qn => (lNum maxN .number).T | .qf => (lNum 1 .flag).T | .qo => (lNum maxN .offset).T | .qi => (lNum 9999 .index).T
  | .qs => (lId 36 .session).T | .qw => (lId 64 .window).T | .qp => (lId 37 .pane).T | .qN => lName.T | .qW => lWord.T | .qP => (lPlan .layout).T | .qV => (lPlan .visible).T
  | .qz => lZoom.T | .qd => (lEsc 1 256).T | .qv => fun e => ((lEsc 0 1024).T e).map (58 :: 32 :: ·) | .qm | .qx => (lEsc 0 1024).T | .qc => lColon.T
def Ch.K : Ch → Ev → Ev → Ev
  | .qt, e, a => { a with tick := e.tick } | .qn, e, a => { a with number := e.number } | .qf, e, a => { a with flag := e.flag } | .qo, e, a => { a with offset := e.offset }
  | .qi, e, a => { a with index := e.index } | .qs, e, a => { a with session := e.session } | .qw, e, a => { a with window := e.window } | .qp, e, a => { a with pane := e.pane }
  | .qN, e, a | .qW, e, a => { a with name := e.name } | .qP, e, a => { a with layout := e.layout } | .qV, e, a => { a with visible := e.visible } | .qz, e, a => { a with zoom := e.zoom }
  | .qd, e, a | .qv, e, a | .qm, e, a | .qx, e, a => { a with text := e.text } | .qc, _, a => a
noncomputable def Ch.rd : Ch → List UInt8 → Ev → Ev
  | .qt, l, e => { e with tick := (numOf l).getD 0 } | .qn, l, e => { e with number := (numOf l).getD 0 } | .qf, l, e => { e with flag := (numOf l).getD 0 }
  | .qo, l, e => { e with offset := (numOf l).getD 0 } | .qi, l, e => { e with index := (numOf l).getD 0 }
  | .qs, l, e => { e with session := (idOf 36 l).getD 0 } | .qw, l, e => { e with window := (idOf 64 l).getD 0 } | .qp, l, e => { e with pane := (idOf 37 l).getD 0 }
  | .qN, l, e | .qW, l, e => { e with name := str l } | .qP, l, e => { e with layout := str l } | .qV, l, e => { e with visible := str l } | .qz, l, e => { e with zoom := decide (l = [90]) }
  | .qv, l, e => if [58, 32] <+: l then { e with text := str ((unesc (l.drop 2)).getD []) } else e
  | .qd, l, e | .qm, l, e | .qx, l, e => { e with text := str ((unesc l).getD []) } | .qc, _, e => e

def chs : Nat → List Ch
  | 1 | 2 | 3 => [.qt, .qn, .qf] | 5 => [.qp, .qd] | 6 | 7 | 8 => [.qp, .qo] | 9 => [.qp] | 10 | 12 => [.qw, .qN] | 11 => [.qw] | 13 => [.qw, .qP, .qV, .qz] | 14 => [.qw, .qp]
  | 15 | 17 | 21 => [.qs, .qN] | 16 => [.qs] | 18 => [.qs, .qi, .qw] | 19 | 20 => [.qs, .qi] | 22 => [.qW, .qs, .qw, .qi, .qp, .qv] | 23 => [.qm] | 24 => [.qx] | _ => []
/-- The same, the colon being a thing of its own. -/
def chs' : Nat → List Ch
  | 22 => [.qW, .qs, .qw, .qi, .qp, .qc, .qm] | k => chs k
noncomputable def rowL : Nat → List Lt
  | 1 | 2 | 3 => [lNum maxN .tick, lNum maxN .number, lNum 1 .flag] | 4 => [lBody] | 5 => [lId 37 .pane, lEsc 1 256] | 6 | 7 | 8 => [lId 37 .pane, lNum maxN .offset] | 9 => [lId 37 .pane]
  | 10 | 12 => [lId 64 .window, lName] | 11 => [lId 64 .window] | 13 => [lId 64 .window, lPlan .layout, lPlan .visible, lZoom] | 14 => [lId 64 .window, lId 37 .pane]
  | 15 | 17 | 21 => [lId 36 .session, lName] | 16 => [lId 36 .session] | 18 => [lId 36 .session, lNum 9999 .index, lId 64 .window] | 19 | 20 => [lId 36 .session, lNum 9999 .index]
  | 22 => [lWord, lId 36 .session, lId 64 .window, lNum 9999 .index, lId 37 .pane, lColon, lEsc 0 1024] | 23 => [lEsc 0 1024] | 24 => [lReason] | _ => []

def wordOf (k : Nat) : List UInt8 := if k = 24 then headOf 24 else (headOf k).dropLast
/-- The kind of the row at a place of the table. -/
def kAt (i : Nat) : Nat := if i < 3 then i + 1 else i + 2

noncomputable def putsC : List Ch → Ev → Option (List UInt8)
  | [], _ => some []
  | c :: cs, e => match c.T e with
    | none => none
    | some t => (putsC cs e).map (32 :: t ++ ·)
def keepC : List Ch → Ev → Ev → Ev
  | [], _, a => a
  | c :: cs, e, a => keepC cs e (c.K e a)

theorem each_kind (P : Nat → Prop) (k : Nat) (h1 : 1 ≤ k) (h2 : k ≤ 24) (h : ∀ i, i < 24 → P (i + 1)) : P k := by
  have := h (k - 1) (by omega)
  rwa [show k - 1 + 1 = k by omega] at this

theorem mN : maxN ≤ 4611686018427387904 := Int.le_refl _
theorem rowL_ok (k : Nat) (h1 : 1 ≤ k) (h2 : k ≤ 24) : fieldsOf k = (rowL k).map (·.F) ∧ (∀ L ∈ rowL k, L.Ok) ∧ TightRow (rowL k) := by
  rcases (show k = 1 ∨ k = 2 ∨ k = 3 ∨ k = 4 ∨ k = 5 ∨ k = 6 ∨ k = 7 ∨ k = 8 ∨ k = 9 ∨ k = 10 ∨ k = 11 ∨ k = 12 ∨ k = 13 ∨ k = 14 ∨ k = 15 ∨ k = 16 ∨ k = 17 ∨ k = 18 ∨ k = 19 ∨ k = 20 ∨ k = 21 ∨ k = 22 ∨ k = 23 ∨ k = 24 by omega) with rfl | rfl | rfl | rfl | rfl | rfl | rfl | rfl | rfl | rfl | rfl | rfl | rfl | rfl | rfl | rfl | rfl | rfl | rfl | rfl | rfl | rfl | rfl | rfl
  all_goals refine ⟨rfl, ?_, ?_⟩
  all_goals unfold rowL
  all_goals first
    | (intro L hL
       simp only [List.mem_cons, List.not_mem_nil, or_false] at hL
       rcases hL with rfl | rfl | rfl | rfl | rfl | rfl | rfl
       all_goals first | exact ok_num _ mN _ | exact ok_num _ (by decide) _ | exact ok_id _ _ | exact ok_name | exact ok_word | exact ok_plan _ | exact ok_zoom | exact ok_colon | exact ok_esc _ _ | exact ok_body | exact ok_reason)
    | (repeat' first
        | exact TightRow.one _
        | refine TightRow.more _ _ _ (tight_num _ mN _) ?_
        | refine TightRow.more _ _ _ (tight_num _ (by decide) _) ?_
        | refine TightRow.more _ _ _ (tight_id _ (by decide) _) ?_
        | refine TightRow.more _ _ _ tight_word ?_
        | refine TightRow.more _ _ _ (tight_plan _) ?_
        | refine TightRow.more _ _ _ tight_colon ?_)

theorem putA_putsC : ∀ (ls : List Lt) (cs : List Ch) (e : Ev), ls.map (·.T e) = cs.map (·.T e) → ls ≠ [] → (putA ls e).map (32 :: joinW ·) = putsC cs e
  | [], _, _, _, h => absurd rfl h
  | L :: ls, [], _, h, _ => by cases h
  | [L], c :: cs, e, h, _ => by
    rw [List.map_cons, List.map_cons] at h
    obtain ⟨h1, h2⟩ := List.cons.inj h
    have h3 : cs = [] := by cases cs with | nil => rfl | cons _ _ => cases h2
    subst h3
    unfold putA putsC
    rw [show L.T e = c.T e from h1]
    cases c.T e with
    | none => rfl
    | some t =>
      show some (32 :: joinW [t]) = some (32 :: t ++ [])
      rw [joinW_one', List.append_nil]
  | L :: M :: ls, c :: cs, e, h, _ => by
    rw [List.map_cons, List.map_cons] at h
    obtain ⟨h1, h2⟩ := List.cons.inj h
    have ih := putA_putsC (M :: ls) cs e h2 (by simp)
    show Option.map (32 :: joinW ·) (match L.T e with | none => none | some t => (putA (M :: ls) e).map (t :: ·)) = (match c.T e with | none => none | some t => (putsC cs e).map (32 :: t ++ ·))
    rw [show L.T e = c.T e from h1, ← ih]
    cases c.T e with
    | none => rfl
    | some t =>
      cases hp : putA (M :: ls) e with
      | none => rfl
      | some ts =>
        obtain ⟨u, r, _, _, rfl⟩ := putA_cons hp
        show some (32 :: joinW (t :: u :: r)) = some (32 :: t ++ (32 :: joinW (u :: r)))
        rw [joinW_more]
        rfl

theorem putsC_colon (e : Ev) : ∀ cs : List Ch, putsC (cs ++ [.qc, .qm]) e = putsC (cs ++ [.qv]) e
  | [] => by
    show (match Ch.qc.T e with | none => none | some t => (match Ch.qm.T e with | none => none | some t => (some []).map (32 :: t ++ ·)).map (32 :: t ++ ·)) = (match Ch.qv.T e with | none => none | some t => (some []).map (32 :: t ++ ·))
    show (match (lEsc 0 1024).T e with | none => none | some t => (some []).map (32 :: t ++ ·)).map (32 :: [58] ++ ·) = (match ((lEsc 0 1024).T e).map (58 :: 32 :: ·) with | none => none | some t => (some []).map (32 :: t ++ ·))
    cases (lEsc 0 1024).T e <;> rfl
  | c :: cs => by
    show (match c.T e with | none => none | some t => (putsC (cs ++ [Ch.qc, Ch.qm]) e).map (32 :: t ++ ·)) = (match c.T e with | none => none | some t => (putsC (cs ++ [Ch.qv]) e).map (32 :: t ++ ·))
    rw [putsC_colon e cs]

theorem chs_two (k : Nat) (e : Ev) (h2 : k ≤ 24) : putsC (chs' k) e = putsC (chs k) e := by
  by_cases h : k = 22
  · subst h
    exact putsC_colon e [.qW, .qs, .qw, .qi, .qp]
  · have : chs' k = chs k := by unfold chs'; split <;> first | rfl | exact absurd rfl h
    rw [this]

theorem rowL_T (k : Nat) (h1 : 1 ≤ k) (h2 : k ≤ 23) (h4 : k ≠ 4) (e : Ev) : (rowL k).map (·.T e) = (chs' k).map (·.T e) ∧ rowL k ≠ [] ∧ headOf k = wordOf k ++ [32] ∧ keepAll (rowL k) e (Ev.zero k) = keepC (chs k) e (Ev.zero k) := by
  rcases (show k = 1 ∨ k = 2 ∨ k = 3 ∨ k = 5 ∨ k = 6 ∨ k = 7 ∨ k = 8 ∨ k = 9 ∨ k = 10 ∨ k = 11 ∨ k = 12 ∨ k = 13 ∨ k = 14 ∨ k = 15 ∨ k = 16 ∨ k = 17 ∨ k = 18 ∨ k = 19 ∨ k = 20 ∨ k = 21 ∨ k = 22 ∨ k = 23 by omega) with rfl | rfl | rfl | rfl | rfl | rfl | rfl | rfl | rfl | rfl | rfl | rfl | rfl | rfl | rfl | rfl | rfl | rfl | rfl | rfl | rfl | rfl
  all_goals exact ⟨rfl, (fun h => by cases h), rfl, rfl⟩

/-- The line by the document's row. -/
noncomputable def rowS (k : Nat) (e : Ev) : Option (List UInt8) :=
  if k = 24 ∧ e.text.size = 0 then some (wordOf 24) else (putsC (chs k) e).map (wordOf k ++ ·)

theorem empty_text {s : ByteArray} (h : s.size = 0) : s = ⟨#[]⟩ := by
  have : s.data.toList = [] := List.eq_nil_of_length_eq_zero (by rw [size_data]; exact h)
  rw [← strBack s, this]
  rfl

theorem enc_row (k : Nat) (h1 : 1 ≤ k) (h2 : k ≤ 24) (h4 : k ≠ 4) (e : Ev) (hk : e.kind = k) :
    (keepC (chs k) e (Ev.zero k) = e → encS e = rowS k e) ∧ (keepC (chs k) e (Ev.zero k) ≠ e → encS e = none) := by
  obtain ⟨r1, r2, r3⟩ := rowL_ok k h1 h2
  obtain ⟨a1, a2⟩ := encS_by k h1 h2 (rowL k) r1 r2 r3 e hk
  by_cases h24 : k = 24
  · subst h24
    have hke : keepAll (rowL 24) e (Ev.zero (24 : Nat)) = keepC (chs 24) e (Ev.zero (24 : Nat)) := by
      show (if e.text.size = 0 then Ev.zero (24 : Nat) else { Ev.zero (24 : Nat) with text := e.text }) = { Ev.zero (24 : Nat) with text := e.text }
      split
      · rename_i h0
        rw [empty_text h0]
        rfl
      · rfl
    rw [hke] at a1 a2
    refine ⟨fun h => ?_, a2⟩
    rw [a1 h]
    unfold rowS
    by_cases h0 : e.text.size = 0
    · rw [if_pos ⟨rfl, h0⟩]
      have : putA (rowL 24) e = some [[]] := by
        show (match lReason.T e with | none => none | some t => some [t]) = _
        have : lReason.T e = some [] := if_pos h0
        rw [this]
      rw [this]
      rfl
    · rw [if_neg (fun h => h0 h.2)]
      have hT : lReason.T e = if e.text.size ≤ 1024 then some (32 :: esc e.text.data.toList) else none := if_neg h0
      have hM : (lEsc 0 1024).T e = if e.text.size ≤ 1024 then some (esc e.text.data.toList) else none := by
        show (if 0 ≤ e.text.size ∧ e.text.size ≤ 1024 then _ else _) = _
        by_cases hc : e.text.size ≤ 1024
        · rw [if_pos ⟨Nat.zero_le _, hc⟩, if_pos hc]
        · rw [if_neg (fun h => hc h.2), if_neg hc]
      show Option.map (headOf 24 ++ joinW ·) (match lReason.T e with | none => none | some t => some [t]) = Option.map (headOf 24 ++ ·) (match (lEsc 0 1024).T e with | none => none | some t => some (32 :: t ++ []))
      rw [hT, hM]
      split
      · rename_i heq
        split at heq
        · cases heq
        · rename_i hc
          rw [if_neg hc]
          rfl
      · rename_i t heq
        split at heq
        · rename_i hc
          cases heq
          rw [if_pos hc]
          show some (headOf 24 ++ joinW [32 :: esc e.text.data.toList]) = some (headOf 24 ++ (32 :: esc e.text.data.toList ++ []))
          rw [joinW_one', List.append_nil]
        · cases heq
  · obtain ⟨b1, b2, b3, b4⟩ := rowL_T k h1 (by omega) h4 e
    rw [b4] at a1 a2
    refine ⟨fun h => ?_, a2⟩
    rw [a1 h]
    unfold rowS
    rw [if_neg (fun h => h24 h.1), ← chs_two k e h2, ← putA_putsC (rowL k) (chs' k) e b1 b2, b3]
    cases putA (rowL k) e with
    | none => rfl
    | some ts =>
      show some (wordOf k ++ [32] ++ joinW ts) = some (wordOf k ++ (32 :: joinW ts))
      simp

/-- An answer's line. -/
theorem enc_body (e : Ev) (hk : e.kind = 4) : ({ Ev.zero 4 with text := e.text } = e → encS e = some (escB e.text.data.toList)) ∧ ({ Ev.zero 4 with text := e.text } ≠ e → encS e = none) := by
  obtain ⟨r1, r2, r3⟩ := rowL_ok 4 (by decide) (by decide)
  obtain ⟨a1, a2⟩ := encS_by 4 (by decide) (by decide) (rowL 4) r1 r2 r3 e hk
  refine ⟨fun h => ?_, fun h => a2 h⟩
  rw [a1 h]
  show some (headOf 4 ++ joinW [escB e.text.data.toList]) = _
  rw [joinW_one']
  rfl

end Go.Proofs.YtplolaondmeccaaGreatDoor

namespace Go.Proofs.YtplolaondmeccaaGreatDoor
open Go.RowKit
set_option linter.unusedVariables false

/-- The field of a letter. -/
noncomputable def Ch.F : Ch → FSpec
  | .qt => fNum maxN .tick | .qn => fNum maxN .number | .qf => fNum 1 .flag | .qo => fNum maxN .offset | .qi => fNum 9999 .index
  | .qs => fId 36 .session | .qw => fId 64 .window | .qp => fId 37 .pane | .qN => fName | .qW => fWord | .qP => fPlan .layout | .qV => fPlan .visible
  | .qz => fZoom | .qd => fEsc 1 256 | .qv => fEsc 0 1024 | .qm => fEsc 0 1024 | .qx => fEsc 1 1024 | .qc => fColon
/-- What a text must be to begin a thing of that letter. -/
noncomputable def Ch.beg (c : Ch) (l : List UInt8) : Bool := match c with
  | .qv => begRow [fColon, fEsc 0 1024] l
  | c => begF c.F l

theorem begF_long {F : FSpec} {l : List UInt8} (h : begF F l = true) : ∃ t, (F.read t).isSome = true ∧ l <+: t := by
  unfold begF at h
  rw [Bool.or_eq_true] at h
  rcases h with h | h
  · exact ⟨l, h, List.prefix_refl _⟩
  · obtain ⟨e, _, h⟩ := List.any_eq_true.1 h
    exact ⟨l ++ e, h, List.prefix_append _ _⟩

theorem begF_iff {F : FSpec} {l : List UInt8} {P : Bool} (h1 : ∀ t, (F.read t).isSome = true → l <+: t → P = true) (h2 : P = true → begF F l = true) : begF F l = P := by
  cases hP : P
  · cases hb : begF F l
    · rfl
    · obtain ⟨t, ht, hl⟩ := begF_long hb
      have := h1 t ht hl
      rw [hP] at this
      cases this
  · exact h2 hP

theorem beg_num (m : Int) (f : NF) {l : List UInt8} (h0 : l ≠ []) : begF (fNum m f) l = ((fNum m f).read l).isSome := by
  refine begF_iff (fun t ht hl => ?_) begF_self
  obtain ⟨g, hg⟩ := some_of ht
  obtain ⟨n, hn, hnm, _⟩ := read_num hg
  rcases num_prefix hn hl with rfl | ⟨v, hv, hvn, _⟩
  · exact absurd rfl h0
  · exact num_yes hv (by omega)
theorem beg_id (c : UInt8) (f : NF) (h1 : [49] ∈ Lib.fields [c, 49, 32, 49]) {l : List UInt8} (h0 : l ≠ []) : begF (fId c f) l = (decide (l = [c]) || ((fId c f).read l).isSome) := by
  refine begF_iff (fun t ht hl => ?_) (fun h => ?_)
  · obtain ⟨g, hg⟩ := some_of ht
    obtain ⟨n, ⟨r, rfl, hr, hn⟩, _⟩ := read_id hg
    rcases List.prefix_cons_iff.1 hl with rfl | ⟨q', rfl, hq'⟩
    · exact absurd rfl h0
    · rcases num_prefix hr hq' with rfl | ⟨v, hv, _, hv1⟩
      · simp
      · rw [id_yes (n := v) ⟨q', rfl, hv, hv1 hn⟩, Bool.or_true]
  · rw [Bool.or_eq_true, decide_eq_true_eq] at h
    rcases h with rfl | h
    · exact begF_end (e := [49]) h1 (id_yes (n := 1) ⟨[49], rfl, num_49, by decide⟩)
    · exact begF_self h
theorem beg_word {l : List UInt8} (h0 : l ≠ []) : begF fWord l = (fWord.read l).isSome := by
  refine begF_iff (fun t ht hl => ?_) begF_self
  obtain ⟨g, hg⟩ := some_of ht
  obtain ⟨hn, _⟩ := read_word hg
  rw [Bool.and_eq_true, Bool.not_eq_true'] at hn
  obtain ⟨hn, hb⟩ := hn
  have hb' : (32 : UInt8) ∉ t := by
    intro hm
    unfold has at hb
    rw [str_data, List.any_eq_false] at hb
    exact hb 32 hm (by decide)
  obtain ⟨r, rfl⟩ := hl
  obtain ⟨k1, k2, k3, ⟨c, k4, k5⟩, d, k6, k7⟩ := (nameB_iff _).1 hn
  cases l with
  | nil => exact absurd rfl h0
  | cons a q =>
    have hb2 : (32 : UInt8) ∉ a :: q := fun hm => hb' (List.mem_append_left _ hm)
    refine word_yes ((nameB_iff _).2 ⟨by simp, ?_, ?_, ⟨a, rfl, by cases k4; exact k5⟩, (a :: q).getLast (by simp), List.getLast?_eq_some_getLast _, ?_⟩) hb2
    · rw [List.length_append] at k2; omega
    · rw [List.all_append, Bool.and_eq_true] at k3; exact k3.1
    · intro e
      refine hb2 ?_
      have : (a :: q).getLast (by simp) = 32 := UInt8.toNat_inj.1 e
      rw [← this]
      exact List.getLast_mem _
theorem beg_plan (f : PF) {l : List UInt8} (h0 : l ≠ []) : begF (fPlan f) l = ((fPlan f).read l).isSome := by
  refine begF_iff (fun t ht hl => ?_) begF_self
  obtain ⟨g, hg⟩ := some_of ht
  obtain ⟨hn, _⟩ := read_plan hg
  obtain ⟨k1, k2, k3⟩ := (planOk_iff _).1 hn
  exact plan_yes ((planOk_iff _).2 ⟨h0, Nat.le_trans hl.length_le k2, fun b hb => k3 b (hl.subset hb)⟩)
theorem name_more (l : List UInt8) (a b : UInt8) (ha : nb a = true ∧ has bars a = false ∧ a.toNat ≠ 32) (hb : nb b = true ∧ has bars b = false ∧ b.toNat ≠ 32) (h : nameB (str (l ++ [a])) = true) : nameB (str (l ++ [b])) = true := by
  obtain ⟨k1, k2, k3, ⟨c, k4, k5⟩, d, k6, k7⟩ := (nameB_iff _).1 h
  refine (nameB_iff _).2 ⟨by simp, by simpa using k2, ?_, ?_, b, by simp, hb.2.2⟩
  · rw [List.all_append, Bool.and_eq_true] at k3 ⊢
    exact ⟨k3.1, by simp [hb.1]⟩
  · cases l with
    | nil => exact ⟨b, rfl, hb.2.1⟩
    | cons x r => exact ⟨x, rfl, by cases k4; exact k5⟩
theorem beg_name (l : List UInt8) : begF fName l = (nameB (str l) || nameB (str (l ++ [120]))) := by
  have e1 : ∀ t, (fName.read t).isSome = nameB (str t) := fun t => by
    cases h : nameB (str t)
    · simp [fName, h]
    · exact name_yes h
  unfold begF
  rw [show endsL fName = [[97]] by show Lib.fields [97] = _; decide]
  simp only [List.any_cons, List.any_nil, Bool.or_false, e1]
  congr 1
  rw [Bool.eq_iff_iff]
  exact ⟨name_more l 97 120 (by decide) (by decide), name_more l 120 97 (by decide) (by decide)⟩
theorem beg_zoom {l : List UInt8} (h0 : l ≠ []) : begF fZoom l = (decide (l = [90]) || decide (l = [45])) := by
  refine begF_iff (fun t ht hl => ?_) (fun h => ?_)
  · obtain ⟨g, hg⟩ := some_of ht
    obtain ⟨z, rfl, _⟩ := read_zoom hg
    cases z
    · rcases one_prefix hl with rfl | rfl
      · exact absurd rfl h0
      · rfl
    · rcases one_prefix hl with rfl | rfl
      · exact absurd rfl h0
      · rfl
  · rw [Bool.or_eq_true, decide_eq_true_eq, decide_eq_true_eq] at h
    rcases h with rfl | rfl <;> exact begF_self rfl
theorem beg_colon {l : List UInt8} (h0 : l ≠ []) : begF fColon l = decide (l = [58]) := by
  refine begF_iff (fun t ht hl => ?_) (fun h => ?_)
  · obtain ⟨g, hg⟩ := some_of ht
    obtain ⟨rfl, _⟩ := read_colon hg
    rcases one_prefix hl with rfl | rfl
    · exact absurd rfl h0
    · rfl
  · rw [decide_eq_true_eq] at h
    rw [h]
    exact begF_self rfl

/-- The ends that the document tries. -/
def ends14 : List (List UInt8) := [[], [48], [48, 48], [48, 48, 48], [49], [49, 48], [51, 48], [51, 52], [48, 51, 52], [49, 51, 52], [52], [53], [52, 53], [48, 52, 53]]
theorem esc_hit {lo hi : Nat} (h1 : lo ≤ 1) (h2 : 1 ≤ hi) {l e u : List UInt8} (h0 : l ≠ []) (he : esc u = l ++ e) (hu : u.length ≤ hi) : begF (fEsc lo hi) l = true := by
  have hne : u ≠ [] := by
    intro h
    subst h
    have : l = [] := (List.append_eq_nil_iff.1 he.symm).1
    exact h0 this
  have hlen : lo ≤ u.length := by have := List.length_pos_iff.2 hne; omega
  exact cuts_esc lo hi h1 h2 (l ++ e) l (he ▸ esc_yes hlen hu) (List.prefix_append _ _)
theorem esc_miss {lo hi : Nat} {l : List UInt8} (h : ∀ e ∈ ends14, ∀ u, esc u = l ++ e → ¬ u.length ≤ hi) : begF (fEsc lo hi) l = false := by
  cases hb : begF (fEsc lo hi) l
  · rfl
  · have key : ∀ e ∈ ends14, ((fEsc lo hi).read (l ++ e)).isSome = true → False := fun e he hr => by
      obtain ⟨g, hg⟩ := some_of hr
      obtain ⟨u, hu, _, hu2, _⟩ := read_esc hg
      exact h e he u hu hu2
    unfold begF at hb
    rw [Bool.or_eq_true, ends_esc] at hb
    rcases hb with hb | hb
    · exact (key [] (by decide) (by rw [List.append_nil]; exact hb)).elim
    · obtain ⟨e, he, hr⟩ := List.any_eq_true.1 hb
      refine (key e ?_ hr).elim
      simp only [List.mem_cons, List.not_mem_nil, or_false] at he
      rcases he with rfl | rfl | rfl <;> decide
theorem body_hit {l e u : List UInt8} (he : escB u = l ++ e) : begF fBody l = true :=
  cuts_body (l ++ e) l (he ▸ body_yes u) (List.prefix_append _ _)
theorem body_miss {l : List UInt8} (h : ∀ e ∈ ends14, ∀ u, escB u ≠ l ++ e) : begF fBody l = false := by
  cases hb : begF fBody l
  · rfl
  · have key : ∀ e ∈ ends14, (fBody.read (l ++ e)).isSome = true → False := fun e he hr => by
      obtain ⟨g, hg⟩ := some_of hr
      obtain ⟨u, hu, _⟩ := read_body hg
      exact h e he u hu
    unfold begF at hb
    rw [Bool.or_eq_true, ends_body] at hb
    rcases hb with hb | hb
    · exact (key [] (by decide) (by rw [List.append_nil]; exact hb)).elim
    · obtain ⟨e, he, hr⟩ := List.any_eq_true.1 hb
      refine (key e ?_ hr).elim
      simp only [List.mem_cons, List.not_mem_nil, or_false] at he
      rcases he with rfl | rfl | rfl | rfl <;> decide

/-- A colon and a value. -/
theorem beg_value {l : List UInt8} (h0 : l ≠ []) : begRow [fColon, fEsc 0 1024] l = (decide (l = [58]) || (decide ([58, 32] <+: l) && (decide (l = [58, 32]) || begF (fEsc 0 1024) (l.drop 2)))) := by
  unfold begRow
  by_cases hl : (32 : UInt8) ∈ l
  · rw [if_pos hl]
    have el := take_bar hl
    have hn := take_none l
    obtain ⟨a, ha⟩ : ∃ a, l.takeWhile (· != 32) = a := ⟨_, rfl⟩
    obtain ⟨r, hr⟩ : ∃ r, (l.dropWhile (· != 32)).drop 1 = r := ⟨_, rfl⟩
    rw [ha] at hn
    rw [ha, hr] at el
    rw [ha, hr]
    clear ha hr
    subst el
    have e1 : decide (a ++ 32 :: r = [58]) = false := by
      rw [decide_eq_false_iff_not]
      intro h
      have h2 := congrArg List.length h
      cases a with
      | nil => cases h
      | cons b a => simp at h2
    rw [e1, Bool.false_or]
    by_cases ha : a = [58]
    · subst ha
      have e2 : decide ([58, 32] <+: [58] ++ 32 :: r) = true := by simp
      rw [e2, Bool.true_and]
      show (true && begRow [fEsc 0 1024] r) = _
      rw [Bool.true_and]
      have e3 : ([58] ++ 32 :: r).drop 2 = r := rfl
      rw [e3]
      by_cases hr : r = []
      · subst hr
        have : begF (fEsc 0 1024) [] = true := begF_self (esc_yes (u := []) (by decide) (by decide))
        show begF (fEsc 0 1024) [] = _
        rw [this, Bool.or_true]
      · have e4 : decide ([58] ++ 32 :: r = [58, 32]) = false := by
          rw [decide_eq_false_iff_not]
          intro h
          simp at h
          exact hr h
        rw [e4, Bool.false_or]
        rfl
    · have e2 : (fColon.read a).isSome = false := by simp [fColon, ha]
      have e3 : decide ([58, 32] <+: a ++ 32 :: r) = false := by
        rw [decide_eq_false_iff_not]
        rintro ⟨x, hx⟩
        cases a with
        | nil => cases hx
        | cons b a =>
          have hb : (58 : UInt8) = b := (List.cons.inj hx).1
          have h2 := (List.cons.inj hx).2
          cases a with
          | nil => exact ha (by rw [← hb])
          | cons c a =>
            have hc : (32 : UInt8) = c := (List.cons.inj h2).1
            exact hn (by simp [← hc])
      rw [e2, e3]
      rfl
  · rw [if_neg hl, beg_colon h0]
    have e3 : decide ([58, 32] <+: l) = false := by
      rw [decide_eq_false_iff_not]
      exact fun h => hl (h.subset (by decide))
    rw [e3, Bool.false_and, Bool.or_false]

end Go.Proofs.YtplolaondmeccaaGreatDoor

namespace Go.Proofs.YtplolaondmeccaaGreatDoor
open Go.RowKit
set_option linter.unusedVariables false

/-- Things one behind the other, the last one begun. -/
noncomputable def begC : List Ch → List UInt8 → Bool
  | [], _ => false
  | [c], l => c.beg l
  | c :: d :: cs, l => if 32 ∈ l then (c.F.read (l.takeWhile (· != 32))).isSome && begC (d :: cs) ((l.dropWhile (· != 32)).drop 1) else c.beg l
noncomputable def Ch.Fs : Ch → List FSpec
  | .qv => [fColon, fEsc 0 1024]
  | c => [c.F]
theorem Ch.Fs_one {c : Ch} (h : c ≠ .qv) : c.Fs = [c.F] := by cases c <;> first | rfl | exact absurd rfl h
theorem Ch.beg_one {c : Ch} (h : c ≠ .qv) (l : List UInt8) : c.beg l = begF c.F l := by cases c <;> first | rfl | exact absurd rfl h
theorem Ch.beg_Fs (c : Ch) (l : List UInt8) : c.beg l = begRow c.Fs l := by cases c <;> rfl
theorem Ch.Fs_cons (c : Ch) : ∃ G fs, c.Fs = G :: fs := by cases c <;> exact ⟨_, _, rfl⟩
theorem begC_row : ∀ (cs : List Ch) (l : List UInt8), cs ≠ [] → (∀ c ∈ cs.dropLast, c ≠ .qv) → begC cs l = begRow (cs.flatMap Ch.Fs) l
  | [], _, h, _ => absurd rfl h
  | [c], l, _, _ => by
    show c.beg l = begRow (c.Fs ++ []) l
    rw [List.append_nil, Ch.beg_Fs]
  | c :: d :: cs, l, _, h => by
    have hc : c ≠ .qv := h c (by simp)
    obtain ⟨G, fs, hG⟩ : ∃ G fs, (d :: cs).flatMap Ch.Fs = G :: fs := by
      obtain ⟨G, fs, e⟩ := d.Fs_cons
      exact ⟨G, fs ++ cs.flatMap Ch.Fs, by rw [List.flatMap_cons, e, List.cons_append]⟩
    have ih := begC_row (d :: cs) ((l.dropWhile (· != 32)).drop 1) (by simp) (fun c' hc' => h c' (by rw [List.dropLast_cons_of_ne_nil (by simp)]; exact List.mem_cons_of_mem _ hc'))
    rw [hG] at ih
    rw [List.flatMap_cons, Ch.Fs_one hc, hG]
    show (if 32 ∈ l then (c.F.read (l.takeWhile (· != 32))).isSome && begC (d :: cs) ((l.dropWhile (· != 32)).drop 1) else c.beg l) = (if 32 ∈ l then (c.F.read (l.takeWhile (· != 32))).isSome && begRow (G :: fs) ((l.dropWhile (· != 32)).drop 1) else begF c.F l)
    rw [ih, Ch.beg_one hc]

theorem chs_row : ∀ i, i < 24 → i + 1 ≠ 4 → i + 1 ≠ 24 → (chs (i + 1)).flatMap Ch.Fs = fieldsOf (i + 1) ∧ chs (i + 1) ≠ [] ∧ ∀ c ∈ (chs (i + 1)).dropLast, c ≠ .qv := by
  intro i h1 h2 h3
  rcases (show i = 0 ∨ i = 1 ∨ i = 2 ∨ i = 4 ∨ i = 5 ∨ i = 6 ∨ i = 7 ∨ i = 8 ∨ i = 9 ∨ i = 10 ∨ i = 11 ∨ i = 12 ∨ i = 13 ∨ i = 14 ∨ i = 15 ∨ i = 16 ∨ i = 17 ∨ i = 18 ∨ i = 19 ∨ i = 20 ∨ i = 21 ∨ i = 22 by omega) with rfl | rfl | rfl | rfl | rfl | rfl | rfl | rfl | rfl | rfl | rfl | rfl | rfl | rfl | rfl | rfl | rfl | rfl | rfl | rfl | rfl | rfl <;> exact ⟨rfl, by decide, by decide⟩

/-- What stands behind a row's word and a blank. -/
noncomputable def begTail (k : Nat) (l : List UInt8) : Bool := begC (chs k) l
theorem begTail_row {k : Nat} (h1 : 1 ≤ k) (h2 : k ≤ 24) (h4 : k ≠ 4) (h24 : k ≠ 24) (l : List UInt8) : begTail k l = begRow (fieldsOf k) l := by
  obtain ⟨i, rfl⟩ : ∃ i, k = i + 1 := ⟨k - 1, by omega⟩
  obtain ⟨e1, e2, e3⟩ := chs_row i (by omega) h4 h24
  unfold begTail
  rw [begC_row _ _ e2 e3, e1]

theorem heads_word : ∀ k, k < 25 → 1 ≤ k → k ≠ 4 → k ≠ 24 → headOf k = wordOf k ++ [32] := by decide

theorem prefix_len {a b : List UInt8} (h : a.length ≤ b.length) : a <+: b ↔ a = b.take a.length := by
  constructor
  · exact fun h => List.prefix_iff_eq_take.1 h
  · exact fun h => List.prefix_iff_eq_take.2 h

theorem begS_row (k : Nat) (h1 : 1 ≤ k) (h2 : k ≤ 24) (h4 : k ≠ 4) (l : List UInt8) :
    begS k l = if l.length ≤ (wordOf k).length then decide (l = (wordOf k).take l.length) else (decide (wordOf k ++ [32] <+: l) && begTail k (l.drop ((wordOf k).length + 1))) := by
  by_cases h24 : k = 24
  · subst h24
    have hw : wordOf 24 = headOf 24 := rfl
    rw [hw]
    unfold begS
    by_cases hl : l.length ≤ (headOf 24).length
    · rw [if_pos hl]
      by_cases hp : headOf 24 <+: l
      · have e : headOf 24 = l := hp.eq_of_length (by have := hp.length_le; omega)
        rw [if_pos hp, ← e, List.drop_length, List.take_length]
        exact begF_self (F := fReason) (t := []) rfl
      · rw [if_neg hp]
        congr 1
        exact propext (prefix_len hl)
    · rw [if_neg hl]
      by_cases hp : headOf 24 <+: l
      · rw [if_pos hp]
        obtain ⟨r, rfl⟩ := hp
        rw [List.drop_left]
        cases r with
        | nil => simp at hl
        | cons c r =>
          by_cases hc : c = 32
          · subst hc
            have e1 : decide (headOf 24 ++ [32] <+: headOf 24 ++ 32 :: r) = true := decide_eq_true ⟨r, by simp⟩
            have e2 : (headOf 24 ++ 32 :: r).drop ((headOf 24).length + 1) = r := by rw [← List.drop_drop, List.drop_left]; rfl
            rw [e1, e2, Bool.true_and]
            rfl
          · have e1 : decide (headOf 24 ++ [32] <+: headOf 24 ++ c :: r) = false := by
              rw [decide_eq_false_iff_not]
              intro h
              have := (List.prefix_append_right_inj (headOf 24)).1 h
              exact hc ((List.cons_prefix_cons.1 this).1).symm
            rw [e1, Bool.false_and]
            show begF fReason (c :: r) = false
            cases hb : begF fReason (c :: r)
            · rfl
            · obtain ⟨t, ht, hlt⟩ := begF_long hb
              obtain ⟨g, hg⟩ := some_of ht
              rcases read_reason hg with ⟨rfl, _⟩ | ⟨r', rfl, _⟩
              · exact absurd (List.prefix_nil.1 hlt) (by simp)
              · exact absurd (List.cons_prefix_cons.1 hlt).1 hc
      · rw [if_neg hp]
        have e1 : decide (headOf 24 ++ [32] <+: l) = false := by
          rw [decide_eq_false_iff_not]
          exact fun h => hp ((List.prefix_append _ _).trans h)
        rw [e1, Bool.false_and, decide_eq_false_iff_not]
        exact fun h => hl h.length_le
  · have hh := heads_word k (by omega) h1 h4 h24
    rw [begTail_row h1 h2 h4 h24]
    unfold begS
    rw [hh]
    obtain ⟨wd, hwd⟩ : ∃ x, wordOf k = x := ⟨_, rfl⟩
    rw [hwd]
    by_cases hl : l.length ≤ wd.length
    · rw [if_pos hl, if_neg (fun h => by have := h.length_le; simp at this; omega)]
      congr 1
      refine propext ((prefix_len (by simp; omega)).trans ?_)
      rw [List.take_append_of_le_length hl]
    · rw [if_neg hl]
      by_cases hp : wd ++ [32] <+: l
      · rw [if_pos hp, decide_eq_true hp, Bool.true_and, List.length_append]
        rfl
      · rw [if_neg hp, decide_eq_false hp, Bool.false_and, decide_eq_false_iff_not]
        intro h
        exact hp (by rw [h.eq_of_length (by have := h.length_le; simp at this; simp; omega)]; exact List.prefix_refl _)

/-! What may come. -/
theorem head_sign (k : Nat) (h1 : 1 ≤ k) (h2 : k ≤ 24) (h4 : k ≠ 4) : ∃ r, headOf k = 37 :: r := by
  have := (heads_sign k (by omega)).resolve_left (by rw [heads_some k h1 h2 h4]; decide)
  obtain ⟨r, hr⟩ := List.isPrefixOf_iff_prefix.1 this
  exact ⟨r, hr.symm⟩
theorem begS_sign {k : Nat} (h1 : 1 ≤ k) (h2 : k ≤ 24) (h4 : k ≠ 4) {c : UInt8} {l : List UInt8} (h : begS k (c :: l) = true) : c = 37 := by
  obtain ⟨r, hr⟩ := head_sign k h1 h2 h4
  unfold begS at h
  rw [hr] at h
  split at h
  · rename_i hp
    exact ((List.cons_prefix_cons.1 hp).1).symm
  · rw [decide_eq_true_eq] at h
    exact (List.cons_prefix_cons.1 h).1
theorem body_sign {c : UInt8} {l : List UInt8} (h : begF fBody (c :: l) = true) : c ≠ 37 := by
  obtain ⟨t, ht, hl⟩ := begF_long h
  obtain ⟨g, hg⟩ := some_of ht
  obtain ⟨u, rfl, _⟩ := read_body hg
  rintro rfl
  obtain ⟨r, hr⟩ := hl
  exact escB_ne37 u _ hr.symm
theorem begS_body (l : List UInt8) : begS 4 l = begF fBody l := by
  unfold begS
  rw [if_pos (show headOf 4 <+: l from List.nil_prefix)]
  rfl

/-- A line that is begun, as the document has it. -/
noncomputable def refBeg (block : Bool) (c : UInt8) (l : List UInt8) : Bool :=
  if c = 37 then (List.range 23).any fun i => ((decide (kAt i = 2) || decide (kAt i = 3)) == block) && begS (kAt i) (c :: l) else block && begF fBody (c :: l)

theorem kAt_facts : ∀ i, i < 23 → 1 ≤ kAt i ∧ kAt i ≤ 24 ∧ kAt i ≠ 4 := by decide
theorem kAt_all : ∀ k, k < 25 → 1 ≤ k → k ≠ 4 → ∃ i, i < 23 ∧ kAt i = k := by
  intro k h1 h2 h3
  by_cases h : k < 4
  · exact ⟨k - 1, by omega, by unfold kAt; rw [if_pos (by omega)]; omega⟩
  · exact ⟨k - 2, by omega, by unfold kAt; rw [if_neg (by omega)]; omega⟩
theorem after0 : ∀ k : Nat, k < 25 → (afterK 0 (classK k) ≠ 3 ↔ 1 ≤ k ∧ k ≠ 4 ∧ ¬ (k = 2 ∨ k = 3)) := by decide
theorem after1 : ∀ k : Nat, k < 25 → (afterK 1 (classK k) ≠ 3 ↔ k = 4 ∨ k = 2 ∨ k = 3) := by decide
theorem after2 : ∀ k : Nat, k < 25 → afterK 2 (classK k) = 3 := by decide

theorem mayS_cons (p : Int) (c : UInt8) (l : List UInt8) : mayS p (c :: l) = true ↔ ∃ k : Nat, k < 25 ∧ afterK p (classK k) ≠ 3 ∧ begS k (c :: l) = true := by
  unfold mayS
  rw [List.isEmpty_cons, Bool.false_or, List.any_eq_true]
  constructor
  · rintro ⟨k, hk, h⟩
    unfold mayK at h
    rw [Bool.and_eq_true, decide_eq_true_eq] at h
    exact ⟨k, by simpa using hk, h.1, h.2⟩
  · rintro ⟨k, hk, h1, h2⟩
    refine ⟨k, by simpa using hk, ?_⟩
    unfold mayK
    rw [Bool.and_eq_true, decide_eq_true_eq]
    exact ⟨h1, h2⟩

theorem may_out (c : UInt8) (l : List UInt8) : mayS 0 (c :: l) = refBeg false c l := by
  rw [Bool.eq_iff_iff, mayS_cons]
  unfold refBeg
  constructor
  · rintro ⟨k, hk, h1, h2⟩
    obtain ⟨a1, a2, a3⟩ := (after0 k hk).1 h1
    have hc := begS_sign a1 (by omega) a2 h2
    rw [if_pos hc]
    obtain ⟨i, hi, rfl⟩ := kAt_all k hk a1 a2
    refine List.any_eq_true.2 ⟨i, by simpa using hi, ?_⟩
    rw [Bool.and_eq_true]
    refine ⟨?_, h2⟩
    rw [not_or] at a3
    rw [decide_eq_false a3.1, decide_eq_false a3.2]
    rfl
  · intro h
    split at h
    · obtain ⟨i, hi, h⟩ := List.any_eq_true.1 h
      have hi' : i < 23 := by simpa using hi
      rw [Bool.and_eq_true] at h
      obtain ⟨b1, b2, b3⟩ := kAt_facts i hi'
      refine ⟨kAt i, by omega, (after0 _ (by omega)).2 ⟨b1, b3, ?_⟩, h.2⟩
      intro hk
      have h1 := h.1
      rcases hk with hk | hk <;> rw [hk] at h1 <;> revert h1 <;> decide
    · cases h
theorem may_in (c : UInt8) (l : List UInt8) : mayS 1 (c :: l) = refBeg true c l := by
  rw [Bool.eq_iff_iff, mayS_cons]
  unfold refBeg
  constructor
  · rintro ⟨k, hk, h1, h2⟩
    rcases (after1 k hk).1 h1 with rfl | h3
    · rw [begS_body] at h2
      rw [if_neg (body_sign h2), h2]
      rfl
    · have a1 : 1 ≤ k ∧ k ≠ 4 := by omega
      have hc := begS_sign a1.1 (by omega) a1.2 h2
      rw [if_pos hc]
      obtain ⟨i, hi, rfl⟩ := kAt_all k hk a1.1 a1.2
      refine List.any_eq_true.2 ⟨i, by simpa using hi, ?_⟩
      rw [Bool.and_eq_true]
      refine ⟨?_, h2⟩
      rcases h3 with h3 | h3 <;> rw [h3] <;> rfl
  · intro h
    split at h
    · obtain ⟨i, hi, h⟩ := List.any_eq_true.1 h
      have hi' : i < 23 := by simpa using hi
      rw [Bool.and_eq_true] at h
      obtain ⟨b1, b2, b3⟩ := kAt_facts i hi'
      refine ⟨kAt i, by omega, (after1 _ (by omega)).2 (.inr ?_), h.2⟩
      have h1 := h.1
      simpa using h1
    · rw [Bool.true_and] at h
      exact ⟨4, by decide, (after1 4 (by decide)).2 (.inl rfl), by rw [begS_body]; exact h⟩
theorem may_over (c : UInt8) (l : List UInt8) : mayS 2 (c :: l) = false := by
  cases h : mayS 2 (c :: l)
  · rfl
  · obtain ⟨k, hk, h1, _⟩ := (mayS_cons 2 c l).1 h
    exact absurd (after2 k hk) h1

end Go.Proofs.YtplolaondmeccaaGreatDoor
