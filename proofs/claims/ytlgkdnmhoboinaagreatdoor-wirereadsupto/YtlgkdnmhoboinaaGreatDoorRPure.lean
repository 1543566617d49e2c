/-
  The document's way of writing an event, by plain functions: letters; nothing of the dump.
  The letters of the document's table.
  The document's table, by plain functions: its rows write and read as the wire does.
  The document's way of reading a line, by plain functions.
-/
import Derived.Test.YtlgkdnmhoboinaaGreatDoorWInv
import Derived.Test.YtlgkdnmhoboinaaGreatDoorWTotalW
namespace Go.Proofs.YtlgkdnmhoboinaaGreatDoor
open Go.RowKit
set_option linter.unusedVariables false

/-- A field with what is written of it, if it may be, and what is kept of an event. -/
structure Lt where
  F : FSpec
  T : Ev → Option (List UInt8)
  K : Ev → Ev → Ev

structure Lt.Ok (L : Lt) : Prop where
  yes : ∀ e t, L.T e = some t → L.F.put e = t ∧ L.F.read t = some (L.K e)
  no : ∀ e g a, L.F.read (L.F.put e) = some g → g a = e → L.T e ≠ none
/-- What is written has no blank; and what is read back was written. -/
structure Lt.Tight (L : Lt) : Prop where
  nb : ∀ e t, L.T e = some t → ¬ (32 : UInt8) ∈ t
  no : ∀ e g, L.F.read (L.F.put e) = some g → L.T e ≠ none

def putA : List Lt → Ev → Option (List (List UInt8))
  | [], _ => some []
  | L :: ls, e => match L.T e with
    | none => none
    | some t => (putA ls e).map (t :: ·)
def keepAll : List Lt → Ev → Ev → Ev
  | [], _, a => a
  | L :: ls, e, a => keepAll ls e (L.K e a)

theorem putA_cons {L : Lt} {ls : List Lt} {e : Ev} {ts : List (List UInt8)} (h : putA (L :: ls) e = some ts) : ∃ t r, L.T e = some t ∧ putA ls e = some r ∧ ts = t :: r := by
  unfold putA at h
  split at h
  · cases h
  · rename_i t ht
    cases hp : putA ls e with
    | none => rw [hp] at h; cases h
    | some r => rw [hp] at h; exact ⟨t, r, ht, rfl, by cases h; rfl⟩

theorem putA_yes : ∀ (ls : List Lt) (e a : Ev) (ts : List (List UInt8)), (∀ L ∈ ls, L.Ok) → putA ls e = some ts →
    ls.map (·.F.put e) = ts ∧ readAll (ls.map (·.F)) ts a = some (keepAll ls e a)
  | [], e, a, ts, _, h => by cases h; exact ⟨rfl, rfl⟩
  | L :: ls, e, a, ts, hok, h => by
    obtain ⟨t, r, h1, h2, rfl⟩ := putA_cons h
    obtain ⟨y1, y2⟩ := (hok L List.mem_cons_self).yes e t h1
    obtain ⟨z1, z2⟩ := putA_yes ls e (L.K e a) r (fun x hx => hok x (List.mem_cons_of_mem _ hx)) h2
    refine ⟨by rw [List.map_cons, y1, z1], ?_⟩
    show (L.F.read t).bind (fun g => readAll (ls.map (·.F)) r (g a)) = _
    rw [y2]
    exact z2

/-- All but the last write no blank. -/
inductive TightRow : List Lt → Prop where
  | one (L) : TightRow [L]
  | more (L M l) : L.Tight → TightRow (M :: l) → TightRow (L :: M :: l)

theorem putA_no {ls : List Lt} (hr : TightRow ls) : (∀ L ∈ ls, L.Ok) → ∀ (e a : Ev), readAll (ls.map (·.F)) (ls.map (·.F.put e)) a = some e → putA ls e ≠ none := by
  induction hr with
  | one L =>
    intro hok e a h
    obtain ⟨g, h1, h2⟩ := readAll_cons h
    have h3 := (hok L List.mem_cons_self).no e g a h1 (Option.some.inj h2)
    intro k
    unfold putA at k
    split at k
    · exact h3 (by assumption)
    · cases k
  | more L M l hL _ ih =>
    intro hok e a h
    obtain ⟨g, h1, h2⟩ := readAll_cons h
    have h3 := hL.no e g h1
    have h4 := ih (fun x hx => hok x (List.mem_cons_of_mem _ hx)) e (g a) h2
    intro k
    unfold putA at k
    split at k
    · exact h3 (by assumption)
    · exact h4 (Option.map_eq_none_iff.1 k)

theorem nb_all {a : List UInt8} (h : ¬ (32 : UInt8) ∈ a) : ∀ x ∈ a, (x != 32) = true := fun x hx => by
  rw [bne_iff_ne]
  rintro rfl
  exact h hx
theorem cutK_join (a r : List UInt8) (k : Nat) (h : ¬ (32 : UInt8) ∈ a) : cutK (k + 1) (a ++ 32 :: r) = a :: cutK k r := by
  have h1 : (a ++ 32 :: r).takeWhile (· != 32) = a := by
    rw [List.takeWhile_append_of_pos (nb_all h)]
    simp
  have h2 : (a ++ 32 :: r).dropWhile (· != 32) = 32 :: r := by
    rw [List.dropWhile_append_of_pos (nb_all h)]
    simp
  show (if 32 ∈ a ++ 32 :: r then _ else _) = _
  rw [if_pos (by simp), h1, h2]
  rfl

theorem joinW_one' (a : List UInt8) : joinW [a] = a := by simp [joinW, List.intercalate]
theorem joinW_more (a b : List UInt8) (r : List (List UInt8)) : joinW (a :: b :: r) = a ++ 32 :: joinW (b :: r) := by simp [joinW, List.intercalate]

theorem cut_joinW : ∀ (ts : List (List UInt8)) (n : Nat), ts.length = n + 1 → (∀ t ∈ ts.dropLast, ¬ (32 : UInt8) ∈ t) → cutK n (joinW ts) = ts
  | [], n, h, _ => by simp at h
  | [t], n, h, _ => by
    have : n = 0 := by simpa using h.symm
    subst this
    rw [joinW_one']
    rfl
  | t :: u :: r, n, h, hb => by
    obtain ⟨m, rfl⟩ : ∃ m, n = m + 1 := ⟨r.length, by simp at h; omega⟩
    rw [joinW_more, cutK_join _ _ _ (hb t (by simp)), cut_joinW (u :: r) m (by simp at h ⊢; omega) (fun x hx => hb x (by simp at hx ⊢; exact .inr hx))]

theorem putA_tight {ls : List Lt} (h : TightRow ls) : ∀ (e : Ev) (ts : List (List UInt8)), putA ls e = some ts → ts.length = ls.length ∧ ∀ t ∈ ts.dropLast, ¬ (32 : UInt8) ∈ t := by
  induction h with
  | one L =>
    intro e ts h
    obtain ⟨t, r, _, h2, rfl⟩ := putA_cons h
    cases h2
    exact ⟨rfl, fun t ht => absurd ht (by simp)⟩
  | more L M l hL _ ih =>
    intro e ts h
    obtain ⟨t, r, h1, h2, rfl⟩ := putA_cons h
    obtain ⟨a, b⟩ := ih e r h2
    refine ⟨by simp [a], ?_⟩
    obtain ⟨x, xs, rfl⟩ : ∃ x xs, r = x :: xs := by
      cases r with
      | nil => simp at a
      | cons x xs => exact ⟨x, xs, rfl⟩
    intro u hu
    rw [List.dropLast_cons_cons] at hu
    rcases List.mem_cons.1 hu with rfl | hu
    · exact hL.nb e _ h1
    · exact b u hu

/-- The line of an event by a row of letters. -/
theorem encS_by (k : Nat) (h1 : 1 ≤ k) (h2 : k ≤ 24) (ls : List Lt) (hf : fieldsOf k = ls.map (·.F)) (hok : ∀ L ∈ ls, L.Ok) (ht : TightRow ls) (e : Ev) (hk : e.kind = k) :
    ((keepAll ls e (Ev.zero k) = e → encS e = (putA ls e).map (headOf k ++ joinW ·)) ∧ (keepAll ls e (Ev.zero k) ≠ e → encS e = none)) := by
  have hlen : (fieldsOf k).length = ls.length := by rw [hf, List.length_map]
  have hpos : 1 ≤ ls.length := by cases ht <;> simp
  cases hp : putA ls e with
  | some ts =>
    obtain ⟨a1, a2⟩ := putA_yes ls e (Ev.zero k) ts hok hp
    obtain ⟨b1, b2⟩ := putA_tight ht e ts hp
    have hw : writeS k e = headOf k ++ joinW ts := by
      unfold writeS
      rw [hf, List.map_map, ← a1]
      rfl
    have hr : readS k (writeS k e) = some (keepAll ls e (Ev.zero k)) := by
      rw [hw]
      unfold readS
      rw [if_pos (List.prefix_append _ _), List.drop_left]
      show (if (cutK ((fieldsOf k).length - 1) (joinW ts)).length < (fieldsOf k).length then none else readAll (fieldsOf k) (cutK ((fieldsOf k).length - 1) (joinW ts)) (Ev.zero k)) = _
      rw [cut_joinW ts _ (by omega) b2, if_neg (by omega), hf, a2]
    refine ⟨fun h => ?_, fun h => ?_⟩
    · rw [encS_yes e k hk h1 h2 (by rw [hr, h]), hw]
      rfl
    · exact encS_no e k hk (by rw [hr]; exact fun x => h (Option.some.inj x))
  | none =>
    have hn : encS e = none := by
      refine encS_no e k hk fun hr => ?_
      have hp' := readS_head hr
      unfold readS at hr
      rw [if_pos hp'] at hr
      have h' : (if (cutK ((fieldsOf k).length - 1) ((writeS k e).drop (headOf k).length)).length < (fieldsOf k).length then none else readAll (fieldsOf k) (cutK ((fieldsOf k).length - 1) ((writeS k e).drop (headOf k).length)) (Ev.zero k)) = some e := hr
      split at h'
      · cases h'
      · have hn := (fields_len k h1 h2).1
        have hle := cutK_length ((fieldsOf k).length - 1) ((writeS k e).drop (headOf k).length)
        obtain ⟨h3, _⟩ := row_back (goodRow k h1 h2) _ _ _ (by omega) rfl h'
        rw [← h3, hf, List.map_map] at h'
        exact putA_no ht hok e _ h' hp
    exact ⟨fun _ => hn, fun _ => hn⟩

end Go.Proofs.YtlgkdnmhoboinaaGreatDoor

namespace Go.Proofs.YtlgkdnmhoboinaaGreatDoor
open Go.RowKit
set_option linter.unusedVariables false

theorem numPut {n : Int} (h : 0 ≤ n ∧ n ≤ 4611686018427387904) : Num (putL n) n := ⟨h, rfl⟩
theorem num_out {n m : Int} (h : Num (putL n) m) : n = m := by
  by_cases hn : 0 ≤ n ∧ n ≤ 4611686018427387904
  · exact (numPut hn).one h
  · have h2 := h.2
    have hm := h.1
    unfold putL at h2
    rw [if_neg hn, if_pos hm] at h2
    exact absurd h2 (dec_ne _)

noncomputable def lNum (m : Int) (f : NF) : Lt := ⟨fNum m f, fun e => if 0 ≤ f.get e ∧ f.get e ≤ m then some (putL (f.get e)) else none, fun e a => f.set (f.get e) a⟩
noncomputable def lId (c : UInt8) (f : NF) : Lt := ⟨fId c f, fun e => if 1 ≤ f.get e ∧ f.get e ≤ 4611686018427387904 then some (putI c (f.get e)) else none, fun e a => f.set (f.get e) a⟩
noncomputable def lName : Lt := ⟨fName, fun e => if nameB e.name then some e.name.data.toList else none, fun e a => { a with name := e.name }⟩
noncomputable def lWord : Lt := ⟨fWord, fun e => if nameB e.name && !has e.name 32 then some e.name.data.toList else none, fun e a => { a with name := e.name }⟩
noncomputable def lPlan (f : PF) : Lt := ⟨fPlan f, fun e => if planOk (f.get e).data.toList then some (f.get e).data.toList else none, fun e a => f.set (f.get e) a⟩
noncomputable def lZoom : Lt := ⟨fZoom, fun e => some (if e.zoom then [90] else [45]), fun e a => { a with zoom := e.zoom }⟩
noncomputable def lColon : Lt := ⟨fColon, fun _ => some [58], fun _ a => a⟩
noncomputable def lEsc (lo hi : Nat) : Lt := ⟨fEsc lo hi, fun e => if lo ≤ e.text.size ∧ e.text.size ≤ hi then some (esc e.text.data.toList) else none, fun e a => { a with text := e.text }⟩
noncomputable def lBody : Lt := ⟨fBody, fun e => some (escB e.text.data.toList), fun e a => { a with text := e.text }⟩
noncomputable def lReason : Lt := ⟨fReason, fun e => if e.text.size = 0 then some [] else if e.text.size ≤ 1024 then some (32 :: esc e.text.data.toList) else none, fun e a => if e.text.size = 0 then a else { a with text := e.text }⟩

theorem strBack (s : ByteArray) : str s.data.toList = s := rfl

theorem num_strong (m : Int) (hm : m ≤ 4611686018427387904) (f : NF) (e : Ev) (g : Ev → Ev) (h : (fNum m f).read ((fNum m f).put e) = some g) : (lNum m f).T e ≠ none := by
  obtain ⟨n, h1, h2, rfl⟩ := read_num h
  have h3 : f.get e = n := num_out h1
  have h4 := h1.1
  show (if 0 ≤ f.get e ∧ f.get e ≤ m then some (putL (f.get e)) else none) ≠ none
  rw [if_pos ⟨by omega, by omega⟩]
  exact fun h => by cases h
theorem ok_num (m : Int) (hm : m ≤ 4611686018427387904) (f : NF) : (lNum m f).Ok := by
  refine ⟨fun e t h => ?_, fun e g _ h _ => num_strong m hm f e g h⟩
  have h' : (if 0 ≤ f.get e ∧ f.get e ≤ m then some (putL (f.get e)) else none) = some t := h
  split at h'
  · rename_i hc
    cases h'
    refine ⟨rfl, ?_⟩
    show (numOf (putL (f.get e))).bind (fun n => if n ≤ m then some (f.set n) else none) = _
    rw [numOf_some (numPut ⟨hc.1, by omega⟩)]
    show (if f.get e ≤ m then _ else _) = _
    rw [if_pos hc.2]
    rfl
  · cases h'
theorem putL_nb (n : Int) : ¬ (32 : UInt8) ∈ putL n := by
  by_cases hn : 0 ≤ n ∧ n ≤ 4611686018427387904
  · intro h
    have := num_digit (numPut hn) _ h
    exact absurd this (by decide)
  · unfold putL
    rw [if_neg hn]
    exact fun h => by cases h
theorem tight_num (m : Int) (hm : m ≤ 4611686018427387904) (f : NF) : (lNum m f).Tight := by
  refine ⟨fun e t h => ?_, num_strong m hm f⟩
  have h' : (if 0 ≤ f.get e ∧ f.get e ≤ m then some (putL (f.get e)) else none) = some t := h
  split at h'
  · cases h'; exact putL_nb _
  · cases h'

theorem id_strong (c : UInt8) (f : NF) (e : Ev) (g : Ev → Ev) (h : (fId c f).read ((fId c f).put e) = some g) : (lId c f).T e ≠ none := by
  obtain ⟨n, h1, rfl⟩ := read_id h
  show (if 1 ≤ f.get e ∧ f.get e ≤ 4611686018427387904 then some (putI c (f.get e)) else none) ≠ none
  by_cases hc : 1 ≤ f.get e ∧ f.get e ≤ 4611686018427387904
  · rw [if_pos hc]; exact fun h => by cases h
  · obtain ⟨r, h2, _⟩ := h1
    have h3 : putI c (f.get e) = c :: r := h2
    rw [putI_out hc] at h3
    cases h3
theorem ok_id (c : UInt8) (f : NF) : (lId c f).Ok := by
  refine ⟨fun e t h => ?_, fun e g _ h _ => id_strong c f e g h⟩
  have h' : (if 1 ≤ f.get e ∧ f.get e ≤ 4611686018427387904 then some (putI c (f.get e)) else none) = some t := h
  split at h'
  · rename_i hc
    cases h'
    refine ⟨rfl, ?_⟩
    show (idOf c (putI c (f.get e))).map f.set = _
    rw [idOf_some (n := f.get e) ⟨putL (f.get e), putI_in hc, numPut ⟨by omega, hc.2⟩, hc.1⟩]
    rfl
  · cases h'
theorem tight_id (c : UInt8) (hc : c ≠ 32) (f : NF) : (lId c f).Tight := by
  refine ⟨fun e t h => ?_, id_strong c f⟩
  have h' : (if 1 ≤ f.get e ∧ f.get e ≤ 4611686018427387904 then some (putI c (f.get e)) else none) = some t := h
  split at h'
  · rename_i hq
    cases h'
    rw [putI_in hq]
    intro hm
    rcases List.mem_cons.1 hm with hm | hm
    · exact hc hm.symm
    · exact putL_nb _ hm
  · cases h'

theorem ok_name : lName.Ok := by
  refine ⟨fun e t h => ?_, fun e g _ h _ => ?_⟩
  · have h' : (if nameB e.name then some e.name.data.toList else none) = some t := h
    split at h'
    · rename_i hc
      cases h'
      refine ⟨rfl, ?_⟩
      show (if nameB (str e.name.data.toList) then some (fun a : Ev => { a with name := str e.name.data.toList }) else none) = _
      rw [strBack, if_pos hc]
      rfl
    · cases h'
  · obtain ⟨h1, _⟩ := read_name h
    have h1' : nameB e.name = true := h1
    show (if nameB e.name then some e.name.data.toList else none) ≠ none
    rw [if_pos h1']
    exact fun h => by cases h
theorem word_strong (e : Ev) (g : Ev → Ev) (h : fWord.read (fWord.put e) = some g) : lWord.T e ≠ none := by
  obtain ⟨h1, _⟩ := read_word h
  have h1' : (nameB e.name && !has e.name 32) = true := h1
  show (if nameB e.name && !has e.name 32 then some e.name.data.toList else none) ≠ none
  rw [if_pos h1']
  exact fun h => by cases h
theorem ok_word : lWord.Ok := by
  refine ⟨fun e t h => ?_, fun e g _ h _ => word_strong e g h⟩
  have h' : (if nameB e.name && !has e.name 32 then some e.name.data.toList else none) = some t := h
  split at h'
  · rename_i hc
    cases h'
    refine ⟨rfl, ?_⟩
    show (if nameB (str e.name.data.toList) && !has (str e.name.data.toList) 32 then some (fun a : Ev => { a with name := str e.name.data.toList }) else none) = _
    rw [strBack, if_pos hc]
    rfl
  · cases h'
theorem tight_word : lWord.Tight := by
  refine ⟨fun e t h => ?_, word_strong⟩
  have h' : (if nameB e.name && !has e.name 32 then some e.name.data.toList else none) = some t := h
  split at h'
  · rename_i hc
    cases h'
    intro hm
    have h2 : has e.name 32 = true := List.any_eq_true.2 ⟨32, hm, by decide⟩
    rw [h2] at hc
    simp at hc
  · cases h'
theorem plan_strong (f : PF) (e : Ev) (g : Ev → Ev) (h : (fPlan f).read ((fPlan f).put e) = some g) : (lPlan f).T e ≠ none := by
  obtain ⟨h1, _⟩ := read_plan h
  have h1' : planOk (f.get e).data.toList = true := h1
  show (if planOk (f.get e).data.toList then some (f.get e).data.toList else none) ≠ none
  rw [if_pos h1']
  exact fun h => by cases h
theorem ok_plan (f : PF) : (lPlan f).Ok := by
  refine ⟨fun e t h => ?_, fun e g _ h _ => plan_strong f e g h⟩
  have h' : (if planOk (f.get e).data.toList then some (f.get e).data.toList else none) = some t := h
  split at h'
  · rename_i hc
    cases h'
    refine ⟨rfl, ?_⟩
    show (if planOk (f.get e).data.toList then some (f.set (str (f.get e).data.toList)) else none) = _
    rw [strBack, if_pos hc]
    rfl
  · cases h'
theorem trim_nb : ∀ l : List UInt8, (Lib.trimLeftS l planSet).isEmpty = true → ∀ c ∈ l, c ∈ planSet
  | [], _, c, h => by cases h
  | a :: l, h, c, hc => by
    unfold Lib.trimLeftS at h
    by_cases ha : planSet.contains a = true
    · rw [List.dropWhile_cons_of_pos ha] at h
      rcases List.mem_cons.1 hc with rfl | hc
      · simpa using ha
      · exact trim_nb l h c hc
    · rw [List.dropWhile_cons_of_neg ha] at h
      cases h
theorem tight_plan (f : PF) : (lPlan f).Tight := by
  refine ⟨fun e t h => ?_, plan_strong f⟩
  have h' : (if planOk (f.get e).data.toList then some (f.get e).data.toList else none) = some t := h
  split at h'
  · rename_i hc
    cases h'
    intro hm
    unfold planOk at hc
    simp only [Bool.and_eq_true] at hc
    exact absurd (trim_nb _ hc.2.2 _ hm) (by decide)
  · cases h'
theorem ok_zoom : lZoom.Ok := by
  refine ⟨fun e t h => ?_, fun e g _ h _ => fun k => by cases k⟩
  cases h
  refine ⟨rfl, ?_⟩
  show fZoom.read (if e.zoom then [90] else [45]) = some (fun a => { a with zoom := e.zoom })
  cases e.zoom <;> rfl
theorem ok_colon : lColon.Ok := ⟨fun e t h => by cases h; exact ⟨rfl, rfl⟩, fun e g _ h _ => fun k => by cases k⟩
theorem tight_colon : lColon.Tight := ⟨fun e t h => by cases h; decide, fun e g h => fun k => by cases k⟩
theorem ok_esc (lo hi : Nat) : (lEsc lo hi).Ok := by
  refine ⟨fun e t h => ?_, fun e g a h hga => ?_⟩
  · have h' : (if lo ≤ e.text.size ∧ e.text.size ≤ hi then some (esc e.text.data.toList) else none) = some t := h
    split at h'
    · rename_i hc
      cases h'
      refine ⟨?_, ?_⟩
      · show (if hi < e.text.size then [] else esc e.text.data.toList) = _
        rw [if_neg (by omega)]
      · show (unesc (esc e.text.data.toList)).bind (fun t => if lo ≤ t.length ∧ t.length ≤ hi then some (fun e : Ev => { e with text := str t }) else none) = _
        rw [unesc_some rfl]
        show (if lo ≤ e.text.data.toList.length ∧ e.text.data.toList.length ≤ hi then some (fun a : Ev => { a with text := str e.text.data.toList }) else none) = _
        rw [if_pos (by rw [size_data]; exact hc)]
        rfl
    · cases h'
  · obtain ⟨u, h1, h2, h3, rfl⟩ := read_esc h
    have h4 : str u = e.text := by rw [← hga]
    have h5 : e.text.size = u.length := by rw [← h4, str_size]
    show (if lo ≤ e.text.size ∧ e.text.size ≤ hi then some (esc e.text.data.toList) else none) ≠ none
    rw [if_pos (by omega)]
    exact fun h => by cases h
theorem ok_body : lBody.Ok := ⟨fun e t h => by
    cases h
    refine ⟨rfl, ?_⟩
    show (unescB (escB e.text.data.toList)).map (fun t (a : Ev) => { a with text := str t }) = _
    rw [unescB_some rfl]
    rfl, fun e g _ h _ => fun k => by cases k⟩
theorem ok_reason : lReason.Ok := by
  refine ⟨fun e t h => ?_, fun e g a h hga => ?_⟩
  · have h' : (if e.text.size = 0 then some [] else if e.text.size ≤ 1024 then some (32 :: esc e.text.data.toList) else none) = some t := h
    split at h'
    · rename_i hc
      cases h'
      refine ⟨?_, ?_⟩
      · show (if e.text.size = 0 then [] else _) = _
        rw [if_pos hc]
      · show some id = some (fun a : Ev => if e.text.size = 0 then a else { a with text := e.text })
        rw [Option.some.injEq]
        funext a
        rw [if_pos hc]
        rfl
    · split at h'
      · rename_i h0 hc
        cases h'
        have hp : (fEsc 1 1024).put e = esc e.text.data.toList := by
          show (if 1024 < e.text.size then [] else esc e.text.data.toList) = _
          rw [if_neg (by omega)]
        refine ⟨?_, ?_⟩
        · show (if e.text.size = 0 then [] else 32 :: (fEsc 1 1024).put e) = _
          rw [if_neg h0, hp]
        · show (fEsc 1 1024).read (esc e.text.data.toList) = _
          have hy : (fEsc 1 1024).read (esc e.text.data.toList) = some ((lEsc 1 1024).K e) := ((ok_esc 1 1024).yes e _ (if_pos ⟨by omega, hc⟩)).2
          rw [hy, Option.some.injEq]
          funext a
          show _ = if e.text.size = 0 then a else { a with text := e.text }
          rw [if_neg h0]
          rfl
      · cases h'
  · show (if e.text.size = 0 then some [] else if e.text.size ≤ 1024 then some (32 :: esc e.text.data.toList) else none) ≠ none
    split
    · exact fun h => by cases h
    · rename_i h0
      rcases read_reason h with ⟨h1, rfl⟩ | ⟨r, h1, h2⟩
      · have h1' : (if e.text.size = 0 then [] else 32 :: (fEsc 1 1024).put e) = [] := h1
        rw [if_neg h0] at h1'
        cases h1'
      · obtain ⟨u, _, _, h3, rfl⟩ := read_esc h2
        have h4 : str u = e.text := by rw [← hga]
        have h5 : e.text.size = u.length := by rw [← h4, str_size]
        rw [if_pos (by omega)]
        exact fun h => by cases h

end Go.Proofs.YtlgkdnmhoboinaaGreatDoor

namespace Go.Proofs.YtlgkdnmhoboinaaGreatDoor
open Go.RowKit
set_option linter.unusedVariables false

/-- The letters; c stands for the colon alone. -/
inductive Ch where
  | qt | qn | qf | qo | qi | qs | qw | qp | qN | qW | qP | qV | qz | qd | qv | qm | qx | qc
  deriving DecidableEq
def Ch.byte : Ch → UInt8
  | .qt => 116 | .qn => 110 | .qf => 102 | .qo => 111 | .qi => 105 | .qs => 115 | .qw => 119 | .qp => 112 | .qN => 78 | .qW => 87 | .qP => 80 | .qV => 86
  | .qz => 122 | .qd => 100 | .qv => 118 | .qm => 109 | .qx => 120 | .qc => 0
noncomputable def Ch.T : Ch → Ev → Option (List UInt8)
  | .qt => (lNum maxN .tick).T | .qn => (lNum maxN .number).T | .qf => (lNum 1 .flag).T | .qo => (lNum maxN .offset).T | .qi => (lNum 9999 .index).T
  | .qs => (lId 36 .session).T | .qw => (lId 64 .window).T | .qp => (lId 37 .pane).T | .qN => lName.T | .qW => lWord.T | .qP => (lPlan .layout).T | .qV => (lPlan .visible).T
  | .qz => lZoom.T | .qd => (lEsc 1 256).T | .qv => fun e => ((lEsc 0 1024).T e).map (58 :: 32 :: ·) | .qm | .qx => (lEsc 0 1024).T | .qc => lColon.T
def Ch.K : Ch → Ev → Ev → Ev
  | .qt, e, a => { a with tick := e.tick } | .qn, e, a => { a with number := e.number } | .qf, e, a => { a with flag := e.flag } | .qo, e, a => { a with offset := e.offset }
  | .qi, e, a => { a with index := e.index } | .qs, e, a => { a with session := e.session } | .qw, e, a => { a with window := e.window } | .qp, e, a => { a with pane := e.pane }
  | .qN, e, a | .qW, e, a => { a with name := e.name } | .qP, e, a => { a with layout := e.layout } | .qV, e, a => { a with visible := e.visible } | .qz, e, a => { a with zoom := e.zoom }
  | .qd, e, a | .qv, e, a | .qm, e, a | .qx, e, a => { a with text := e.text } | .qc, _, a => a
noncomputable def Ch.rd : Ch → List UInt8 → Ev → Ev
  | .qt, l, e => { e with tick := (numOf l).getD 0 } | .qn, l, e => { e with number := (numOf l).getD 0 } | .qf, l, e => { e with flag := (numOf l).getD 0 }
  | .qo, l, e => { e with offset := (numOf l).getD 0 } | .qi, l, e => { e with index := (numOf l).getD 0 }
  | .qs, l, e => { e with session := (idOf 36 l).getD 0 } | .qw, l, e => { e with window := (idOf 64 l).getD 0 } | .qp, l, e => { e with pane := (idOf 37 l).getD 0 }
  | .qN, l, e | .qW, l, e => { e with name := str l } | .qP, l, e => { e with layout := str l } | .qV, l, e => { e with visible := str l } | .qz, l, e => { e with zoom := decide (l = [90]) }
  | .qv, l, e => if [58, 32] <+: l then { e with text := str ((unesc (l.drop 2)).getD []) } else e
  | .qd, l, e | .qm, l, e | .qx, l, e => { e with text := str ((unesc l).getD []) } | .qc, _, e => e

def chs : Nat → List Ch
  | 1 | 2 | 3 => [.qt, .qn, .qf] | 5 => [.qp, .qd] | 6 | 7 | 8 => [.qp, .qo] | 9 => [.qp] | 10 | 12 => [.qw, .qN] | 11 => [.qw] | 13 => [.qw, .qP, .qV, .qz] | 14 => [.qw, .qp]
  | 15 | 17 | 21 => [.qs, .qN] | 16 => [.qs] | 18 => [.qs, .qi, .qw] | 19 | 20 => [.qs, .qi] | 22 => [.qW, .qs, .qw, .qi, .qp, .qv] | 23 => [.qm] | 24 => [.qx] | _ => []
/-- The same, the colon being a thing of its own. -/
def chs' : Nat → List Ch
  | 22 => [.qW, .qs, .qw, .qi, .qp, .qc, .qm] | k => chs k
noncomputable def rowL : Nat → List Lt
  | 1 | 2 | 3 => [lNum maxN .tick, lNum maxN .number, lNum 1 .flag] | 4 => [lBody] | 5 => [lId 37 .pane, lEsc 1 256] | 6 | 7 | 8 => [lId 37 .pane, lNum maxN .offset] | 9 => [lId 37 .pane]
  | 10 | 12 => [lId 64 .window, lName] | 11 => [lId 64 .window] | 13 => [lId 64 .window, lPlan .layout, lPlan .visible, lZoom] | 14 => [lId 64 .window, lId 37 .pane]
  | 15 | 17 | 21 => [lId 36 .session, lName] | 16 => [lId 36 .session] | 18 => [lId 36 .session, lNum 9999 .index, lId 64 .window] | 19 | 20 => [lId 36 .session, lNum 9999 .index]
  | 22 => [lWord, lId 36 .session, lId 64 .window, lNum 9999 .index, lId 37 .pane, lColon, lEsc 0 1024] | 23 => [lEsc 0 1024] | 24 => [lReason] | _ => []

def wordOf (k : Nat) : List UInt8 := if k = 24 then headOf 24 else (headOf k).dropLast
/-- The kind of the row at a place of the table. -/
def kAt (i : Nat) : Nat := if i < 3 then i + 1 else i + 2

noncomputable def putsC : List Ch → Ev → Option (List UInt8)
  | [], _ => some []
  | c :: cs, e => match c.T e with
    | none => none
    | some t => (putsC cs e).map (32 :: t ++ ·)
def keepC : List Ch → Ev → Ev → Ev
  | [], _, a => a
  | c :: cs, e, a => keepC cs e (c.K e a)

theorem each_kind (P : Nat → Prop) (k : Nat) (h1 : 1 ≤ k) (h2 : k ≤ 24) (h : ∀ i, i < 24 → P (i + 1)) : P k := by
  have := h (k - 1) (by omega)
  rwa [show k - 1 + 1 = k by omega] at this

theorem mN : maxN ≤ 4611686018427387904 := Int.le_refl _
theorem rowL_ok (k : Nat) (h1 : 1 ≤ k) (h2 : k ≤ 24) : fieldsOf k = (rowL k).map (·.F) ∧ (∀ L ∈ rowL k, L.Ok) ∧ TightRow (rowL k) := by
  rcases (show k = 1 ∨ k = 2 ∨ k = 3 ∨ k = 4 ∨ k = 5 ∨ k = 6 ∨ k = 7 ∨ k = 8 ∨ k = 9 ∨ k = 10 ∨ k = 11 ∨ k = 12 ∨ k = 13 ∨ k = 14 ∨ k = 15 ∨ k = 16 ∨ k = 17 ∨ k = 18 ∨ k = 19 ∨ k = 20 ∨ k = 21 ∨ k = 22 ∨ k = 23 ∨ k = 24 by omega) with rfl | rfl | rfl | rfl | rfl | rfl | rfl | rfl | rfl | rfl | rfl | rfl | rfl | rfl | rfl | rfl | rfl | rfl | rfl | rfl | rfl | rfl | rfl | rfl
  all_goals refine ⟨rfl, ?_, ?_⟩
  all_goals unfold rowL
  all_goals first
    | (intro L hL
       simp only [List.mem_cons, List.not_mem_nil, or_false] at hL
       rcases hL with rfl | rfl | rfl | rfl | rfl | rfl | rfl
       all_goals first | exact ok_num _ mN _ | exact ok_num _ (by decide) _ | exact ok_id _ _ | exact ok_name | exact ok_word | exact ok_plan _ | exact ok_zoom | exact ok_colon | exact ok_esc _ _ | exact ok_body | exact ok_reason)
    | (repeat' first
        | exact TightRow.one _
        | refine TightRow.more _ _ _ (tight_num _ mN _) ?_
        | refine TightRow.more _ _ _ (tight_num _ (by decide) _) ?_
        | refine TightRow.more _ _ _ (tight_id _ (by decide) _) ?_
        | refine TightRow.more _ _ _ tight_word ?_
        | refine TightRow.more _ _ _ (tight_plan _) ?_
        | refine TightRow.more _ _ _ tight_colon ?_)

theorem putA_putsC : ∀ (ls : List Lt) (cs : List Ch) (e : Ev), ls.map (·.T e) = cs.map (·.T e) → ls ≠ [] → (putA ls e).map (32 :: joinW ·) = putsC cs e
  | [], _, _, _, h => absurd rfl h
  | L :: ls, [], _, h, _ => by cases h
  | [L], c :: cs, e, h, _ => by
    rw [List.map_cons, List.map_cons] at h
    obtain ⟨h1, h2⟩ := List.cons.inj h
    have h3 : cs = [] := by cases cs with | nil => rfl | cons _ _ => cases h2
    subst h3
    unfold putA putsC
    rw [show L.T e = c.T e from h1]
    cases c.T e with
    | none => rfl
    | some t =>
      show some (32 :: joinW [t]) = some (32 :: t ++ [])
      rw [joinW_one', List.append_nil]
  | L :: M :: ls, c :: cs, e, h, _ => by
    rw [List.map_cons, List.map_cons] at h
    obtain ⟨h1, h2⟩ := List.cons.inj h
    have ih := putA_putsC (M :: ls) cs e h2 (by simp)
    show Option.map (32 :: joinW ·) (match L.T e with | none => none | some t => (putA (M :: ls) e).map (t :: ·)) = (match c.T e with | none => none | some t => (putsC cs e).map (32 :: t ++ ·))
    rw [show L.T e = c.T e from h1, ← ih]
    cases c.T e with
    | none => rfl
    | some t =>
      cases hp : putA (M :: ls) e with
      | none => rfl
      | some ts =>
        obtain ⟨u, r, _, _, rfl⟩ := putA_cons hp
        show some (32 :: joinW (t :: u :: r)) = some (32 :: t ++ (32 :: joinW (u :: r)))
        rw [joinW_more]
        rfl

theorem putsC_colon (e : Ev) : ∀ cs : List Ch, putsC (cs ++ [.qc, .qm]) e = putsC (cs ++ [.qv]) e
  | [] => by
    show (match Ch.qc.T e with | none => none | some t => (match Ch.qm.T e with | none => none | some t => (some []).map (32 :: t ++ ·)).map (32 :: t ++ ·)) = (match Ch.qv.T e with | none => none | some t => (some []).map (32 :: t ++ ·))
    show (match (lEsc 0 1024).T e with | none => none | some t => (some []).map (32 :: t ++ ·)).map (32 :: [58] ++ ·) = (match ((lEsc 0 1024).T e).map (58 :: 32 :: ·) with | none => none | some t => (some []).map (32 :: t ++ ·))
    cases (lEsc 0 1024).T e <;> rfl
  | c :: cs => by
    show (match c.T e with | none => none | some t => (putsC (cs ++ [Ch.qc, Ch.qm]) e).map (32 :: t ++ ·)) = (match c.T e with | none => none | some t => (putsC (cs ++ [Ch.qv]) e).map (32 :: t ++ ·))
    rw [putsC_colon e cs]

theorem chs_two (k : Nat) (e : Ev) (h2 : k ≤ 24) : putsC (chs' k) e = putsC (chs k) e := by
  by_cases h : k = 22
  · subst h
    exact putsC_colon e [.qW, .qs, .qw, .qi, .qp]
  · have : chs' k = chs k := by unfold chs'; split <;> first | rfl | exact absurd rfl h
    rw [this]

theorem rowL_T (k : Nat) (h1 : 1 ≤ k) (h2 : k ≤ 23) (h4 : k ≠ 4) (e : Ev) : (rowL k).map (·.T e) = (chs' k).map (·.T e) ∧ rowL k ≠ [] ∧ headOf k = wordOf k ++ [32] ∧ keepAll (rowL k) e (Ev.zero k) = keepC (chs k) e (Ev.zero k) := by
  rcases (show k = 1 ∨ k = 2 ∨ k = 3 ∨ k = 5 ∨ k = 6 ∨ k = 7 ∨ k = 8 ∨ k = 9 ∨ k = 10 ∨ k = 11 ∨ k = 12 ∨ k = 13 ∨ k = 14 ∨ k = 15 ∨ k = 16 ∨ k = 17 ∨ k = 18 ∨ k = 19 ∨ k = 20 ∨ k = 21 ∨ k = 22 ∨ k = 23 by omega) with rfl | rfl | rfl | rfl | rfl | rfl | rfl | rfl | rfl | rfl | rfl | rfl | rfl | rfl | rfl | rfl | rfl | rfl | rfl | rfl | rfl | rfl
  all_goals exact ⟨rfl, (fun h => by cases h), rfl, rfl⟩

/-- The line by the document's row. -/
noncomputable def rowS (k : Nat) (e : Ev) : Option (List UInt8) :=
  if k = 24 ∧ e.text.size = 0 then some (wordOf 24) else (putsC (chs k) e).map (wordOf k ++ ·)

theorem empty_text {s : ByteArray} (h : s.size = 0) : s = ⟨#[]⟩ := by
  have : s.data.toList = [] := List.eq_nil_of_length_eq_zero (by rw [size_data]; exact h)
  rw [← strBack s, this]
  rfl

theorem enc_row (k : Nat) (h1 : 1 ≤ k) (h2 : k ≤ 24) (h4 : k ≠ 4) (e : Ev) (hk : e.kind = k) :
    (keepC (chs k) e (Ev.zero k) = e → encS e = rowS k e) ∧ (keepC (chs k) e (Ev.zero k) ≠ e → encS e = none) := by
  obtain ⟨r1, r2, r3⟩ := rowL_ok k h1 h2
  obtain ⟨a1, a2⟩ := encS_by k h1 h2 (rowL k) r1 r2 r3 e hk
  by_cases h24 : k = 24
  · subst h24
    have hke : keepAll (rowL 24) e (Ev.zero (24 : Nat)) = keepC (chs 24) e (Ev.zero (24 : Nat)) := by
      show (if e.text.size = 0 then Ev.zero (24 : Nat) else { Ev.zero (24 : Nat) with text := e.text }) = { Ev.zero (24 : Nat) with text := e.text }
      split
      · rename_i h0
        rw [empty_text h0]
        rfl
      · rfl
    rw [hke] at a1 a2
    refine ⟨fun h => ?_, a2⟩
    rw [a1 h]
    unfold rowS
    by_cases h0 : e.text.size = 0
    · rw [if_pos ⟨rfl, h0⟩]
      have : putA (rowL 24) e = some [[]] := by
        show (match lReason.T e with | none => none | some t => some [t]) = _
        have : lReason.T e = some [] := if_pos h0
        rw [this]
      rw [this]
      rfl
    · rw [if_neg (fun h => h0 h.2)]
      have hT : lReason.T e = if e.text.size ≤ 1024 then some (32 :: esc e.text.data.toList) else none := if_neg h0
      have hM : (lEsc 0 1024).T e = if e.text.size ≤ 1024 then some (esc e.text.data.toList) else none := by
        show (if 0 ≤ e.text.size ∧ e.text.size ≤ 1024 then _ else _) = _
        by_cases hc : e.text.size ≤ 1024
        · rw [if_pos ⟨Nat.zero_le _, hc⟩, if_pos hc]
        · rw [if_neg (fun h => hc h.2), if_neg hc]
      show Option.map (headOf 24 ++ joinW ·) (match lReason.T e with | none => none | some t => some [t]) = Option.map (headOf 24 ++ ·) (match (lEsc 0 1024).T e with | none => none | some t => some (32 :: t ++ []))
      rw [hT, hM]
      split
      · rename_i heq
        split at heq
        · cases heq
        · rename_i hc
          rw [if_neg hc]
          rfl
      · rename_i t heq
        split at heq
        · rename_i hc
          cases heq
          rw [if_pos hc]
          show some (headOf 24 ++ joinW [32 :: esc e.text.data.toList]) = some (headOf 24 ++ (32 :: esc e.text.data.toList ++ []))
          rw [joinW_one', List.append_nil]
        · cases heq
  · obtain ⟨b1, b2, b3, b4⟩ := rowL_T k h1 (by omega) h4 e
    rw [b4] at a1 a2
    refine ⟨fun h => ?_, a2⟩
    rw [a1 h]
    unfold rowS
    rw [if_neg (fun h => h24 h.1), ← chs_two k e h2, ← putA_putsC (rowL k) (chs' k) e b1 b2, b3]
    cases putA (rowL k) e with
    | none => rfl
    | some ts =>
      show some (wordOf k ++ [32] ++ joinW ts) = some (wordOf k ++ (32 :: joinW ts))
      simp

/-- An answer's line. -/
theorem enc_body (e : Ev) (hk : e.kind = 4) : ({ Ev.zero 4 with text := e.text } = e → encS e = some (escB e.text.data.toList)) ∧ ({ Ev.zero 4 with text := e.text } ≠ e → encS e = none) := by
  obtain ⟨r1, r2, r3⟩ := rowL_ok 4 (by decide) (by decide)
  obtain ⟨a1, a2⟩ := encS_by 4 (by decide) (by decide) (rowL 4) r1 r2 r3 e hk
  refine ⟨fun h => ?_, fun h => a2 h⟩
  rw [a1 h]
  show some (headOf 4 ++ joinW [escB e.text.data.toList]) = _
  rw [joinW_one']
  rfl

end Go.Proofs.YtlgkdnmhoboinaaGreatDoor

namespace Go.Proofs.YtlgkdnmhoboinaaGreatDoor
open Go.RowKit
set_option linter.unusedVariables false

def before (l : List UInt8) : List UInt8 := l.takeWhile (· != 32)
def behind (l : List UInt8) : List UInt8 := (l.dropWhile (· != 32)).drop 1

noncomputable def rdAll : List Ch → List UInt8 → Ev → Ev
  | [], _, e => e
  | [c], l, e => c.rd l e
  | c :: d :: cs, l, e => rdAll (d :: cs) (behind l) (c.rd (before l) e)

def Rd (F : FSpec) (c : Ch) : Prop := ∀ t g e, F.read t = some g → c.rd t e = g e

inductive Rds : List FSpec → List Ch → Prop
  | one (F c) : Rd F c → Rds [F] [c]
  | v : Rds [fColon, fEsc 0 1024] [.qv]
  | more (F c G fs d cs) : Rd F c → Rds (G :: fs) (d :: cs) → Rds (F :: G :: fs) (c :: d :: cs)

theorem before_join (a r : List UInt8) (h : ¬ (32 : UInt8) ∈ a) : before (a ++ 32 :: r) = a := by
  unfold before
  rw [List.takeWhile_append_of_pos (nb_all h)]
  simp
theorem behind_join (a r : List UInt8) (h : ¬ (32 : UInt8) ∈ a) : behind (a ++ 32 :: r) = r := by
  unfold behind
  rw [List.dropWhile_append_of_pos (nb_all h)]
  simp
theorem tw_self : ∀ a : List UInt8, ¬ (32 : UInt8) ∈ a → a.takeWhile (· != 32) = a ∧ a.dropWhile (· != 32) = []
  | [], _ => ⟨rfl, rfl⟩
  | c :: a, h => by
    have hc : (c != 32) = true := nb_all h c (by simp)
    obtain ⟨h1, h2⟩ := tw_self a (fun hm => h (List.mem_cons_of_mem _ hm))
    rw [List.takeWhile_cons_of_pos (p := (· != 32)) hc, List.dropWhile_cons_of_pos (p := (· != 32)) hc, h1, h2]
    exact ⟨rfl, rfl⟩
theorem before_all (a : List UInt8) (h : ¬ (32 : UInt8) ∈ a) : before a = a := (tw_self a h).1
theorem behind_all (a : List UInt8) (h : ¬ (32 : UInt8) ∈ a) : behind a = [] := by
  unfold behind
  rw [(tw_self a h).2]
  rfl
theorem apart (l : List UInt8) (h : (32 : UInt8) ∈ l) : l = before l ++ 32 :: behind l := by
  have := drop_split l h
  unfold before behind
  rw [← this, List.takeWhile_append_dropWhile]

theorem cutK_two {k : Nat} {l : List UInt8} (h : (cutK (k + 1) l).length ≠ 1) : (32 : UInt8) ∈ l ∧ cutK (k + 1) l = before l :: cutK k (behind l) := by
  have e : cutK (k + 1) l = if 32 ∈ l then before l :: cutK k (behind l) else [l] := rfl
  rw [e] at h ⊢
  by_cases hm : (32 : UInt8) ∈ l
  · rw [if_pos hm]
    exact ⟨hm, rfl⟩
  · rw [if_neg hm] at h
    exact absurd rfl h

theorem rdAll_ok {fs : List FSpec} {cs : List Ch} (h : Rds fs cs) : ∀ (l : List UInt8) (a e : Ev), (cutK (fs.length - 1) l).length = fs.length → readAll fs (cutK (fs.length - 1) l) a = some e → rdAll cs l a = e := by
  induction h with
  | one F c hF =>
    intro l a e _ h
    obtain ⟨g, h1, h2⟩ := readAll_cons (ts := []) (t := l) h
    cases h2
    exact hF l g a h1
  | v =>
    intro l a e hl h
    obtain ⟨hm, hc⟩ := cutK_two (k := 0) (l := l) (by rw [show (0 + 1) = 1 from rfl]; rw [show cutK 1 l = cutK ([fColon, fEsc 0 1024].length - 1) l from rfl, hl]; decide)
    have h' : readAll [fColon, fEsc 0 1024] (before l :: [behind l]) a = some e := by rw [← h]; exact congrArg (fun x => readAll _ x a) hc.symm
    obtain ⟨g, h1, h2⟩ := readAll_cons h'
    obtain ⟨h3, rfl⟩ := read_colon h1
    obtain ⟨g, h4, h5⟩ := readAll_cons (ts := []) (t := behind l) h2
    cases h5
    obtain ⟨u, h6, _, _, rfl⟩ := read_esc h4
    have h7 : l = [58, 32] ++ behind l := by
      have := apart l hm
      rw [h3] at this
      exact this
    show (if [58, 32] <+: l then { a with text := str ((unesc (l.drop 2)).getD []) } else a) = _
    rw [if_pos ⟨behind l, h7.symm⟩]
    have h8 : l.drop 2 = behind l := by rw [h7]; rfl
    rw [h8, unesc_some h6]
    rfl
  | more F c G fs d cs hF _ ih =>
    intro l a e hl h
    have hn : (F :: G :: fs).length - 1 = fs.length + 1 := by simp
    rw [hn] at hl h
    obtain ⟨hm, hc⟩ := cutK_two (k := fs.length) (l := l) (by rw [hl]; simp)
    rw [hc] at hl h
    obtain ⟨g, h1, h2⟩ := readAll_cons h
    show rdAll (d :: cs) (behind l) (c.rd (before l) a) = e
    rw [hF _ g a h1]
    exact ih (behind l) (g a) e (by simpa using hl) h2

theorem rd_num {m : Int} {f : NF} {c : Ch} (h : ∀ l e, c.rd l e = f.set ((numOf l).getD 0) e) : Rd (fNum m f) c := fun t g e hr => by
  obtain ⟨n, h1, _, rfl⟩ := read_num hr
  rw [h, numOf_some h1]
  rfl
theorem rd_id {q : UInt8} {f : NF} {c : Ch} (h : ∀ l e, c.rd l e = f.set ((idOf q l).getD 0) e) : Rd (fId q f) c := fun t g e hr => by
  obtain ⟨n, h1, rfl⟩ := read_id hr
  rw [h, idOf_some h1]
  rfl
theorem rd_name : Rd fName .qN := fun t g e hr => by obtain ⟨_, rfl⟩ := read_name hr; rfl
theorem rd_word : Rd fWord .qW := fun t g e hr => by obtain ⟨_, rfl⟩ := read_word hr; rfl
theorem rd_layout : Rd (fPlan .layout) .qP := fun t g e hr => by obtain ⟨_, rfl⟩ := read_plan hr; rfl
theorem rd_visible : Rd (fPlan .visible) .qV := fun t g e hr => by obtain ⟨_, rfl⟩ := read_plan hr; rfl
theorem rd_zoom : Rd fZoom .qz := fun t g e hr => by
  obtain ⟨z, rfl, rfl⟩ := read_zoom hr
  cases z <;> simp [Ch.rd]
theorem rd_esc {lo hi : Nat} {c : Ch} (h : ∀ l e, c.rd l e = { e with text := str ((unesc l).getD []) }) : Rd (fEsc lo hi) c := fun t g e hr => by
  obtain ⟨u, h1, _, _, rfl⟩ := read_esc hr
  rw [h, unesc_some h1]
  rfl

theorem rds_row (k : Nat) (h1 : 1 ≤ k) (h2 : k ≤ 23) (h4 : k ≠ 4) : Rds (fieldsOf k) (chs k) := by
  rcases (show k = 1 ∨ k = 2 ∨ k = 3 ∨ k = 5 ∨ k = 6 ∨ k = 7 ∨ k = 8 ∨ k = 9 ∨ k = 10 ∨ k = 11 ∨ k = 12 ∨ k = 13 ∨ k = 14 ∨ k = 15 ∨ k = 16 ∨ k = 17 ∨ k = 18 ∨ k = 19 ∨ k = 20 ∨ k = 21 ∨ k = 22 ∨ k = 23 by omega) with rfl | rfl | rfl | rfl | rfl | rfl | rfl | rfl | rfl | rfl | rfl | rfl | rfl | rfl | rfl | rfl | rfl | rfl | rfl | rfl | rfl | rfl
  all_goals unfold fieldsOf chs
  all_goals repeat' first
    | exact Rds.v
    | refine Rds.one _ _ ?_
    | refine Rds.more _ _ _ _ _ _ ?_ ?_
  all_goals first
    | exact rd_num (fun _ _ => rfl)
    | exact rd_id (fun _ _ => rfl)
    | exact rd_name
    | exact rd_word
    | exact rd_layout
    | exact rd_visible
    | exact rd_zoom
    | exact rd_esc (fun _ _ => rfl)

theorem words_tight : ∀ k, k < 25 → (wordOf k).all (· != 32) = true := by decide
theorem word_nb (k : Nat) (h : k ≤ 24) : ¬ (32 : UInt8) ∈ wordOf k := fun hm => by
  have := List.all_eq_true.1 (words_tight k (by omega)) _ hm
  exact absurd this (by decide)
theorem head_word : ∀ k, k < 24 → 1 ≤ k → k ≠ 4 → headOf k = wordOf k ++ [32] := by decide
theorem kAt_of (k : Nat) (h1 : 1 ≤ k) (h2 : k ≤ 24) (h4 : k ≠ 4) : ∃ i, i < 23 ∧ kAt i = k := by
  by_cases h : k < 4
  · exact ⟨k - 1, by omega, by unfold kAt; rw [if_pos (by omega)]; omega⟩
  · exact ⟨k - 2, by omega, by unfold kAt; rw [if_neg (by omega)]; omega⟩
theorem kAt_in {i : Nat} (h : i < 23) : 1 ≤ kAt i ∧ kAt i ≤ 24 ∧ kAt i ≠ 4 := by unfold kAt; split <;> omega

/-- A line that is one is found in the table. -/
theorem dec_found (l : List UInt8) (hp : [37] <+: l) (hg : decS l ≠ badEv l) :
    ∃ i, i < 23 ∧ wordOf (kAt i) = before l ∧ encS (rdAll (chs (kAt i)) (behind l) (Ev.zero (kAt i : Nat))) = some l := by
  have henc := (enc_dec l).resolve_left hg
  have hk := kindS_pos l
  obtain ⟨k, hkk⟩ : ∃ k, kindS l = k := ⟨_, rfl⟩
  by_cases h25 : kindS l = 25
  · exact absurd (by unfold decS; rw [if_pos h25]; rfl) hg
  cases hr : readS (kindS l) l with
  | none => exact absurd (by unfold decS; rw [if_neg h25, hr]; rfl) hg
  | some e =>
    have hd : decS l = e := by unfold decS; rw [if_neg h25, hr]; rfl
    rw [hd] at henc
    rw [hkk] at hr h25 hk
    have h4 : k ≠ 4 := by
      rintro rfl
      obtain ⟨t, ht, _⟩ := readS_body hr
      exact escB_head t (ht ▸ hp)
    obtain ⟨i, hi, hik⟩ := kAt_of k hk.1 (by omega) h4
    refine ⟨i, hi, ?_⟩
    rw [hik]
    have hh := readS_head hr
    obtain ⟨r, hl⟩ := hh
    have hs := hr
    unfold readS at hs
    rw [if_pos ⟨r, hl⟩] at hs
    have hs' : (if (cutK ((fieldsOf k).length - 1) (l.drop (headOf k).length)).length < (fieldsOf k).length then none else readAll (fieldsOf k) (cutK ((fieldsOf k).length - 1) (l.drop (headOf k).length)) (Ev.zero k)) = some e := hs
    split at hs'
    · cases hs'
    · rename_i hlen
      have hle := cutK_length ((fieldsOf k).length - 1) (l.drop (headOf k).length)
      have hfl := (fields_len k hk.1 (by omega)).1
      have hdr : l.drop (headOf k).length = r := by rw [← hl, List.drop_left]
      rw [hdr] at hs' hlen hle
      by_cases h24 : k = 24
      · subst h24
        obtain ⟨g, g1, g2⟩ := readAll_cons (F := fReason) (fs := []) (t := r) (ts := []) hs'
        cases g2
        rcases read_reason g1 with ⟨rfl, rfl⟩ | ⟨q, rfl, g3⟩
        · have hw : l = wordOf 24 := by rw [← hl, List.append_nil]; rfl
          refine ⟨by rw [hw, before_all _ (word_nb 24 (by decide))], ?_⟩
          rw [hw, behind_all _ (word_nb 24 (by decide)), ← hw]
          have hu : rdAll (chs 24) [] (Ev.zero (24 : Nat)) = id (Ev.zero (24 : Nat)) := by
            show ({ Ev.zero (24 : Nat) with text := str ((unesc []).getD []) } : Ev) = Ev.zero (24 : Nat)
            rw [unesc_some (show esc [] = [] from rfl)]
            rfl
          rw [hu]
          exact henc.1
        · have hw : l = wordOf 24 ++ 32 :: q := by rw [← hl]; rfl
          rw [hw, before_join _ _ (word_nb 24 (by decide)), behind_join _ _ (word_nb 24 (by decide)), ← hw]
          refine ⟨rfl, ?_⟩
          have hu : rdAll (chs 24) q (Ev.zero (24 : Nat)) = g (Ev.zero (24 : Nat)) := rd_esc (lo := 1) (hi := 1024) (c := .qx) (fun _ _ => rfl) q g _ g3
          rw [hu]
          exact henc.1
      · have hw : l = wordOf k ++ 32 :: r := by
          rw [← hl, head_word k (by omega) hk.1 h4, List.append_assoc]
          rfl
        rw [hw, before_join _ _ (word_nb k (by omega)), behind_join _ _ (word_nb k (by omega)), ← hw]
        refine ⟨rfl, ?_⟩
        rw [rdAll_ok (rds_row k hk.1 (by omega) h4) r _ e (by omega) hs']
        exact henc.1

theorem rd_fits (c : Ch) (l : List UInt8) (hl : l.length ≤ slim) (e : Ev) (he : e.Fits) : (c.rd l e).Fits := by
  have hn : ∀ f : NF, (f.set ((numOf l).getD 0) e).Fits := fun f => by
    cases h : numOf l with
    | none => exact fits_set he f 0 (by decide) (by decide)
    | some n => exact fits_set he f n (of_numOf h).1.1 (of_numOf h).1.2
  have hi : ∀ (q : UInt8) (f : NF), (f.set ((idOf q l).getD 0) e).Fits := fun q f => by
    cases h : idOf q l with
    | none => exact fits_set he f 0 (by decide) (by decide)
    | some n => obtain ⟨r, _, h2, _⟩ := of_idOf h; exact fits_set he f n h2.1.1 h2.1.2
  have ht : ∀ m : List UInt8, m.length ≤ slim → ({ e with text := str ((unesc m).getD []) } : Ev).Fits := fun m hm => by
    cases h : unesc m with
    | none => exact fits_text he [] (Nat.zero_le _)
    | some u =>
      have := of_unesc h
      have h3 := (esc_length u).1
      rw [this] at h3
      exact fits_text he u (Nat.le_trans h3 hm)
  cases c with
  | qt => exact hn .tick
  | qn => exact hn .number
  | qf => exact hn .flag
  | qo => exact hn .offset
  | qi => exact hn .index
  | qs => exact hi 36 .session
  | qw => exact hi 64 .window
  | qp => exact hi 37 .pane
  | qN => exact fits_name he l hl
  | qW => exact fits_name he l hl
  | qP => exact fits_plan he .layout l hl
  | qV => exact fits_plan he .visible l hl
  | qz => exact fits_zoom he _
  | qd => exact ht l hl
  | qm => exact ht l hl
  | qx => exact ht l hl
  | qc => exact he
  | qv =>
    show (if [58, 32] <+: l then ({ e with text := str ((unesc (l.drop 2)).getD []) } : Ev) else e).Fits
    split
    · exact ht _ (by rw [List.length_drop]; omega)
    · exact he

theorem before_len (l : List UInt8) : (before l).length ≤ l.length := by
  have := congrArg List.length (List.takeWhile_append_dropWhile (p := (· != (32 : UInt8))) (l := l))
  rw [List.length_append] at this
  unfold before
  omega
theorem behind_len (l : List UInt8) : (behind l).length ≤ l.length := by
  have := congrArg List.length (List.takeWhile_append_dropWhile (p := (· != (32 : UInt8))) (l := l))
  rw [List.length_append] at this
  unfold behind
  rw [List.length_drop]
  omega

end Go.Proofs.YtlgkdnmhoboinaaGreatDoor
