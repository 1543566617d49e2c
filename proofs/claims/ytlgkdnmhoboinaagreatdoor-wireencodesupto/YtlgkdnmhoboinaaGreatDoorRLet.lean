/-
  The letters of the document's table.
-/
import Derived.Test.YtlgkdnmhoboinaaGreatDoorRSpec
namespace Go.Proofs.YtlgkdnmhoboinaaGreatDoor
open Go.RowKit
set_option linter.unusedVariables false

theorem numPut {n : Int} (h : 0 ≤ n ∧ n ≤ 4611686018427387904) : Num (putL n) n := ⟨h, rfl⟩
theorem num_out {n m : Int} (h : Num (putL n) m) : n = m := by
  by_cases hn : 0 ≤ n ∧ n ≤ 4611686018427387904
  · exact (numPut hn).one h
  · have h2 := h.2
    have hm := h.1
    unfold putL at h2
    rw [if_neg hn, if_pos hm] at h2
    exact absurd h2 (dec_ne _)

noncomputable def lNum (m : Int) (f : NF) : Lt := ⟨fNum m f, fun e => if 0 ≤ f.get e ∧ f.get e ≤ m then some (putL (f.get e)) else none, fun e a => f.set (f.get e) a⟩
noncomputable def lId (c : UInt8) (f : NF) : Lt := ⟨fId c f, fun e => if 1 ≤ f.get e ∧ f.get e ≤ 4611686018427387904 then some (putI c (f.get e)) else none, fun e a => f.set (f.get e) a⟩
noncomputable def lName : Lt := ⟨fName, fun e => if nameB e.name then some e.name.data.toList else none, fun e a => { a with name := e.name }⟩
noncomputable def lWord : Lt := ⟨fWord, fun e => if nameB e.name && !has e.name 32 then some e.name.data.toList else none, fun e a => { a with name := e.name }⟩
noncomputable def lPlan (f : PF) : Lt := ⟨fPlan f, fun e => if planOk (f.get e).data.toList then some (f.get e).data.toList else none, fun e a => f.set (f.get e) a⟩
noncomputable def lZoom : Lt := ⟨fZoom, fun e => some (if e.zoom then [90] else [45]), fun e a => { a with zoom := e.zoom }⟩
noncomputable def lColon : Lt := ⟨fColon, fun _ => some [58], fun _ a => a⟩
noncomputable def lEsc (lo hi : Nat) : Lt := ⟨fEsc lo hi, fun e => if lo ≤ e.text.size ∧ e.text.size ≤ hi then some (esc e.text.data.toList) else none, fun e a => { a with text := e.text }⟩
noncomputable def lBody : Lt := ⟨fBody, fun e => some (escB e.text.data.toList), fun e a => { a with text := e.text }⟩
noncomputable def lReason : Lt := ⟨fReason, fun e => if e.text.size = 0 then some [] else if e.text.size ≤ 1024 then some (32 :: esc e.text.data.toList) else none, fun e a => if e.text.size = 0 then a else { a with text := e.text }⟩

theorem strBack (s : ByteArray) : str s.data.toList = s := rfl

theorem num_strong (m : Int) (hm : m ≤ 4611686018427387904) (f : NF) (e : Ev) (g : Ev → Ev) (h : (fNum m f).read ((fNum m f).put e) = some g) : (lNum m f).T e ≠ none := by
  obtain ⟨n, h1, h2, rfl⟩ := read_num h
  have h3 : f.get e = n := num_out h1
  have h4 := h1.1
  show (if 0 ≤ f.get e ∧ f.get e ≤ m then some (putL (f.get e)) else none) ≠ none
  rw [if_pos ⟨by omega, by omega⟩]
  exact fun h => by cases h
theorem ok_num (m : Int) (hm : m ≤ 4611686018427387904) (f : NF) : (lNum m f).Ok := by
  refine ⟨fun e t h => ?_, fun e g _ h _ => num_strong m hm f e g h⟩
  have h' : (if 0 ≤ f.get e ∧ f.get e ≤ m then some (putL (f.get e)) else none) = some t := h
  split at h'
  · rename_i hc
    cases h'
    refine ⟨rfl, ?_⟩
    show (numOf (putL (f.get e))).bind (fun n => if n ≤ m then some (f.set n) else none) = _
    rw [numOf_some (numPut ⟨hc.1, by omega⟩)]
    show (if f.get e ≤ m then _ else _) = _
    rw [if_pos hc.2]
    rfl
  · cases h'
theorem putL_nb (n : Int) : ¬ (32 : UInt8) ∈ putL n := by
  by_cases hn : 0 ≤ n ∧ n ≤ 4611686018427387904
  · intro h
    have := num_digit (numPut hn) _ h
    exact absurd this (by decide)
  · unfold putL
    rw [if_neg hn]
    exact fun h => by cases h
theorem tight_num (m : Int) (hm : m ≤ 4611686018427387904) (f : NF) : (lNum m f).Tight := by
  refine ⟨fun e t h => ?_, num_strong m hm f⟩
  have h' : (if 0 ≤ f.get e ∧ f.get e ≤ m then some (putL (f.get e)) else none) = some t := h
  split at h'
  · cases h'; exact putL_nb _
  · cases h'

theorem id_strong (c : UInt8) (f : NF) (e : Ev) (g : Ev → Ev) (h : (fId c f).read ((fId c f).put e) = some g) : (lId c f).T e ≠ none := by
  obtain ⟨n, h1, rfl⟩ := read_id h
  show (if 1 ≤ f.get e ∧ f.get e ≤ 4611686018427387904 then some (putI c (f.get e)) else none) ≠ none
  by_cases hc : 1 ≤ f.get e ∧ f.get e ≤ 4611686018427387904
  · rw [if_pos hc]; exact fun h => by cases h
  · obtain ⟨r, h2, _⟩ := h1
    have h3 : putI c (f.get e) = c :: r := h2
    rw [putI_out hc] at h3
    cases h3
theorem ok_id (c : UInt8) (f : NF) : (lId c f).Ok := by
  refine ⟨fun e t h => ?_, fun e g _ h _ => id_strong c f e g h⟩
  have h' : (if 1 ≤ f.get e ∧ f.get e ≤ 4611686018427387904 then some (putI c (f.get e)) else none) = some t := h
  split at h'
  · rename_i hc
    cases h'
    refine ⟨rfl, ?_⟩
    show (idOf c (putI c (f.get e))).map f.set = _
    rw [idOf_some (n := f.get e) ⟨putL (f.get e), putI_in hc, numPut ⟨by omega, hc.2⟩, hc.1⟩]
    rfl
  · cases h'
theorem tight_id (c : UInt8) (hc : c ≠ 32) (f : NF) : (lId c f).Tight := by
  refine ⟨fun e t h => ?_, id_strong c f⟩
  have h' : (if 1 ≤ f.get e ∧ f.get e ≤ 4611686018427387904 then some (putI c (f.get e)) else none) = some t := h
  split at h'
  · rename_i hq
    cases h'
    rw [putI_in hq]
    intro hm
    rcases List.mem_cons.1 hm with hm | hm
    · exact hc hm.symm
    · exact putL_nb _ hm
  · cases h'

theorem ok_name : lName.Ok := by
  refine ⟨fun e t h => ?_, fun e g _ h _ => ?_⟩
  · have h' : (if nameB e.name then some e.name.data.toList else none) = some t := h
    split at h'
    · rename_i hc
      cases h'
      refine ⟨rfl, ?_⟩
      show (if nameB (str e.name.data.toList) then some (fun a : Ev => { a with name := str e.name.data.toList }) else none) = _
      rw [strBack, if_pos hc]
      rfl
    · cases h'
  · obtain ⟨h1, _⟩ := read_name h
    have h1' : nameB e.name = true := h1
    show (if nameB e.name then some e.name.data.toList else none) ≠ none
    rw [if_pos h1']
    exact fun h => by cases h
theorem word_strong (e : Ev) (g : Ev → Ev) (h : fWord.read (fWord.put e) = some g) : lWord.T e ≠ none := by
  obtain ⟨h1, _⟩ := read_word h
  have h1' : (nameB e.name && !has e.name 32) = true := h1
  show (if nameB e.name && !has e.name 32 then some e.name.data.toList else none) ≠ none
  rw [if_pos h1']
  exact fun h => by cases h
theorem ok_word : lWord.Ok := by
  refine ⟨fun e t h => ?_, fun e g _ h _ => word_strong e g h⟩
  have h' : (if nameB e.name && !has e.name 32 then some e.name.data.toList else none) = some t := h
  split at h'
  · rename_i hc
    cases h'
    refine ⟨rfl, ?_⟩
    show (if nameB (str e.name.data.toList) && !has (str e.name.data.toList) 32 then some (fun a : Ev => { a with name := str e.name.data.toList }) else none) = _
    rw [strBack, if_pos hc]
    rfl
  · cases h'
theorem tight_word : lWord.Tight := by
  refine ⟨fun e t h => ?_, word_strong⟩
  have h' : (if nameB e.name && !has e.name 32 then some e.name.data.toList else none) = some t := h
  split at h'
  · rename_i hc
    cases h'
    intro hm
    have h2 : has e.name 32 = true := List.any_eq_true.2 ⟨32, hm, by decide⟩
    rw [h2] at hc
    simp at hc
  · cases h'
theorem plan_strong (f : PF) (e : Ev) (g : Ev → Ev) (h : (fPlan f).read ((fPlan f).put e) = some g) : (lPlan f).T e ≠ none := by
  obtain ⟨h1, _⟩ := read_plan h
  have h1' : planOk (f.get e).data.toList = true := h1
  show (if planOk (f.get e).data.toList then some (f.get e).data.toList else none) ≠ none
  rw [if_pos h1']
  exact fun h => by cases h
theorem ok_plan (f : PF) : (lPlan f).Ok := by
  refine ⟨fun e t h => ?_, fun e g _ h _ => plan_strong f e g h⟩
  have h' : (if planOk (f.get e).data.toList then some (f.get e).data.toList else none) = some t := h
  split at h'
  · rename_i hc
    cases h'
    refine ⟨rfl, ?_⟩
    show (if planOk (f.get e).data.toList then some (f.set (str (f.get e).data.toList)) else none) = _
    rw [strBack, if_pos hc]
    rfl
  · cases h'
theorem trim_nb : ∀ l : List UInt8, (Lib.trimLeftS l planSet).isEmpty = true → ∀ c ∈ l, c ∈ planSet
  | [], _, c, h => by cases h
  | a :: l, h, c, hc => by
    unfold Lib.trimLeftS at h
    by_cases ha : planSet.contains a = true
    · rw [List.dropWhile_cons_of_pos ha] at h
      rcases List.mem_cons.1 hc with rfl | hc
      · simpa using ha
      · exact trim_nb l h c hc
    · rw [List.dropWhile_cons_of_neg ha] at h
      cases h
theorem tight_plan (f : PF) : (lPlan f).Tight := by
  refine ⟨fun e t h => ?_, plan_strong f⟩
  have h' : (if planOk (f.get e).data.toList then some (f.get e).data.toList else none) = some t := h
  split at h'
  · rename_i hc
    cases h'
    intro hm
    unfold planOk at hc
    simp only [Bool.and_eq_true] at hc
    exact absurd (trim_nb _ hc.2.2 _ hm) (by decide)
  · cases h'
theorem ok_zoom : lZoom.Ok := by
  refine ⟨fun e t h => ?_, fun e g _ h _ => fun k => by cases k⟩
  cases h
  refine ⟨rfl, ?_⟩
  show fZoom.read (if e.zoom then [90] else [45]) = some (fun a => { a with zoom := e.zoom })
  cases e.zoom <;> rfl
theorem ok_colon : lColon.Ok := ⟨fun e t h => by cases h; exact ⟨rfl, rfl⟩, fun e g _ h _ => fun k => by cases k⟩
theorem tight_colon : lColon.Tight := ⟨fun e t h => by cases h; decide, fun e g h => fun k => by cases k⟩
theorem ok_esc (lo hi : Nat) : (lEsc lo hi).Ok := by
  refine ⟨fun e t h => ?_, fun e g a h hga => ?_⟩
  · have h' : (if lo ≤ e.text.size ∧ e.text.size ≤ hi then some (esc e.text.data.toList) else none) = some t := h
    split at h'
    · rename_i hc
      cases h'
      refine ⟨?_, ?_⟩
      · show (if hi < e.text.size then [] else esc e.text.data.toList) = _
        rw [if_neg (by omega)]
      · show (unesc (esc e.text.data.toList)).bind (fun t => if lo ≤ t.length ∧ t.length ≤ hi then some (fun e : Ev => { e with text := str t }) else none) = _
        rw [unesc_some rfl]
        show (if lo ≤ e.text.data.toList.length ∧ e.text.data.toList.length ≤ hi then some (fun a : Ev => { a with text := str e.text.data.toList }) else none) = _
        rw [if_pos (by rw [size_data]; exact hc)]
        rfl
    · cases h'
  · obtain ⟨u, h1, h2, h3, rfl⟩ := read_esc h
    have h4 : str u = e.text := by rw [← hga]
    have h5 : e.text.size = u.length := by rw [← h4, str_size]
    show (if lo ≤ e.text.size ∧ e.text.size ≤ hi then some (esc e.text.data.toList) else none) ≠ none
    rw [if_pos (by omega)]
    exact fun h => by cases h
theorem ok_body : lBody.Ok := ⟨fun e t h => by
    cases h
    refine ⟨rfl, ?_⟩
    show (unescB (escB e.text.data.toList)).map (fun t (a : Ev) => { a with text := str t }) = _
    rw [unescB_some rfl]
    rfl, fun e g _ h _ => fun k => by cases k⟩
theorem ok_reason : lReason.Ok := by
  refine ⟨fun e t h => ?_, fun e g a h hga => ?_⟩
  · have h' : (if e.text.size = 0 then some [] else if e.text.size ≤ 1024 then some (32 :: esc e.text.data.toList) else none) = some t := h
    split at h'
    · rename_i hc
      cases h'
      refine ⟨?_, ?_⟩
      · show (if e.text.size = 0 then [] else _) = _
        rw [if_pos hc]
      · show some id = some (fun a : Ev => if e.text.size = 0 then a else { a with text := e.text })
        rw [Option.some.injEq]
        funext a
        rw [if_pos hc]
        rfl
    · split at h'
      · rename_i h0 hc
        cases h'
        have hp : (fEsc 1 1024).put e = esc e.text.data.toList := by
          show (if 1024 < e.text.size then [] else esc e.text.data.toList) = _
          rw [if_neg (by omega)]
        refine ⟨?_, ?_⟩
        · show (if e.text.size = 0 then [] else 32 :: (fEsc 1 1024).put e) = _
          rw [if_neg h0, hp]
        · show (fEsc 1 1024).read (esc e.text.data.toList) = _
          have hy : (fEsc 1 1024).read (esc e.text.data.toList) = some ((lEsc 1 1024).K e) := ((ok_esc 1 1024).yes e _ (if_pos ⟨by omega, hc⟩)).2
          rw [hy, Option.some.injEq]
          funext a
          show _ = if e.text.size = 0 then a else { a with text := e.text }
          rw [if_neg h0]
          rfl
      · cases h'
  · show (if e.text.size = 0 then some [] else if e.text.size ≤ 1024 then some (32 :: esc e.text.data.toList) else none) ≠ none
    split
    · exact fun h => by cases h
    · rename_i h0
      rcases read_reason h with ⟨h1, rfl⟩ | ⟨r, h1, h2⟩
      · have h1' : (if e.text.size = 0 then [] else 32 :: (fEsc 1 1024).put e) = [] := h1
        rw [if_neg h0] at h1'
        cases h1'
      · obtain ⟨u, _, _, h3, rfl⟩ := read_esc h2
        have h4 : str u = e.text := by rw [← hga]
        have h5 : e.text.size = u.length := by rw [← h4, str_size]
        rw [if_pos (by omega)]
        exact fun h => by cases h

end Go.Proofs.YtlgkdnmhoboinaaGreatDoor
