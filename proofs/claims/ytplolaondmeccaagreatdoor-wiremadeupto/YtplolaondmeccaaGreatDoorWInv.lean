/-
  A line that is read is the line of what was read.
-/
import Derived.Test.YtplolaondmeccaaGreatDoorWPure
namespace Go.Proofs.YtplolaondmeccaaGreatDoor
open Go.RowKit
set_option linter.unusedVariables false

/-- What a field reads it writes; it leaves the kind; what else it leaves. -/
structure Good (F : FSpec) : Prop where
  back : ∀ t g e, F.read t = some g → e.text.size = 0 → F.put (g e) = t
  kind : ∀ t g e, F.read t = some g → (g e).kind = e.kind
/-- A field that leaves the text alone. -/
def NoText (F : FSpec) : Prop := ∀ t g e, F.read t = some g → (g e).text = e.text
/-- What G reads, F does not write. -/
def Free (F G : FSpec) : Prop := ∀ t g e, G.read t = some g → F.put (g e) = F.put e

theorem get_set (f : NF) (n : Int) (e : Ev) : f.get (f.set n e) = n := by cases f <;> rfl
theorem get_other (f f' : NF) (h : f ≠ f') (n : Int) (e : Ev) : f.get (f'.set n e) = f.get e := by cases f <;> cases f' <;> first | rfl | exact absurd rfl h
theorem pget_set (f : PF) (n : ByteArray) (e : Ev) : f.get (f.set n e) = n := by cases f <;> rfl
theorem pget_other (f f' : PF) (h : f ≠ f') (n : ByteArray) (e : Ev) : f.get (f'.set n e) = f.get e := by cases f <;> cases f' <;> first | rfl | exact absurd rfl h

/-- What each field's reading does. -/
theorem read_num {m : Int} {f : NF} {t : List UInt8} {g : Ev → Ev} (h : (fNum m f).read t = some g) : ∃ n, Num t n ∧ n ≤ m ∧ g = f.set n := by
  have h' : (numOf t).bind (fun n => if n ≤ m then some (f.set n) else none) = some g := h
  cases hn : numOf t with
  | none => rw [hn] at h'; cases h'
  | some n =>
    rw [hn] at h'
    have h2 : (if n ≤ m then some (f.set n) else none) = some g := h'
    split at h2
    · exact ⟨n, of_numOf hn, by assumption, by cases h2; rfl⟩
    · cases h2
theorem read_id {c : UInt8} {f : NF} {t : List UInt8} {g : Ev → Ev} (h : (fId c f).read t = some g) : ∃ n, IsId c t n ∧ g = f.set n := by
  have h' : (idOf c t).map f.set = some g := h
  cases hn : idOf c t with
  | none => rw [hn] at h'; cases h'
  | some n => rw [hn] at h'; exact ⟨n, of_idOf hn, by cases h'; rfl⟩
theorem read_name {t : List UInt8} {g : Ev → Ev} (h : fName.read t = some g) : nameB (str t) = true ∧ g = fun e => { e with name := str t } := by
  have h' : (if nameB (str t) then some (fun e : Ev => { e with name := str t }) else none) = some g := h
  split at h'
  · exact ⟨by assumption, by cases h'; rfl⟩
  · cases h'
theorem read_word {t : List UInt8} {g : Ev → Ev} (h : fWord.read t = some g) : (nameB (str t) && !has (str t) 32) = true ∧ g = fun e => { e with name := str t } := by
  have h' : (if nameB (str t) && !has (str t) 32 then some (fun e : Ev => { e with name := str t }) else none) = some g := h
  split at h'
  · exact ⟨by assumption, by cases h'; rfl⟩
  · cases h'
theorem read_plan {f : PF} {t : List UInt8} {g : Ev → Ev} (h : (fPlan f).read t = some g) : planOk t = true ∧ g = f.set (str t) := by
  have h' : (if planOk t then some (f.set (str t)) else none) = some g := h
  split at h'
  · exact ⟨by assumption, by cases h'; rfl⟩
  · cases h'
theorem read_zoom {t : List UInt8} {g : Ev → Ev} (h : fZoom.read t = some g) : ∃ z : Bool, t = (if z then [90] else [45]) ∧ g = fun e => { e with zoom := z } := by
  have h' : (if t = [90] then some (fun e : Ev => { e with zoom := true }) else if t = [45] then some (fun e : Ev => { e with zoom := false }) else none) = some g := h
  split at h'
  · exact ⟨true, by assumption, by cases h'; rfl⟩
  · split at h'
    · exact ⟨false, by assumption, by cases h'; rfl⟩
    · cases h'
theorem read_colon {t : List UInt8} {g : Ev → Ev} (h : fColon.read t = some g) : t = [58] ∧ g = id := by
  have h' : (if t = [58] then some id else none) = some g := h
  split at h'
  · exact ⟨by assumption, by cases h'; rfl⟩
  · cases h'
theorem read_esc {lo hi : Nat} {t : List UInt8} {g : Ev → Ev} (h : (fEsc lo hi).read t = some g) : ∃ u, esc u = t ∧ lo ≤ u.length ∧ u.length ≤ hi ∧ g = fun e => { e with text := str u } := by
  have h' : (unesc t).bind (fun u => if lo ≤ u.length ∧ u.length ≤ hi then some (fun e : Ev => { e with text := str u }) else none) = some g := h
  cases hn : unesc t with
  | none => rw [hn] at h'; cases h'
  | some u =>
    rw [hn] at h'
    have h2 : (if lo ≤ u.length ∧ u.length ≤ hi then some (fun e : Ev => { e with text := str u }) else none) = some g := h'
    split at h2
    · rename_i hc
      exact ⟨u, of_unesc hn, hc.1, hc.2, by cases h2; rfl⟩
    · cases h2
theorem read_body {t : List UInt8} {g : Ev → Ev} (h : fBody.read t = some g) : ∃ u, escB u = t ∧ g = fun e => { e with text := str u } := by
  have h' : (unescB t).map (fun u e => { e with text := str u }) = some g := h
  cases hn : unescB t with
  | none => rw [hn] at h'; cases h'
  | some u => rw [hn] at h'; exact ⟨u, of_unescB hn, by cases h'; rfl⟩
theorem put_esc {lo hi : Nat} {u : List UInt8} (hh : u.length ≤ hi) (e : Ev) : (fEsc lo hi).put { e with text := str u } = esc u := by
  show (if hi < (str u).size then [] else esc (str u).data.toList) = _
  rw [str_size, if_neg (by omega), str_data]
theorem read_reason {t : List UInt8} {g : Ev → Ev} (h : fReason.read t = some g) : (t = [] ∧ g = id) ∨ ∃ r, t = 32 :: r ∧ (fEsc 1 1024).read r = some g := by
  cases t with
  | nil => exact .inl ⟨rfl, by cases h; rfl⟩
  | cons c r =>
    have h' : (if c = 32 then (fEsc 1 1024).read r else none) = some g := h
    split at h'
    · rename_i hc; exact .inr ⟨r, by rw [hc], h'⟩
    · cases h'

theorem good_num (m : Int) (f : NF) : Good (fNum m f) := ⟨fun t g e h _ => by
    obtain ⟨n, hn, _, rfl⟩ := read_num h
    show putL (f.get (f.set n e)) = t
    rw [get_set]
    exact hn.2, fun t g e h => by obtain ⟨n, hn, _, rfl⟩ := read_num h; cases f <;> rfl⟩
theorem good_id (c : UInt8) (f : NF) : Good (fId c f) := ⟨fun t g e h _ => by
    obtain ⟨n, ⟨r, rfl, hn, h1⟩, rfl⟩ := read_id h
    show putI c (f.get (f.set n e)) = _
    rw [get_set]
    unfold putI
    rw [if_pos ⟨h1, hn.1.2⟩, hn.2], fun t g e h => by obtain ⟨n, _, rfl⟩ := read_id h; cases f <;> rfl⟩
theorem good_name : Good fName := ⟨fun t g e h _ => by obtain ⟨_, rfl⟩ := read_name h; rfl, fun t g e h => by obtain ⟨_, rfl⟩ := read_name h; rfl⟩
theorem good_word : Good fWord := ⟨fun t g e h _ => by obtain ⟨_, rfl⟩ := read_word h; rfl, fun t g e h => by obtain ⟨_, rfl⟩ := read_word h; rfl⟩
theorem good_plan (f : PF) : Good (fPlan f) := ⟨fun t g e h _ => by
    obtain ⟨_, rfl⟩ := read_plan h
    show (f.get (f.set (str t) e)).data.toList = t
    rw [pget_set]
    rfl, fun t g e h => by obtain ⟨_, rfl⟩ := read_plan h; cases f <;> rfl⟩
theorem good_zoom : Good fZoom := ⟨fun t g e h _ => by obtain ⟨z, rfl, rfl⟩ := read_zoom h; rfl, fun t g e h => by obtain ⟨z, _, rfl⟩ := read_zoom h; rfl⟩
theorem good_colon : Good fColon := ⟨fun t g e h _ => by obtain ⟨rfl, rfl⟩ := read_colon h; rfl, fun t g e h => by obtain ⟨_, rfl⟩ := read_colon h; rfl⟩
theorem good_esc (lo hi : Nat) : Good (fEsc lo hi) := ⟨fun t g e h _ => by
    obtain ⟨u, rfl, _, hh, rfl⟩ := read_esc h
    exact put_esc hh e, fun t g e h => by obtain ⟨u, _, _, _, rfl⟩ := read_esc h; rfl⟩
theorem good_body : Good fBody := ⟨fun t g e h _ => by obtain ⟨u, rfl, rfl⟩ := read_body h; rfl, fun t g e h => by obtain ⟨u, _, rfl⟩ := read_body h; rfl⟩
theorem good_reason : Good fReason := ⟨fun t g e h h0 => by
    rcases read_reason h with ⟨rfl, rfl⟩ | ⟨r, rfl, hr⟩
    · show (if e.text.size = 0 then [] else _) = _
      rw [if_pos h0]
    · obtain ⟨u, rfl, hl, hh, rfl⟩ := read_esc hr
      have hp := put_esc (lo := 1) hh e
      show (if (str u).size = 0 then [] else 32 :: (fEsc 1 1024).put { e with text := str u }) = _
      rw [hp, str_size, if_neg (by omega)], fun t g e h => by
    rcases read_reason h with ⟨_, rfl⟩ | ⟨r, _, hr⟩
    · rfl
    · obtain ⟨u, _, _, _, rfl⟩ := read_esc hr; rfl⟩

theorem nt_num (m : Int) (f : NF) : NoText (fNum m f) := fun t g e h => by obtain ⟨n, _, _, rfl⟩ := read_num h; cases f <;> rfl
theorem nt_id (c : UInt8) (f : NF) : NoText (fId c f) := fun t g e h => by obtain ⟨n, _, rfl⟩ := read_id h; cases f <;> rfl
theorem nt_name : NoText fName := fun t g e h => by obtain ⟨_, rfl⟩ := read_name h; rfl
theorem nt_word : NoText fWord := fun t g e h => by obtain ⟨_, rfl⟩ := read_word h; rfl
theorem nt_plan (f : PF) : NoText (fPlan f) := fun t g e h => by obtain ⟨_, rfl⟩ := read_plan h; cases f <;> rfl
theorem nt_zoom : NoText fZoom := fun t g e h => by obtain ⟨z, _, rfl⟩ := read_zoom h; rfl
theorem nt_colon : NoText fColon := fun t g e h => by obtain ⟨_, rfl⟩ := read_colon h; rfl

/-- A row whose fields are good, each free of those behind it; all but the last leave the text alone. -/
inductive GoodRow : List FSpec → Prop where
  | one (F) : Good F → GoodRow [F]
  | more (F G l) : Good F → NoText F → (∀ H ∈ G :: l, Free F H) → GoodRow (G :: l) → GoodRow (F :: G :: l)

theorem readAll_cons {F : FSpec} {fs : List FSpec} {t : List UInt8} {ts : List (List UInt8)} {e0 e : Ev} (h : readAll (F :: fs) (t :: ts) e0 = some e) : ∃ g, F.read t = some g ∧ readAll fs ts (g e0) = some e := by
  have h' : (F.read t).bind (fun g => readAll fs ts (g e0)) = some e := h
  cases hg : F.read t with
  | none => rw [hg] at h'; cases h'
  | some g => rw [hg] at h'; exact ⟨g, rfl, h'⟩

theorem readAll_free {F : FSpec} : ∀ (fs : List FSpec) (ts : List (List UInt8)) (e0 e : Ev), (∀ H ∈ fs, Free F H) → readAll fs ts e0 = some e → F.put e = F.put e0
  | [], [], e0, e, _, h => by cases h; rfl
  | [], t :: ts, e0, e, _, h => by cases h
  | G :: fs, [], e0, e, _, h => by cases h; rfl
  | G :: fs, t :: ts, e0, e, hf, h => by
    obtain ⟨g, hg, h2⟩ := readAll_cons h
    rw [readAll_free fs ts (g e0) e (fun H hH => hf H (List.mem_cons_of_mem _ hH)) h2]
    exact hf G List.mem_cons_self t g e0 hg

theorem row_back {fs : List FSpec} (hr : GoodRow fs) : ∀ (ts : List (List UInt8)) (e0 e : Ev), ts.length = fs.length → e0.text.size = 0 → readAll fs ts e0 = some e → fs.map (·.put e) = ts ∧ e.kind = e0.kind := by
  induction hr with
  | one F hF =>
    intro ts e0 e hl h0 h
    match ts, hl with
    | [t], _ =>
      obtain ⟨g, hg, h2⟩ := readAll_cons h
      cases h2
      exact ⟨by simp [hF.back t g e0 hg h0], hF.kind t g e0 hg⟩
  | more F G l hF hN hfree hrest ih =>
    intro ts e0 e hl h0 h
    match ts, hl with
    | t :: ts, hl =>
      obtain ⟨g, hg, h2⟩ := readAll_cons h
      have h3 := ih ts (g e0) e (by simpa using hl) (by rw [hN t g e0 hg]; exact h0) h2
      have h4 := readAll_free (G :: l) ts (g e0) e hfree h2
      refine ⟨?_, h3.2.trans (hF.kind t g e0 hg)⟩
      rw [List.map_cons, h3.1, h4, hF.back t g e0 hg h0]

theorem drop_split : ∀ l : List UInt8, (32 : UInt8) ∈ l → l.dropWhile (· != 32) = 32 :: (l.dropWhile (· != 32)).drop 1
  | [], h => by cases h
  | c :: l, h => by
    by_cases hc : c = 32
    · subst hc
      rw [List.dropWhile_cons_of_neg (by simp)]
      rfl
    · rw [List.dropWhile_cons_of_pos (by simpa using hc)]
      exact drop_split l ((List.mem_cons.1 h).resolve_left fun e => hc e.symm)

theorem joinW_cutK : ∀ (k : Nat) (l : List UInt8), joinW (cutK k l) = l
  | 0, l => by simp [cutK, joinW, List.intercalate]
  | k + 1, l => by
    unfold cutK
    split
    · rename_i hm
      have ih := joinW_cutK k ((l.dropWhile (· != 32)).drop 1)
      have hne : cutK k ((l.dropWhile (· != 32)).drop 1) ≠ [] := by
        cases k with
        | zero => simp [cutK]
        | succ k => unfold cutK; split <;> simp
      have hd := drop_split l hm
      obtain ⟨a, r, har⟩ := List.exists_cons_of_ne_nil hne
      have e : joinW (l.takeWhile (· != 32) :: cutK k ((l.dropWhile (· != 32)).drop 1)) = l.takeWhile (· != 32) ++ 32 :: joinW (cutK k ((l.dropWhile (· != 32)).drop 1)) := by
        rw [har]
        simp [joinW, List.intercalate]
      rw [e, ih, ← hd, List.takeWhile_append_dropWhile]
    · simp [joinW, List.intercalate]

theorem goodRow (k : Nat) (h1 : 1 ≤ k) (h2 : k ≤ 24) : GoodRow (fieldsOf k) := by
  rcases (show k = 1 ∨ k = 2 ∨ k = 3 ∨ k = 4 ∨ k = 5 ∨ k = 6 ∨ k = 7 ∨ k = 8 ∨ k = 9 ∨ k = 10 ∨ k = 11 ∨ k = 12 ∨ k = 13 ∨ k = 14 ∨ k = 15 ∨ k = 16 ∨ k = 17 ∨ k = 18 ∨ k = 19 ∨ k = 20 ∨ k = 21 ∨ k = 22 ∨ k = 23 ∨ k = 24 by omega) with rfl | rfl | rfl | rfl | rfl | rfl | rfl | rfl | rfl | rfl | rfl | rfl | rfl | rfl | rfl | rfl | rfl | rfl | rfl | rfl | rfl | rfl | rfl | rfl
  all_goals unfold fieldsOf
  all_goals repeat' first
    | exact GoodRow.one _ (good_num _ _)
    | exact GoodRow.one _ (good_id _ _)
    | exact GoodRow.one _ good_name
    | exact GoodRow.one _ good_zoom
    | exact GoodRow.one _ (good_esc _ _)
    | exact GoodRow.one _ good_body
    | exact GoodRow.one _ good_reason
    | refine GoodRow.more _ _ _ (good_num _ _) (nt_num _ _) ?_ ?_
    | refine GoodRow.more _ _ _ (good_id _ _) (nt_id _ _) ?_ ?_
    | refine GoodRow.more _ _ _ good_word nt_word ?_ ?_
    | refine GoodRow.more _ _ _ (good_plan _) (nt_plan _) ?_ ?_
    | refine GoodRow.more _ _ _ good_colon nt_colon ?_ ?_
  all_goals
    intro H hH
    simp only [List.mem_cons, List.not_mem_nil, or_false] at hH
    rcases hH with rfl | rfl | rfl | rfl | rfl | rfl
  all_goals
    intro t g e h
    first
      | (obtain ⟨n, _, _, rfl⟩ := read_num h; rfl)
      | (obtain ⟨n, _, rfl⟩ := read_id h; rfl)
      | (obtain ⟨_, rfl⟩ := read_name h; rfl)
      | (obtain ⟨_, rfl⟩ := read_plan h; rfl)
      | (obtain ⟨z, _, rfl⟩ := read_zoom h; rfl)
      | (obtain ⟨_, rfl⟩ := read_colon h; rfl)
      | (obtain ⟨u, _, _, _, rfl⟩ := read_esc h; rfl)

/-- What is read is written back. -/
theorem write_read {k : Nat} (h1 : 1 ≤ k) (h2 : k ≤ 24) {l : List UInt8} {e : Ev} (h : readS k l = some e) : writeS k e = l ∧ e.kind = k := by
  have hp := readS_head h
  unfold readS at h
  rw [if_pos hp] at h
  have h' : (if (cutK ((fieldsOf k).length - 1) (l.drop (headOf k).length)).length < (fieldsOf k).length then none else readAll (fieldsOf k) (cutK ((fieldsOf k).length - 1) (l.drop (headOf k).length)) (Ev.zero k)) = some e := h
  split at h'
  · cases h'
  · rename_i hlen
    have hn := (fields_len k h1 h2).1
    have hle := cutK_length ((fieldsOf k).length - 1) (l.drop (headOf k).length)
    obtain ⟨h3, h4⟩ := row_back (goodRow k h1 h2) _ _ _ (by omega) rfl h'
    refine ⟨?_, h4⟩
    unfold writeS
    rw [h3, joinW_cutK]
    obtain ⟨r, rfl⟩ := hp
    rw [List.drop_left]

theorem enc_dec (l : List UInt8) : decS l = badEv l ∨ (encS (decS l) = some l ∧ 1 ≤ (decS l).kind ∧ (decS l).kind ≤ 24) := by
  have hp := kindS_pos l
  by_cases h : kindS l = 25
  · left
    unfold decS
    rw [if_pos h]
    rfl
  · cases hr : readS (kindS l) l with
    | none =>
      left
      unfold decS
      rw [if_neg h, hr]
      rfl
    | some e =>
      right
      have hd : decS l = e := by unfold decS; rw [if_neg h, hr]; rfl
      obtain ⟨hw, hk⟩ := write_read hp.1 (by omega) hr
      rw [hd]
      refine ⟨?_, by omega, by omega⟩
      rw [encS_yes e (kindS l) hk hp.1 (by omega) (by rw [hw]; exact hr), hw]

theorem enc_bad (l : List UInt8) : encS (badEv l) = none := encS_out _ (by show ¬ ((0 : Int) < 25 ∧ (25 : Int) < 25); omega)

end Go.Proofs.YtplolaondmeccaaGreatDoor
