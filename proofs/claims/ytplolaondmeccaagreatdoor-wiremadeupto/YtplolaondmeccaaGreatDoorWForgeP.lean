/-
  What bodies, outputs, values and messages are written as: of the plain functions alone.
-/
import Derived.Test.YtplolaondmeccaaGreatDoorWTotalW
namespace Go.Proofs.YtplolaondmeccaaGreatDoor
open Go.RowKit
set_option linter.unusedVariables false

def bodyEv (s : ByteArray) : Ev := { Ev.zero 4 with text := s }
def outEv (s : ByteArray) : Ev := { Ev.zero 5 with pane := 1, text := s }
def watchEv (s : ByteArray) : Ev := { Ev.zero 22 with name := ⟨#[119]⟩, session := 1, window := 1, pane := 1, text := s }
def msgEv (s : ByteArray) : Ev := { Ev.zero 23 with text := s }

/-- The line of what a row reads back. -/
theorem enc_kind {e : Ev} {l : List UInt8} (h : encS e = some l) : decS l = e := dec_enc h

theorem fits_one (k : Int) (s : ByteArray) (hs : s.size ≤ slim) : ({ Ev.zero k with text := s } : Ev).Fits := ⟨Nat.zero_le _, hs, Nat.zero_le _, Nat.zero_le _, fun f => by have := (fits_zero k).num f; cases f <;> exact this⟩
theorem body_fits (s : ByteArray) (hs : s.size ≤ slim) : (bodyEv s).Fits := fits_one 4 s hs
theorem msg_fits (s : ByteArray) (hs : s.size ≤ slim) : (msgEv s).Fits := fits_one 23 s hs
theorem out_get (f : NF) (s : ByteArray) : f.get (outEv s) = if f = .pane then 1 else 0 := by cases f <;> rfl
theorem watch_get (f : NF) (s : ByteArray) : f.get (watchEv s) = if f = .pane ∨ f = .session ∨ f = .window then 1 else 0 := by cases f <;> rfl
theorem out_fits (s : ByteArray) (hs : s.size ≤ slim) : (outEv s).Fits := ⟨Nat.zero_le _, hs, Nat.zero_le _, Nat.zero_le _, fun f => by rw [out_get]; split <;> decide⟩
theorem watch_fits (s : ByteArray) (hs : s.size ≤ slim) : (watchEv s).Fits := ⟨by show (⟨#[119]⟩ : ByteArray).size ≤ slim; decide, hs, Nat.zero_le _, Nat.zero_le _, fun f => by rw [watch_get]; split <;> decide⟩

theorem read_esc_yes (lo hi : Nat) (s : ByteArray) (h1 : lo ≤ s.size) (h2 : s.size ≤ hi) : (fEsc lo hi).read (esc s.data.toList) = some (fun e => { e with text := s }) := by
  show (unesc (esc s.data.toList)).bind _ = _
  rw [unesc_some rfl]
  show (if _ then _ else none) = _
  rw [if_pos (by rw [size_data]; exact ⟨h1, h2⟩), data_str]

theorem joinW_one (a : List UInt8) : joinW [a] = a := by simp [joinW, List.intercalate]

theorem body_enc (s : ByteArray) : encS (bodyEv s) = some (escB s.data.toList) := by
  have hw : writeS 4 (bodyEv s) = escB s.data.toList := by
    show headOf 4 ++ joinW [escB s.data.toList] = _
    rw [joinW_one]
    rfl
  have hr : readS 4 (escB s.data.toList) = some (bodyEv s) := by
    unfold readS
    rw [if_pos (show headOf 4 <+: _ from List.nil_prefix)]
    have e : fBody.read (escB s.data.toList) = some (fun e => { e with text := s }) := by
      show (unescB (escB s.data.toList)).map _ = _
      rw [unescB_some rfl]
      rfl
    show (fBody.read (escB s.data.toList)).bind (fun g => some (g (Ev.zero 4))) = _
    rw [e]
    rfl
  rw [encS_yes (bodyEv s) 4 rfl (by decide) (by decide) (by rw [hw]; exact hr), hw]

theorem msg_write (s : ByteArray) : writeS 23 (msgEv s) = headOf 23 ++ (fEsc 0 1024).put (msgEv s) := by
  show headOf 23 ++ joinW [(fEsc 0 1024).put (msgEv s)] = _
  rw [joinW_one]
theorem msg_enc_yes (s : ByteArray) (h : s.size ≤ 1024) : encS (msgEv s) = some (headOf 23 ++ esc s.data.toList) := by
  have hp : (fEsc 0 1024).put (msgEv s) = esc s.data.toList := if_neg (by show ¬ 1024 < s.size; omega)
  have hw : writeS 23 (msgEv s) = headOf 23 ++ esc s.data.toList := by rw [msg_write, hp]
  have hr : readS 23 (headOf 23 ++ esc s.data.toList) = some (msgEv s) := by
    unfold readS
    rw [if_pos (List.prefix_append _ _), List.drop_left]
    show ((fEsc 0 1024).read (esc s.data.toList)).bind (fun g => some (g (Ev.zero 23))) = _
    rw [read_esc_yes 0 1024 s (by omega) h]
    rfl
  rw [encS_yes (msgEv s) 23 rfl (by decide) (by decide) (by rw [hw]; exact hr), hw]
theorem text_big {lo hi k : Nat} {fs : List FSpec} {e : Ev} (hk : fieldsOf k = fs ++ [fEsc lo hi]) (h1 : 1 ≤ k) (h2 : k ≤ 24) (he : e.kind = k) (hb : ¬ (lo ≤ e.text.size ∧ e.text.size ≤ hi)) : encS e = none := by
  refine encS_no e k he fun h => ?_
  have hpre := readS_head h
  unfold readS at h
  rw [if_pos hpre] at h
  have h' : (if (cutK ((fieldsOf k).length - 1) ((writeS k e).drop (headOf k).length)).length < (fieldsOf k).length then none else readAll (fieldsOf k) (cutK ((fieldsOf k).length - 1) ((writeS k e).drop (headOf k).length)) (Ev.zero k)) = some e := h
  split at h'
  · cases h'
  · rename_i hl
    rw [hk] at h' hl
    have key : ∀ (fs : List FSpec) (ts : List (List UInt8)) (e0 e : Ev), ¬ ts.length < (fs ++ [fEsc lo hi]).length → readAll (fs ++ [fEsc lo hi]) ts e0 = some e → lo ≤ e.text.size ∧ e.text.size ≤ hi := by
      intro fs
      induction fs with
      | nil =>
        intro ts e0 e hl h
        match ts, hl with
        | [], hl => exact absurd (by simp) hl
        | t :: ts, _ =>
          obtain ⟨g, hg, h2⟩ := readAll_cons (fs := []) h
          obtain ⟨u, _, h3, h4, rfl⟩ := read_esc hg
          cases ts with
          | nil => cases h2; exact ⟨by show lo ≤ (str u).size; rw [str_size]; exact h3, by show (str u).size ≤ hi; rw [str_size]; exact h4⟩
          | cons t ts => cases h2
      | cons F fs ih =>
        intro ts e0 e hl h
        match ts, hl with
        | [], hl => exact absurd (by simp) hl
        | t :: ts, hl =>
          obtain ⟨g, hg, h2⟩ := readAll_cons (fs := fs ++ [fEsc lo hi]) h
          exact ih ts (g e0) e (by simpa using hl) h2
    exact hb (key fs _ _ e hl h')
theorem msg_enc_no (s : ByteArray) (h : ¬ s.size ≤ 1024) : encS (msgEv s) = none := text_big (lo := 0) (hi := 1024) (k := 23) (fs := []) rfl (by decide) (by decide) rfl (fun h' => h h'.2)
theorem out_enc_no (s : ByteArray) (h : ¬ (1 ≤ s.size ∧ s.size ≤ 256)) : encS (outEv s) = none := text_big (lo := 1) (hi := 256) (k := 5) (fs := [fId 37 .pane]) rfl (by decide) (by decide) rfl h
theorem watch_enc_no (s : ByteArray) (h : ¬ s.size ≤ 1024) : encS (watchEv s) = none := text_big (lo := 0) (hi := 1024) (k := 22) (fs := [fWord, fId 36 .session, fId 64 .window, fNum 9999 .index, fId 37 .pane, fColon]) rfl (by decide) (by decide) rfl (fun h' => h h'.2)

/-- A blank cuts a text. -/
theorem cutK_at (k : Nat) (a r : List UInt8) (h : ¬ (32 : UInt8) ∈ a) : cutK (k + 1) (a ++ 32 :: r) = a :: cutK k r := by
  have e0 : ∀ l : List UInt8, cutK (k + 1) l = if 32 ∈ l then l.takeWhile (· != 32) :: cutK k ((l.dropWhile (· != 32)).drop 1) else [l] := fun _ => rfl
  rw [e0, if_pos (by simp)]
  have h1 : ∀ x ∈ a, (x != 32) = true := fun x hx => by
    rw [bne_iff_ne]
    intro e
    exact h (e ▸ hx)
  rw [List.takeWhile_append_of_pos h1, List.dropWhile_append_of_pos h1, List.takeWhile_cons_of_neg (by simp), List.dropWhile_cons_of_neg (by simp), List.append_nil]
  rfl

def outL (s : ByteArray) : List UInt8 := headOf 5 ++ ([37, 49] ++ 32 :: esc s.data.toList)
theorem put_id_1 (c : UInt8) : putI c 1 = [c, 49] := by unfold putI; rw [if_pos (by decide), putL_1]
theorem out_enc_yes (s : ByteArray) (h1 : 1 ≤ s.size) (h2 : s.size ≤ 256) : encS (outEv s) = some (outL s) := by
  have hp : (fEsc 1 256).put (outEv s) = esc s.data.toList := if_neg (by show ¬ 256 < s.size; omega)
  have hw : writeS 5 (outEv s) = outL s := by
    show headOf 5 ++ joinW [putI 37 1, (fEsc 1 256).put (outEv s)] = _
    rw [hp, put_id_1]
    simp [joinW, List.intercalate, outL]
  have hi : (fId 37 .pane).read [37, 49] = some (NF.set .pane 1) := by
    show (idOf 37 [37, 49]).map _ = _
    rw [idOf_some (n := 1) ⟨[49], rfl, num_1, by decide⟩]
    rfl
  have hr : readS 5 (outL s) = some (outEv s) := by
    unfold readS outL
    rw [if_pos (List.prefix_append _ _), List.drop_left]
    show (if (cutK 1 ([37, 49] ++ 32 :: esc s.data.toList)).length < 2 then none else readAll [fId 37 .pane, fEsc 1 256] (cutK 1 ([37, 49] ++ 32 :: esc s.data.toList)) (Ev.zero 5)) = _
    rw [cutK_at 0 [37, 49] _ (by decide)]
    show ((fId 37 .pane).read [37, 49]).bind (fun g => ((fEsc 1 256).read (esc s.data.toList)).bind fun g' => some (g' (g (Ev.zero 5)))) = _
    rw [hi, read_esc_yes 1 256 s h1 h2]
    rfl
  rw [encS_yes (outEv s) 5 rfl (by decide) (by decide) (by rw [hw]; exact hr), hw]

def watchL (s : ByteArray) : List UInt8 := headOf 22 ++ ([119] ++ 32 :: ([36, 49] ++ 32 :: ([64, 49] ++ 32 :: ([48] ++ 32 :: ([37, 49] ++ 32 :: ([58] ++ 32 :: esc s.data.toList))))))
theorem putL_0 : putL 0 = [48] := by unfold putL; rw [if_pos (by decide)]; exact dec_small (by decide)
theorem watch_enc_yes (s : ByteArray) (h2 : s.size ≤ 1024) : encS (watchEv s) = some (watchL s) := by
  have hp : (fEsc 0 1024).put (watchEv s) = esc s.data.toList := if_neg (by show ¬ 1024 < s.size; omega)
  have hw : writeS 22 (watchEv s) = watchL s := by
    show headOf 22 ++ joinW [[119], putI 36 1, putI 64 1, putL 0, putI 37 1, [58], (fEsc 0 1024).put (watchEv s)] = _
    rw [hp, put_id_1, put_id_1, put_id_1, putL_0]
    simp [joinW, List.intercalate, watchL]
  have hid : ∀ (c : UInt8) (f : NF), (fId c f).read [c, 49] = some (NF.set f 1) := fun c f => by
    show (idOf c [c, 49]).map _ = _
    rw [idOf_some (n := 1) ⟨[49], rfl, num_1, by decide⟩]
    rfl
  have hn : (fNum 9999 .index).read [48] = some (NF.set .index 0) := by
    show (numOf [48]).bind _ = _
    rw [numOf_some (n := 0) ⟨by decide, putL_0⟩]
    rfl
  have hwd : fWord.read [119] = some (fun e => { e with name := str [119] }) := by
    show (if nameB (str [119]) && !has (str [119]) 32 then some (fun e : Ev => { e with name := str [119] }) else none) = _
    rw [if_pos (by decide)]
  have hc : fColon.read [58] = some id := by
    show (if ([58] : List UInt8) = [58] then some id else none) = _
    rw [if_pos rfl]
  have hcut : cutK 6 ([119] ++ 32 :: ([36, 49] ++ 32 :: ([64, 49] ++ 32 :: ([48] ++ 32 :: ([37, 49] ++ 32 :: ([58] ++ 32 :: esc s.data.toList)))))) = [[119], [36, 49], [64, 49], [48], [37, 49], [58], esc s.data.toList] := by
    rw [cutK_at 5 [119] _ (by decide), cutK_at 4 [36, 49] _ (by decide), cutK_at 3 [64, 49] _ (by decide), cutK_at 2 [48] _ (by decide), cutK_at 1 [37, 49] _ (by decide), cutK_at 0 [58] _ (by decide)]
    rfl
  have hr : readS 22 (watchL s) = some (watchEv s) := by
    unfold readS watchL
    rw [if_pos (List.prefix_append _ _), List.drop_left]
    show (if (cutK 6 _).length < 7 then none else readAll (fieldsOf 22) (cutK 6 _) (Ev.zero 22)) = _
    rw [hcut]
    show (fWord.read [119]).bind (fun g1 => ((fId 36 .session).read [36, 49]).bind fun g2 => ((fId 64 .window).read [64, 49]).bind fun g3 => ((fNum 9999 .index).read [48]).bind fun g4 => ((fId 37 .pane).read [37, 49]).bind fun g5 => (fColon.read [58]).bind fun g6 => ((fEsc 0 1024).read (esc s.data.toList)).bind fun g7 => some (g7 (g6 (g5 (g4 (g3 (g2 (g1 (Ev.zero 22))))))))) = _
    rw [hwd, hid, hid, hn, hid, hc, read_esc_yes 0 1024 s (by omega) h2]
    rfl
  rw [encS_yes (watchEv s) 22 rfl (by decide) (by decide) (by rw [hw]; exact hr), hw]

end Go.Proofs.YtplolaondmeccaaGreatDoor
