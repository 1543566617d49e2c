/-
  The document's table, by plain functions: its rows write and read as the wire does.
-/
import Derived.Test.YtlgkdnmhoboinaaGreatDoorRLet
namespace Go.Proofs.YtlgkdnmhoboinaaGreatDoor
open Go.RowKit
set_option linter.unusedVariables false

/-- The letters; c stands for the colon alone. -/
inductive Ch where
  | qt | qn | qf | qo | qi | qs | qw | qp | qN | qW | qP | qV | qz | qd | qv | qm | qx | qc
  deriving DecidableEq
def Ch.byte : Ch → UInt8
  | .qt => 116 | .qn => 110 | .qf => 102 | .qo => 111 | .qi => 105 | .qs => 115 | .qw => 119 | .qp => 112 | .qN => 78 | .qW => 87 | .qP => 80 | .qV => 86
  | .qz => 122 | .qd => 100 | .qv => 118 | .qm => 109 | .qx => 120 | .qc => 0
noncomputable def Ch.T : Ch → Ev → Option (List UInt8)
  | .qt => (lNum maxN .tick).T | .qn => (lNum maxN .number).T | .qf => (lNum 1 .flag).T | .qo => (lNum maxN .offset).T | .qi => (lNum 9999 .index).T
  | .qs => (lId 36 .session).T | .qw => (lId 64 .window).T | .qp => (lId 37 .pane).T | .qN => lName.T | .qW => lWord.T | .qP => (lPlan .layout).T | .qV => (lPlan .visible).T
  | .qz => lZoom.T | .qd => (lEsc 1 256).T | .qv => fun e => ((lEsc 0 1024).T e).map (58 :: 32 :: ·) | .qm | .qx => (lEsc 0 1024).T | .qc => lColon.T
def Ch.K : Ch → Ev → Ev → Ev
  | .qt, e, a => { a with tick := e.tick } | .qn, e, a => { a with number := e.number } | .qf, e, a => { a with flag := e.flag } | .qo, e, a => { a with offset := e.offset }
  | .qi, e, a => { a with index := e.index } | .qs, e, a => { a with session := e.session } | .qw, e, a => { a with window := e.window } | .qp, e, a => { a with pane := e.pane }
  | .qN, e, a | .qW, e, a => { a with name := e.name } | .qP, e, a => { a with layout := e.layout } | .qV, e, a => { a with visible := e.visible } | .qz, e, a => { a with zoom := e.zoom }
  | .qd, e, a | .qv, e, a | .qm, e, a | .qx, e, a => { a with text := e.text } | .qc, _, a => a
noncomputable def Ch.rd : Ch → List UInt8 → Ev → Ev
  | .qt, l, e => { e with tick := (numOf l).getD 0 } | .qn, l, e => { e with number := (numOf l).getD 0 } | .qf, l, e => { e with flag := (numOf l).getD 0 }
  | .qo, l, e => { e with offset := (numOf l).getD 0 } | .qi, l, e => { e with index := (numOf l).getD 0 }
  | .qs, l, e => { e with session := (idOf 36 l).getD 0 } | .qw, l, e => { e with window := (idOf 64 l).getD 0 } | .qp, l, e => { e with pane := (idOf 37 l).getD 0 }
  | .qN, l, e | .qW, l, e => { e with name := str l } | .qP, l, e => { e with layout := str l } | .qV, l, e => { e with visible := str l } | .qz, l, e => { e with zoom := decide (l = [90]) }
  | .qv, l, e => if [58, 32] <+: l then { e with text := str ((unesc (l.drop 2)).getD []) } else e
  | .qd, l, e | .qm, l, e | .qx, l, e => { e with text := str ((unesc l).getD []) } | .qc, _, e => e

def chs : Nat → List Ch
  | 1 | 2 | 3 => [.qt, .qn, .qf] | 5 => [.qp, .qd] | 6 | 7 | 8 => [.qp, .qo] | 9 => [.qp] | 10 | 12 => [.qw, .qN] | 11 => [.qw] | 13 => [.qw, .qP, .qV, .qz] | 14 => [.qw, .qp]
  | 15 | 17 | 21 => [.qs, .qN] | 16 => [.qs] | 18 => [.qs, .qi, .qw] | 19 | 20 => [.qs, .qi] | 22 => [.qW, .qs, .qw, .qi, .qp, .qv] | 23 => [.qm] | 24 => [.qx] | _ => []
/-- The same, the colon being a thing of its own. -/
def chs' : Nat → List Ch
  | 22 => [.qW, .qs, .qw, .qi, .qp, .qc, .qm] | k => chs k
noncomputable def rowL : Nat → List Lt
  | 1 | 2 | 3 => [lNum maxN .tick, lNum maxN .number, lNum 1 .flag] | 4 => [lBody] | 5 => [lId 37 .pane, lEsc 1 256] | 6 | 7 | 8 => [lId 37 .pane, lNum maxN .offset] | 9 => [lId 37 .pane]
  | 10 | 12 => [lId 64 .window, lName] | 11 => [lId 64 .window] | 13 => [lId 64 .window, lPlan .layout, lPlan .visible, lZoom] | 14 => [lId 64 .window, lId 37 .pane]
  | 15 | 17 | 21 => [lId 36 .session, lName] | 16 => [lId 36 .session] | 18 => [lId 36 .session, lNum 9999 .index, lId 64 .window] | 19 | 20 => [lId 36 .session, lNum 9999 .index]
  | 22 => [lWord, lId 36 .session, lId 64 .window, lNum 9999 .index, lId 37 .pane, lColon, lEsc 0 1024] | 23 => [lEsc 0 1024] | 24 => [lReason] | _ => []

def wordOf (k : Nat) : List UInt8 := if k = 24 then headOf 24 else (headOf k).dropLast
/-- The kind of the row at a place of the table. -/
def kAt (i : Nat) : Nat := if i < 3 then i + 1 else i + 2

noncomputable def putsC : List Ch → Ev → Option (List UInt8)
  | [], _ => some []
  | c :: cs, e => match c.T e with
    | none => none
    | some t => (putsC cs e).map (32 :: t ++ ·)
def keepC : List Ch → Ev → Ev → Ev
  | [], _, a => a
  | c :: cs, e, a => keepC cs e (c.K e a)

theorem each_kind (P : Nat → Prop) (k : Nat) (h1 : 1 ≤ k) (h2 : k ≤ 24) (h : ∀ i, i < 24 → P (i + 1)) : P k := by
  have := h (k - 1) (by omega)
  rwa [show k - 1 + 1 = k by omega] at this

theorem mN : maxN ≤ 4611686018427387904 := Int.le_refl _
theorem rowL_ok (k : Nat) (h1 : 1 ≤ k) (h2 : k ≤ 24) : fieldsOf k = (rowL k).map (·.F) ∧ (∀ L ∈ rowL k, L.Ok) ∧ TightRow (rowL k) := by
  rcases (show k = 1 ∨ k = 2 ∨ k = 3 ∨ k = 4 ∨ k = 5 ∨ k = 6 ∨ k = 7 ∨ k = 8 ∨ k = 9 ∨ k = 10 ∨ k = 11 ∨ k = 12 ∨ k = 13 ∨ k = 14 ∨ k = 15 ∨ k = 16 ∨ k = 17 ∨ k = 18 ∨ k = 19 ∨ k = 20 ∨ k = 21 ∨ k = 22 ∨ k = 23 ∨ k = 24 by omega) with rfl | rfl | rfl | rfl | rfl | rfl | rfl | rfl | rfl | rfl | rfl | rfl | rfl | rfl | rfl | rfl | rfl | rfl | rfl | rfl | rfl | rfl | rfl | rfl
  all_goals refine ⟨rfl, ?_, ?_⟩
  all_goals unfold rowL
  all_goals first
    | (intro L hL
       simp only [List.mem_cons, List.not_mem_nil, or_false] at hL
       rcases hL with rfl | rfl | rfl | rfl | rfl | rfl | rfl
       all_goals first | exact ok_num _ mN _ | exact ok_num _ (by decide) _ | exact ok_id _ _ | exact ok_name | exact ok_word | exact ok_plan _ | exact ok_zoom | exact ok_colon | exact ok_esc _ _ | exact ok_body | exact ok_reason)
    | (repeat' first
        | exact TightRow.one _
        | refine TightRow.more _ _ _ (tight_num _ mN _) ?_
        | refine TightRow.more _ _ _ (tight_num _ (by decide) _) ?_
        | refine TightRow.more _ _ _ (tight_id _ (by decide) _) ?_
        | refine TightRow.more _ _ _ tight_word ?_
        | refine TightRow.more _ _ _ (tight_plan _) ?_
        | refine TightRow.more _ _ _ tight_colon ?_)

theorem putA_putsC : ∀ (ls : List Lt) (cs : List Ch) (e : Ev), ls.map (·.T e) = cs.map (·.T e) → ls ≠ [] → (putA ls e).map (32 :: joinW ·) = putsC cs e
  | [], _, _, _, h => absurd rfl h
  | L :: ls, [], _, h, _ => by cases h
  | [L], c :: cs, e, h, _ => by
    rw [List.map_cons, List.map_cons] at h
    obtain ⟨h1, h2⟩ := List.cons.inj h
    have h3 : cs = [] := by cases cs with | nil => rfl | cons _ _ => cases h2
    subst h3
    unfold putA putsC
    rw [show L.T e = c.T e from h1]
    cases c.T e with
    | none => rfl
    | some t =>
      show some (32 :: joinW [t]) = some (32 :: t ++ [])
      rw [joinW_one', List.append_nil]
  | L :: M :: ls, c :: cs, e, h, _ => by
    rw [List.map_cons, List.map_cons] at h
    obtain ⟨h1, h2⟩ := List.cons.inj h
    have ih := putA_putsC (M :: ls) cs e h2 (by simp)
    show Option.map (32 :: joinW ·) (match L.T e with | none => none | some t => (putA (M :: ls) e).map (t :: ·)) = (match c.T e with | none => none | some t => (putsC cs e).map (32 :: t ++ ·))
    rw [show L.T e = c.T e from h1, ← ih]
    cases c.T e with
    | none => rfl
    | some t =>
      cases hp : putA (M :: ls) e with
      | none => rfl
      | some ts =>
        obtain ⟨u, r, _, _, rfl⟩ := putA_cons hp
        show some (32 :: joinW (t :: u :: r)) = some (32 :: t ++ (32 :: joinW (u :: r)))
        rw [joinW_more]
        rfl

theorem putsC_colon (e : Ev) : ∀ cs : List Ch, putsC (cs ++ [.qc, .qm]) e = putsC (cs ++ [.qv]) e
  | [] => by
    show (match Ch.qc.T e with | none => none | some t => (match Ch.qm.T e with | none => none | some t => (some []).map (32 :: t ++ ·)).map (32 :: t ++ ·)) = (match Ch.qv.T e with | none => none | some t => (some []).map (32 :: t ++ ·))
    show (match (lEsc 0 1024).T e with | none => none | some t => (some []).map (32 :: t ++ ·)).map (32 :: [58] ++ ·) = (match ((lEsc 0 1024).T e).map (58 :: 32 :: ·) with | none => none | some t => (some []).map (32 :: t ++ ·))
    cases (lEsc 0 1024).T e <;> rfl
  | c :: cs => by
    show (match c.T e with | none => none | some t => (putsC (cs ++ [Ch.qc, Ch.qm]) e).map (32 :: t ++ ·)) = (match c.T e with | none => none | some t => (putsC (cs ++ [Ch.qv]) e).map (32 :: t ++ ·))
    rw [putsC_colon e cs]

theorem chs_two (k : Nat) (e : Ev) (h2 : k ≤ 24) : putsC (chs' k) e = putsC (chs k) e := by
  by_cases h : k = 22
  · subst h
    exact putsC_colon e [.qW, .qs, .qw, .qi, .qp]
  · have : chs' k = chs k := by unfold chs'; split <;> first | rfl | exact absurd rfl h
    rw [this]

theorem rowL_T (k : Nat) (h1 : 1 ≤ k) (h2 : k ≤ 23) (h4 : k ≠ 4) (e : Ev) : (rowL k).map (·.T e) = (chs' k).map (·.T e) ∧ rowL k ≠ [] ∧ headOf k = wordOf k ++ [32] ∧ keepAll (rowL k) e (Ev.zero k) = keepC (chs k) e (Ev.zero k) := by
  rcases (show k = 1 ∨ k = 2 ∨ k = 3 ∨ k = 5 ∨ k = 6 ∨ k = 7 ∨ k = 8 ∨ k = 9 ∨ k = 10 ∨ k = 11 ∨ k = 12 ∨ k = 13 ∨ k = 14 ∨ k = 15 ∨ k = 16 ∨ k = 17 ∨ k = 18 ∨ k = 19 ∨ k = 20 ∨ k = 21 ∨ k = 22 ∨ k = 23 by omega) with rfl | rfl | rfl | rfl | rfl | rfl | rfl | rfl | rfl | rfl | rfl | rfl | rfl | rfl | rfl | rfl | rfl | rfl | rfl | rfl | rfl | rfl
  all_goals exact ⟨rfl, (fun h => by cases h), rfl, rfl⟩

/-- The line by the document's row. -/
noncomputable def rowS (k : Nat) (e : Ev) : Option (List UInt8) :=
  if k = 24 ∧ e.text.size = 0 then some (wordOf 24) else (putsC (chs k) e).map (wordOf k ++ ·)

theorem empty_text {s : ByteArray} (h : s.size = 0) : s = ⟨#[]⟩ := by
  have : s.data.toList = [] := List.eq_nil_of_length_eq_zero (by rw [size_data]; exact h)
  rw [← strBack s, this]
  rfl

theorem enc_row (k : Nat) (h1 : 1 ≤ k) (h2 : k ≤ 24) (h4 : k ≠ 4) (e : Ev) (hk : e.kind = k) :
    (keepC (chs k) e (Ev.zero k) = e → encS e = rowS k e) ∧ (keepC (chs k) e (Ev.zero k) ≠ e → encS e = none) := by
  obtain ⟨r1, r2, r3⟩ := rowL_ok k h1 h2
  obtain ⟨a1, a2⟩ := encS_by k h1 h2 (rowL k) r1 r2 r3 e hk
  by_cases h24 : k = 24
  · subst h24
    have hke : keepAll (rowL 24) e (Ev.zero (24 : Nat)) = keepC (chs 24) e (Ev.zero (24 : Nat)) := by
      show (if e.text.size = 0 then Ev.zero (24 : Nat) else { Ev.zero (24 : Nat) with text := e.text }) = { Ev.zero (24 : Nat) with text := e.text }
      split
      · rename_i h0
        rw [empty_text h0]
        rfl
      · rfl
    rw [hke] at a1 a2
    refine ⟨fun h => ?_, a2⟩
    rw [a1 h]
    unfold rowS
    by_cases h0 : e.text.size = 0
    · rw [if_pos ⟨rfl, h0⟩]
      have : putA (rowL 24) e = some [[]] := by
        show (match lReason.T e with | none => none | some t => some [t]) = _
        have : lReason.T e = some [] := if_pos h0
        rw [this]
      rw [this]
      rfl
    · rw [if_neg (fun h => h0 h.2)]
      have hT : lReason.T e = if e.text.size ≤ 1024 then some (32 :: esc e.text.data.toList) else none := if_neg h0
      have hM : (lEsc 0 1024).T e = if e.text.size ≤ 1024 then some (esc e.text.data.toList) else none := by
        show (if 0 ≤ e.text.size ∧ e.text.size ≤ 1024 then _ else _) = _
        by_cases hc : e.text.size ≤ 1024
        · rw [if_pos ⟨Nat.zero_le _, hc⟩, if_pos hc]
        · rw [if_neg (fun h => hc h.2), if_neg hc]
      show Option.map (headOf 24 ++ joinW ·) (match lReason.T e with | none => none | some t => some [t]) = Option.map (headOf 24 ++ ·) (match (lEsc 0 1024).T e with | none => none | some t => some (32 :: t ++ []))
      rw [hT, hM]
      split
      · rename_i heq
        split at heq
        · cases heq
        · rename_i hc
          rw [if_neg hc]
          rfl
      · rename_i t heq
        split at heq
        · rename_i hc
          cases heq
          rw [if_pos hc]
          show some (headOf 24 ++ joinW [32 :: esc e.text.data.toList]) = some (headOf 24 ++ (32 :: esc e.text.data.toList ++ []))
          rw [joinW_one', List.append_nil]
        · cases heq
  · obtain ⟨b1, b2, b3, b4⟩ := rowL_T k h1 (by omega) h4 e
    rw [b4] at a1 a2
    refine ⟨fun h => ?_, a2⟩
    rw [a1 h]
    unfold rowS
    rw [if_neg (fun h => h24 h.1), ← chs_two k e h2, ← putA_putsC (rowL k) (chs' k) e b1 b2, b3]
    cases putA (rowL k) e with
    | none => rfl
    | some ts =>
      show some (wordOf k ++ [32] ++ joinW ts) = some (wordOf k ++ (32 :: joinW ts))
      simp

/-- An answer's line. -/
theorem enc_body (e : Ev) (hk : e.kind = 4) : ({ Ev.zero 4 with text := e.text } = e → encS e = some (escB e.text.data.toList)) ∧ ({ Ev.zero 4 with text := e.text } ≠ e → encS e = none) := by
  obtain ⟨r1, r2, r3⟩ := rowL_ok 4 (by decide) (by decide)
  obtain ⟨a1, a2⟩ := encS_by 4 (by decide) (by decide) (rowL 4) r1 r2 r3 e hk
  refine ⟨fun h => ?_, fun h => a2 h⟩
  rw [a1 h]
  show some (headOf 4 ++ joinW [escB e.text.data.toList]) = _
  rw [joinW_one']
  rfl

end Go.Proofs.YtlgkdnmhoboinaaGreatDoor
