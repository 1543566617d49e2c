/-
  The document's way of writing an event, by plain functions: letters; nothing of the dump.
-/
import Derived.Test.YtlgkdnmhoboinaaGreatDoorWInv
namespace Go.Proofs.YtlgkdnmhoboinaaGreatDoor
open Go.RowKit
set_option linter.unusedVariables false

/-- A field with what is written of it, if it may be, and what is kept of an event. -/
structure Lt where
  F : FSpec
  T : Ev → Option (List UInt8)
  K : Ev → Ev → Ev

structure Lt.Ok (L : Lt) : Prop where
  yes : ∀ e t, L.T e = some t → L.F.put e = t ∧ L.F.read t = some (L.K e)
  no : ∀ e g a, L.F.read (L.F.put e) = some g → g a = e → L.T e ≠ none
/-- What is written has no blank; and what is read back was written. -/
structure Lt.Tight (L : Lt) : Prop where
  nb : ∀ e t, L.T e = some t → ¬ (32 : UInt8) ∈ t
  no : ∀ e g, L.F.read (L.F.put e) = some g → L.T e ≠ none

def putA : List Lt → Ev → Option (List (List UInt8))
  | [], _ => some []
  | L :: ls, e => match L.T e with
    | none => none
    | some t => (putA ls e).map (t :: ·)
def keepAll : List Lt → Ev → Ev → Ev
  | [], _, a => a
  | L :: ls, e, a => keepAll ls e (L.K e a)

theorem putA_cons {L : Lt} {ls : List Lt} {e : Ev} {ts : List (List UInt8)} (h : putA (L :: ls) e = some ts) : ∃ t r, L.T e = some t ∧ putA ls e = some r ∧ ts = t :: r := by
  unfold putA at h
  split at h
  · cases h
  · rename_i t ht
    cases hp : putA ls e with
    | none => rw [hp] at h; cases h
    | some r => rw [hp] at h; exact ⟨t, r, ht, rfl, by cases h; rfl⟩

theorem putA_yes : ∀ (ls : List Lt) (e a : Ev) (ts : List (List UInt8)), (∀ L ∈ ls, L.Ok) → putA ls e = some ts →
    ls.map (·.F.put e) = ts ∧ readAll (ls.map (·.F)) ts a = some (keepAll ls e a)
  | [], e, a, ts, _, h => by cases h; exact ⟨rfl, rfl⟩
  | L :: ls, e, a, ts, hok, h => by
    obtain ⟨t, r, h1, h2, rfl⟩ := putA_cons h
    obtain ⟨y1, y2⟩ := (hok L List.mem_cons_self).yes e t h1
    obtain ⟨z1, z2⟩ := putA_yes ls e (L.K e a) r (fun x hx => hok x (List.mem_cons_of_mem _ hx)) h2
    refine ⟨by rw [List.map_cons, y1, z1], ?_⟩
    show (L.F.read t).bind (fun g => readAll (ls.map (·.F)) r (g a)) = _
    rw [y2]
    exact z2

/-- All but the last write no blank. -/
inductive TightRow : List Lt → Prop where
  | one (L) : TightRow [L]
  | more (L M l) : L.Tight → TightRow (M :: l) → TightRow (L :: M :: l)

theorem putA_no {ls : List Lt} (hr : TightRow ls) : (∀ L ∈ ls, L.Ok) → ∀ (e a : Ev), readAll (ls.map (·.F)) (ls.map (·.F.put e)) a = some e → putA ls e ≠ none := by
  induction hr with
  | one L =>
    intro hok e a h
    obtain ⟨g, h1, h2⟩ := readAll_cons h
    have h3 := (hok L List.mem_cons_self).no e g a h1 (Option.some.inj h2)
    intro k
    unfold putA at k
    split at k
    · exact h3 (by assumption)
    · cases k
  | more L M l hL _ ih =>
    intro hok e a h
    obtain ⟨g, h1, h2⟩ := readAll_cons h
    have h3 := hL.no e g h1
    have h4 := ih (fun x hx => hok x (List.mem_cons_of_mem _ hx)) e (g a) h2
    intro k
    unfold putA at k
    split at k
    · exact h3 (by assumption)
    · exact h4 (Option.map_eq_none_iff.1 k)

theorem nb_all {a : List UInt8} (h : ¬ (32 : UInt8) ∈ a) : ∀ x ∈ a, (x != 32) = true := fun x hx => by
  rw [bne_iff_ne]
  rintro rfl
  exact h hx
theorem cutK_join (a r : List UInt8) (k : Nat) (h : ¬ (32 : UInt8) ∈ a) : cutK (k + 1) (a ++ 32 :: r) = a :: cutK k r := by
  have h1 : (a ++ 32 :: r).takeWhile (· != 32) = a := by
    rw [List.takeWhile_append_of_pos (nb_all h)]
    simp
  have h2 : (a ++ 32 :: r).dropWhile (· != 32) = 32 :: r := by
    rw [List.dropWhile_append_of_pos (nb_all h)]
    simp
  show (if 32 ∈ a ++ 32 :: r then _ else _) = _
  rw [if_pos (by simp), h1, h2]
  rfl

theorem joinW_one' (a : List UInt8) : joinW [a] = a := by simp [joinW, List.intercalate]
theorem joinW_more (a b : List UInt8) (r : List (List UInt8)) : joinW (a :: b :: r) = a ++ 32 :: joinW (b :: r) := by simp [joinW, List.intercalate]

theorem cut_joinW : ∀ (ts : List (List UInt8)) (n : Nat), ts.length = n + 1 → (∀ t ∈ ts.dropLast, ¬ (32 : UInt8) ∈ t) → cutK n (joinW ts) = ts
  | [], n, h, _ => by simp at h
  | [t], n, h, _ => by
    have : n = 0 := by simpa using h.symm
    subst this
    rw [joinW_one']
    rfl
  | t :: u :: r, n, h, hb => by
    obtain ⟨m, rfl⟩ : ∃ m, n = m + 1 := ⟨r.length, by simp at h; omega⟩
    rw [joinW_more, cutK_join _ _ _ (hb t (by simp)), cut_joinW (u :: r) m (by simp at h ⊢; omega) (fun x hx => hb x (by simp at hx ⊢; exact .inr hx))]

theorem putA_tight {ls : List Lt} (h : TightRow ls) : ∀ (e : Ev) (ts : List (List UInt8)), putA ls e = some ts → ts.length = ls.length ∧ ∀ t ∈ ts.dropLast, ¬ (32 : UInt8) ∈ t := by
  induction h with
  | one L =>
    intro e ts h
    obtain ⟨t, r, _, h2, rfl⟩ := putA_cons h
    cases h2
    exact ⟨rfl, fun t ht => absurd ht (by simp)⟩
  | more L M l hL _ ih =>
    intro e ts h
    obtain ⟨t, r, h1, h2, rfl⟩ := putA_cons h
    obtain ⟨a, b⟩ := ih e r h2
    refine ⟨by simp [a], ?_⟩
    obtain ⟨x, xs, rfl⟩ : ∃ x xs, r = x :: xs := by
      cases r with
      | nil => simp at a
      | cons x xs => exact ⟨x, xs, rfl⟩
    intro u hu
    rw [List.dropLast_cons_cons] at hu
    rcases List.mem_cons.1 hu with rfl | hu
    · exact hL.nb e _ h1
    · exact b u hu

/-- The line of an event by a row of letters. -/
theorem encS_by (k : Nat) (h1 : 1 ≤ k) (h2 : k ≤ 24) (ls : List Lt) (hf : fieldsOf k = ls.map (·.F)) (hok : ∀ L ∈ ls, L.Ok) (ht : TightRow ls) (e : Ev) (hk : e.kind = k) :
    ((keepAll ls e (Ev.zero k) = e → encS e = (putA ls e).map (headOf k ++ joinW ·)) ∧ (keepAll ls e (Ev.zero k) ≠ e → encS e = none)) := by
  have hlen : (fieldsOf k).length = ls.length := by rw [hf, List.length_map]
  have hpos : 1 ≤ ls.length := by cases ht <;> simp
  cases hp : putA ls e with
  | some ts =>
    obtain ⟨a1, a2⟩ := putA_yes ls e (Ev.zero k) ts hok hp
    obtain ⟨b1, b2⟩ := putA_tight ht e ts hp
    have hw : writeS k e = headOf k ++ joinW ts := by
      unfold writeS
      rw [hf, List.map_map, ← a1]
      rfl
    have hr : readS k (writeS k e) = some (keepAll ls e (Ev.zero k)) := by
      rw [hw]
      unfold readS
      rw [if_pos (List.prefix_append _ _), List.drop_left]
      show (if (cutK ((fieldsOf k).length - 1) (joinW ts)).length < (fieldsOf k).length then none else readAll (fieldsOf k) (cutK ((fieldsOf k).length - 1) (joinW ts)) (Ev.zero k)) = _
      rw [cut_joinW ts _ (by omega) b2, if_neg (by omega), hf, a2]
    refine ⟨fun h => ?_, fun h => ?_⟩
    · rw [encS_yes e k hk h1 h2 (by rw [hr, h]), hw]
      rfl
    · exact encS_no e k hk (by rw [hr]; exact fun x => h (Option.some.inj x))
  | none =>
    have hn : encS e = none := by
      refine encS_no e k hk fun hr => ?_
      have hp' := readS_head hr
      unfold readS at hr
      rw [if_pos hp'] at hr
      have h' : (if (cutK ((fieldsOf k).length - 1) ((writeS k e).drop (headOf k).length)).length < (fieldsOf k).length then none else readAll (fieldsOf k) (cutK ((fieldsOf k).length - 1) ((writeS k e).drop (headOf k).length)) (Ev.zero k)) = some e := hr
      split at h'
      · cases h'
      · have hn := (fields_len k h1 h2).1
        have hle := cutK_length ((fieldsOf k).length - 1) ((writeS k e).drop (headOf k).length)
        obtain ⟨h3, _⟩ := row_back (goodRow k h1 h2) _ _ _ (by omega) rfl h'
        rw [← h3, hf, List.map_map] at h'
        exact putA_no ht hok e _ h' hp
    exact ⟨fun _ => hn, fun _ => hn⟩

end Go.Proofs.YtlgkdnmhoboinaaGreatDoor
