/-
  Encode and Decode are each other's inverse: of the plain functions alone.
-/
import Derived.Test.YtplolaondmeccaaGreatDoorWEnc
import Derived.Test.YtplolaondmeccaaGreatDoorWDec
namespace Go.Proofs.YtplolaondmeccaaGreatDoor
open Go.RowKit
set_option linter.unusedVariables false

/-- No body begins with a percent sign. -/
theorem escB_head (t : List UInt8) : ¬ [37] <+: escB t := by
  rintro ⟨r, h⟩
  cases t with
  | nil => cases h
  | cons c t =>
    by_cases hc : c = 37
    · have e : escB (c :: t) = code 37 ++ esc t := by subst hc; rfl
      rw [e] at h
      cases h
    · have e : escB (c :: t) = esc1 c ++ esc t := by show (if c = 37 then _ else _) = _; rw [if_neg hc]; rfl
      rw [e] at h
      unfold esc1 at h
      split at h
      · cases h
      · have h' : (37 : UInt8) :: r = c :: esc t := h
        exact hc (List.cons.inj h').1.symm

set_option maxRecDepth 100000 in
theorem heads_apart : ∀ j, j < 25 → ∀ k, k < 25 → j ≠ k → (headOf j).isPrefixOf (headOf k) = true → (headOf j).isEmpty = true := by decide
theorem heads_sign : ∀ k, k < 25 → (headOf k).isEmpty = true ∨ [37].isPrefixOf (headOf k) = true := by decide

theorem prefix_two {a b l : List UInt8} (h1 : a <+: l) (h2 : b <+: l) : a <+: b ∨ b <+: a := List.prefix_or_prefix_of_prefix h1 h2

theorem kindS_head (l : List UInt8) (k : Nat) (h2 : k < 25) (hn : (headOf k).isEmpty = false) (hp : headOf k <+: l) : kindS l = k := by
  have hs : [37] <+: l := by
    rcases heads_sign k h2 with h | h
    · rw [h] at hn; cases hn
    · exact (List.isPrefixOf_iff_prefix.1 h).trans hp
  have hf : (List.range 25).find? (fun k => !(headOf k).isEmpty && (headOf k).isPrefixOf l) = some k := by
    rw [List.find?_range_eq_some]
    refine ⟨by rw [hn, List.isPrefixOf_iff_prefix.2 hp]; rfl, List.mem_range.2 h2, fun j hj => ?_⟩
    cases he : (headOf j).isEmpty
    · cases hq : (headOf j).isPrefixOf l
      · rfl
      · have hj' := List.isPrefixOf_iff_prefix.1 hq
        rcases prefix_two hj' hp with h | h
        · have := heads_apart j (by omega) k h2 (by omega) (List.isPrefixOf_iff_prefix.2 h)
          rw [he] at this
          cases this
        · have := heads_apart k h2 j (by omega) (by omega) (List.isPrefixOf_iff_prefix.2 h)
          rw [hn] at this
          cases this
    · rfl
  unfold kindS
  rw [if_pos hs, hf]
  rfl

theorem heads_some' : ∀ k, k < 25 → 1 ≤ k → k ≠ 4 → (headOf k).isEmpty = false := by decide
theorem heads_some (k : Nat) (h1 : 1 ≤ k) (h2 : k ≤ 24) (h4 : k ≠ 4) : (headOf k).isEmpty = false := heads_some' k (by omega) h1 h4

theorem readS_head {k : Nat} {l : List UInt8} {e : Ev} (h : readS k l = some e) : headOf k <+: l := by
  unfold readS at h
  split at h
  · assumption
  · cases h

theorem readS_body {l : List UInt8} {e : Ev} (h : readS 4 l = some e) : ∃ t, escB t = l ∧ e = { Ev.zero 4 with text := str t } := by
  have h1 : readS 4 l = (fBody.read l).bind fun g => some (g (Ev.zero 4)) := by
    unfold readS
    rw [if_pos (show headOf 4 <+: l from List.nil_prefix)]
    rfl
  rw [h1] at h
  cases hu : unescB l with
  | none =>
    have : fBody.read l = none := by show (unescB l).map _ = none; rw [hu]; rfl
    rw [this] at h
    cases h
  | some t =>
    have : fBody.read l = some (fun e => { e with text := str t }) := by show (unescB l).map _ = _; rw [hu]; rfl
    rw [this] at h
    exact ⟨t, of_unescB hu, by cases h; rfl⟩

/-- The kind of a line that a row reads is the row's. -/
theorem kindS_of_read {k : Nat} {l : List UInt8} {e : Ev} (h1 : 1 ≤ k) (h2 : k ≤ 24) (h : readS k l = some e) : kindS l = k := by
  by_cases h4 : k = 4
  · subst h4
    obtain ⟨t, ht, _⟩ := readS_body h
    unfold kindS
    rw [if_neg]
    rw [← ht]
    exact escB_head t
  · exact kindS_head l k (by omega) (heads_some k h1 h2 h4) (readS_head h)

theorem decS_of_read {k : Nat} {l : List UInt8} {e : Ev} (h1 : 1 ≤ k) (h2 : k ≤ 24) (h : readS k l = some e) : decS l = e := by
  have hk := kindS_of_read h1 h2 h
  unfold decS
  rw [hk, if_neg (by omega), h]
  rfl

theorem encS_cases (e : Ev) : encS e = none ∨ ∃ k : Nat, 1 ≤ k ∧ k ≤ 24 ∧ e.kind = k ∧ readS k (writeS k e) = some e ∧ encS e = some (writeS k e) := by
  unfold encS
  split
  · rename_i h
    exact .inr ⟨e.kind.toNat, by omega, by omega, by omega, h.2.2, rfl⟩
  · exact .inl rfl

/-- What is written is read back. -/
theorem dec_enc {e : Ev} {l : List UInt8} (h : encS e = some l) : decS l = e := by
  rcases encS_cases e with h0 | ⟨k, h1, h2, _, h3, h4⟩
  · rw [h0] at h; cases h
  · rw [h4] at h
    cases h
    exact decS_of_read h1 h2 h3

end Go.Proofs.YtplolaondmeccaaGreatDoor
