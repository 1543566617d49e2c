/-
  Plans: Parse of every text, by one plain function; a text that is read is the text of what was read: the statement, walked.
-/
import Derived.Test.YtglncninkocgaabGreatDoorEC
import Derived.Test.YtglncninkocgaabGreatDoorCZB
namespace Go.Proofs.YtglncninkocgaabGreatDoor
open Go.RowKit
set_option linter.unusedVariables false
set_option maxRecDepth 100000

/-- What a text is parsed as. -/
def parseF (s : List UInt8) : List CellV × Int :=
  if 2048 < s.length then ([], 2)
  else if headB s = false then ([], 50)
  else if s.take 5 ≠ headL (sumS (s.drop 5)) then ([], 51)
  else match bodyF (s.drop 5) with
    | none => ([], 50)
    | some t => match readF (t.tell 0) with
      | none => ([], 40)
      | some _ => (t.tell 0, 0)
mutual
theorem nums_kinds : ∀ (t : Tree), t.nums → t.kinds
  | .leaf _ _, _ => trivial
  | .split _ _ ts, h => ⟨h.2.2.1, numss_kinds ts h.2.2.2⟩
theorem numss_kinds : ∀ (ts : List Tree), numsAll ts → kindsAll ts
  | [], _ => trivial
  | t :: ts, h => ⟨nums_kinds t h.1, numss_kinds ts h.2⟩
end
theorem tell_inj {t u : Tree} (ht : t.kinds) (hu : u.kinds) (h : t.tell 0 = u.tell 0) : t = u := by
  have h1 := take_told t 0 [] ht (.inl rfl)
  have h2 := take_told u 0 [] hu (.inl rfl)
  rw [List.append_nil] at h1 h2
  rw [h, h2] at h1
  have := Option.some.inj h1
  exact (congrArg Prod.fst this).symm
/-- The ways of a text. -/
theorem parse_ways (s : List UInt8) :
    (2048 < s.length ∧ parseF s = ([], 2)) ∨ (s.length ≤ 2048 ∧ headB s = false ∧ parseF s = ([], 50)) ∨
    (s.length ≤ 2048 ∧ headB s = true ∧ s.take 5 ≠ headL (sumS (s.drop 5)) ∧ parseF s = ([], 51)) ∨
    (s.length ≤ 2048 ∧ headB s = true ∧ s.take 5 = headL (sumS (s.drop 5)) ∧ bodyF (s.drop 5) = none ∧ parseF s = ([], 50)) ∨
    (s.length ≤ 2048 ∧ headB s = true ∧ s.take 5 = headL (sumS (s.drop 5)) ∧ ∃ t, bodyF (s.drop 5) = some t ∧ readF (t.tell 0) = none ∧ parseF s = ([], 40)) ∨
    (s.length ≤ 2048 ∧ headB s = true ∧ s.take 5 = headL (sumS (s.drop 5)) ∧ ∃ t, bodyF (s.drop 5) = some t ∧ readF (t.tell 0) = some t ∧ s = planT t ∧ parseF s = (t.tell 0, 0)) := by
  unfold parseF
  by_cases h1 : 2048 < s.length
  · exact .inl ⟨h1, if_pos h1⟩
  rw [if_neg h1]
  have hl : s.length ≤ 2048 := by omega
  cases h2 : headB s with
  | false => exact .inr (.inl ⟨hl, rfl, if_pos rfl⟩)
  | true =>
    rw [if_neg (by simp)]
    by_cases h3 : s.take 5 = headL (sumS (s.drop 5))
    · rw [if_neg (by simpa using h3)]
      cases h4 : bodyF (s.drop 5) with
      | none => exact .inr (.inr (.inr (.inl ⟨hl, rfl, h3, rfl, rfl⟩)))
      | some t =>
        cases h5 : readF (t.tell 0) with
        | none => exact .inr (.inr (.inr (.inr (.inl ⟨hl, rfl, h3, t, rfl, h5, by simp only [h5]⟩))))
        | some u =>
          obtain ⟨e1, ht⟩ := bodyF_some h4
          have hu := readF_lay h5
          have htu : t = u := tell_inj (nums_kinds t ht) hu.kinds hu.tell.symm
          subst htu
          refine .inr (.inr (.inr (.inr (.inr ⟨hl, rfl, h3, t, rfl, h5, ?_, by simp only [h5]⟩))))
          unfold planT
          rw [← e1, ← h3, List.take_append_drop]
    · exact .inr (.inr (.inl ⟨hl, rfl, h3, if_pos h3⟩))

theorem parse_any (s : ByteArray) (w : World) (hN : NumV w) (hs : s.size ≤ 9223372036854775807) : Calls Tryz.prog 7 #[.string s] w fun e w' => ∃ sl, e = .returned (.tuple #[sl, .int .i64 (parseF s.data.toList).2]) ∧ CeOwns w' (w.heap.size + 2) sl (parseF s.data.toList).1 ∧ Below w.heap.size w w' := by
  have hlen : s.data.toList.length = s.size := Array.length_toList
  have nilCase : ∀ k, (Calls Tryz.prog 7 #[.string s] w fun e w' => e = .returned (.tuple #[.slice none 0 0, .int .i64 k]) ∧ Below w.heap.size w w') → parseF s.data.toList = ([], k) → Calls Tryz.prog 7 #[.string s] w fun e w' => ∃ sl, e = .returned (.tuple #[sl, .int .i64 (parseF s.data.toList).2]) ∧ CeOwns w' (w.heap.size + 2) sl (parseF s.data.toList).1 ∧ Below w.heap.size w w' := fun k h e => by
    rw [e]
    refine h.mono ?_
    rintro x w' ⟨rfl, hb⟩
    exact ⟨_, rfl, World.ownsRow_nil _ _ _ _, hb⟩
  rcases parse_ways s.data.toList with ⟨h1, h2⟩ | ⟨h1, h2, h3⟩ | ⟨h1, h2, h3, h4⟩ | ⟨h1, h2, h3, h4, h5⟩ | ⟨h1, h2, h3, t, h4, h5, h6⟩ | ⟨h1, h2, h3, t, h4, h5, h6, h7⟩
  · exact nilCase 2 (parse_long s w (by omega) hs) h2
  · exact nilCase 50 (parse_nohead s w (by omega) h2) h3
  · exact nilCase 51 (parse_nosum s w (by omega) h2 h3) h4
  · exact nilCase 50 (parse_give s w hN (by omega) h2 h3 h4) h5
  · exact nilCase 40 (parse_bad s w hN (by omega) h2 h3 t h4 h5) h6
  · rw [h7]
    have h := parse_lay h5 w hN
    rw [← h6, data_str] at h
    exact h

end Go.Proofs.YtglncninkocgaabGreatDoor
