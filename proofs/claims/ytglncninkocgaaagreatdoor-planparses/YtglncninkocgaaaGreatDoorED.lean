/-
  Plans: Parse of every text, by one plain function; a text that is read is the text of what was read: the statement, walked.
-/
import Derived.Test.YtglncninkocgaaaGreatDoorEC
import Derived.Test.YtglncninkocgaaaGreatDoorCZB
namespace Go.Proofs.YtglncninkocgaaaGreatDoor
open Go.RowKit
set_option linter.unusedVariables false
set_option maxRecDepth 100000

/-- What a text is parsed as. -/
def parseF (s : List UInt8) : List CellV × Int :=
  if 2048 < s.length then ([], 2)
  else if headB s = false then ([], 50)
  else if s.take 5 ≠ headL (sumS (s.drop 5)) then ([], 51)
  else match bodyF (s.drop 5) with
    | none => ([], 50)
    | some t => match readF (t.tell 0) with
      | none => ([], 40)
      | some _ => (t.tell 0, 0)
mutual
theorem nums_kinds : ∀ (t : Tree), t.nums → t.kinds
  | .leaf _ _, _ => trivial
  | .split _ _ ts, h => ⟨h.2.2.1, numss_kinds ts h.2.2.2⟩
theorem numss_kinds : ∀ (ts : List Tree), numsAll ts → kindsAll ts
  | [], _ => trivial
  | t :: ts, h => ⟨nums_kinds t h.1, numss_kinds ts h.2⟩
end
theorem tell_inj {t u : Tree} (ht : t.kinds) (hu : u.kinds) (h : t.tell 0 = u.tell 0) : t = u := by
  have h1 := take_told t 0 [] ht (.inl rfl)
  have h2 := take_told u 0 [] hu (.inl rfl)
  rw [List.append_nil] at h1 h2
  rw [h, h2] at h1
  have := Option.some.inj h1
  exact (congrArg Prod.fst this).symm
/-- The ways of a text. -/
theorem parse_ways (s : List UInt8) :
    (2048 < s.length ∧ parseF s = ([], 2)) ∨ (s.length ≤ 2048 ∧ headB s = false ∧ parseF s = ([], 50)) ∨
    (s.length ≤ 2048 ∧ headB s = true ∧ s.take 5 ≠ headL (sumS (s.drop 5)) ∧ parseF s = ([], 51)) ∨
    (s.length ≤ 2048 ∧ headB s = true ∧ s.take 5 = headL (sumS (s.drop 5)) ∧ bodyF (s.drop 5) = none ∧ parseF s = ([], 50)) ∨
    (s.length ≤ 2048 ∧ headB s = true ∧ s.take 5 = headL (sumS (s.drop 5)) ∧ ∃ t, bodyF (s.drop 5) = some t ∧ readF (t.tell 0) = none ∧ parseF s = ([], 40)) ∨
    (s.length ≤ 2048 ∧ headB s = true ∧ s.take 5 = headL (sumS (s.drop 5)) ∧ ∃ t, bodyF (s.drop 5) = some t ∧ readF (t.tell 0) = some t ∧ s = planT t ∧ parseF s = (t.tell 0, 0)) := by
  unfold parseF
  by_cases h1 : 2048 < s.length
  · exact .inl ⟨h1, if_pos h1⟩
  rw [if_neg h1]
  have hl : s.length ≤ 2048 := by omega
  cases h2 : headB s with
  | false => exact .inr (.inl ⟨hl, rfl, if_pos rfl⟩)
  | true =>
    rw [if_neg (by simp)]
    by_cases h3 : s.take 5 = headL (sumS (s.drop 5))
    · rw [if_neg (by simpa using h3)]
      cases h4 : bodyF (s.drop 5) with
      | none => exact .inr (.inr (.inr (.inl ⟨hl, rfl, h3, rfl, rfl⟩)))
      | some t =>
        cases h5 : readF (t.tell 0) with
        | none => exact .inr (.inr (.inr (.inr (.inl ⟨hl, rfl, h3, t, rfl, h5, by simp only [h5]⟩))))
        | some u =>
          obtain ⟨e1, ht⟩ := bodyF_some h4
          have hu := readF_lay h5
          have htu : t = u := tell_inj (nums_kinds t ht) hu.kinds hu.tell.symm
          subst htu
          refine .inr (.inr (.inr (.inr (.inr ⟨hl, rfl, h3, t, rfl, h5, ?_, by simp only [h5]⟩))))
          unfold planT
          rw [← e1, ← h3, List.take_append_drop]
    · exact .inr (.inr (.inl ⟨hl, rfl, h3, if_pos h3⟩))

theorem parse_any (s : ByteArray) (w : World) (hN : NumV w) (hs : s.size ≤ 9223372036854775807) : Calls Tryz.prog 9 #[.string s] w fun e w' => ∃ sl, e = .returned (.tuple #[sl, .int .i64 (parseF s.data.toList).2]) ∧ CeOwns w' (w.heap.size + 2) sl (parseF s.data.toList).1 ∧ Below w.heap.size w w' := by
  have hlen : s.data.toList.length = s.size := Array.length_toList
  have nilCase : ∀ k, (Calls Tryz.prog 9 #[.string s] w fun e w' => e = .returned (.tuple #[.slice none 0 0, .int .i64 k]) ∧ Below w.heap.size w w') → parseF s.data.toList = ([], k) → Calls Tryz.prog 9 #[.string s] w fun e w' => ∃ sl, e = .returned (.tuple #[sl, .int .i64 (parseF s.data.toList).2]) ∧ CeOwns w' (w.heap.size + 2) sl (parseF s.data.toList).1 ∧ Below w.heap.size w w' := fun k h e => by
    rw [e]
    refine h.mono ?_
    rintro x w' ⟨rfl, hb⟩
    exact ⟨_, rfl, World.ownsRow_nil _ _ _ _, hb⟩
  rcases parse_ways s.data.toList with ⟨h1, h2⟩ | ⟨h1, h2, h3⟩ | ⟨h1, h2, h3, h4⟩ | ⟨h1, h2, h3, h4, h5⟩ | ⟨h1, h2, h3, t, h4, h5, h6⟩ | ⟨h1, h2, h3, t, h4, h5, h6, h7⟩
  · exact nilCase 2 (parse_long s w (by omega) hs) h2
  · exact nilCase 50 (parse_nohead s w (by omega) h2) h3
  · exact nilCase 51 (parse_nosum s w (by omega) h2 h3) h4
  · exact nilCase 50 (parse_give s w hN (by omega) h2 h3 h4) h5
  · exact nilCase 40 (parse_bad s w hN (by omega) h2 h3 t h4 h5) h6
  · rw [h7]
    have h := parse_lay h5 w hN
    rw [← h6, data_str] at h
    exact h

set_option maxHeartbeats 4000000 in
theorem planForth_walk (s : ByteArray) (w : World) (hN : NumV w) (hs : s.size ≤ 140737488351232) : Calls Tryz.prog 3 #[.string s] w fun e w' => e = .returned (.bool true) ∧ Below w.heap.size w w' := by
  have HP := hidden (parse_any s w hN (by omega))
  have HS : Hid (∀ X, Below w.heap.size w X → Calls Tryz.prog 10 #[] X fun e w' => e = .returned (.bool true) ∧ Below X.heap.size X w') := fun X hX => sure_true X (hN.below hX)
  have hw : (∃ k : Int, k ≠ 0 ∧ parseF s.data.toList = ([], k)) ∨ ∃ t : Tree, readF (t.tell 0) = some t ∧ s.data.toList = planT t ∧ parseF s.data.toList = (t.tell 0, 0) := by
    rcases parse_ways s.data.toList with ⟨_, h⟩ | ⟨_, _, h⟩ | ⟨_, _, _, h⟩ | ⟨_, _, _, _, h⟩ | ⟨_, _, _, t, _, _, h⟩ | ⟨_, _, _, t, _, h5, h6, h7⟩
    · exact .inl ⟨2, by decide, h⟩
    · exact .inl ⟨50, by decide, h⟩
    · exact .inl ⟨51, by decide, h⟩
    · exact .inl ⟨50, by decide, h⟩
    · exact .inl ⟨40, by decide, h⟩
    · exact .inr ⟨t, h5, h6, h7⟩
  rcases hw with ⟨k, hk, hp⟩ | ⟨t, h5, h6, h7⟩
  · rw [hp] at HP
    have hkb : (k != 0) = true := by simpa using hk
    clear hN hp hs
    go_enter Tryz.func3, Tryz.ntmps3
    go_wp2_with (first
      | (go_at_call 9; refine HP.out.mono ?_; rintro e w3 ⟨sl3, rfl, ho3, hb3⟩; obtain ⟨ra, rc, rfl⟩ := ho3.cellsIn.nil; have H3 := hidden hb3; clear ho3 hb3)
      | (go_at_call 10; refine (HS.out _ H3.out).mono ?_; rintro e w8 ⟨rfl, hb8⟩))
    all_goals go_ret
    exact ⟨rfl, below_step H3.out hb8⟩
  · rw [h7] at HP
    have hE : checkE (t.tell 0) = 0 := by unfold checkE; rw [h5]; rfl
    have hT : textF (t.tell 0) = planT t := by unfold textF; rw [h5]
    have hst : str (planT t) = s := by rw [← h6, data_str]
    have HT : Hid (∀ u X, Below w.heap.size w X → CellsIn X u (t.tell 0) → Calls Tryz.prog 11 #[u] X fun e w' => e = .returned (.tuple #[.string s, .int .i64 0]) ∧ Below X.heap.size X w') := fun u X hX hu => by
      have h := text_any u (t.tell 0) X hu (hN.below hX)
      rw [hT, hE, hst] at h
      exact h
    have HCk : Hid (∀ u X, CellsIn X u (t.tell 0) → Calls Tryz.prog 12 #[u] X fun e w' => e = .returned (.int .i64 0) ∧ Below X.heap.size X w') := fun u X hX => by
      have h := check_any u (t.tell 0) X hX
      rw [hE] at h
      exact h
    clear hN h5 h6 h7 hE hT hst hs
    go_enter Tryz.func3, Tryz.ntmps3
    go_wp2_with (first
      | (go_at_call 9; refine HP.out.mono ?_; rintro e w3 ⟨sl3, rfl, ho3, hb3⟩; obtain ⟨sa, sn, sc, rfl⟩ := ce_slice ho3; have HO3 := hidden ho3; have H3 := hidden hb3; clear ho3 hb3)
      | (go_at_call 11; refine (HT.out _ _ H3.out HO3.out.cellsIn).mono ?_; rintro e w4 ⟨rfl, hb4⟩; have HO4 := hidden (HO3.out.below hb4); have H4 := hidden (below_step H3.out hb4); clear hb4)
      | (go_at_call 12; refine (HCk.out _ _ HO4.out.cellsIn).mono ?_; rintro e w5 ⟨rfl, hb5⟩; have H5 := hidden (below_step H4.out hb5); clear hb5)
      | (go_at_call 10; refine (HS.out _ H5.out).mono ?_; rintro e w8 ⟨rfl, hb8⟩))
    all_goals go_ret
    exact ⟨rfl, below_step H5.out hb8⟩
end Go.Proofs.YtglncninkocgaaaGreatDoor
