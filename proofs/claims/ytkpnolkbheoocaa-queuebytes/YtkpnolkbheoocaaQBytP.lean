/-
  One call, and the bytes that went in and came out.
-/
import Derived.Test.YtkpnolkbheoocaaQTake
namespace Go.Proofs.Ytkpnolkbheoocaa
open Go.RowKit
set_option linter.unusedVariables false

theorem lay_open {q : Qs} {bound E : Int} {ls : List (List UInt8)} (hE : E ≠ 0) (h : layE q bound E ls = 0) : q.cl = false := by
  unfold layE at h
  split at h
  · omega
  split at h
  · omega
  rename_i h2
  simpa using h2
theorem lay_bytes {q : Qs} {bound E : Int} (p : Int × Int) {ls : List (List UInt8)} (h : layE q bound E ls = 0) : (layQ q bound E p ls).bs = q.bs ++ flatF ls := by
  unfold layQ
  rw [if_pos h]
  rfl

structure Byt (q : Qs) (o : OpD) : Prop where
  good : errQ q o = 0 → drnQ q o ++ (stepQ q o).bs = q.bs ++ flatF (takesL o)
  bad : ¬ errQ q o = 0 → drnQ q o = [] ∧ stepQ q o = q
  cl : errQ q o = 0 → (stepQ q o).cl = (q.cl || decide (o.k = 3))
  over : errQ q o = 0 → (o.k = 0 ∨ o.k = 1 ∨ o.k = 2 ∨ o.k = 3) → q.cl = false ∧ drnQ q o = []
  none : ¬ (o.k = 0 ∨ o.k = 1 ∨ o.k = 2 ∨ o.k = 3) → takesL o = []

theorem byt (q : Qs) (o : OpD) : Byt q o := by
  by_cases h0 : o.k = 0
  · have e1 : errQ q o = layE q ((q.lim : Int) + 32768) 140 [o.line] := by unfold errQ; rw [if_pos h0]; rfl
    have e2 : stepQ q o = layQ q ((q.lim : Int) + 32768) 140 (0, 0) [o.line] := by unfold stepQ; rw [if_pos h0]; rfl
    have e3 : takesL o = [o.line] := by unfold takesL; rw [if_pos (.inl h0)]
    have e4 : drnQ q o = [] := by unfold drnQ; rw [if_pos h0]
    have e5 : decide (o.k = 3) = false := by rw [h0]; rfl
    exact ⟨fun h => by rw [e1] at h; rw [e4, e2, e3, List.nil_append, lay_bytes _ h], fun h => by rw [e1] at h; exact ⟨e4, by rw [e2, lay_stays _ _ _ _ _ h]⟩, fun h => by rw [e5, e2, lay_cl, Bool.or_false], fun h _ => by rw [e1] at h; exact ⟨lay_open (by decide) h, e4⟩, fun h => absurd (.inl h0) h⟩
  by_cases h1 : o.k = 1
  · have e1 : errQ q o = layE q ((q.lim : Int) + 32768) 140 o.lines := by unfold errQ; rw [if_neg h0, if_pos h1]; rfl
    have e2 : stepQ q o = layQ q ((q.lim : Int) + 32768) 140 (0, 0) o.lines := by unfold stepQ; rw [if_neg h0, if_pos h1]; rfl
    have e3 : takesL o = o.lines := by unfold takesL; rw [if_neg (by omega), if_pos (.inl h1)]
    have e4 : drnQ q o = [] := by unfold drnQ; rw [if_neg h0, if_pos h1]
    have e5 : decide (o.k = 3) = false := by rw [h1]; rfl
    exact ⟨fun h => by rw [e1] at h; rw [e4, e2, e3, List.nil_append, lay_bytes _ h], fun h => by rw [e1] at h; exact ⟨e4, by rw [e2, lay_stays _ _ _ _ _ h]⟩, fun h => by rw [e5, e2, lay_cl, Bool.or_false], fun h _ => by rw [e1] at h; exact ⟨lay_open (by decide) h, e4⟩, fun h => absurd (.inr (.inl h1)) h⟩
  by_cases h2 : o.k = 2
  · have e3 : takesL o = o.lines := by unfold takesL; rw [if_neg (by omega), if_pos (.inr h2)]
    have e4 : drnQ q o = [] := by unfold drnQ; rw [if_neg h0, if_neg h1, if_pos h2]
    have e5 : decide (o.k = 3) = false := by rw [h2]; rfl
    by_cases hp : o.pane < 1 ∨ o.pane > 4611686018427387904 ∨ o.tick < 0
    · have e1 : errQ q o = 1 := by unfold errQ outE; rw [if_neg h0, if_neg h1, if_pos h2, if_pos hp]
      have e2 : stepQ q o = q := by unfold stepQ outQ; rw [if_neg h0, if_neg h1, if_pos h2, if_pos hp]
      have ne : ¬ errQ q o = 0 := by rw [e1]; decide
      exact ⟨fun h => absurd h ne, fun _ => ⟨e4, e2⟩, fun h => absurd h ne, fun h => absurd h ne, fun h => absurd (.inr (.inr (.inl h2))) h⟩
    · have e1 : errQ q o = layE q (q.lim : Int) 3 o.lines := by unfold errQ outE; rw [if_neg h0, if_neg h1, if_pos h2, if_neg hp]
      have e2 : stepQ q o = layQ q (q.lim : Int) 3 (o.pane, o.tick) o.lines := by unfold stepQ outQ; rw [if_neg h0, if_neg h1, if_pos h2, if_neg hp]
      exact ⟨fun h => by rw [e1] at h; rw [e4, e2, e3, List.nil_append, lay_bytes _ h], fun h => by rw [e1] at h; exact ⟨e4, by rw [e2, lay_stays _ _ _ _ _ h]⟩, fun h => by rw [e5, e2, lay_cl, Bool.or_false], fun h _ => by rw [e1] at h; exact ⟨lay_open (by decide) h, e4⟩, fun h => absurd (.inr (.inr (.inl h2))) h⟩
  by_cases h3 : o.k = 3
  · have e1 : errQ q o = endE q o.line := by unfold errQ; rw [if_neg h0, if_neg h1, if_neg h2, if_pos h3]
    have e2 : stepQ q o = endQ q o.line := by unfold stepQ; rw [if_neg h0, if_neg h1, if_neg h2, if_pos h3]
    have e3 : takesL o = [o.line] := by unfold takesL; rw [if_pos (.inr h3)]
    have e4 : drnQ q o = [] := by unfold drnQ; rw [if_neg h0, if_neg h1, if_neg h2, if_pos h3]
    have e5 : decide (o.k = 3) = true := by rw [h3]; rfl
    have e6 : endE q o.line = 0 → q.cl = false := fun h => by
      unfold endE at h
      split at h
      · omega
      split at h
      · omega
      rename_i h2
      simpa using h2
    refine ⟨fun h => ?_, fun h => ?_, fun h => ?_, fun h _ => ?_, fun h => absurd (.inr (.inr (.inr h3))) h⟩
    · rw [e1] at h
      rw [e4, e2, e3]
      unfold endQ
      rw [if_pos h]
      simp [flatF]
    · rw [e1] at h
      refine ⟨e4, ?_⟩
      rw [e2]
      unfold endQ
      rw [if_neg h]
    · rw [e1] at h
      rw [e5, e2, Bool.or_true]
      unfold endQ
      rw [if_pos h]
    · rw [e1] at h
      exact ⟨e6 h, e4⟩
  · have e1 : errQ q o = 0 := by unfold errQ; rw [if_neg h0, if_neg h1, if_neg h2, if_neg h3]
    have e2 : stepQ q o = drainQ q o.n.toNat := by unfold stepQ; rw [if_neg h0, if_neg h1, if_neg h2, if_neg h3]
    have e3 : takesL o = [] := by unfold takesL; rw [if_neg (by omega), if_neg (by omega)]
    have e4 : drnQ q o = q.bs.take o.n.toNat := by unfold drnQ; rw [if_neg h0, if_neg h1, if_neg h2, if_neg h3]
    have e5 : decide (o.k = 3) = false := decide_eq_false h3
    refine ⟨fun _ => ?_, fun h => absurd e1 h, fun _ => ?_, fun _ h => by omega, fun _ => e3⟩
    · rw [e4, e2, e3]
      show q.bs.take _ ++ q.bs.drop _ = _
      rw [List.take_append_drop]
      simp [flatF]
    · rw [e5, e2, Bool.or_false]
      rfl

/-- What the loop knows: what went in is what came out and what waits. -/
structure Flow (q : Qs) (ain aout : List UInt8) (k : Nat) : Prop where
  sum : ain = aout ++ q.bs
  few : ain.length ≤ k * 106497
theorem Flow.good {q : Qs} {o : OpD} {ain aout : List UInt8} {k : Nat} (h : Flow q ain aout k) (he : errQ q o = 0) (hq : q.Ok) (hok : (stepQ q o).Ok) : Flow (stepQ q o) (ain ++ flatF (takesL o)) (aout ++ drnQ q o) (k + 1) := by
  have b := byt q o
  have hg := b.good he
  refine ⟨?_, ?_⟩
  · rw [h.sum, List.append_assoc, List.append_assoc, hg]
  · have hf := hok.few
    have hs : (flatF (takesL o)).length ≤ 106497 := by
      by_cases hk : o.k = 0 ∨ o.k = 1 ∨ o.k = 2 ∨ o.k = 3
      · rw [(b.over he hk).2, List.nil_append] at hg
        have := congrArg List.length hg
        rw [List.length_append] at this
        omega
      · rw [b.none hk]
        simp [flatF]
    have := h.few
    rw [List.length_append, Nat.add_one_mul]
    omega
theorem Flow.bad {q : Qs} {o : OpD} {ain aout : List UInt8} {k : Nat} (h : Flow q ain aout k) (he : ¬ errQ q o = 0) : Flow (stepQ q o) ain (aout ++ drnQ q o) (k + 1) := by
  obtain ⟨e1, e2⟩ := (byt q o).bad he
  rw [e1, e2, List.append_nil]
  exact ⟨h.sum, Nat.le_trans h.few (Nat.mul_le_mul_right _ (Nat.le_succ k))⟩

end Go.Proofs.Ytkpnolkbheoocaa
