/-
  What a call lays, and the bounds.
-/
import Derived.Test.YtkpnolkbheoocaaQCall
namespace Go.Proofs.Ytkpnolkbheoocaa
open Go.RowKit
set_option linter.unusedVariables false

/-- What a call lays, if it is answered with OK. -/
def takesL (o : OpD) : List (List UInt8) := if o.k = 0 ∨ o.k = 3 then [o.line] else if o.k = 1 ∨ o.k = 2 then o.lines else []
theorem lay_size (q : Qs) (bound E : Int) (p : Int × Int) (ls : List (List UInt8)) (h : layE q bound E ls = 0) : (layQ q bound E p ls).bs.length = q.bs.length + sumF ls := by
  unfold layQ
  rw [if_pos h]
  simp [layF, flat_len]
theorem lay_stays (q : Qs) (bound E : Int) (p : Int × Int) (ls : List (List UInt8)) (h : ¬ layE q bound E ls = 0) : layQ q bound E p ls = q := by
  unfold layQ
  rw [if_neg h]
theorem lay_code (q : Qs) (bound E : Int) (ls : List (List UInt8)) : layE q bound E ls = 0 ∨ layE q bound E ls = 1 ∨ layE q bound E ls = 141 ∨ (layE q bound E ls = E ∧ bound < (q.bs.length : Int) + (sumF ls : Int)) := by
  unfold layE
  split
  · exact .inr (.inl rfl)
  split
  · exact .inr (.inr (.inl rfl))
  split
  · exact .inl rfl
  split
  · exact .inr (.inr (.inr ⟨rfl, by omega⟩))
  · exact .inl rfl
theorem lay_within (q : Qs) (bound E : Int) (ls : List (List UInt8)) (hE : E ≠ 0) (h : layE q bound E ls = 0) (hn : 0 < sumF ls) : (q.bs.length : Int) + (sumF ls : Int) ≤ bound := by
  unfold layE at h
  split at h
  · omega
  split at h
  · omega
  split at h
  · omega
  split at h
  · omega
  · omega

/-- One call and the bounds. -/
structure Bnd (q : Qs) (o : OpD) : Prop where
  full : errQ q o = 3 → (q.lim : Int) < (q.bs.length : Int) + (sumF (takesL o) : Int)
  spare : errQ q o = 140 → (q.lim : Int) + 32768 < (q.bs.length : Int) + (sumF (takesL o) : Int)
  stays : ¬ errQ q o = 0 → (stepQ q o).bs.length = q.bs.length
  out : errQ q o = 0 → o.k = 2 → 0 < sumF (takesL o) → ((stepQ q o).bs.length : Int) ≤ q.lim
  lim : (stepQ q o).lim = q.lim
  laid : (errQ q o = 0 ∨ errQ q o = 3 ∨ errQ q o = 140) → linesB (takesL o) = true ∨ takesL o = []
  ends : errQ q o = 0 → o.k = 3 → q.cl = false ∧ (stepQ q o).bs.length = q.bs.length + sumF (takesL o)
  shut : ¬ (errQ q o = 0 ∧ o.k = 3) → (q.cl = false ∧ (stepQ q o).cl = false) ∨ (stepQ q o).bs.length ≤ q.bs.length
theorem lay_lim (q : Qs) (bound E : Int) (p : Int × Int) (ls : List (List UInt8)) : (layQ q bound E p ls).lim = q.lim := by
  unfold layQ
  split <;> rfl
theorem lay_cl (q : Qs) (bound E : Int) (p : Int × Int) (ls : List (List UInt8)) : (layQ q bound E p ls).cl = q.cl := by
  unfold layQ
  split <;> rfl
theorem lay_lines (q : Qs) (bound E : Int) (ls : List (List UInt8)) (hE : E ≠ 1) (h : ¬ layE q bound E ls = 1) : linesB ls = true := by
  unfold layE at h
  split at h
  · exact absurd rfl h
  · rename_i h1
    simpa using h1
theorem lay_shut (q : Qs) (bound E : Int) (p : Int × Int) (ls : List (List UInt8)) : (q.cl = false ∧ (layQ q bound E p ls).cl = false) ∨ (layQ q bound E p ls).bs.length ≤ q.bs.length := by
  cases hc : q.cl with
  | false => exact .inl ⟨rfl, (lay_cl q bound E p ls).trans hc⟩
  | true =>
    have hne : ¬ layE q bound E ls = 0 := by
      unfold layE
      split
      · omega
      · decide
    rw [lay_stays q bound E p ls hne]
    exact .inr (Nat.le_refl _)
theorem bnd (q : Qs) (o : OpD) : Bnd q o := by
  by_cases h0 : o.k = 0
  · have e1 : errQ q o = layE q ((q.lim : Int) + 32768) 140 [o.line] := by unfold errQ; rw [if_pos h0]; rfl
    have e2 : stepQ q o = layQ q ((q.lim : Int) + 32768) 140 (0, 0) [o.line] := by unfold stepQ; rw [if_pos h0]; rfl
    have e3 : takesL o = [o.line] := by unfold takesL; rw [if_pos (.inl h0)]
    have c := lay_code q ((q.lim : Int) + 32768) 140 [o.line]
    exact ⟨fun h => by rw [e1] at h; omega, fun h => by rw [e1] at h; rw [e3]; omega, fun h => by rw [e1] at h; rw [e2, lay_stays _ _ _ _ _ h], fun _ h => by omega, by rw [e2, lay_lim], fun h => by rw [e1] at h; rw [e3]; exact .inl (lay_lines q ((q.lim : Int) + 32768) 140 _ (by decide) (by rcases h with h | h | h <;> rw [h] <;> decide)), fun _ h => by omega, fun _ => by rw [e2]; exact lay_shut _ _ _ _ _⟩
  by_cases h1 : o.k = 1
  · have e1 : errQ q o = layE q ((q.lim : Int) + 32768) 140 o.lines := by unfold errQ; rw [if_neg h0, if_pos h1]; rfl
    have e2 : stepQ q o = layQ q ((q.lim : Int) + 32768) 140 (0, 0) o.lines := by unfold stepQ; rw [if_neg h0, if_pos h1]; rfl
    have e3 : takesL o = o.lines := by unfold takesL; rw [if_neg (by omega), if_pos (.inl h1)]
    have c := lay_code q ((q.lim : Int) + 32768) 140 o.lines
    exact ⟨fun h => by rw [e1] at h; omega, fun h => by rw [e1] at h; rw [e3]; omega, fun h => by rw [e1] at h; rw [e2, lay_stays _ _ _ _ _ h], fun _ h => by omega, by rw [e2, lay_lim], fun h => by rw [e1] at h; rw [e3]; exact .inl (lay_lines q ((q.lim : Int) + 32768) 140 _ (by decide) (by rcases h with h | h | h <;> rw [h] <;> decide)), fun _ h => by omega, fun _ => by rw [e2]; exact lay_shut _ _ _ _ _⟩
  by_cases h2 : o.k = 2
  · have e3 : takesL o = o.lines := by unfold takesL; rw [if_neg (by omega), if_pos (.inr h2)]
    by_cases hb : o.pane < 1 ∨ o.pane > 4611686018427387904 ∨ o.tick < 0
    · have e1 : errQ q o = 1 := by unfold errQ outE; rw [if_neg h0, if_neg h1, if_pos h2, if_pos hb]
      have e2 : stepQ q o = q := by unfold stepQ outQ; rw [if_neg h0, if_neg h1, if_pos h2, if_pos hb]
      exact ⟨fun h => by omega, fun h => by omega, fun _ => by rw [e2], fun h => by omega, by rw [e2], fun h => by omega, fun h => by omega, fun _ => .inr (by rw [e2]; exact Nat.le_refl _)⟩
    · have e1 : errQ q o = layE q (q.lim : Int) 3 o.lines := by unfold errQ outE; rw [if_neg h0, if_neg h1, if_pos h2, if_neg hb]
      have e2 : stepQ q o = layQ q (q.lim : Int) 3 (o.pane, o.tick) o.lines := by unfold stepQ outQ; rw [if_neg h0, if_neg h1, if_pos h2, if_neg hb]
      have c := lay_code q (q.lim : Int) 3 o.lines
      refine ⟨fun h => by rw [e1] at h; rw [e3]; omega, fun h => by rw [e1] at h; omega, fun h => by rw [e1] at h; rw [e2, lay_stays _ _ _ _ _ h], fun h _ hn => ?_, by rw [e2, lay_lim], fun h => by rw [e1] at h; rw [e3]; exact .inl (lay_lines q (q.lim : Int) 3 _ (by decide) (by rcases h with h | h | h <;> rw [h] <;> decide)), fun _ h => by omega, fun _ => by rw [e2]; exact lay_shut _ _ _ _ _⟩
      rw [e1] at h
      rw [e3] at hn
      have h5 := lay_within q _ 3 _ (by decide) h hn
      have h6 := lay_size q (q.lim : Int) 3 (o.pane, o.tick) o.lines h
      rw [e2, h6]
      omega
  by_cases h3 : o.k = 3
  · have e3 : takesL o = [o.line] := by unfold takesL; rw [if_pos (.inr h3)]
    have e1 : errQ q o = endE q o.line := by unfold errQ; rw [if_neg h0, if_neg h1, if_neg h2, if_pos h3]
    have e2 : stepQ q o = endQ q o.line := by unfold stepQ; rw [if_neg h0, if_neg h1, if_neg h2, if_pos h3]
    have c : endE q o.line = 0 ∨ endE q o.line = 1 ∨ endE q o.line = 141 := by
      unfold endE
      split
      · exact .inr (.inl rfl)
      split
      · exact .inr (.inr rfl)
      · exact .inl rfl
    have c0 : endE q o.line = 0 → lineB o.line = true ∧ q.cl = false := fun h => by
      unfold endE at h
      split at h
      · omega
      split at h
      · omega
      · rename_i k1 k2
        exact ⟨by simpa using k1, by simpa using k2⟩
    refine ⟨fun h => by omega, fun h => by omega, fun h => by rw [e1] at h; rw [e2]; unfold endQ; rw [if_neg h], fun _ h => by omega, ?_, fun h => by rw [e1] at h; rw [e3, lines_one]; exact .inl (c0 (by omega)).1, fun h _ => ?_, fun h => .inr ?_⟩
    · rw [e2]
      unfold endQ
      split <;> rfl
    · rw [e1] at h
      refine ⟨(c0 h).2, ?_⟩
      rw [e2, e3, sum_one]
      unfold endQ
      rw [if_pos h]
      simp
    · rw [e2]
      unfold endQ
      rw [if_neg (fun h9 => h ⟨e1.trans h9, h3⟩)]
      exact Nat.le_refl _
  · have e3 : takesL o = [] := by unfold takesL; rw [if_neg (by omega), if_neg (by omega)]
    have e1 : errQ q o = 0 := by unfold errQ; rw [if_neg h0, if_neg h1, if_neg h2, if_neg h3]
    have e2 : stepQ q o = drainQ q o.n.toNat := by unfold stepQ; rw [if_neg h0, if_neg h1, if_neg h2, if_neg h3]
    refine ⟨fun h => by omega, fun h => by omega, fun h => absurd e1 h, fun _ h => absurd h h2, by rw [e2]; rfl, fun _ => .inr e3, fun _ h => absurd h h3, fun _ => .inr ?_⟩
    rw [e2]
    simp [drainQ]

end Go.Proofs.Ytkpnolkbheoocaa
