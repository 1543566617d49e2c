/-
  Two lists of events compared; a text that is cut in two.
-/
import Derived.Test.YtlgkdnmhoboinaaGreatDoorWEvs
import Derived.WalkKit
import Derived.LoopTactic
import Derived.Deep.RegionHeld3
import Derived.Laws.StructEq
namespace Go.Proofs.YtlgkdnmhoboinaaGreatDoor
open Go.RowKit
set_option linter.unusedVariables false

theorem tw_app : ∀ a b : List UInt8, (10 : UInt8) ∈ a → (a ++ b).takeWhile (· != 10) = a.takeWhile (· != 10) ∧ ((a ++ b).dropWhile (· != 10)).drop 1 = (a.dropWhile (· != 10)).drop 1 ++ b
  | [], b, h => by cases h
  | c :: a, b, h => by
    rw [List.cons_append]
    by_cases hc : c = 10
    · subst hc
      rw [List.takeWhile_cons_of_neg (by simp), List.takeWhile_cons_of_neg (by simp), List.dropWhile_cons_of_neg (by simp), List.dropWhile_cons_of_neg (by simp)]
      exact ⟨rfl, rfl⟩
    · have h' := (List.mem_cons.1 h).resolve_left fun e => hc e.symm
      obtain ⟨i1, i2⟩ := tw_app a b h'
      rw [List.takeWhile_cons_of_pos (by simpa using hc), List.takeWhile_cons_of_pos (by simpa using hc), List.dropWhile_cons_of_pos (by simpa using hc), List.dropWhile_cons_of_pos (by simpa using hc), i1, i2]
      exact ⟨rfl, rfl⟩

/-- A text that is cut is read in two pieces as in one. -/
theorem linesS_append : ∀ (n : Nat) (a b : List UInt8), a.length ≤ n → linesS (a ++ b) = ((linesS a).1 ++ (linesS ((linesS a).2 ++ b)).1, (linesS ((linesS a).2 ++ b)).2)
  | n, a, b, hn => by
    by_cases hm : (10 : UInt8) ∈ a
    · have hr := rest10 a hm
      obtain ⟨t1, t2⟩ := tw_app a b hm
      rw [linesS_yes (l := a ++ b) (List.mem_append_left _ hm), linesS_yes hm, t1, t2]
      cases n with
      | zero => omega
      | succ n =>
        rw [linesS_append n ((a.dropWhile (· != 10)).drop 1) b (by omega)]
        rfl
    · rw [linesS_no hm]
      rfl

theorem evCells_at : ∀ (l : List Ev) (i o : Nat) (e : Ev), l[i]? = some e → o < 14 → (evCells l)[i * 14 + o]? = e.vals[o]?
  | [], i, o, e, h, _ => by cases h
  | x :: l, 0, o, e, h, ho => by
    cases h
    show (x.vals.toList ++ evCells l)[0 * 14 + o]? = _
    rw [Nat.zero_mul, Nat.zero_add, List.getElem?_append_left (by show o < 14; exact ho), Array.getElem?_toList]
  | x :: l, i + 1, o, e, h, ho => by
    show (x.vals.toList ++ evCells l)[(i + 1) * 14 + o]? = _
    rw [List.getElem?_append_right (by show 14 ≤ _; omega), show (i + 1) * 14 + o - x.vals.toList.length = i * 14 + o by show (i + 1) * 14 + o - 14 = _; omega]
    exact evCells_at l i o e (by simpa using h) ho

theorem EvOwns.shape {w : World} {B : Nat} {v : Value} {l : List Ev} (h : EvOwns w B v l) : (v = .slice none 0 0 ∧ l = []) ∨ ∃ g cap, v = .slice (some ⟨g, 0, none⟩) l.length cap ∧ l.length ≤ cap ∧ B ≤ g ∧ g < w.heap.size := by
  rcases h.2 with ⟨h1, h2⟩ | ⟨g, cap, cur, h1, h2, h3, h4, _⟩
  · exact .inl ⟨h1, List.length_eq_zero_iff.1 h2⟩
  · exact .inr ⟨g, cap, h1, h4, h2, lt_of_block h3⟩
theorem EvOwns.cell {w : World} {B : Nat} {l : List Ev} {g n cap : Nat} (h : EvOwns w B (.slice (some ⟨g, 0, none⟩) n cap) l) {i : Nat} {e : Ev} (hi : l[i]? = some e) (o : Nat) (ho : o < 14) : w.cell? ⟨g, i * 14 + o, none⟩ = e.vals[o]? := by
  obtain ⟨u, hu⟩ : ∃ u, e.vals[o]? = some u := ⟨_, Array.getElem?_eq_getElem (by show o < 14; exact ho)⟩
  have := World.ownsRow.cells h (g := g) rfl (i * 14 + o) u (by rw [evCells_at l i o e hi ho]; exact hu)
  rw [show (⟨g, 0, none⟩ : Addr).add (i * 14 + o) = ⟨g, i * 14 + o, none⟩ by unfold Addr.add; split <;> simp_all] at this
  rw [this, hu]
theorem EvOwns.cells14 {w : World} {B : Nat} {l : List Ev} {g n cap : Nat} (h : EvOwns w B (.slice (some ⟨g, 0, none⟩) n cap) l) {i : Nat} {e : Ev} (hi : l[i]? = some e) : w.cell? ⟨g, i * 14, none⟩ = some (.int .i64 e.kind) ∧ w.cell? ⟨g, i * 14 + 1, none⟩ = some (.int .i64 e.session) ∧ w.cell? ⟨g, i * 14 + 2, none⟩ = some (.int .i64 e.window) ∧ w.cell? ⟨g, i * 14 + 3, none⟩ = some (.int .i64 e.pane) ∧ w.cell? ⟨g, i * 14 + 4, none⟩ = some (.int .i64 e.index) ∧ w.cell? ⟨g, i * 14 + 5, none⟩ = some (.int .i64 e.offset) ∧ w.cell? ⟨g, i * 14 + 6, none⟩ = some (.int .i64 e.tick) ∧ w.cell? ⟨g, i * 14 + 7, none⟩ = some (.int .i64 e.number) ∧ w.cell? ⟨g, i * 14 + 8, none⟩ = some (.int .i64 e.flag) ∧ w.cell? ⟨g, i * 14 + 9, none⟩ = some (.string e.name) ∧ w.cell? ⟨g, i * 14 + 10, none⟩ = some (.string e.text) ∧ w.cell? ⟨g, i * 14 + 11, none⟩ = some (.string e.layout) ∧ w.cell? ⟨g, i * 14 + 12, none⟩ = some (.string e.visible) ∧ w.cell? ⟨g, i * 14 + 13, none⟩ = some (.bool e.zoom) :=
  ⟨h.cell hi 0 (by decide), h.cell hi 1 (by decide), h.cell hi 2 (by decide), h.cell hi 3 (by decide), h.cell hi 4 (by decide), h.cell hi 5 (by decide), h.cell hi 6 (by decide), h.cell hi 7 (by decide), h.cell hi 8 (by decide), h.cell hi 9 (by decide), h.cell hi 10 (by decide), h.cell hi 11 (by decide), h.cell hi 12 (by decide), h.cell hi 13 (by decide)⟩

/-- The first i of two lists are the same. -/
def Agree (a b : List Ev) (i : Nat) : Prop := ∀ j, j < i → a[j]? = b[j]?
theorem Agree.all {a b : List Ev} {n : Nat} (ha : a.length = n) (hb : b.length = n) (h : Agree a b n) : a = b := by
  apply List.ext_getElem?
  intro j
  by_cases hj : j < n
  · exact h j hj
  · rw [List.getElem?_eq_none (by omega), List.getElem?_eq_none (by omega)]

end Go.Proofs.YtlgkdnmhoboinaaGreatDoor
