/-
  Layouts: what a list begins with.
-/
import Derived.Test.YtcjcekaahooamaaLNew
namespace Go.Proofs.Ytcjcekaahooamaa
open Go.RowKit
set_option linter.unusedVariables false
set_option maxRecDepth 100000

/-- A list of cells lies in memory. -/
structure CellsIn (w : World) (v : Value) (l : List CellV) : Prop where
  shape : ∃ ad cap, v = .slice ad l.length cap ∧ l.length ≤ cap ∧ (l = [] ∨ ∃ b off, ad = some ⟨b, off, none⟩ ∧ ∀ (j : Nat) u, (ceCells l)[j]? = some u → w.cell? ⟨b, off + j, none⟩ = some u)
theorem CellsIn.below {w w' : World} {v : Value} {l : List CellV} (h : CellsIn w v l) (hb : Below w.heap.size w w') : CellsIn w' v l := by
  obtain ⟨ad, cap, h1, h2, h3⟩ := h.shape
  refine ⟨ad, cap, h1, h2, ?_⟩
  rcases h3 with h3 | ⟨b, off, h3, h4⟩
  · exact .inl h3
  · exact .inr ⟨b, off, h3, fun j u hu => (hb.cell (p := ⟨b, off + j, none⟩) (World.block_lt_of_cell? w _ (h4 j u hu))).trans (h4 j u hu)⟩
theorem CellsIn.nil {w : World} {v : Value} (h : CellsIn w v []) : ∃ ad cap, v = .slice ad 0 cap := by
  obtain ⟨ad, cap, h1, _⟩ := h.shape
  exact ⟨ad, cap, h1⟩
theorem CellsIn.cons {w : World} {v : Value} {c : CellV} {l : List CellV} (h : CellsIn w v (c :: l)) : ∃ b off cap, v = .slice (some ⟨b, off, none⟩) (l.length + 1) cap ∧ l.length + 1 ≤ cap ∧
    (∀ (j : Nat) u, c.vals[j]? = some u → w.cell? ⟨b, off + j, none⟩ = some u) ∧ (∀ ad, (l = [] ∨ ad = some ⟨b, off + 7, none⟩) → CellsIn w (.slice ad l.length (cap - 1)) l) := by
  obtain ⟨ad, cap, h1, h2, h3⟩ := h.shape
  rcases h3 with h3 | ⟨b, off, h3, h4⟩
  · cases h3
  · subst h3
    have hc : ceCells (c :: l) = c.vals.toList ++ ceCells l := rfl
    refine ⟨b, off, cap, h1, h2, fun j u hu => ?_, fun ad had => ⟨ad, cap - 1, rfl, by simp at h2; omega, ?_⟩⟩
    · refine h4 j u ?_
      have hj := (Array.getElem?_eq_some_iff.1 hu).1
      rw [hc, List.getElem?_append_left (by simpa using hj)]
      simpa using hu
    · rcases had with had | had
      · exact .inl had
      · refine .inr ⟨b, off + 7, had, fun j u hu => ?_⟩
        have := h4 (7 + j) u (by
          rw [hc, List.getElem?_append_right (by show 7 ≤ 7 + j; omega)]
          show (ceCells l)[7 + j - 7]? = _
          rw [Nat.add_sub_cancel_left]
          exact hu)
        rw [show off + 7 + j = off + (7 + j) by omega]
        exact this

def nilPart : Value := .nilIface

/-- The head of a list, laid out for a walk. -/
structure HeadIn (w : World) (b off : Nat) (c : CellV) : Prop where
  q0 : w.cell? ⟨b, off, none⟩ = some (.int .i64 c.depth)
  q1 : w.cell? ⟨b, off + 1, none⟩ = some (.int .i64 c.kind)
  q2 : w.cell? ⟨b, off + 2, none⟩ = some (.int .i64 c.x)
  q3 : w.cell? ⟨b, off + 3, none⟩ = some (.int .i64 c.y)
  q4 : w.cell? ⟨b, off + 4, none⟩ = some (.int .i64 c.w)
  q5 : w.cell? ⟨b, off + 5, none⟩ = some (.int .i64 c.h)
  q6 : w.cell? ⟨b, off + 6, none⟩ = some (.int .i64 c.p)
theorem HeadIn.of {w : World} {b off : Nat} {c : CellV} (h : ∀ (j : Nat) u, c.vals[j]? = some u → w.cell? ⟨b, off + j, none⟩ = some u) : HeadIn w b off c :=
  ⟨h 0 _ rfl, h 1 _ rfl, h 2 _ rfl, h 3 _ rfl, h 4 _ rfl, h 5 _ rfl, h 6 _ rfl⟩

theorem take_none (v : Value) (l : List CellV) (d : Int) (w : World) (h : CellsIn w v l) (hb : l = [] ∨ ∃ c r, l = c :: r ∧ c.depth ≠ d) :
    Calls Try.prog 18 #[v, .int .i64 d] w fun e w' => e = .returned (.tuple #[nilPart, v]) ∧ w = w' := by
  rcases hb with rfl | ⟨c, r, rfl, hd⟩
  · obtain ⟨ad, cap, rfl⟩ := h.nil
    clear h
    go_enter Try.func18, Try.ntmps18
    go_wp2
    all_goals go_ret2
    all_goals exact ⟨rfl, rfl⟩
  · obtain ⟨b, off, cap, rfl, hcap, hcells, _⟩ := h.cons
    obtain ⟨q0, q1, q2, q3, q4, q5, q6⟩ := HeadIn.of hcells
    clear h hcells
    obtain ⟨n, hn⟩ : ∃ n, r.length + 1 = n := ⟨_, rfl⟩
    rw [hn]
    have hn1 : 0 < n := by omega
    have hn0 : ((n : Int) == 0) = false := by simp; omega
    have hdn : (c.depth != d) = true := by simpa using hd
    clear hn hcap
    go_enter Try.func18, Try.ntmps18
    go_wp2
    all_goals go_ret2
    all_goals exact ⟨rfl, rfl⟩
theorem take_other (v : Value) (c : CellV) (l : List CellV) (w : World) (h : CellsIn w v (c :: l)) (hk : ¬ c.kind = 1 ∧ ¬ c.kind = 2 ∧ ¬ c.kind = 3) :
    Calls Try.prog 18 #[v, .int .i64 c.depth] w fun e w' => e = .returned (.tuple #[nilPart, v]) ∧ Below w.heap.size w w' := by
  obtain ⟨b, off, cap, rfl, hcap, hcells, _⟩ := h.cons
  obtain ⟨q0, q1, q2, q3, q4, q5, q6⟩ := HeadIn.of hcells
  clear h hcells
  obtain ⟨n, hn⟩ : ∃ n, l.length + 1 = n := ⟨_, rfl⟩
  rw [hn]
  have hn1 : 0 < n := by omega
  have hn0 : ((n : Int) == 0) = false := by simp; omega
  have k1 : (c.kind == 1) = false := by simpa using hk.1
  have k2 : (c.kind == 2) = false := by simpa using hk.2.1
  have k3 : (c.kind == 3) = false := by simpa using hk.2.2
  clear hn hcap hk
  go_enter Try.func18, Try.ntmps18
  go_wp2
  all_goals go_ret2
  all_goals exact ⟨rfl, ((Below.refl _ _).alloc (Nat.le_refl _) _).alloc (by simp) _⟩
theorem block_new (X : World) (N : Nat) (hN : X.heap.size = N) (vs : Array Value) (T : TypeId) : (X.alloc (.cells vs T)).heap[N]? = some (.cells vs T (0, 0)) := by
  subst hN
  exact heap_alloc_new X _
theorem below_three (w : World) (o1 o2 o3 : Obj) : Below w.heap.size w (((w.alloc o1).alloc o2).drew.alloc o3) := (((Below.refl _ _).alloc (Nat.le_refl _) _).alloc (by simp) _).drew.alloc (by simp; omega) _
theorem CellsIn.empty (w : World) (ad : Option Addr) (cap : Nat) (l : List CellV) (h : l.length = 0) : CellsIn w (.slice ad 0 cap) l := by
  have := List.length_eq_zero_iff.1 h
  subst this
  exact ⟨ad, cap, rfl, Nat.zero_le _, .inl rfl⟩

theorem take_leaf (v : Value) (c : CellV) (l : List CellV) (W0 w : World) (hW : Below W0.heap.size W0 w) (h : CellsIn W0 v (c :: l)) (hk : c.kind = 1) :
    Calls Try.prog 18 #[v, .int .i64 c.depth] w fun e w' => ∃ g v', e = .returned (.tuple #[leafI g, v']) ∧ w.heap.size ≤ g ∧ LeafAt w' g c.box c.p ∧ CellsIn W0 v' l ∧ Below w.heap.size w w' := by
  obtain ⟨b, off, cap, rfl, hcap, hcells, hrest⟩ := h.cons
  obtain ⟨q0, q1, q2, q3, q4, q5, q6⟩ := HeadIn.of (fun j u hu => (hW.cell (p := ⟨b, off + j, none⟩) (World.block_lt_of_cell? W0 _ (hcells j u hu))).trans (hcells j u hu))
  have HR : Hid (∀ ad, (l = [] ∨ ad = some ⟨b, off + 7, none⟩) → CellsIn W0 (.slice ad l.length (cap - 1)) l) := hrest
  clear h hcells hrest hW
  have HN : Hid (l.length + 1 ≤ cap) := hcap
  obtain ⟨n, hn⟩ : ∃ n, l.length + 1 = n := ⟨_, rfl⟩
  rw [hn] at hcap ⊢
  have hn1 : 0 < n := by omega
  have hn0 : ((n : Int) == 0) = false := by simp; omega
  have Hn : Hid (l.length + 1 = n) := hn
  rw [hk] at q1
  have hn2 : (1 : Int) ≤ (n : Int) := by omega
  have hn3 : (n : Int) ≤ (cap : Int) := by omega
  have hn4 : 1 ≤ n := hn1
  clear hn hk
  by_cases hc1 : cap = 1
  · subst hc1
    have hn5 : n = 1 := by omega
    subst hn5
    clear hcap hn1 hn0 hn2 hn3 hn4
    go_enter Try.func18, Try.ntmps18
    go_wp2
    go_region
    all_goals go_wp2
    all_goals go_ret2
    all_goals refine ⟨w.heap.size + 1 + 1, _, rfl, by omega, ?_, CellsIn.empty _ _ _ _ (by have := Hn.out; omega), below_three _ _ _ _⟩
    all_goals exact block_new _ _ (by simp) _ _
  · have hc2 : (cap == 1) = false := by simpa using hc1
    go_enter Try.func18, Try.ntmps18
    go_wp2
    go_region
    all_goals go_wp2
    all_goals go_ret2
    all_goals have e1 : n - 1 = l.length := by have := Hn.out; omega
    all_goals rw [e1]
    all_goals refine ⟨w.heap.size + 1 + 1, _, rfl, by omega, ?_, HR.out _ (.inr rfl), below_three _ _ _ _⟩
    all_goals exact block_new _ _ (by simp) _ _

end Go.Proofs.Ytcjcekaahooamaa
