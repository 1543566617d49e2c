/-
  Layouts: what a list begins with.
  Layouts: two cells, two lists of cells compared.
-/
import Derived.Test.YtglncninkocgaabGreatDoorCE
import Derived.Laws.StructEq
import Derived.Deep.RegionHeld3
import Derived.BigQuiet
namespace Go.Proofs.YtglncninkocgaabGreatDoor
open Go.RowKit
set_option linter.unusedVariables false
set_option maxRecDepth 100000

/-- A list of cells lies in memory. -/
structure CellsIn (w : World) (v : Value) (l : List CellV) : Prop where
  shape : ∃ ad cap, v = .slice ad l.length cap ∧ l.length ≤ cap ∧ (l = [] ∨ ∃ b off, ad = some ⟨b, off, none⟩ ∧ ∀ (j : Nat) u, (ceCells l)[j]? = some u → w.cell? ⟨b, off + j, none⟩ = some u)
theorem CellsIn.below {w w' : World} {v : Value} {l : List CellV} (h : CellsIn w v l) (hb : Below w.heap.size w w') : CellsIn w' v l := by
  obtain ⟨ad, cap, h1, h2, h3⟩ := h.shape
  refine ⟨ad, cap, h1, h2, ?_⟩
  rcases h3 with h3 | ⟨b, off, h3, h4⟩
  · exact .inl h3
  · exact .inr ⟨b, off, h3, fun j u hu => (hb.cell (p := ⟨b, off + j, none⟩) (World.block_lt_of_cell? w _ (h4 j u hu))).trans (h4 j u hu)⟩
theorem CellsIn.nil {w : World} {v : Value} (h : CellsIn w v []) : ∃ ad cap, v = .slice ad 0 cap := by
  obtain ⟨ad, cap, h1, _⟩ := h.shape
  exact ⟨ad, cap, h1⟩
theorem CellsIn.cons {w : World} {v : Value} {c : CellV} {l : List CellV} (h : CellsIn w v (c :: l)) : ∃ b off cap, v = .slice (some ⟨b, off, none⟩) (l.length + 1) cap ∧ l.length + 1 ≤ cap ∧
    (∀ (j : Nat) u, c.vals[j]? = some u → w.cell? ⟨b, off + j, none⟩ = some u) ∧ (∀ ad, (l = [] ∨ ad = some ⟨b, off + 7, none⟩) → CellsIn w (.slice ad l.length (cap - 1)) l) := by
  obtain ⟨ad, cap, h1, h2, h3⟩ := h.shape
  rcases h3 with h3 | ⟨b, off, h3, h4⟩
  · cases h3
  · subst h3
    have hc : ceCells (c :: l) = c.vals.toList ++ ceCells l := rfl
    refine ⟨b, off, cap, h1, h2, fun j u hu => ?_, fun ad had => ⟨ad, cap - 1, rfl, by simp at h2; omega, ?_⟩⟩
    · refine h4 j u ?_
      have hj := (Array.getElem?_eq_some_iff.1 hu).1
      rw [hc, List.getElem?_append_left (by simpa using hj)]
      simpa using hu
    · rcases had with had | had
      · exact .inl had
      · refine .inr ⟨b, off + 7, had, fun j u hu => ?_⟩
        have := h4 (7 + j) u (by
          rw [hc, List.getElem?_append_right (by show 7 ≤ 7 + j; omega)]
          show (ceCells l)[7 + j - 7]? = _
          rw [Nat.add_sub_cancel_left]
          exact hu)
        rw [show off + 7 + j = off + (7 + j) by omega]
        exact this

def nilPart : Value := .nilIface

/-- The head of a list, laid out for a walk. -/
structure HeadIn (w : World) (b off : Nat) (c : CellV) : Prop where
  q0 : w.cell? ⟨b, off, none⟩ = some (.int .i64 c.depth)
  q1 : w.cell? ⟨b, off + 1, none⟩ = some (.int .i64 c.kind)
  q2 : w.cell? ⟨b, off + 2, none⟩ = some (.int .i64 c.x)
  q3 : w.cell? ⟨b, off + 3, none⟩ = some (.int .i64 c.y)
  q4 : w.cell? ⟨b, off + 4, none⟩ = some (.int .i64 c.w)
  q5 : w.cell? ⟨b, off + 5, none⟩ = some (.int .i64 c.h)
  q6 : w.cell? ⟨b, off + 6, none⟩ = some (.int .i64 c.p)
theorem HeadIn.of {w : World} {b off : Nat} {c : CellV} (h : ∀ (j : Nat) u, c.vals[j]? = some u → w.cell? ⟨b, off + j, none⟩ = some u) : HeadIn w b off c :=
  ⟨h 0 _ rfl, h 1 _ rfl, h 2 _ rfl, h 3 _ rfl, h 4 _ rfl, h 5 _ rfl, h 6 _ rfl⟩

theorem take_none (v : Value) (l : List CellV) (d : Int) (w : World) (h : CellsIn w v l) (hb : l = [] ∨ ∃ c r, l = c :: r ∧ c.depth ≠ d) :
    Calls Tryz.prog 50 #[v, .int .i64 d] w fun e w' => e = .returned (.tuple #[nilPart, v]) ∧ w = w' := by
  rcases hb with rfl | ⟨c, r, rfl, hd⟩
  · obtain ⟨ad, cap, rfl⟩ := h.nil
    clear h
    go_enter Tryz.func50, Tryz.ntmps50
    go_wp2
    all_goals go_ret2
    all_goals exact ⟨rfl, rfl⟩
  · obtain ⟨b, off, cap, rfl, hcap, hcells, _⟩ := h.cons
    obtain ⟨q0, q1, q2, q3, q4, q5, q6⟩ := HeadIn.of hcells
    clear h hcells
    obtain ⟨n, hn⟩ : ∃ n, r.length + 1 = n := ⟨_, rfl⟩
    rw [hn]
    have hn1 : 0 < n := by omega
    have hn0 : ((n : Int) == 0) = false := by simp; omega
    have hdn : (c.depth != d) = true := by simpa using hd
    clear hn hcap
    go_enter Tryz.func50, Tryz.ntmps50
    go_wp2
    all_goals go_ret2
    all_goals exact ⟨rfl, rfl⟩
theorem take_other (v : Value) (c : CellV) (l : List CellV) (w : World) (h : CellsIn w v (c :: l)) (hk : ¬ c.kind = 1 ∧ ¬ c.kind = 2 ∧ ¬ c.kind = 3) :
    Calls Tryz.prog 50 #[v, .int .i64 c.depth] w fun e w' => e = .returned (.tuple #[nilPart, v]) ∧ Below w.heap.size w w' := by
  obtain ⟨b, off, cap, rfl, hcap, hcells, _⟩ := h.cons
  obtain ⟨q0, q1, q2, q3, q4, q5, q6⟩ := HeadIn.of hcells
  clear h hcells
  obtain ⟨n, hn⟩ : ∃ n, l.length + 1 = n := ⟨_, rfl⟩
  rw [hn]
  have hn1 : 0 < n := by omega
  have hn0 : ((n : Int) == 0) = false := by simp; omega
  have k1 : (c.kind == 1) = false := by simpa using hk.1
  have k2 : (c.kind == 2) = false := by simpa using hk.2.1
  have k3 : (c.kind == 3) = false := by simpa using hk.2.2
  clear hn hcap hk
  go_enter Tryz.func50, Tryz.ntmps50
  go_wp2
  all_goals go_ret2
  all_goals exact ⟨rfl, ((Below.refl _ _).alloc (Nat.le_refl _) _).alloc (by simp) _⟩
theorem block_new (X : World) (N : Nat) (hN : X.heap.size = N) (vs : Array Value) (T : TypeId) : (X.alloc (.cells vs T)).heap[N]? = some (.cells vs T (0, 0)) := by
  subst hN
  exact heap_alloc_new X _
theorem below_three (w : World) (o1 o2 o3 : Obj) : Below w.heap.size w (((w.alloc o1).alloc o2).drew.alloc o3) := (((Below.refl _ _).alloc (Nat.le_refl _) _).alloc (by simp) _).drew.alloc (by simp; omega) _
theorem CellsIn.empty (w : World) (ad : Option Addr) (cap : Nat) (l : List CellV) (h : l.length = 0) : CellsIn w (.slice ad 0 cap) l := by
  have := List.length_eq_zero_iff.1 h
  subst this
  exact ⟨ad, cap, rfl, Nat.zero_le _, .inl rfl⟩

theorem take_leaf (v : Value) (c : CellV) (l : List CellV) (W0 w : World) (hW : Below W0.heap.size W0 w) (h : CellsIn W0 v (c :: l)) (hk : c.kind = 1) :
    Calls Tryz.prog 50 #[v, .int .i64 c.depth] w fun e w' => ∃ g v', e = .returned (.tuple #[leafI g, v']) ∧ w.heap.size ≤ g ∧ LeafAt w' g c.box c.p ∧ CellsIn W0 v' l ∧ Below w.heap.size w w' := by
  obtain ⟨b, off, cap, rfl, hcap, hcells, hrest⟩ := h.cons
  obtain ⟨q0, q1, q2, q3, q4, q5, q6⟩ := HeadIn.of (fun j u hu => (hW.cell (p := ⟨b, off + j, none⟩) (World.block_lt_of_cell? W0 _ (hcells j u hu))).trans (hcells j u hu))
  have HR : Hid (∀ ad, (l = [] ∨ ad = some ⟨b, off + 7, none⟩) → CellsIn W0 (.slice ad l.length (cap - 1)) l) := hrest
  clear h hcells hrest hW
  have HN : Hid (l.length + 1 ≤ cap) := hcap
  obtain ⟨n, hn⟩ : ∃ n, l.length + 1 = n := ⟨_, rfl⟩
  rw [hn] at hcap ⊢
  have hn1 : 0 < n := by omega
  have hn0 : ((n : Int) == 0) = false := by simp; omega
  have Hn : Hid (l.length + 1 = n) := hn
  rw [hk] at q1
  have hn2 : (1 : Int) ≤ (n : Int) := by omega
  have hn3 : (n : Int) ≤ (cap : Int) := by omega
  have hn4 : 1 ≤ n := hn1
  clear hn hk
  by_cases hc1 : cap = 1
  · subst hc1
    have hn5 : n = 1 := by omega
    subst hn5
    clear hcap hn1 hn0 hn2 hn3 hn4
    go_enter Tryz.func50, Tryz.ntmps50
    go_wp2
    go_region
    all_goals go_wp2
    all_goals go_ret2
    all_goals refine ⟨w.heap.size + 1 + 1, _, rfl, by omega, ?_, CellsIn.empty _ _ _ _ (by have := Hn.out; omega), below_three _ _ _ _⟩
    all_goals exact block_new _ _ (by simp) _ _
  · have hc2 : (cap == 1) = false := by simpa using hc1
    go_enter Tryz.func50, Tryz.ntmps50
    go_wp2
    go_region
    all_goals go_wp2
    all_goals go_ret2
    all_goals have e1 : n - 1 = l.length := by have := Hn.out; omega
    all_goals rw [e1]
    all_goals refine ⟨w.heap.size + 1 + 1, _, rfl, by omega, ?_, HR.out _ (.inr rfl), below_three _ _ _ _⟩
    all_goals exact block_new _ _ (by simp) _ _

end Go.Proofs.YtglncninkocgaabGreatDoor

namespace Go.Proofs.YtglncninkocgaabGreatDoor
open Go.RowKit
set_option linter.unusedVariables false
set_option maxRecDepth 100000

/-- Are two cells one? -/
def ceEq (a b : CellV) : Bool := (a.depth == b.depth) && ((a.kind == b.kind) && ((a.x == b.x) && ((a.y == b.y) && ((a.w == b.w) && ((a.h == b.h) && (a.p == b.p))))))
theorem ceEq_iff (a b : CellV) : ceEq a b = true ↔ a = b := by
  constructor
  · intro h
    unfold ceEq at h
    simp only [Bool.and_eq_true, beq_iff_eq] at h
    obtain ⟨h1, h2, h3, h4, h5, h6, h7⟩ := h
    cases a; cases b
    simp_all
  · rintro rfl
    unfold ceEq
    simp
theorem eqF_consL {P : Program} {w : World} (d : Nat) (xs ys : Array Value) {nm : String} {t : TypeId} {o : Nat} {em : Bool} {tag pk : String} {bo : Nat} (fs : List Field) (a b : Value) (r : Bool) (hn : nm ≠ "_") (ha : (part t xs o).run P w = .ok a w) (hb : (part t ys o).run P w = .ok b w)
    (he : (Op.equalIn d t a b).run P w = .ok r w) (s : Bool) (hs : (Op.eqFields d xs ys fs).run P w = .ok s w) : (Op.eqFields d xs ys (⟨nm, t, o, em, tag, pk, bo⟩ :: fs)).run P w = .ok (r && s) w := by
  unfold Op.eqFields
  rw [if_pos hn]
  simp only [Sem.run_bind, ha, hb, he, Result.andThen_ok]
  cases r
  · rfl
  · exact hs
theorem part_plainL {P : Program} {w : World} (t : TypeId) (cs : Array Value) (o : Nat) (v : Value) (h : (isAgg t).run P w = .ok false w) (hv : cs[o]? = some v) : (part t cs o).run P w = .ok v w := by
  unfold part
  simp [Sem.run_bind, h, hv]
theorem eqCe (a b : CellV) (w : World) : (Op.equalIn 10000 36 (.agg a.vals) (.agg b.vals)).run Tryz.prog w = .ok (ceEq a b) w := by
  have hu : Tryz.prog.underlying 36 = some (.struct (Tryz.prog.fieldsOf 36)) := by kernel_rfl
  have hp : Tryz.prog.stoodInHeld 36 = false := by kernel_rfl
  have hl : (Tryz.prog.fieldsOf 36).toList = [⟨"Depth", 3, 0, false, "", "", 0⟩, ⟨"Kind", 3, 1, false, "", "", 8⟩, ⟨"X", 3, 2, false, "", "", 16⟩, ⟨"Y", 3, 3, false, "", "", 24⟩, ⟨"W", 3, 4, false, "", "", 32⟩, ⟨"H", 3, 5, false, "", "", 40⟩, ⟨"Pane", 3, 6, false, "", "", 48⟩] := by kernel_rfl
  obtain ⟨d, hd⟩ : ∃ d, (10000 : Nat) = d + 1 + 1 := ⟨9998, rfl⟩
  rw [hd, run_equalIn_struct w (d + 1) 36 _ _ hu hp, hl]
  have u3 := Tryz.underlying3
  have a3 := Tryz.isAgg3
  have hz : ceEq a b = ((a.depth == b.depth) && ((a.kind == b.kind) && ((a.x == b.x) && ((a.y == b.y) && ((a.w == b.w) && ((a.h == b.h) && ((a.p == b.p) && true))))))) := by rw [Bool.and_true]; rfl
  rw [hz]
  have x0 : a.vals[0]? = some (.int .i64 a.depth) := rfl
  have x1 : a.vals[1]? = some (.int .i64 a.kind) := rfl
  have x2 : a.vals[2]? = some (.int .i64 a.x) := rfl
  have x3 : a.vals[3]? = some (.int .i64 a.y) := rfl
  have x4 : a.vals[4]? = some (.int .i64 a.w) := rfl
  have x5 : a.vals[5]? = some (.int .i64 a.h) := rfl
  have x6 : a.vals[6]? = some (.int .i64 a.p) := rfl
  have y0 : b.vals[0]? = some (.int .i64 b.depth) := rfl
  have y1 : b.vals[1]? = some (.int .i64 b.kind) := rfl
  have y2 : b.vals[2]? = some (.int .i64 b.x) := rfl
  have y3 : b.vals[3]? = some (.int .i64 b.y) := rfl
  have y4 : b.vals[4]? = some (.int .i64 b.w) := rfl
  have y5 : b.vals[5]? = some (.int .i64 b.h) := rfl
  have y6 : b.vals[6]? = some (.int .i64 b.p) := rfl
  obtain ⟨xs, hx⟩ : ∃ x, a.vals = x := ⟨_, rfl⟩
  obtain ⟨ys, hy⟩ : ∃ x, b.vals = x := ⟨_, rfl⟩
  rw [hx] at x0 x1 x2 x3 x4 x5 x6 ⊢
  rw [hy] at y0 y1 y2 y3 y4 y5 y6 ⊢
  clear hx hy hz
  refine eqF_consL (d + 1) xs ys _ _ _ _ (by decide) (part_plainL 3 xs 0 _ (a3 w) x0) (part_plainL 3 ys 0 _ (a3 w) y0) (run_equalIn_int w d 3 .i64 .i64 _ _ u3) _ ?_
  refine eqF_consL (d + 1) xs ys _ _ _ _ (by decide) (part_plainL 3 xs 1 _ (a3 w) x1) (part_plainL 3 ys 1 _ (a3 w) y1) (run_equalIn_int w d 3 .i64 .i64 _ _ u3) _ ?_
  refine eqF_consL (d + 1) xs ys _ _ _ _ (by decide) (part_plainL 3 xs 2 _ (a3 w) x2) (part_plainL 3 ys 2 _ (a3 w) y2) (run_equalIn_int w d 3 .i64 .i64 _ _ u3) _ ?_
  refine eqF_consL (d + 1) xs ys _ _ _ _ (by decide) (part_plainL 3 xs 3 _ (a3 w) x3) (part_plainL 3 ys 3 _ (a3 w) y3) (run_equalIn_int w d 3 .i64 .i64 _ _ u3) _ ?_
  refine eqF_consL (d + 1) xs ys _ _ _ _ (by decide) (part_plainL 3 xs 4 _ (a3 w) x4) (part_plainL 3 ys 4 _ (a3 w) y4) (run_equalIn_int w d 3 .i64 .i64 _ _ u3) _ ?_
  refine eqF_consL (d + 1) xs ys _ _ _ _ (by decide) (part_plainL 3 xs 5 _ (a3 w) x5) (part_plainL 3 ys 5 _ (a3 w) y5) (run_equalIn_int w d 3 .i64 .i64 _ _ u3) _ ?_
  refine eqF_consL (d + 1) xs ys _ _ _ _ (by decide) (part_plainL 3 xs 6 _ (a3 w) x6) (part_plainL 3 ys 6 _ (a3 w) y6) (run_equalIn_int w d 3 .i64 .i64 _ _ u3) true ?_
  rfl

theorem ceCells_get (l : List CellV) : ∀ (i : Nat) (c : CellV) (j : Nat) (u : Value), l[i]? = some c → c.vals[j]? = some u → (ceCells l)[i * 7 + j]? = some u := by
  induction l with
  | nil => intro i c j u h; simp at h
  | cons a l ih =>
    intro i c j u h hu
    have hj : j < 7 := (Array.getElem?_eq_some_iff.1 hu).1
    have hc : ceCells (a :: l) = a.vals.toList ++ ceCells l := rfl
    cases i with
    | zero =>
      simp at h
      subst h
      rw [hc, List.getElem?_append_left (by show 0 * 7 + j < 7; omega)]
      simpa using hu
    | succ i =>
      rw [hc, List.getElem?_append_right (by show 7 ≤ (i + 1) * 7 + j; omega)]
      show (ceCells l)[(i + 1) * 7 + j - 7]? = _
      rw [show (i + 1) * 7 + j - 7 = i * 7 + j by omega]
      exact ih i c j u (by simpa using h) hu

/-- Where the cells of a list lie. -/
def SeenIn (w : World) (b off : Nat) (l : List CellV) : Prop := ∀ (i : Nat) (c : CellV), l[i]? = some c → HeadIn w b (off + i * 7) c
theorem CellsIn.seen {w : World} {v : Value} {l : List CellV} (h : CellsIn w v l) (hl : l ≠ []) : ∃ b off cap, v = .slice (some ⟨b, off, none⟩) l.length cap ∧ l.length ≤ cap ∧ SeenIn w b off l := by
  obtain ⟨ad, cap, h1, h2, h3⟩ := h.shape
  rcases h3 with h3 | ⟨b, off, rfl, h4⟩
  · exact absurd h3 hl
  · exact ⟨b, off, cap, h1, h2, fun i c hi => HeadIn.of fun j u hu => by
      have := h4 (i * 7 + j) u (ceCells_get l i c j u hi hu)
      rw [show off + i * 7 + j = off + (i * 7 + j) by omega]
      exact this⟩
theorem SeenIn.below {w w' : World} {b off : Nat} {l : List CellV} (h : SeenIn w b off l) (hb : Below w.heap.size w w') : SeenIn w' b off l := by
  intro i c hi
  have k := h i c hi
  have lt : b < w.heap.size := World.block_lt_of_cell? w _ k.q0
  have go : ∀ o, w'.cell? ⟨b, o, none⟩ = w.cell? ⟨b, o, none⟩ := fun o => hb.cell (p := ⟨b, o, none⟩) lt
  exact ⟨(go _).trans k.q0, (go _).trans k.q1, (go _).trans k.q2, (go _).trans k.q3, (go _).trans k.q4, (go _).trans k.q5, (go _).trans k.q6⟩
theorem CeOwns.cellsIn {w : World} {B : Nat} {v : Value} {l : List CellV} (h : CeOwns w B v l) : CellsIn w v l := by
  rcases h.2 with ⟨rfl, h0⟩ | ⟨g, cap, cur, rfl, hb, hg, h1, h2, h3, h4⟩
  · have : l = [] := List.length_eq_zero_iff.1 h0
    subst this
    exact ⟨none, 0, rfl, Nat.le_refl _, .inl rfl⟩
  · refine ⟨some ⟨g, 0, none⟩, cap, rfl, h1, .inr ⟨g, 0, rfl, fun j u hu => ?_⟩⟩
    rw [Nat.zero_add, cell_atL hg]
    rw [← h4] at hu
    have hj : j < l.length * 7 := by
      have := (List.getElem?_eq_some_iff.1 hu).1
      simp at this
      omega
    rw [List.getElem?_take_of_lt hj] at hu
    simpa using hu

theorem take_succ_eq {a b : List CellV} {i : Nat} {c d : CellV} (h : a.take i = b.take i) (ha : a[i]? = some c) (hb : b[i]? = some d) (e : c = d) : a.take (i + 1) = b.take (i + 1) := by
  rw [List.take_add_one, List.take_add_one, h, ha, hb, e]
theorem ne_of_at {a b : List CellV} {i : Nat} {c d : CellV} (ha : a[i]? = some c) (hb : b[i]? = some d) (e : c ≠ d) : a ≠ b := by
  rintro rfl
  rw [ha] at hb
  cases hb
  exact e rfl

set_option maxHeartbeats 1000000 in
theorem equal_same (b1 o1 c1 b2 o2 c2 n : Nat) (l1 l2 : List CellV) (w : World) (h1 : SeenIn w b1 o1 l1) (h2 : SeenIn w b2 o2 l2) (hn1 : l1.length = n) (hn2 : l2.length = n) (hn : n ≤ 1000000) :
    Calls Tryz.prog 51 #[.slice (some ⟨b1, o1, none⟩) n c1, .slice (some ⟨b2, o2, none⟩) n c2] w fun e w' => e = .returned (.bool (decide (l1 = l2))) ∧ Below w.heap.size w w' := by
  have H1 : Hid (SeenIn w b1 o1 l1) := h1
  have H2 : Hid (SeenIn w b2 o2 l2) := h2
  have HN1 : Hid (l1.length = n) := hn1
  have HN2 : Hid (l2.length = n) := hn2
  obtain ⟨rr, hrr⟩ : ∃ r, decide (l1 = l2) = r := ⟨_, rfl⟩
  rw [hrr]
  have HR : Hid (decide (l1 = l2) = rr) := hrr
  clear h1 h2 hn1 hn2 hrr
  go_enter Tryz.func51, Tryz.ntmps51
  go_wp2
  go_loopw [13] (fun v wr => ∃ i : Nat, i ≤ n ∧ v = .int .i64 i ∧ Hid (l1.take i = l2.take i) ∧ Hid (Below w.heap.size w wr)) (fun v _ => n - (intOf v).toNat)
  case atStart => exact ⟨0, Nat.zero_le _, rfl, by simp [Hid], Below.refl _ _⟩
  case round =>
    obtain ⟨i, hi, rfl, HT, HB⟩ := hrel
    by_cases hlt : i < n
    · obtain ⟨x, hx⟩ : ∃ x, l1[i]? = some x := ⟨_, List.getElem?_eq_getElem (by rw [HN1.out]; exact hlt)⟩
      obtain ⟨y, hy⟩ : ∃ y, l2[i]? = some y := ⟨_, List.getElem?_eq_getElem (by rw [HN2.out]; exact hlt)⟩
      obtain ⟨q0, q1, q2, q3, q4, q5, q6⟩ := (H1.out.below HB.out) i x hx
      obtain ⟨p0, p1, p2, p3, p4, p5, p6⟩ := (H2.out.below HB.out) i y hy
      obtain ⟨r, hr⟩ : ∃ r, ceEq x y = r := ⟨_, rfl⟩
      have hEq : ∀ W : World, (Op.equalIn 10000 36 (.agg #[.int .i64 x.depth, .int .i64 x.kind, .int .i64 x.x, .int .i64 x.y, .int .i64 x.w, .int .i64 x.h, .int .i64 x.p]) (.agg #[.int .i64 y.depth, .int .i64 y.kind, .int .i64 y.x, .int .i64 y.y, .int .i64 y.w, .int .i64 y.h, .int .i64 y.p])).run Tryz.prog W = .ok r W := fun W => by
        have := eqCe x y W
        rw [hr] at this
        exact this
      have HE : Hid (ceEq x y = r) := hr
      have HX : Hid (l1[i]? = some x) := hx
      have HY : Hid (l2[i]? = some y) := hy
      clear hr hx hy
      cases r
      · have HF : Hid (rr = false) := HR.out.symm.trans (decide_eq_false (ne_of_at HX.out HY.out fun e => by rw [(ceEq_iff x y).2 e] at HE; cases HE.out))
        go_wp2
        go_quiet (fail)
        go_wp2
        go_ret
        exact ⟨by rw [HF.out]; rfl, below_drewN HB.out _⟩
      · go_wp2
        go_quiet (fail)
        go_wp2
        go_roundw
        case rel => exact ⟨i + 1, by omega, by go_num, take_succ_eq HT.out HX.out HY.out ((ceEq_iff x y).1 HE.out), below_drewN HB.out _⟩
        case measure => simp [intOf]; omega
    · have HF : Hid (rr = true) := HR.out.symm.trans (decide_eq_true (by
        have h := HT.out
        rwa [List.take_of_length_le (by rw [HN1.out]; omega), List.take_of_length_le (by rw [HN2.out]; omega)] at h))
      go_wp2
      go_ret
      exact ⟨by rw [HF.out]; rfl, HB.out⟩

theorem CellsIn.length {w : World} {v : Value} {l : List CellV} (h : CellsIn w v l) : ∃ ad cap, v = .slice ad l.length cap := by
  obtain ⟨ad, cap, h1, _⟩ := h.shape
  exact ⟨ad, cap, h1⟩
theorem equal_lens (a1 a2 : Option Addr) (n1 c1 n2 c2 : Nat) (w : World) (hn : n1 ≠ n2) :
    Calls Tryz.prog 51 #[.slice a1 n1 c1, .slice a2 n2 c2] w fun e w' => e = .returned (.bool false) ∧ w = w' := by
  have h : ((n1 : Int) != n2) = true := by simp; omega
  clear hn
  go_enter Tryz.func51, Tryz.ntmps51
  go_wp2
  go_ret
  exact ⟨rfl, rfl⟩
theorem equal_none (a1 a2 : Option Addr) (c1 c2 : Nat) (w : World) :
    Calls Tryz.prog 51 #[.slice a1 0 c1, .slice a2 0 c2] w fun e w' => e = .returned (.bool true) ∧ w = w' := by
  go_enter Tryz.func51, Tryz.ntmps51
  go_wp2
  go_loopw [13] (fun v wr => v = .int .i64 0 ∧ w = wr) (fun _ _ => 0)
  case atStart => exact ⟨rfl, rfl⟩
  case round =>
    obtain ⟨rfl, rfl⟩ := hrel
    go_wp2
    go_ret
    exact ⟨rfl, rfl⟩
theorem equal_any (v1 v2 : Value) (l1 l2 : List CellV) (w : World) (h1 : CellsIn w v1 l1) (h2 : CellsIn w v2 l2) (hn : l1.length ≤ 1000000) :
    Calls Tryz.prog 51 #[v1, v2] w fun e w' => e = .returned (.bool (decide (l1 = l2))) ∧ Below w.heap.size w w' := by
  by_cases hl : l1.length = l2.length
  · by_cases h0 : l1 = []
    · subst h0
      have h00 : l2 = [] := List.length_eq_zero_iff.1 hl.symm
      subst h00
      obtain ⟨a1, c1, rfl⟩ := h1.nil
      obtain ⟨a2, c2, rfl⟩ := h2.nil
      exact (equal_none a1 a2 c1 c2 w).mono fun e w' h => ⟨by rw [h.1]; simp, h.2 ▸ Below.refl _ _⟩
    · have h02 : l2 ≠ [] := by rintro rfl; exact h0 (List.length_eq_zero_iff.1 hl)
      obtain ⟨b1, o1, c1, rfl, _, k1⟩ := h1.seen h0
      obtain ⟨b2, o2, c2, rfl, _, k2⟩ := h2.seen h02
      rw [← hl]
      exact equal_same b1 o1 c1 b2 o2 c2 l1.length l1 l2 w k1 k2 rfl hl.symm hn
  · obtain ⟨a1, c1, rfl⟩ := h1.length
    obtain ⟨a2, c2, rfl⟩ := h2.length
    refine (equal_lens a1 a2 _ c1 _ c2 w hl).mono fun e w' h => ⟨?_, h.2 ▸ Below.refl _ _⟩
    rw [h.1, decide_eq_false]
    intro e
    exact hl (congrArg _ e)

end Go.Proofs.YtglncninkocgaabGreatDoor
