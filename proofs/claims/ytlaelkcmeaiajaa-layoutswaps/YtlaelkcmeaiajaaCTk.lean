/-
  Layouts: what a list begins with.
  Layouts: two cells, two lists of cells compared.
  Layouts: a row or a column at the head of a list, over what takeAll does.
  Layouts: takeAll, over what take does.
  Layouts: takeAll, the walk.
  Layouts: take, of every list.
  Layouts: the trees that lists lay down are fine, and as large as the cells that they take.
-/
import Derived.Test.YtlaelkcmeaiajaaCTe
import Derived.Test.YtlaelkcmeaiajaaCPa
import Derived.Test.YtlaelkcmeaiajaaCSo
import Derived.Laws.StructEq
import Derived.Deep.RegionHeld3
import Derived.BigQuiet
import Derived.Maps.AppendAt
import Derived.OwnWalk
namespace Go.Proofs.Ytlaelkcmeaiajaa
open Go.RowKit
set_option linter.unusedVariables false
set_option maxRecDepth 100000

/-- A list of cells lies in memory. -/
structure CellsIn (w : World) (v : Value) (l : List CellV) : Prop where
  shape : ∃ ad cap, v = .slice ad l.length cap ∧ l.length ≤ cap ∧ (l = [] ∨ ∃ b off, ad = some ⟨b, off, none⟩ ∧ ∀ (j : Nat) u, (ceCells l)[j]? = some u → w.cell? ⟨b, off + j, none⟩ = some u)
theorem CellsIn.below {w w' : World} {v : Value} {l : List CellV} (h : CellsIn w v l) (hb : Below w.heap.size w w') : CellsIn w' v l := by
  obtain ⟨ad, cap, h1, h2, h3⟩ := h.shape
  refine ⟨ad, cap, h1, h2, ?_⟩
  rcases h3 with h3 | ⟨b, off, h3, h4⟩
  · exact .inl h3
  · exact .inr ⟨b, off, h3, fun j u hu => (hb.cell (p := ⟨b, off + j, none⟩) (World.block_lt_of_cell? w _ (h4 j u hu))).trans (h4 j u hu)⟩
theorem CellsIn.nil {w : World} {v : Value} (h : CellsIn w v []) : ∃ ad cap, v = .slice ad 0 cap := by
  obtain ⟨ad, cap, h1, _⟩ := h.shape
  exact ⟨ad, cap, h1⟩
theorem CellsIn.cons {w : World} {v : Value} {c : CellV} {l : List CellV} (h : CellsIn w v (c :: l)) : ∃ b off cap, v = .slice (some ⟨b, off, none⟩) (l.length + 1) cap ∧ l.length + 1 ≤ cap ∧
    (∀ (j : Nat) u, c.vals[j]? = some u → w.cell? ⟨b, off + j, none⟩ = some u) ∧ (∀ ad, (l = [] ∨ ad = some ⟨b, off + 7, none⟩) → CellsIn w (.slice ad l.length (cap - 1)) l) := by
  obtain ⟨ad, cap, h1, h2, h3⟩ := h.shape
  rcases h3 with h3 | ⟨b, off, h3, h4⟩
  · cases h3
  · subst h3
    have hc : ceCells (c :: l) = c.vals.toList ++ ceCells l := rfl
    refine ⟨b, off, cap, h1, h2, fun j u hu => ?_, fun ad had => ⟨ad, cap - 1, rfl, by simp at h2; omega, ?_⟩⟩
    · refine h4 j u ?_
      have hj := (Array.getElem?_eq_some_iff.1 hu).1
      rw [hc, List.getElem?_append_left (by simpa using hj)]
      simpa using hu
    · rcases had with had | had
      · exact .inl had
      · refine .inr ⟨b, off + 7, had, fun j u hu => ?_⟩
        have := h4 (7 + j) u (by
          rw [hc, List.getElem?_append_right (by show 7 ≤ 7 + j; omega)]
          show (ceCells l)[7 + j - 7]? = _
          rw [Nat.add_sub_cancel_left]
          exact hu)
        rw [show off + 7 + j = off + (7 + j) by omega]
        exact this

def nilPart : Value := .nilIface

/-- The head of a list, laid out for a walk. -/
structure HeadIn (w : World) (b off : Nat) (c : CellV) : Prop where
  q0 : w.cell? ⟨b, off, none⟩ = some (.int .i64 c.depth)
  q1 : w.cell? ⟨b, off + 1, none⟩ = some (.int .i64 c.kind)
  q2 : w.cell? ⟨b, off + 2, none⟩ = some (.int .i64 c.x)
  q3 : w.cell? ⟨b, off + 3, none⟩ = some (.int .i64 c.y)
  q4 : w.cell? ⟨b, off + 4, none⟩ = some (.int .i64 c.w)
  q5 : w.cell? ⟨b, off + 5, none⟩ = some (.int .i64 c.h)
  q6 : w.cell? ⟨b, off + 6, none⟩ = some (.int .i64 c.p)
theorem HeadIn.of {w : World} {b off : Nat} {c : CellV} (h : ∀ (j : Nat) u, c.vals[j]? = some u → w.cell? ⟨b, off + j, none⟩ = some u) : HeadIn w b off c :=
  ⟨h 0 _ rfl, h 1 _ rfl, h 2 _ rfl, h 3 _ rfl, h 4 _ rfl, h 5 _ rfl, h 6 _ rfl⟩

theorem take_none (v : Value) (l : List CellV) (d : Int) (w : World) (h : CellsIn w v l) (hb : l = [] ∨ ∃ c r, l = c :: r ∧ c.depth ≠ d) :
    Calls Try.prog 42 #[v, .int .i64 d] w fun e w' => e = .returned (.tuple #[nilPart, v]) ∧ w = w' := by
  rcases hb with rfl | ⟨c, r, rfl, hd⟩
  · obtain ⟨ad, cap, rfl⟩ := h.nil
    clear h
    go_enter Try.func42, Try.ntmps42
    go_wp2
    all_goals go_ret2
    all_goals exact ⟨rfl, rfl⟩
  · obtain ⟨b, off, cap, rfl, hcap, hcells, _⟩ := h.cons
    obtain ⟨q0, q1, q2, q3, q4, q5, q6⟩ := HeadIn.of hcells
    clear h hcells
    obtain ⟨n, hn⟩ : ∃ n, r.length + 1 = n := ⟨_, rfl⟩
    rw [hn]
    have hn1 : 0 < n := by omega
    have hn0 : ((n : Int) == 0) = false := by simp; omega
    have hdn : (c.depth != d) = true := by simpa using hd
    clear hn hcap
    go_enter Try.func42, Try.ntmps42
    go_wp2
    all_goals go_ret2
    all_goals exact ⟨rfl, rfl⟩
theorem take_other (v : Value) (c : CellV) (l : List CellV) (w : World) (h : CellsIn w v (c :: l)) (hk : ¬ c.kind = 1 ∧ ¬ c.kind = 2 ∧ ¬ c.kind = 3) :
    Calls Try.prog 42 #[v, .int .i64 c.depth] w fun e w' => e = .returned (.tuple #[nilPart, v]) ∧ Below w.heap.size w w' := by
  obtain ⟨b, off, cap, rfl, hcap, hcells, _⟩ := h.cons
  obtain ⟨q0, q1, q2, q3, q4, q5, q6⟩ := HeadIn.of hcells
  clear h hcells
  obtain ⟨n, hn⟩ : ∃ n, l.length + 1 = n := ⟨_, rfl⟩
  rw [hn]
  have hn1 : 0 < n := by omega
  have hn0 : ((n : Int) == 0) = false := by simp; omega
  have k1 : (c.kind == 1) = false := by simpa using hk.1
  have k2 : (c.kind == 2) = false := by simpa using hk.2.1
  have k3 : (c.kind == 3) = false := by simpa using hk.2.2
  clear hn hcap hk
  go_enter Try.func42, Try.ntmps42
  go_wp2
  all_goals go_ret2
  all_goals exact ⟨rfl, ((Below.refl _ _).alloc (Nat.le_refl _) _).alloc (by simp) _⟩
theorem block_new (X : World) (N : Nat) (hN : X.heap.size = N) (vs : Array Value) (T : TypeId) : (X.alloc (.cells vs T)).heap[N]? = some (.cells vs T (0, 0)) := by
  subst hN
  exact heap_alloc_new X _
theorem below_three (w : World) (o1 o2 o3 : Obj) : Below w.heap.size w (((w.alloc o1).alloc o2).drew.alloc o3) := (((Below.refl _ _).alloc (Nat.le_refl _) _).alloc (by simp) _).drew.alloc (by simp; omega) _
theorem CellsIn.empty (w : World) (ad : Option Addr) (cap : Nat) (l : List CellV) (h : l.length = 0) : CellsIn w (.slice ad 0 cap) l := by
  have := List.length_eq_zero_iff.1 h
  subst this
  exact ⟨ad, cap, rfl, Nat.zero_le _, .inl rfl⟩

theorem take_leaf (v : Value) (c : CellV) (l : List CellV) (W0 w : World) (hW : Below W0.heap.size W0 w) (h : CellsIn W0 v (c :: l)) (hk : c.kind = 1) :
    Calls Try.prog 42 #[v, .int .i64 c.depth] w fun e w' => ∃ g v', e = .returned (.tuple #[leafI g, v']) ∧ w.heap.size ≤ g ∧ LeafAt w' g c.box c.p ∧ CellsIn W0 v' l ∧ Below w.heap.size w w' := by
  obtain ⟨b, off, cap, rfl, hcap, hcells, hrest⟩ := h.cons
  obtain ⟨q0, q1, q2, q3, q4, q5, q6⟩ := HeadIn.of (fun j u hu => (hW.cell (p := ⟨b, off + j, none⟩) (World.block_lt_of_cell? W0 _ (hcells j u hu))).trans (hcells j u hu))
  have HR : Hid (∀ ad, (l = [] ∨ ad = some ⟨b, off + 7, none⟩) → CellsIn W0 (.slice ad l.length (cap - 1)) l) := hrest
  clear h hcells hrest hW
  have HN : Hid (l.length + 1 ≤ cap) := hcap
  obtain ⟨n, hn⟩ : ∃ n, l.length + 1 = n := ⟨_, rfl⟩
  rw [hn] at hcap ⊢
  have hn1 : 0 < n := by omega
  have hn0 : ((n : Int) == 0) = false := by simp; omega
  have Hn : Hid (l.length + 1 = n) := hn
  rw [hk] at q1
  have hn2 : (1 : Int) ≤ (n : Int) := by omega
  have hn3 : (n : Int) ≤ (cap : Int) := by omega
  have hn4 : 1 ≤ n := hn1
  clear hn hk
  by_cases hc1 : cap = 1
  · subst hc1
    have hn5 : n = 1 := by omega
    subst hn5
    clear hcap hn1 hn0 hn2 hn3 hn4
    go_enter Try.func42, Try.ntmps42
    go_wp2
    go_region
    all_goals go_wp2
    all_goals go_ret2
    all_goals refine ⟨w.heap.size + 1 + 1, _, rfl, by omega, ?_, CellsIn.empty _ _ _ _ (by have := Hn.out; omega), below_three _ _ _ _⟩
    all_goals exact block_new _ _ (by simp) _ _
  · have hc2 : (cap == 1) = false := by simpa using hc1
    go_enter Try.func42, Try.ntmps42
    go_wp2
    go_region
    all_goals go_wp2
    all_goals go_ret2
    all_goals have e1 : n - 1 = l.length := by have := Hn.out; omega
    all_goals rw [e1]
    all_goals refine ⟨w.heap.size + 1 + 1, _, rfl, by omega, ?_, HR.out _ (.inr rfl), below_three _ _ _ _⟩
    all_goals exact block_new _ _ (by simp) _ _

end Go.Proofs.Ytlaelkcmeaiajaa

namespace Go.Proofs.Ytlaelkcmeaiajaa
open Go.RowKit
set_option linter.unusedVariables false
set_option maxRecDepth 100000

/-- Are two cells one? -/
def ceEq (a b : CellV) : Bool := (a.depth == b.depth) && ((a.kind == b.kind) && ((a.x == b.x) && ((a.y == b.y) && ((a.w == b.w) && ((a.h == b.h) && (a.p == b.p))))))
theorem ceEq_iff (a b : CellV) : ceEq a b = true ↔ a = b := by
  constructor
  · intro h
    unfold ceEq at h
    simp only [Bool.and_eq_true, beq_iff_eq] at h
    obtain ⟨h1, h2, h3, h4, h5, h6, h7⟩ := h
    cases a; cases b
    simp_all
  · rintro rfl
    unfold ceEq
    simp
theorem eqF_consL {P : Program} {w : World} (d : Nat) (xs ys : Array Value) {nm : String} {t : TypeId} {o : Nat} {em : Bool} {tag pk : String} {bo : Nat} (fs : List Field) (a b : Value) (r : Bool) (hn : nm ≠ "_") (ha : (part t xs o).run P w = .ok a w) (hb : (part t ys o).run P w = .ok b w)
    (he : (Op.equalIn d t a b).run P w = .ok r w) (s : Bool) (hs : (Op.eqFields d xs ys fs).run P w = .ok s w) : (Op.eqFields d xs ys (⟨nm, t, o, em, tag, pk, bo⟩ :: fs)).run P w = .ok (r && s) w := by
  unfold Op.eqFields
  rw [if_pos hn]
  simp only [Sem.run_bind, ha, hb, he, Result.andThen_ok]
  cases r
  · rfl
  · exact hs
theorem part_plainL {P : Program} {w : World} (t : TypeId) (cs : Array Value) (o : Nat) (v : Value) (h : (isAgg t).run P w = .ok false w) (hv : cs[o]? = some v) : (part t cs o).run P w = .ok v w := by
  unfold part
  simp [Sem.run_bind, h, hv]
theorem eqCe (a b : CellV) (w : World) : (Op.equalIn 10000 35 (.agg a.vals) (.agg b.vals)).run Try.prog w = .ok (ceEq a b) w := by
  have hu : Try.prog.underlying 35 = some (.struct (Try.prog.fieldsOf 35)) := by kernel_rfl
  have hp : Try.prog.stoodInHeld 35 = false := by kernel_rfl
  have hl : (Try.prog.fieldsOf 35).toList = [⟨"Depth", 3, 0, false, "", "", 0⟩, ⟨"Kind", 3, 1, false, "", "", 8⟩, ⟨"X", 3, 2, false, "", "", 16⟩, ⟨"Y", 3, 3, false, "", "", 24⟩, ⟨"W", 3, 4, false, "", "", 32⟩, ⟨"H", 3, 5, false, "", "", 40⟩, ⟨"Pane", 3, 6, false, "", "", 48⟩] := by kernel_rfl
  obtain ⟨d, hd⟩ : ∃ d, (10000 : Nat) = d + 1 + 1 := ⟨9998, rfl⟩
  rw [hd, run_equalIn_struct w (d + 1) 35 _ _ hu hp, hl]
  have u3 := Try.underlying3
  have a3 := Try.isAgg3
  have hz : ceEq a b = ((a.depth == b.depth) && ((a.kind == b.kind) && ((a.x == b.x) && ((a.y == b.y) && ((a.w == b.w) && ((a.h == b.h) && ((a.p == b.p) && true))))))) := by rw [Bool.and_true]; rfl
  rw [hz]
  have x0 : a.vals[0]? = some (.int .i64 a.depth) := rfl
  have x1 : a.vals[1]? = some (.int .i64 a.kind) := rfl
  have x2 : a.vals[2]? = some (.int .i64 a.x) := rfl
  have x3 : a.vals[3]? = some (.int .i64 a.y) := rfl
  have x4 : a.vals[4]? = some (.int .i64 a.w) := rfl
  have x5 : a.vals[5]? = some (.int .i64 a.h) := rfl
  have x6 : a.vals[6]? = some (.int .i64 a.p) := rfl
  have y0 : b.vals[0]? = some (.int .i64 b.depth) := rfl
  have y1 : b.vals[1]? = some (.int .i64 b.kind) := rfl
  have y2 : b.vals[2]? = some (.int .i64 b.x) := rfl
  have y3 : b.vals[3]? = some (.int .i64 b.y) := rfl
  have y4 : b.vals[4]? = some (.int .i64 b.w) := rfl
  have y5 : b.vals[5]? = some (.int .i64 b.h) := rfl
  have y6 : b.vals[6]? = some (.int .i64 b.p) := rfl
  obtain ⟨xs, hx⟩ : ∃ x, a.vals = x := ⟨_, rfl⟩
  obtain ⟨ys, hy⟩ : ∃ x, b.vals = x := ⟨_, rfl⟩
  rw [hx] at x0 x1 x2 x3 x4 x5 x6 ⊢
  rw [hy] at y0 y1 y2 y3 y4 y5 y6 ⊢
  clear hx hy hz
  refine eqF_consL (d + 1) xs ys _ _ _ _ (by decide) (part_plainL 3 xs 0 _ (a3 w) x0) (part_plainL 3 ys 0 _ (a3 w) y0) (run_equalIn_int w d 3 .i64 .i64 _ _ u3) _ ?_
  refine eqF_consL (d + 1) xs ys _ _ _ _ (by decide) (part_plainL 3 xs 1 _ (a3 w) x1) (part_plainL 3 ys 1 _ (a3 w) y1) (run_equalIn_int w d 3 .i64 .i64 _ _ u3) _ ?_
  refine eqF_consL (d + 1) xs ys _ _ _ _ (by decide) (part_plainL 3 xs 2 _ (a3 w) x2) (part_plainL 3 ys 2 _ (a3 w) y2) (run_equalIn_int w d 3 .i64 .i64 _ _ u3) _ ?_
  refine eqF_consL (d + 1) xs ys _ _ _ _ (by decide) (part_plainL 3 xs 3 _ (a3 w) x3) (part_plainL 3 ys 3 _ (a3 w) y3) (run_equalIn_int w d 3 .i64 .i64 _ _ u3) _ ?_
  refine eqF_consL (d + 1) xs ys _ _ _ _ (by decide) (part_plainL 3 xs 4 _ (a3 w) x4) (part_plainL 3 ys 4 _ (a3 w) y4) (run_equalIn_int w d 3 .i64 .i64 _ _ u3) _ ?_
  refine eqF_consL (d + 1) xs ys _ _ _ _ (by decide) (part_plainL 3 xs 5 _ (a3 w) x5) (part_plainL 3 ys 5 _ (a3 w) y5) (run_equalIn_int w d 3 .i64 .i64 _ _ u3) _ ?_
  refine eqF_consL (d + 1) xs ys _ _ _ _ (by decide) (part_plainL 3 xs 6 _ (a3 w) x6) (part_plainL 3 ys 6 _ (a3 w) y6) (run_equalIn_int w d 3 .i64 .i64 _ _ u3) true ?_
  rfl

theorem ceCells_get (l : List CellV) : ∀ (i : Nat) (c : CellV) (j : Nat) (u : Value), l[i]? = some c → c.vals[j]? = some u → (ceCells l)[i * 7 + j]? = some u := by
  induction l with
  | nil => intro i c j u h; simp at h
  | cons a l ih =>
    intro i c j u h hu
    have hj : j < 7 := (Array.getElem?_eq_some_iff.1 hu).1
    have hc : ceCells (a :: l) = a.vals.toList ++ ceCells l := rfl
    cases i with
    | zero =>
      simp at h
      subst h
      rw [hc, List.getElem?_append_left (by show 0 * 7 + j < 7; omega)]
      simpa using hu
    | succ i =>
      rw [hc, List.getElem?_append_right (by show 7 ≤ (i + 1) * 7 + j; omega)]
      show (ceCells l)[(i + 1) * 7 + j - 7]? = _
      rw [show (i + 1) * 7 + j - 7 = i * 7 + j by omega]
      exact ih i c j u (by simpa using h) hu

/-- Where the cells of a list lie. -/
def SeenIn (w : World) (b off : Nat) (l : List CellV) : Prop := ∀ (i : Nat) (c : CellV), l[i]? = some c → HeadIn w b (off + i * 7) c
theorem CellsIn.seen {w : World} {v : Value} {l : List CellV} (h : CellsIn w v l) (hl : l ≠ []) : ∃ b off cap, v = .slice (some ⟨b, off, none⟩) l.length cap ∧ l.length ≤ cap ∧ SeenIn w b off l := by
  obtain ⟨ad, cap, h1, h2, h3⟩ := h.shape
  rcases h3 with h3 | ⟨b, off, rfl, h4⟩
  · exact absurd h3 hl
  · exact ⟨b, off, cap, h1, h2, fun i c hi => HeadIn.of fun j u hu => by
      have := h4 (i * 7 + j) u (ceCells_get l i c j u hi hu)
      rw [show off + i * 7 + j = off + (i * 7 + j) by omega]
      exact this⟩
theorem SeenIn.below {w w' : World} {b off : Nat} {l : List CellV} (h : SeenIn w b off l) (hb : Below w.heap.size w w') : SeenIn w' b off l := by
  intro i c hi
  have k := h i c hi
  have lt : b < w.heap.size := World.block_lt_of_cell? w _ k.q0
  have go : ∀ o, w'.cell? ⟨b, o, none⟩ = w.cell? ⟨b, o, none⟩ := fun o => hb.cell (p := ⟨b, o, none⟩) lt
  exact ⟨(go _).trans k.q0, (go _).trans k.q1, (go _).trans k.q2, (go _).trans k.q3, (go _).trans k.q4, (go _).trans k.q5, (go _).trans k.q6⟩
theorem CeOwns.cellsIn {w : World} {B : Nat} {v : Value} {l : List CellV} (h : CeOwns w B v l) : CellsIn w v l := by
  rcases h.2 with ⟨rfl, h0⟩ | ⟨g, cap, cur, rfl, hb, hg, h1, h2, h3, h4⟩
  · have : l = [] := List.length_eq_zero_iff.1 h0
    subst this
    exact ⟨none, 0, rfl, Nat.le_refl _, .inl rfl⟩
  · refine ⟨some ⟨g, 0, none⟩, cap, rfl, h1, .inr ⟨g, 0, rfl, fun j u hu => ?_⟩⟩
    rw [Nat.zero_add, cell_atL hg]
    rw [← h4] at hu
    have hj : j < l.length * 7 := by
      have := (List.getElem?_eq_some_iff.1 hu).1
      simp at this
      omega
    rw [List.getElem?_take_of_lt hj] at hu
    simpa using hu

theorem take_succ_eq {a b : List CellV} {i : Nat} {c d : CellV} (h : a.take i = b.take i) (ha : a[i]? = some c) (hb : b[i]? = some d) (e : c = d) : a.take (i + 1) = b.take (i + 1) := by
  rw [List.take_add_one, List.take_add_one, h, ha, hb, e]
theorem ne_of_at {a b : List CellV} {i : Nat} {c d : CellV} (ha : a[i]? = some c) (hb : b[i]? = some d) (e : c ≠ d) : a ≠ b := by
  rintro rfl
  rw [ha] at hb
  cases hb
  exact e rfl

set_option maxHeartbeats 1000000 in
theorem equal_same (b1 o1 c1 b2 o2 c2 n : Nat) (l1 l2 : List CellV) (w : World) (h1 : SeenIn w b1 o1 l1) (h2 : SeenIn w b2 o2 l2) (hn1 : l1.length = n) (hn2 : l2.length = n) (hn : n ≤ 1000000) :
    Calls Try.prog 43 #[.slice (some ⟨b1, o1, none⟩) n c1, .slice (some ⟨b2, o2, none⟩) n c2] w fun e w' => e = .returned (.bool (decide (l1 = l2))) ∧ Below w.heap.size w w' := by
  have H1 : Hid (SeenIn w b1 o1 l1) := h1
  have H2 : Hid (SeenIn w b2 o2 l2) := h2
  have HN1 : Hid (l1.length = n) := hn1
  have HN2 : Hid (l2.length = n) := hn2
  obtain ⟨rr, hrr⟩ : ∃ r, decide (l1 = l2) = r := ⟨_, rfl⟩
  rw [hrr]
  have HR : Hid (decide (l1 = l2) = rr) := hrr
  clear h1 h2 hn1 hn2 hrr
  go_enter Try.func43, Try.ntmps43
  go_wp2
  go_loopw [13] (fun v wr => ∃ i : Nat, i ≤ n ∧ v = .int .i64 i ∧ Hid (l1.take i = l2.take i) ∧ Hid (Below w.heap.size w wr)) (fun v _ => n - (intOf v).toNat)
  case atStart => exact ⟨0, Nat.zero_le _, rfl, by simp [Hid], Below.refl _ _⟩
  case round =>
    obtain ⟨i, hi, rfl, HT, HB⟩ := hrel
    by_cases hlt : i < n
    · obtain ⟨x, hx⟩ : ∃ x, l1[i]? = some x := ⟨_, List.getElem?_eq_getElem (by rw [HN1.out]; exact hlt)⟩
      obtain ⟨y, hy⟩ : ∃ y, l2[i]? = some y := ⟨_, List.getElem?_eq_getElem (by rw [HN2.out]; exact hlt)⟩
      obtain ⟨q0, q1, q2, q3, q4, q5, q6⟩ := (H1.out.below HB.out) i x hx
      obtain ⟨p0, p1, p2, p3, p4, p5, p6⟩ := (H2.out.below HB.out) i y hy
      obtain ⟨r, hr⟩ : ∃ r, ceEq x y = r := ⟨_, rfl⟩
      have hEq : ∀ W : World, (Op.equalIn 10000 35 (.agg #[.int .i64 x.depth, .int .i64 x.kind, .int .i64 x.x, .int .i64 x.y, .int .i64 x.w, .int .i64 x.h, .int .i64 x.p]) (.agg #[.int .i64 y.depth, .int .i64 y.kind, .int .i64 y.x, .int .i64 y.y, .int .i64 y.w, .int .i64 y.h, .int .i64 y.p])).run Try.prog W = .ok r W := fun W => by
        have := eqCe x y W
        rw [hr] at this
        exact this
      have HE : Hid (ceEq x y = r) := hr
      have HX : Hid (l1[i]? = some x) := hx
      have HY : Hid (l2[i]? = some y) := hy
      clear hr hx hy
      cases r
      · have HF : Hid (rr = false) := HR.out.symm.trans (decide_eq_false (ne_of_at HX.out HY.out fun e => by rw [(ceEq_iff x y).2 e] at HE; cases HE.out))
        go_wp2
        go_quiet (fail)
        go_wp2
        go_ret
        exact ⟨by rw [HF.out]; rfl, below_drewN HB.out _⟩
      · go_wp2
        go_quiet (fail)
        go_wp2
        go_roundw
        case rel => exact ⟨i + 1, by omega, by go_num, take_succ_eq HT.out HX.out HY.out ((ceEq_iff x y).1 HE.out), below_drewN HB.out _⟩
        case measure => simp [intOf]; omega
    · have HF : Hid (rr = true) := HR.out.symm.trans (decide_eq_true (by
        have h := HT.out
        rwa [List.take_of_length_le (by rw [HN1.out]; omega), List.take_of_length_le (by rw [HN2.out]; omega)] at h))
      go_wp2
      go_ret
      exact ⟨by rw [HF.out]; rfl, HB.out⟩

theorem CellsIn.length {w : World} {v : Value} {l : List CellV} (h : CellsIn w v l) : ∃ ad cap, v = .slice ad l.length cap := by
  obtain ⟨ad, cap, h1, _⟩ := h.shape
  exact ⟨ad, cap, h1⟩
theorem equal_lens (a1 a2 : Option Addr) (n1 c1 n2 c2 : Nat) (w : World) (hn : n1 ≠ n2) :
    Calls Try.prog 43 #[.slice a1 n1 c1, .slice a2 n2 c2] w fun e w' => e = .returned (.bool false) ∧ w = w' := by
  have h : ((n1 : Int) != n2) = true := by simp; omega
  clear hn
  go_enter Try.func43, Try.ntmps43
  go_wp2
  go_ret
  exact ⟨rfl, rfl⟩
theorem equal_none (a1 a2 : Option Addr) (c1 c2 : Nat) (w : World) :
    Calls Try.prog 43 #[.slice a1 0 c1, .slice a2 0 c2] w fun e w' => e = .returned (.bool true) ∧ w = w' := by
  go_enter Try.func43, Try.ntmps43
  go_wp2
  go_loopw [13] (fun v wr => v = .int .i64 0 ∧ w = wr) (fun _ _ => 0)
  case atStart => exact ⟨rfl, rfl⟩
  case round =>
    obtain ⟨rfl, rfl⟩ := hrel
    go_wp2
    go_ret
    exact ⟨rfl, rfl⟩
theorem equal_any (v1 v2 : Value) (l1 l2 : List CellV) (w : World) (h1 : CellsIn w v1 l1) (h2 : CellsIn w v2 l2) (hn : l1.length ≤ 1000000) :
    Calls Try.prog 43 #[v1, v2] w fun e w' => e = .returned (.bool (decide (l1 = l2))) ∧ Below w.heap.size w w' := by
  by_cases hl : l1.length = l2.length
  · by_cases h0 : l1 = []
    · subst h0
      have h00 : l2 = [] := List.length_eq_zero_iff.1 hl.symm
      subst h00
      obtain ⟨a1, c1, rfl⟩ := h1.nil
      obtain ⟨a2, c2, rfl⟩ := h2.nil
      exact (equal_none a1 a2 c1 c2 w).mono fun e w' h => ⟨by rw [h.1]; simp, h.2 ▸ Below.refl _ _⟩
    · have h02 : l2 ≠ [] := by rintro rfl; exact h0 (List.length_eq_zero_iff.1 hl)
      obtain ⟨b1, o1, c1, rfl, _, k1⟩ := h1.seen h0
      obtain ⟨b2, o2, c2, rfl, _, k2⟩ := h2.seen h02
      rw [← hl]
      exact equal_same b1 o1 c1 b2 o2 c2 l1.length l1 l2 w k1 k2 rfl hl.symm hn
  · obtain ⟨a1, c1, rfl⟩ := h1.length
    obtain ⟨a2, c2, rfl⟩ := h2.length
    refine (equal_lens a1 a2 _ c1 _ c2 w hl).mono fun e w' h => ⟨?_, h.2 ▸ Below.refl _ _⟩
    rw [h.1, decide_eq_false]
    intro e
    exact hl (congrArg _ e)

set_option maxHeartbeats 1000000 in
theorem law_same (b1 o1 c1 b2 o2 c2 n : Nat) (l1 l2 : List CellV) (w : World) (h1 : SeenIn w b1 o1 l1) (h2 : SeenIn w b2 o2 l2) (hn1 : l1.length = n) (hn2 : l2.length = n) (hn : n ≤ 1000000) :
    Calls Try.prog 12 #[.slice (some ⟨b1, o1, none⟩) n c1, .slice (some ⟨b2, o2, none⟩) n c2] w fun e w' => e = .returned (.bool (decide (l1 = l2))) ∧ Below w.heap.size w w' := by
  have H1 : Hid (SeenIn w b1 o1 l1) := h1
  have H2 : Hid (SeenIn w b2 o2 l2) := h2
  have HN1 : Hid (l1.length = n) := hn1
  have HN2 : Hid (l2.length = n) := hn2
  obtain ⟨rr, hrr⟩ : ∃ r, decide (l1 = l2) = r := ⟨_, rfl⟩
  rw [hrr]
  have HR : Hid (decide (l1 = l2) = rr) := hrr
  clear h1 h2 hn1 hn2 hrr
  go_enter Try.func12, Try.ntmps12
  go_wp2
  go_loopw [5] (fun v wr => ∃ i : Nat, i ≤ n ∧ v = .int .i64 i ∧ Hid (l1.take i = l2.take i) ∧ Hid (Below w.heap.size w wr)) (fun v _ => n - (intOf v).toNat)
  case atStart => exact ⟨0, Nat.zero_le _, rfl, by simp [Hid], Below.refl _ _⟩
  case round =>
    obtain ⟨i, hi, rfl, HT, HB⟩ := hrel
    by_cases hlt : i < n
    · obtain ⟨x, hx⟩ : ∃ x, l1[i]? = some x := ⟨_, List.getElem?_eq_getElem (by rw [HN1.out]; exact hlt)⟩
      obtain ⟨y, hy⟩ : ∃ y, l2[i]? = some y := ⟨_, List.getElem?_eq_getElem (by rw [HN2.out]; exact hlt)⟩
      obtain ⟨q0, q1, q2, q3, q4, q5, q6⟩ := (H1.out.below HB.out) i x hx
      obtain ⟨p0, p1, p2, p3, p4, p5, p6⟩ := (H2.out.below HB.out) i y hy
      obtain ⟨r, hr⟩ : ∃ r, ceEq x y = r := ⟨_, rfl⟩
      have hEq : ∀ W : World, (Op.equalIn 10000 35 (.agg #[.int .i64 x.depth, .int .i64 x.kind, .int .i64 x.x, .int .i64 x.y, .int .i64 x.w, .int .i64 x.h, .int .i64 x.p]) (.agg #[.int .i64 y.depth, .int .i64 y.kind, .int .i64 y.x, .int .i64 y.y, .int .i64 y.w, .int .i64 y.h, .int .i64 y.p])).run Try.prog W = .ok r W := fun W => by
        have := eqCe x y W
        rw [hr] at this
        exact this
      have HE : Hid (ceEq x y = r) := hr
      have HX : Hid (l1[i]? = some x) := hx
      have HY : Hid (l2[i]? = some y) := hy
      clear hr hx hy
      cases r
      · have HF : Hid (rr = false) := HR.out.symm.trans (decide_eq_false (ne_of_at HX.out HY.out fun e => by rw [(ceEq_iff x y).2 e] at HE; cases HE.out))
        go_wp2
        go_quiet (fail)
        go_wp2
        go_ret
        exact ⟨by rw [HF.out]; rfl, below_drewN HB.out _⟩
      · go_wp2
        go_quiet (fail)
        go_wp2
        go_roundw
        case rel => exact ⟨i + 1, by omega, by go_num, take_succ_eq HT.out HX.out HY.out ((ceEq_iff x y).1 HE.out), below_drewN HB.out _⟩
        case measure => simp [intOf]; omega
    · have HF : Hid (rr = true) := HR.out.symm.trans (decide_eq_true (by
        have h := HT.out
        rwa [List.take_of_length_le (by rw [HN1.out]; omega), List.take_of_length_le (by rw [HN2.out]; omega)] at h))
      go_wp2
      go_ret
      exact ⟨by rw [HF.out]; rfl, HB.out⟩

theorem law_lens (a1 a2 : Option Addr) (n1 c1 n2 c2 : Nat) (w : World) (hn : n1 ≠ n2) :
    Calls Try.prog 12 #[.slice a1 n1 c1, .slice a2 n2 c2] w fun e w' => e = .returned (.bool false) ∧ w = w' := by
  have h : ((n1 : Int) != n2) = true := by simp; omega
  clear hn
  go_enter Try.func12, Try.ntmps12
  go_wp2
  go_ret
  exact ⟨rfl, rfl⟩
theorem law_none (a1 a2 : Option Addr) (c1 c2 : Nat) (w : World) :
    Calls Try.prog 12 #[.slice a1 0 c1, .slice a2 0 c2] w fun e w' => e = .returned (.bool true) ∧ w = w' := by
  go_enter Try.func12, Try.ntmps12
  go_wp2
  go_loopw [5] (fun v wr => v = .int .i64 0 ∧ w = wr) (fun _ _ => 0)
  case atStart => exact ⟨rfl, rfl⟩
  case round =>
    obtain ⟨rfl, rfl⟩ := hrel
    go_wp2
    go_ret
    exact ⟨rfl, rfl⟩
theorem law_any (v1 v2 : Value) (l1 l2 : List CellV) (w : World) (h1 : CellsIn w v1 l1) (h2 : CellsIn w v2 l2) (hn : l1.length ≤ 1000000) :
    Calls Try.prog 12 #[v1, v2] w fun e w' => e = .returned (.bool (decide (l1 = l2))) ∧ Below w.heap.size w w' := by
  by_cases hl : l1.length = l2.length
  · by_cases h0 : l1 = []
    · subst h0
      have h00 : l2 = [] := List.length_eq_zero_iff.1 hl.symm
      subst h00
      obtain ⟨a1, c1, rfl⟩ := h1.nil
      obtain ⟨a2, c2, rfl⟩ := h2.nil
      exact (law_none a1 a2 c1 c2 w).mono fun e w' h => ⟨by rw [h.1]; simp, h.2 ▸ Below.refl _ _⟩
    · have h02 : l2 ≠ [] := by rintro rfl; exact h0 (List.length_eq_zero_iff.1 hl)
      obtain ⟨b1, o1, c1, rfl, _, k1⟩ := h1.seen h0
      obtain ⟨b2, o2, c2, rfl, _, k2⟩ := h2.seen h02
      rw [← hl]
      exact law_same b1 o1 c1 b2 o2 c2 l1.length l1 l2 w k1 k2 rfl hl.symm hn
  · obtain ⟨a1, c1, rfl⟩ := h1.length
    obtain ⟨a2, c2, rfl⟩ := h2.length
    refine (law_lens a1 a2 _ c1 _ c2 w hl).mono fun e w' h => ⟨?_, h.2 ▸ Below.refl _ _⟩
    rw [h.1, decide_eq_false]
    intro e
    exact hl (congrArg _ e)

end Go.Proofs.Ytlaelkcmeaiajaa

namespace Go.Proofs.Ytlaelkcmeaiajaa
open Go.RowKit
set_option linter.unusedVariables false
set_option maxRecDepth 100000

/-- What take leaves of a row or a column. -/
def SplitPost (w : World) (c : CellV) (R : Value → Value → World → World → Prop) (e : Ending) (w' : World) : Prop :=
  ∃ g sl v' X w2, e = .returned (.tuple #[splitI g, v']) ∧ Below w.heap.size w X ∧ R sl v' X w2 ∧ Below X.heap.size X w2 ∧ w2.heap.size ≤ g ∧ SplitAt w' g c.box c.kind sl ∧ Below w2.heap.size w2 w'

theorem two_new (w : World) (c : CellV) (kd : Int) (X : World) (hX : (w.alloc (.cells #[.int .i64 c.depth, .int .i64 kd, .int .i64 c.x, .int .i64 c.y, .int .i64 c.w, .int .i64 c.h, .int .i64 c.p] 35)).alloc (.cells #[.int .i64 c.x, .int .i64 c.y, .int .i64 c.w, .int .i64 c.h] 52) = X) :
    Below w.heap.size w X ∧ ∀ w2, Below X.heap.size X w2 → w2.cell? ⟨w.heap.size, 1, none⟩ = some (.int .i64 kd) ∧ w2.cell? ⟨w.heap.size + 1, 0, none⟩ = some (.int .i64 c.x) ∧ w2.cell? ⟨w.heap.size + 1, 1, none⟩ = some (.int .i64 c.y) ∧ w2.cell? ⟨w.heap.size + 1, 2, none⟩ = some (.int .i64 c.w) ∧ w2.cell? ⟨w.heap.size + 1, 3, none⟩ = some (.int .i64 c.h) ∧ w.heap.size + 1 + 1 ≤ w2.heap.size := by
  subst hX
  refine ⟨((Below.refl _ _).alloc (Nat.le_refl _) _).alloc (by simp) _, fun w2 hb => ?_⟩
  have h1 := heap_alloc_new w (.cells #[.int .i64 c.depth, .int .i64 kd, .int .i64 c.x, .int .i64 c.y, .int .i64 c.w, .int .i64 c.h, .int .i64 c.p] 35)
  obtain ⟨W1, hW1⟩ : ∃ W1, w.alloc (.cells #[.int .i64 c.depth, .int .i64 kd, .int .i64 c.x, .int .i64 c.y, .int .i64 c.w, .int .i64 c.h, .int .i64 c.p] 35) = W1 := ⟨_, rfl⟩
  have hs1 : W1.heap.size = w.heap.size + 1 := by rw [← hW1]; simp
  rw [hW1] at h1 hb
  have h2 := heap_alloc_new W1 (.cells #[.int .i64 c.x, .int .i64 c.y, .int .i64 c.w, .int .i64 c.h] 52)
  have h3 : (W1.alloc (.cells #[.int .i64 c.x, .int .i64 c.y, .int .i64 c.w, .int .i64 c.h] 52)).heap[w.heap.size]? = _ := ((((Below.refl W1.heap.size W1).alloc (Nat.le_refl _) _).block w.heap.size (by omega))).trans h1
  have hs2 : (W1.alloc (.cells #[.int .i64 c.x, .int .i64 c.y, .int .i64 c.w, .int .i64 c.h] 52)).heap.size = w.heap.size + 1 + 1 := by rw [← hs1]; simp
  rw [hs1] at h2
  have g1 := (hb.block w.heap.size (by omega)).trans h3
  have g2 := (hb.block (w.heap.size + 1) (by omega)).trans h2
  refine ⟨cell_atL g1 1, cell_atL g2 0, cell_atL g2 1, cell_atL g2 2, cell_atL g2 3, ?_⟩
  have := hb.size
  omega

set_option maxHeartbeats 1000000 in
theorem take_split (v : Value) (c : CellV) (l : List CellV) (W0 w : World) (hW : Below W0.heap.size W0 w) (R : Value → Value → World → World → Prop) (h : CellsIn W0 v (c :: l)) (hk : c.kind = 2 ∨ c.kind = 3) (hd : 0 ≤ c.depth ∧ c.depth ≤ 1000)
    (HA : ∀ X v1, Below w.heap.size w X → CellsIn W0 v1 l → Calls Try.prog 54 #[v1, .int .i64 (c.depth + 1)] X fun e w' => ∃ sa sn sc v', e = .returned (.tuple #[.slice sa sn sc, v']) ∧ R (.slice sa sn sc) v' X w' ∧ Below X.heap.size X w') :
    Calls Try.prog 42 #[v, .int .i64 c.depth] w fun e w' => SplitPost w c R e w' := by
  obtain ⟨b, off, cap, rfl, hcap, hcells, hrest⟩ := h.cons
  obtain ⟨q0, q1, q2, q3, q4, q5, q6⟩ := HeadIn.of (fun j u hu => (hW.cell (p := ⟨b, off + j, none⟩) (World.block_lt_of_cell? W0 _ (hcells j u hu))).trans (hcells j u hu))
  obtain ⟨n, hn⟩ : ∃ n, l.length + 1 = n := ⟨_, rfl⟩
  have Hn : Hid (l.length + 1 = n) := hn
  have HA1 : Hid (∀ X v1, Below w.heap.size w X → (∀ ad, (l = [] ∨ ad = some ⟨b, off + 7, none⟩) → v1 = .slice ad l.length (cap - 1) → Calls Try.prog 54 #[v1, .int .i64 (c.depth + 1)] X fun e w' => ∃ sa sn sc v', e = .returned (.tuple #[.slice sa sn sc, v']) ∧ R (.slice sa sn sc) v' X w' ∧ Below X.heap.size X w')) := fun X v1 hX ad had hv => HA X v1 hX (hv ▸ hrest ad had)
  have HA0 : Hid (∀ X ad cap', l.length = 0 → Below w.heap.size w X → Calls Try.prog 54 #[.slice ad 0 cap', .int .i64 (c.depth + 1)] X fun e w' => ∃ sa sn sc v', e = .returned (.tuple #[.slice sa sn sc, v']) ∧ R (.slice sa sn sc) v' X w' ∧ Below X.heap.size X w') := fun X ad cap' hl hX => HA X _ hX (CellsIn.empty _ _ _ _ hl)
  clear h hcells hrest HA hW
  rw [hn] at hcap ⊢
  have hn1 : 0 < n := by omega
  have hn0 : ((n : Int) == 0) = false := by simp; omega
  have hn2 : (1 : Int) ≤ (n : Int) := by omega
  have hn3 : (n : Int) ≤ (cap : Int) := by omega
  have hn4 : 1 ≤ n := hn1
  have hdw : IntKind.i64.wrap (c.depth + 1) = c.depth + 1 := by rw [IntKind.wrap_i64]; omega
  obtain ⟨kd, hkd⟩ : ∃ k, c.kind = k := ⟨_, rfl⟩
  have Hkd : Hid (c.kind = kd) := hkd
  rw [hkd] at hk q1
  have k1 : (kd == 1) = false := by rcases hk with rfl | rfl <;> rfl
  have k23 : (kd == 2) = true ∨ (kd == 2) = false ∧ (kd == 3) = true := by rcases hk with rfl | rfl <;> simp
  clear hn hkd hk hd
  by_cases hc1 : cap = 1
  · subst hc1
    have hn5 : n = 1 := by omega
    subst hn5
    have HE : Hid (l.length = 0) := by have := Hn.out; show l.length = 0; omega
    clear hcap hn1 hn0 hn2 hn3 hn4
    rcases k23 with k2 | ⟨k2, k3⟩
    · go_enter Try.func42, Try.ntmps42
      go_wp2_with fail
      obtain ⟨X, hX⟩ : ∃ X, (w.alloc (.cells #[.int .i64 c.depth, .int .i64 kd, .int .i64 c.x, .int .i64 c.y, .int .i64 c.w, .int .i64 c.h, .int .i64 c.p] 35)).alloc (.cells #[.int .i64 c.x, .int .i64 c.y, .int .i64 c.w, .int .i64 c.h] 52) = X := ⟨_, rfl⟩
      have hXF := two_new w c kd X hX
      rw [hX]
      refine (HA0.out X _ _ HE.out hXF.1).mono ?_
      rintro e w2 ⟨sa, sn, sc, v', rfl, hR, hb2⟩
      have HRR : Hid (R (.slice sa sn sc) v' X w2) := hR
      obtain ⟨y1, y2, y3, y4, y5, y6⟩ := hXF.2 w2 hb2
      have HX0 : Hid (Below w.heap.size w X) := hXF.1
      have HB2 : Hid (Below X.heap.size X w2) := hb2
      clear hR hb2 hXF hX
      go_wp2
      all_goals go_ret2
      all_goals refine ⟨w2.heap.size, .slice sa sn sc, v', X, w2, rfl, HX0.out, HRR.out, HB2.out, Nat.le_refl _, ?_, (Below.refl _ _).alloc (Nat.le_refl _) _⟩
      all_goals rw [Hkd.out]
      all_goals exact block_new _ _ rfl _ _
    · go_enter Try.func42, Try.ntmps42
      go_wp2_with fail
      obtain ⟨X, hX⟩ : ∃ X, (w.alloc (.cells #[.int .i64 c.depth, .int .i64 kd, .int .i64 c.x, .int .i64 c.y, .int .i64 c.w, .int .i64 c.h, .int .i64 c.p] 35)).alloc (.cells #[.int .i64 c.x, .int .i64 c.y, .int .i64 c.w, .int .i64 c.h] 52) = X := ⟨_, rfl⟩
      have hXF := two_new w c kd X hX
      rw [hX]
      refine (HA0.out X _ _ HE.out hXF.1).mono ?_
      rintro e w2 ⟨sa, sn, sc, v', rfl, hR, hb2⟩
      have HRR : Hid (R (.slice sa sn sc) v' X w2) := hR
      obtain ⟨y1, y2, y3, y4, y5, y6⟩ := hXF.2 w2 hb2
      have HX0 : Hid (Below w.heap.size w X) := hXF.1
      have HB2 : Hid (Below X.heap.size X w2) := hb2
      clear hR hb2 hXF hX
      go_wp2
      all_goals go_ret2
      all_goals refine ⟨w2.heap.size, .slice sa sn sc, v', X, w2, rfl, HX0.out, HRR.out, HB2.out, Nat.le_refl _, ?_, (Below.refl _ _).alloc (Nat.le_refl _) _⟩
      all_goals rw [Hkd.out]
      all_goals exact block_new _ _ rfl _ _
  · have hc2 : (cap == 1) = false := by simpa using hc1
    have HE : Hid (n - 1 = l.length) := by have := Hn.out; show n - 1 = l.length; omega
    rcases k23 with k2 | ⟨k2, k3⟩
    · go_enter Try.func42, Try.ntmps42
      go_wp2_with fail
      obtain ⟨X, hX⟩ : ∃ X, (w.alloc (.cells #[.int .i64 c.depth, .int .i64 kd, .int .i64 c.x, .int .i64 c.y, .int .i64 c.w, .int .i64 c.h, .int .i64 c.p] 35)).alloc (.cells #[.int .i64 c.x, .int .i64 c.y, .int .i64 c.w, .int .i64 c.h] 52) = X := ⟨_, rfl⟩
      have hXF := two_new w c kd X hX
      rw [hX]
      refine (HA1.out X _ hXF.1 (some ⟨b, off + 7, none⟩) (.inr rfl) (by rw [HE.out])).mono ?_
      rintro e w2 ⟨sa, sn, sc, v', rfl, hR, hb2⟩
      have HRR : Hid (R (.slice sa sn sc) v' X w2) := hR
      obtain ⟨y1, y2, y3, y4, y5, y6⟩ := hXF.2 w2 hb2
      have HX0 : Hid (Below w.heap.size w X) := hXF.1
      have HB2 : Hid (Below X.heap.size X w2) := hb2
      clear hR hb2 hXF hX
      go_wp2
      all_goals go_ret2
      all_goals refine ⟨w2.heap.size, .slice sa sn sc, v', X, w2, rfl, HX0.out, HRR.out, HB2.out, Nat.le_refl _, ?_, (Below.refl _ _).alloc (Nat.le_refl _) _⟩
      all_goals rw [Hkd.out]
      all_goals exact block_new _ _ rfl _ _
    · go_enter Try.func42, Try.ntmps42
      go_wp2_with fail
      obtain ⟨X, hX⟩ : ∃ X, (w.alloc (.cells #[.int .i64 c.depth, .int .i64 kd, .int .i64 c.x, .int .i64 c.y, .int .i64 c.w, .int .i64 c.h, .int .i64 c.p] 35)).alloc (.cells #[.int .i64 c.x, .int .i64 c.y, .int .i64 c.w, .int .i64 c.h] 52) = X := ⟨_, rfl⟩
      have hXF := two_new w c kd X hX
      rw [hX]
      refine (HA1.out X _ hXF.1 (some ⟨b, off + 7, none⟩) (.inr rfl) (by rw [HE.out])).mono ?_
      rintro e w2 ⟨sa, sn, sc, v', rfl, hR, hb2⟩
      have HRR : Hid (R (.slice sa sn sc) v' X w2) := hR
      obtain ⟨y1, y2, y3, y4, y5, y6⟩ := hXF.2 w2 hb2
      have HX0 : Hid (Below w.heap.size w X) := hXF.1
      have HB2 : Hid (Below X.heap.size X w2) := hb2
      clear hR hb2 hXF hX
      go_wp2
      all_goals go_ret2
      all_goals refine ⟨w2.heap.size, .slice sa sn sc, v', X, w2, rfl, HX0.out, HRR.out, HB2.out, Nat.le_refl _, ?_, (Below.refl _ _).alloc (Nat.le_refl _) _⟩
      all_goals rw [Hkd.out]
      all_goals exact block_new _ _ rfl _ _

end Go.Proofs.Ytlaelkcmeaiajaa

namespace Go.Proofs.Ytlaelkcmeaiajaa
open Go.RowKit
set_option linter.unusedVariables false
set_option maxRecDepth 100000

/-- What take leaves. -/
def TakeGood (W0 : World) (r : List CellV) (v : Value) (d : Int) (X : World) (e : Ending) (w' : World) : Prop :=
  (takeF r d = none ∧ e = .returned (.tuple #[nilPart, v]) ∧ Below X.heap.size X w') ∨
  (∃ t r' T g fp v', takeF r d = some (t, r') ∧ e = .returned (.tuple #[.iface T (.pointer (some ⟨g, 0, none⟩)), v']) ∧ t.At w' 0 (.iface T (.pointer (some ⟨g, 0, none⟩))) fp ∧ fp.Nodup ∧ (∀ q ∈ fp, X.heap.size ≤ q) ∧ CellsIn W0 v' r' ∧ Below X.heap.size X w')

/-- How far takeAll has come. -/
structure AllTo (W0 : World) (l : List CellV) (d : Int) (w : World) (sl v : Value) (ts : List Tree) (r : List CellV) (wr : World) : Prop where
  row : ∃ vs fs, wr.ownsRow 0 45 1 sl vs.length vs ∧ partsAt wr 0 ts vs fs ∧ (sl.ownBlock.toList ++ fs).Nodup ∧ ∀ q ∈ sl.ownBlock.toList ++ fs, w.heap.size ≤ q
  eq : takeAllF l d = (ts ++ (takeAllF r d).1, (takeAllF r d).2)
  rest : CellsIn W0 v r
  below : Below w.heap.size w wr
  len : ts.length + r.length ≤ l.length

theorem partsAt.snoc {W : World} {B : Nat} {t : Tree} {v : Value} {f : List Nat} (h2 : t.At W B v f) : ∀ {ts : List Tree} {vs : List Value} {fs : List Nat}, partsAt W B ts vs fs → partsAt W B (ts ++ [t]) (vs ++ [v]) (fs ++ f)
  | [], vs, fs, h => by
    obtain ⟨rfl, rfl⟩ := h
    exact ⟨v, [], f, [], rfl, h2, ⟨rfl, rfl⟩, by simp⟩
  | a :: ts, vs, fs, h => by
    obtain ⟨v1, vs', f1, f', rfl, h3, h4, rfl⟩ := h
    exact ⟨v1, vs' ++ [v], f1, f' ++ f, rfl, h3, partsAt.snoc h2 h4, by simp⟩

theorem AllTo.none {W0 : World} {l : List CellV} {d : Int} {w : World} {sl v : Value} {ts : List Tree} {r : List CellV} {wr w' : World} (h : AllTo W0 l d w sl v ts r wr) (hn : takeF r d = none) (hb : Below wr.heap.size wr w') : AllTo W0 l d w sl v ts r w' ∧ takeAllF l d = (ts, r) := by
  obtain ⟨vs, fs, h1, h2, h3, h4⟩ := h.row
  refine ⟨⟨⟨vs, fs, own_below h1 hb, h2.below hb, h3, h4⟩, h.eq, h.rest, below_step h.below hb, h.len⟩, ?_⟩
  rw [h.eq, takeAllF_eq r d, hn]
  simp

theorem AllTo.next {W0 : World} {l : List CellV} {d : Int} {w : World} {sl v : Value} {ts : List Tree} {r : List CellV} {wr : World} (h : AllTo W0 l d w sl v ts r wr) {t : Tree} {r' : List CellV} {pv : Value} {fp : List Nat} {v' : Value} {w2 : World} (ht : takeF r d = some (t, r')) (hAt : t.At w2 0 pv fp) (hnd : fp.Nodup) (hfp : ∀ q ∈ fp, wr.heap.size ≤ q) (hc : CellsIn W0 v' r') (hb : Below wr.heap.size wr w2) :
    ∃ vs, w2.ownsRow 0 45 1 sl vs.length vs ∧ vs.length ≤ l.length ∧ ∀ o sl' w3, w3.ownsRow 0 45 1 sl' (vs.length + 1) (vs ++ [pv]) → (w2.alloc o).grownBy w3 sl.ownBlock → (sl'.ownBlock = sl.ownBlock ∨ sl'.ownBlock = some (w2.alloc o).heap.size) → AllTo W0 l d w sl' v' (ts ++ [t]) r' w3 := by
  obtain ⟨vs, fs, h1, h2, h3, h4⟩ := h.row
  have hvl := h2.length
  have hlen := h.len
  refine ⟨vs, own_below h1 hb, by omega, fun o sl' w3 k1 k2 k3 => ?_⟩
  have hsz : (w2.alloc o).heap.size = w2.heap.size + 1 := by simp
  have hk0 : ∀ q, q < w2.heap.size → q ∉ sl.ownBlock.toList → w3.heap[q]? = w2.heap[q]? := fun q hq hn => (k2.block q (by omega) (by intro e; exact hn (by rw [← e]; simp))).trans (((Below.refl w2.heap.size w2).alloc (Nat.le_refl _) o).block q hq)
  have hlow := own_lt h1
  obtain ⟨n1, n2, n3⟩ := List.nodup_append.1 h3
  have h2' := h2.below hb
  have hwr := h.below.size
  have hwb := hb.size
  refine ⟨⟨vs ++ [pv], fs ++ fp, by simpa using k1, partsAt.snoc (hAt.keep fun q hq => hk0 q (hAt.lt q hq) fun e => ?_) (h2'.keep fun q hq => hk0 q (h2'.lt q hq) fun e => ?_), ?_, ?_⟩, ?_, ?_, ?_, ?_⟩
  · have := hlow q e; have := hfp q hq; omega
  · exact n3 q e q hq rfl
  · have hd : (fs ++ fp).Nodup := by
      refine List.nodup_append.2 ⟨n2, hnd, fun a ha b hb' e => ?_⟩
      have := h2.lt a ha
      have := hfp b hb'
      omega
    refine List.nodup_append.2 ⟨?_, hd, fun a ha b hb' e => ?_⟩
    · cases sl'.ownBlock <;> simp
    · subst e
      rcases k3 with k3 | k3
      · rw [k3] at ha
        rcases List.mem_append.1 hb' with hb' | hb'
        · exact n3 a ha a hb' rfl
        · have := hlow a ha; have := hfp a hb'; omega
      · rw [k3] at ha
        simp at ha
        rcases List.mem_append.1 hb' with hb' | hb'
        · have := h2'.lt a hb'; omega
        · have := hAt.lt a hb'; omega
  · intro q hq
    rcases List.mem_append.1 hq with hq | hq
    · rcases k3 with k3 | k3
      · rw [k3] at hq
        exact h4 q (List.mem_append_left _ hq)
      · rw [k3] at hq
        simp at hq
        omega
    · rcases List.mem_append.1 hq with hq | hq
      · exact h4 q (List.mem_append_right _ hq)
      · have := hfp q hq; omega
  · rw [h.eq, takeAllF_eq r d, ht]
    simp
  · exact hc
  · refine ⟨k2.os.trans (hb.os.trans h.below.os), k2.tape.trans (hb.tape.trans h.below.tape), k2.output.trans (hb.output.trans h.below.output), by have := k2.size; omega, fun q hq => ?_⟩
    refine (hk0 q (by omega) fun e => ?_).trans ((hb.block q (by omega)).trans (h.below.block q hq))
    have := h4 q (List.mem_append_left _ e)
    omega
  · have := takeF_shorter r d t r' ht
    rw [List.length_append]
    simp
    omega

theorem infoPart : (Try.prog.info? 45).map (fun i => (i.zero, i.size, i.bytes)) = some (some .nilIface, 1, 16) := by kernel_rfl
theorem wpList_append_part {ops : Array Oper} {rest : List Oper} {o : Oper} {a : Act} {Q : Exit → Act → World → Prop} (w : World) (hgd : o.guard = none) (s x : Operand)
    (ho : o.op = .call { callee := .builtin .append, args := #[s, x], argTypes := #[74, 74] })
    (v : Value) (vs : List Value) (T : TypeId) (g : Nat) (hs : a.eval s = v) (hown : w.ownsRow 0 45 1 v vs.length vs) (hx : a.eval x = .slice (some ⟨w.heap.size, 0, none⟩) 1 1) (hlen : vs.length ≤ 16777216)
    (h : ∀ v' w', w'.ownsRow 0 45 1 v' (vs.length + 1) (vs ++ [.iface T (.pointer (some ⟨g, 0, none⟩))]) → (w.alloc (.cells #[.iface T (.pointer (some ⟨g, 0, none⟩))] 45)).grownBy w' v.ownBlock → (v'.ownBlock = v.ownBlock ∨ v'.ownBlock = some (w.alloc (.cells #[.iface T (.pointer (some ⟨g, 0, none⟩))] 45)).heap.size) → wpList Try.prog ops Q rest (a.put o.dst v') w') : wpList Try.prog ops Q (o :: rest) a (w.alloc (.cells #[.iface T (.pointer (some ⟨g, 0, none⟩))] 45)) := by
  obtain ⟨i0, hi, hz0, hz1, hz2⟩ := info_partsL infoPart
  refine wpList_append_own_at _ hgd s x 74 ho 0 45 i0 .nilIface 1 16 Try.underlying74 hi hz0 hz1 hz2 rfl (by decide) v vs.length vs hs (World.ownsRow.alloc hown _) ⟨w.heap.size, 0, none⟩ 1 1 [.iface T (.pointer (some ⟨g, 0, none⟩))] hx rfl ?_ ?_ ?_ ?_ (Nat.zero_le _) ?_
  · intro j u hu
    rw [show (⟨w.heap.size, 0, none⟩ : Addr).add j = ⟨w.heap.size, j, none⟩ by unfold Addr.add; split <;> simp_all, cell_newL]
    simpa using hu
  · intro u hu
    simp only [List.mem_cons, List.not_mem_nil, or_false] at hu
    subst hu
    rfl
  · unfold maxLen; omega
  · omega
  · intro v' w' h2 h3 _ h5
    exact h v' w' h2 h3 h5

end Go.Proofs.Ytlaelkcmeaiajaa

namespace Go.Proofs.Ytlaelkcmeaiajaa
open Go.RowKit
set_option linter.unusedVariables false
set_option maxRecDepth 100000

def lenOf : Value → Nat
  | .slice _ n _ => n
  | _ => 0
theorem CellsIn.lenOf {w : World} {v : Value} {l : List CellV} (h : CellsIn w v l) : Go.Proofs.Ytlaelkcmeaiajaa.lenOf v = l.length := by
  obtain ⟨ad, cap, e, _⟩ := h.shape
  subst e
  rfl
theorem own_slice {w : World} {B : Nat} {t : TypeId} {v : Value} {n : Nat} {vs : List Value} (h : w.ownsRow B t 1 v n vs) : ∃ sa sn sc, v = .slice sa sn sc := by
  rcases h.2 with ⟨h0, _⟩ | ⟨g, cap, cur, e, _⟩
  · exact ⟨_, _, _, h0⟩
  · exact ⟨_, _, _, e⟩
/-- What takeAll leaves. -/
def AllGood (W0 : World) (l : List CellV) (d : Int) (w : World) (e : Ending) (w' : World) : Prop := ∃ sa sn sc v', e = .returned (.tuple #[.slice sa sn sc, v']) ∧ AllTo W0 l d w (.slice sa sn sc) v' (takeAllF l d).1 (takeAllF l d).2 w'

set_option maxHeartbeats 1000000 in
theorem takeAll_any (l : List CellV) (v : Value) (d : Int) (W0 w : World) (hv : CellsIn W0 v l) (hl : l.length ≤ 1000)
    (HT : ∀ r v' X, r.length ≤ l.length → Below w.heap.size w X → CellsIn W0 v' r → Calls Try.prog 42 #[v', .int .i64 d] X (TakeGood W0 r v' d X)) :
    Calls Try.prog 54 #[v, .int .i64 d] w (AllGood W0 l d w) := by
  have H : Hid (∀ r v' X, r.length ≤ l.length → Below w.heap.size w X → CellsIn W0 v' r → Calls Try.prog 42 #[v', .int .i64 d] X (TakeGood W0 r v' d X)) := HT
  have H0 : Hid (AllTo W0 l d w (.slice none 0 0) v [] l w) := ⟨⟨[], [], World.ownsRow_nil _ _ _ _, ⟨rfl, rfl⟩, by simp [Value.ownBlock], by simp [Value.ownBlock]⟩, by simp, hv, Below.refl _ _, by simp⟩
  clear HT hv
  go_enter Try.func54, Try.ntmps54
  go_wp2_with fail
  go_loopw [0, 6] (fun v sl wr => ∃ (r : List CellV) (ts : List Tree) (sa : Option Addr) (sn sc : Nat), sl = .slice sa sn sc ∧ Hid (AllTo W0 l d w (.slice sa sn sc) v ts r wr)) (fun v _ _ => lenOf v)
  case atStart => exact ⟨l, [], none, 0, 0, rfl, H0⟩
  case round =>
    obtain ⟨r, ts, sa, sn, sc, rfl, HA⟩ := hrel
    have hlen := HA.out.len
    have HC : Hid (Calls Try.prog 42 #[u0, .int .i64 d] wr (TakeGood W0 r u0 d wr)) := H.out r u0 wr (by omega) HA.out.below HA.out.rest
    have hlo := HA.out.rest.lenOf
    have Hlo : Hid (lenOf u0 = r.length) := hlo
    clear hlen hlo H0
    go_wp2_with fail
    refine HC.out.mono ?_
    rintro e w2 (⟨hn, rfl, hb⟩ | ⟨t, r', T, g, fp, v', ht, rfl, hAt, hnd, hfp, hc, hb⟩)
    · obtain ⟨k1, k2⟩ := HA.out.none hn hb
      have HK : Hid (AllTo W0 l d w (.slice sa sn sc) u0 (takeAllF l d).1 (takeAllF l d).2 w2) := by rw [k2]; exact k1
      clear k1 k2 hn hb
      unfold nilPart
      go_wp2
      go_ret2
      exact ⟨_, _, _, _, rfl, HK.out⟩
    · obtain ⟨vs, k1, k2, k3⟩ := HA.out.next ht hAt hnd hfp hc hb
      have hsh := takeF_shorter r d t r' ht
      have HO : Hid (w2.ownsRow 0 45 1 (.slice sa sn sc) vs.length vs) := k1
      have HK := k3 (.cells #[.iface T (.pointer (some ⟨g, 0, none⟩))] 45)
      have HK2 : Hid (∀ sl' w3, w3.ownsRow 0 45 1 sl' (vs.length + 1) (vs ++ [.iface T (.pointer (some ⟨g, 0, none⟩))]) → (w2.alloc (.cells #[.iface T (.pointer (some ⟨g, 0, none⟩))] 45)).grownBy w3 (Value.slice sa sn sc).ownBlock → (sl'.ownBlock = (Value.slice sa sn sc).ownBlock ∨ sl'.ownBlock = some (w2.alloc (.cells #[.iface T (.pointer (some ⟨g, 0, none⟩))] 45)).heap.size) → AllTo W0 l d w sl' v' (ts ++ [t]) r' w3) := HK
      have hvs : vs.length ≤ 16777216 := by omega
      have Hsh : Hid (r'.length < r.length) := hsh
      clear k1 k2 k3 HK ht hAt hnd hfp hc hb hsh
      go_wp2_with (at_builtin; refine wpList_append_part w2 rfl (.tmp 19) (.tmp 21) rfl (.slice sa sn sc) vs T g rfl HO.out rfl hvs ?_; intro sl' w3 a1 a2 a3; have HN : Hid (AllTo W0 l d w sl' v' (ts ++ [t]) r' w3) := HK2.out sl' w3 a1 a2 a3; have hsl := own_slice a1; clear a1 a2 a3)
      obtain ⟨sa', sn', sc', rfl⟩ := hsl
      go_roundw
      case rel => exact ⟨r', ts ++ [t], sa', sn', sc', rfl, HN⟩
      case measure =>
        rw [HN.out.rest.lenOf, Hlo.out]
        exact Hsh.out

end Go.Proofs.Ytlaelkcmeaiajaa

namespace Go.Proofs.Ytlaelkcmeaiajaa
open Go.RowKit
set_option linter.unusedVariables false
set_option maxRecDepth 100000

theorem take_any : ∀ (m : Nat) (l : List CellV) (v : Value) (d : Int) (W0 w : World), l.length ≤ m → (0 ≤ d ∧ d + l.length ≤ 1000) → Below W0.heap.size W0 w → CellsIn W0 v l → Calls Try.prog 42 #[v, .int .i64 d] w (TakeGood W0 l v d w)
  | m, [], v, d, W0, w, hm, hd, hW, hv => by
    exact (take_none v [] d w (hv.below hW) (.inl rfl)).mono fun e w' h => .inl ⟨takeF_nil d, h.1, h.2 ▸ Below.refl _ _⟩
  | 0, c :: l, v, d, W0, w, hm, hd, hW, hv => by
    simp at hm
  | m + 1, c :: l, v, d, W0, w, hm, hd, hW, hv => by
    have hF := takeF_cons c l d
    rw [List.length_cons] at hm hd
    by_cases hdep : c.depth = d
    · rw [if_pos hdep] at hF
      subst hdep
      by_cases h1 : c.kind = 1
      · rw [if_pos h1] at hF
        refine (take_leaf v c l W0 w hW hv h1).mono fun e w' h => ?_
        obtain ⟨g, v', e1, e2, e3, e4, e5⟩ := h
        exact .inr ⟨_, _, _, g, [g], v', hF, e1, ⟨g, rfl, e3, rfl⟩, by simp, by simpa using e2, e4, e5⟩
      · rw [if_neg h1] at hF
        by_cases h23 : c.kind = 2 ∨ c.kind = 3
        · rw [if_pos h23] at hF
          refine (take_split v c l W0 w hW (fun sl v' X w2 => AllTo W0 l (c.depth + 1) X sl v' (takeAllF l (c.depth + 1)).1 (takeAllF l (c.depth + 1)).2 w2) hv h23 (by omega) ?_).mono ?_
          · intro X v1 hX hv1
            refine (takeAll_any l v1 (c.depth + 1) W0 X hv1 (by omega) ?_).mono ?_
            · intro r v' X' hr hX' hv'
              exact take_any m r v' (c.depth + 1) W0 X' (by omega) (by omega) (below_step hW (below_step hX hX')) hv'
            · rintro e w' ⟨sa, sn, sc, v', e1, e2⟩
              exact ⟨sa, sn, sc, v', e1, e2, e2.below⟩
          · rintro e w' ⟨g, sl, v', X, w2, e1, e2, e3, e4, e5, e6, e7⟩
            obtain ⟨vs, fs, k1, k2, k3, k4⟩ := e3.row
            have hXs := e2.size
            have h2s := e4.size
            refine .inr ⟨_, _, _, g, g :: (sl.ownBlock.toList ++ fs), v', hF, e1, ⟨g, sl, vs, fs, rfl, e6, own_below k1 e7, k2.below e7, rfl⟩, ?_, ?_, e3.rest, below_step e2 (below_step e4 e7)⟩
            · refine List.nodup_cons.2 ⟨fun hm => ?_, k3⟩
              rcases List.mem_append.1 hm with hm | hm
              · have := own_lt k1 g hm; omega
              · have := k2.lt g hm; omega
            · intro q hq
              rcases List.mem_cons.1 hq with rfl | hq
              · omega
              · have := k4 q hq; omega
        · rw [if_neg h23] at hF
          exact (take_other v c l w (hv.below hW) ⟨h1, fun e => h23 (.inl e), fun e => h23 (.inr e)⟩).mono fun e w' h => .inl ⟨hF, h.1, h.2⟩
    · rw [if_neg hdep] at hF
      exact (take_none v (c :: l) d w (hv.below hW) (.inr ⟨c, l, rfl, hdep⟩)).mono fun e w' h => .inl ⟨hF, h.1, h.2 ▸ Below.refl _ _⟩

end Go.Proofs.Ytlaelkcmeaiajaa

namespace Go.Proofs.Ytlaelkcmeaiajaa
open Go.RowKit
set_option linter.unusedVariables false

theorem takes_fine : ∀ (m : Nat) (l : List CellV) (d : Int), l.length ≤ m → l.length ≤ 200 → (∀ t r, takeF l d = some (t, r) → t.fine ∧ t.size + r.length = l.length) ∧ (fines (takeAllF l d).1 ∧ sizes (takeAllF l d).1 + (takeAllF l d).2.length = l.length ∧ (takeAllF l d).1.length + (takeAllF l d).2.length ≤ l.length) := by
  intro m
  induction m with
  | zero =>
    intro l d hm _
    have : l = [] := List.length_eq_zero_iff.1 (by omega)
    subst this
    refine ⟨fun t r h => ?_, ?_⟩
    · rw [takeF_nil] at h; cases h
    · rw [takeAllF_eq, takeF_nil]
      exact ⟨trivial, rfl, Nat.le_refl _⟩
  | succ m ih =>
    intro l d hm h200
    have one : ∀ t r, takeF l d = some (t, r) → t.fine ∧ t.size + r.length = l.length := by
      intro t r h
      cases l with
      | nil => rw [takeF_nil] at h; cases h
      | cons c l =>
        rw [List.length_cons] at hm h200
        obtain ⟨_, k1, k2, k3⟩ := ih l (d + 1) (by omega) (by omega)
        rw [takeF_cons] at h
        split at h
        · split at h
          · cases h
            exact ⟨trivial, by show 1 + _ = _; rw [List.length_cons]; omega⟩
          · split at h
            · rename_i h23
              cases h
              refine ⟨⟨h23, by omega, k1⟩, ?_⟩
              show 1 + sizes _ + _ = _
              rw [List.length_cons]
              omega
            · cases h
        · cases h
    refine ⟨one, ?_⟩
    rw [takeAllF_eq]
    cases h : takeF l d with
    | none => exact ⟨trivial, by show 0 + l.length = l.length; omega, by show 0 + l.length ≤ l.length; omega⟩
    | some p =>
      obtain ⟨t, r⟩ := p
      have hr := takeF_shorter l d t r h
      obtain ⟨a1, a2⟩ := one t r h
      obtain ⟨_, k1, k2, k3⟩ := ih r d (by omega) (by omega)
      refine ⟨⟨a1, k1⟩, ?_, ?_⟩
      · show t.size + sizes _ + (takeAllF r d).2.length = l.length
        omega
      · show (takeAllF r d).1.length + 1 + (takeAllF r d).2.length ≤ l.length
        omega

end Go.Proofs.Ytlaelkcmeaiajaa
