/-
  Layouts: what stands when a changed tree is laid down, on both sides.
  Layouts: Resize in the program.
  Layouts: Resize in the document.
-/
import Derived.Test.YtjnmjoigmbpodaaCSnf
import Derived.Test.YtjnmjoigmbpodaaCWa
namespace Go.Proofs.Ytjnmjoigmbpodaa
open Go.RowKit
set_option linter.unusedVariables false
set_option maxRecDepth 20000

/-- A list and an error are answered. -/
def Ans2 (er : Int) (r : List CellV) (X : World) (e : Ending) (w' : World) : Prop := ∃ q, e = .returned (.tuple #[q, .int .i64 er]) ∧ CeOwns w' X.heap.size q r ∧ Below X.heap.size X w'
theorem below_but {W0 w1 w2 : World} {fp : List Nat} (h : Below W0.heap.size W0 w1) (hb : But fp w1 w2) (hge : ∀ q ∈ fp, W0.heap.size ≤ q) : Below W0.heap.size W0 w2 :=
  ⟨hb.os.trans h.os, hb.tape.trans h.tape, hb.output.trans h.output, Nat.le_trans h.size hb.size, fun q hq => (hb.block q (Nat.lt_of_lt_of_le hq h.size) fun e => by have := hge q e; omega).trans (h.block q hq)⟩
theorem But.drewN {S : List Nat} {w w' : World} (m : Nat) (h : But S (w.drewN m) w') : But S w w' := ⟨h.os, h.tape, h.output, h.size, h.block⟩
/-- The list of a tree, from its place on. -/
def laidL (t : Tree) : List CellV := (t.moved 0 0).tell 0
theorem lay_end {t : Tree} {v : Value} {fp : List Nat} {W0 w1 w3 : World} (h1 : Below W0.heap.size W0 w1) (hb : But fp w1 w3) (hge : ∀ q ∈ fp, W0.heap.size ≤ q) (hnd : fp.Nodup) (hA : t.At w3 0 v fp) (hs : t.sound = true) (hk : t.kinds) (hz : t.size ≤ 200) :
    Calls Try.prog 23 #[v] w3 fun e w' => ∃ u, e = .returned u ∧ CeOwns w' W0.heap.size u (laidL t) ∧ Below W0.heap.size W0 w' := by
  have h3 := below_but h1 hb hge
  refine (lay_any t 0 v fp w3 hA hnd hs (kinds_fine t hk hz) (by omega)).mono ?_
  rintro e w' ⟨u, he, hu, _, hb2⟩
  exact ⟨u, he, hu.lower h3.size, below_but h3 hb2 hge⟩
mutual
theorem cnt_of : ∀ (t : Tree), (nodeOf t).cnt = t.size
  | .leaf b p => rfl
  | .split b k ts => by
    show 1 + cnts (nodesOf ts) = 1 + sizes ts
    rw [cnts_of ts]
theorem cnts_of : ∀ (ts : List Tree), cnts (nodesOf ts) = sizes ts
  | [] => rfl
  | t :: ts => by
    show (nodeOf t).cnt + cnts (nodesOf ts) = t.size + sizes ts
    rw [cnt_of t, cnts_of ts]
end
theorem list_end {t : Tree} {W : World} {sa : Option Addr} {sn sc : Nat} {fp : List Nat} (hs : t.sound = true) (hk : t.kinds) (hz : t.size ≤ 200) (hIn : (nodeOf t).In W (.slice sa sn sc) fp) :
    Calls Try.prog 33 #[.agg (nodeV (nodeOf t) (.slice sa sn sc))] W fun e w' => ∃ u, e = .returned u ∧ CeOwns w' W.heap.size u (laidL t) ∧ Below W.heap.size W w' := by
  have hsd := t.sound_sides hs
  have h := ref_list (nodeOf t) (by rw [cnt_of]; omega) (sound_ok t hk hs) (by rw [nodeOf_w]; exact hsd.1.2) (by rw [nodeOf_h]; exact hsd.2.2) sa sn sc fp W hIn
  rw [lay_told] at h
  exact h

end Go.Proofs.Ytjnmjoigmbpodaa

namespace Go.Proofs.Ytjnmjoigmbpodaa
open Go.RowKit
set_option linter.unusedVariables false
set_option maxRecDepth 100000

/-- A tree of a list is given another size. -/
structure Resized (l : List CellV) (t t1 t2 : Tree) (a b : Int) : Prop where
  lay : IsLay l t
  one : Str t 2 (a - t.box.w) t1
  two : Str t1 3 (b - t.box.h) t2
  h1 : t1.box.h = t.box.h
  s2 : t2.sound = true
  k2 : t2.kinds
  z2 : t2.size = t.size
  low : leastT t 2 ≤ a ∧ leastT t 3 ≤ b
  side : sideB a = true ∧ sideB b = true

theorem resized_any {l : List CellV} {t : Tree} (hr : readF l = some t) (a b : Int) (ha : sideB a = true) (hb : sideB b = true) (h2 : leastT t 2 ≤ a) (h3 : leastT t 3 ≤ b) : ∃ t1 t2, Resized l t t1 t2 a b := by
  have hl := readF_lay hr
  have hz := lay_size hl
  have ha' := ha
  have hb' := hb
  simp only [sideB, Bool.and_eq_true, decide_eq_true_eq] at ha hb
  unfold leastT at h2 h3
  have hsd := t.sound_sides hl.sound
  obtain ⟨t1, e1, g1⟩ := can_str t 2 (a - t.box.w) (.inl rfl) hl.sound hl.kinds (by omega) (by change t.box.w - t.room 2 ≤ a at h2; omega) (by show t.box.w + (a - t.box.w) ≤ 1000; omega)
  have hbx : t1.box.h = t.box.h := by rw [g1.box]; rfl
  have hro := g1.other 3 (.inr rfl) (by decide)
  obtain ⟨t2, e2, g2⟩ := can_str t1 3 (b - t.box.h) (.inr rfl) g1.sound g1.kinds (by rw [g1.size]; omega) (by rw [hro]; change t.box.h - t.room 3 ≤ b at h3; omega) (by show t1.box.h + (b - t.box.h) ≤ 1000; omega)
  exact ⟨t1, t2, hl, e1, e2, hbx, g2.sound, g2.kinds, g2.size.trans g1.size, ⟨by unfold leastT; exact h2, by unfold leastT; exact h3⟩, ha', hb'⟩

/-- What read answers of a layout. -/
def ReadYes (t : Tree) (w : World) (e : Ending) (w' : World) : Prop := ∃ T g fp, e = .returned (.iface T (.pointer (some ⟨g, 0, none⟩))) ∧ t.At w' 0 (.iface T (.pointer (some ⟨g, 0, none⟩))) fp ∧ fp.Nodup ∧ (∀ q ∈ fp, w.heap.size ≤ q) ∧ Below w.heap.size w w'
theorem read_yes (v : Value) (l : List CellV) (w : World) (h : CellsIn w v l) {t : Tree} (hF : readF l = some t) : Calls Try.prog 16 #[v] w (ReadYes t w) := (read_any v l w h).mono fun e w' h => by
  rcases h with ⟨h1, _⟩ | ⟨t', T, g, fp, h1, h2, h3, h4, h5, h6⟩
  · rw [hF] at h1
    cases h1
  · rw [hF] at h1
    cases h1
    exact ⟨T, g, fp, h2, h3, h4, h5, h6⟩
theorem read_no (v : Value) (l : List CellV) (w : World) (h : CellsIn w v l) (hF : readF l = none) : Calls Try.prog 16 #[v] w fun e w' => e = .returned nilPart ∧ Below w.heap.size w w' := (read_any v l w h).mono fun e w' h => by
  rcases h with ⟨_, h1, h2⟩ | ⟨t, T, g, fp, h1, _⟩
  · exact ⟨h1, h2⟩
  · rw [hF] at h1
    cases h1

end Go.Proofs.Ytjnmjoigmbpodaa

namespace Go.Proofs.Ytjnmjoigmbpodaa
open Go.RowKit
set_option linter.unusedVariables false
set_option maxRecDepth 100000

/-- What Tree answers of a layout. -/
def TreeYes (t : Tree) (w : World) (e : Ending) (w' : World) : Prop := ∃ sa sn sc fp, e = .returned (.tuple #[.agg (nodeV (nodeOf t) (.slice sa sn sc)), .bool true]) ∧ (nodeOf t).In w' (.slice sa sn sc) fp ∧ Below w.heap.size w w'
theorem tree_yes (v : Value) (l : List CellV) (w : World) (h : CellsIn w v l) {t : Tree} (hF : readF l = some t) : Calls Try.prog 27 #[v] w (TreeYes t w) := (tree_any v l w h).mono fun e w' h => by
  obtain ⟨hb, ⟨h1, _⟩ | ⟨t', sa, sn, sc, fp, h1, h2, h3⟩⟩ := h
  · rw [hF] at h1
    cases h1
  · rw [hF] at h1
    cases h1
    exact ⟨sa, sn, sc, fp, h2, h3, hb⟩
theorem tree_no (v : Value) (l : List CellV) (w : World) (h : CellsIn w v l) (hF : readF l = none) : Calls Try.prog 27 #[v] w fun e w' => e = .returned (.tuple #[.agg zeroN, .bool false]) ∧ Below w.heap.size w w' := (tree_any v l w h).mono fun e w' h => by
  obtain ⟨hb, ⟨_, h1⟩ | ⟨t', sa, sn, sc, fp, h1, h2, h3⟩⟩ := h
  · exact ⟨h1, hb⟩
  · rw [hF] at h1
    cases h1
theorem alloc_below {W w1 : World} (h : Below W.heap.size W w1) (o : Obj) : Below W.heap.size W (w1.alloc o) := below_step h ((Below.refl _ _).alloc (Nat.le_refl _) o)

end Go.Proofs.Ytjnmjoigmbpodaa
