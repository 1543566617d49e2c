/-
  Layouts: the document's Tree, of every list.
-/
import Derived.Test.YtcjcekaahooamaaLRefT
namespace Go.Proofs.Ytcjcekaahooamaa
open Go.RowKit
set_option linter.unusedVariables false
set_option maxRecDepth 100000

def zeroN : Array Value := #[.int .i64 0, .int .i64 0, .int .i64 0, .int .i64 0, .slice none 0 0]
/-- What Tree leaves. -/
def TreeGood (l : List CellV) (w : World) (e : Ending) (w' : World) : Prop :=
  Below w.heap.size w w' ∧ ((readF l = none ∧ e = .returned (.tuple #[.agg zeroN, .bool false])) ∨
  (∃ t sa sn sc fp, readF l = some t ∧ e = .returned (.tuple #[.agg (nodeV (nodeOf t) (.slice sa sn sc)), .bool true]) ∧ (nodeOf t).In w' (.slice sa sn sc) fp))

theorem twice_any (u : Value) (zs : List Int) (B : Nat) (w : World) (h : IOwns w B u zs) (hn : zs.length ≤ 1000) : Calls Try.prog 24 #[u] w fun e w' => e = .returned (.bool (!decide zs.Nodup)) ∧ Below w.heap.size w w' := by
  rcases h.at_ with ⟨rfl, rfl⟩ | ⟨g, cap, rfl, hc⟩
  · exact (twice_none w).mono fun e w' h => ⟨by rw [h.1]; simp, h.2 ▸ Below.refl _ _⟩
  · exact twice_some g zs.length cap zs w hc rfl hn
theorem ref_list (n : Node) (hc : n.cnt ≤ 1000) (ho : n.ok = true) (hw : n.w ≤ 1000) (hh : n.h ≤ 1000) (sa : Option Addr) (sn sc : Nat) (fp : List Nat) (w : World) (hIn : n.In w (.slice sa sn sc) fp) : Calls Try.prog 25 #[.agg (nodeV n (.slice sa sn sc))] w fun e w' => ∃ u, e = .returned u ∧ CeOwns w' w.heap.size u (layN n 0 0 0) ∧ Below w.heap.size w w' := by
  have HL : Hid (∀ o, Calls Try.prog 41 #[.agg #[.int .i64 n.k, .int .i64 n.w, .int .i64 n.h, .int .i64 n.i, .slice sa sn sc], .int .i64 0, .int .i64 0, .int .i64 0] (w.alloc o) fun e w' => ∃ u, e = .returned u ∧ CeOwns w' w.heap.size u (layN n 0 0 0) ∧ Below w.heap.size w w') := fun o => (lay_good n hc _ fp (w.alloc o) 0 0 0 (hIn.below ((Below.refl _ _).alloc (Nat.le_refl _) o)) ⟨ho, hw, hh, by omega, by omega, by omega⟩).mono fun e w' ⟨u, h1, h2, h3⟩ => ⟨u, h1, h2.lower (by simp), below_step ((Below.refl _ _).alloc (Nat.le_refl _) _) h3⟩
  obtain ⟨L, hL⟩ : ∃ L, layN n 0 0 0 = L := ⟨_, rfl⟩
  rw [hL] at HL ⊢
  unfold nodeV
  clear hIn hL hc ho hw hh
  go_enter Try.func25, Try.ntmps25
  go_wp2_with fail
  refine (HL.out _).mono ?_
  rintro e w1 ⟨u, rfl, hu, hb⟩
  have HU : Hid (CeOwns w1 w.heap.size u L) := hu
  clear hu
  go_wp2
  go_ret
  exact ⟨u, rfl, HU.out, hb⟩

/-- The result's own block. -/
structure ResIn (w : World) (W : World) : Prop where
  r0 : W.cell? ⟨w.heap.size, 0, none⟩ = some (.int .i64 0)
  r1 : W.cell? ⟨w.heap.size, 1, none⟩ = some (.int .i64 0)
  r2 : W.cell? ⟨w.heap.size, 2, none⟩ = some (.int .i64 0)
  r3 : W.cell? ⟨w.heap.size, 3, none⟩ = some (.int .i64 0)
  r4 : W.cell? ⟨w.heap.size, 4, none⟩ = some (.slice none 0 0)
  f0 : W.frozen? ⟨w.heap.size, 0, none⟩ = false
  f1 : W.frozen? ⟨w.heap.size, 1, none⟩ = false
  f2 : W.frozen? ⟨w.heap.size, 2, none⟩ = false
  f3 : W.frozen? ⟨w.heap.size, 3, none⟩ = false
  f4 : W.frozen? ⟨w.heap.size, 4, none⟩ = false
theorem resIn (w X : World) (h : Below (w.alloc (.cells zeroN 48)).heap.size (w.alloc (.cells zeroN 48)) X) : ResIn w X := by
  have hb : X.heap[w.heap.size]? = some (.cells zeroN 48 (0, 0)) := (h.block w.heap.size (by simp)).trans (heap_alloc_new _ _)
  exact ⟨cell_atL hb 0, cell_atL hb 1, cell_atL hb 2, cell_atL hb 3, cell_atL hb 4, free_atL hb 0, free_atL hb 1, free_atL hb 2, free_atL hb 3, free_atL hb 4⟩

theorem tree_none {l : List CellV} {w X : World} (hr : readF l = none) (hb : Below w.heap.size w X) (v0 v1 v2 v3 v4 : Value) : TreeGood l w (.returned (.tuple #[.agg #[.int .i64 0, .int .i64 0, .int .i64 0, .int .i64 0, .slice none 0 0], .bool false])) (set5 X w.heap.size v0 v1 v2 v3 v4) := ⟨set5_below hb _ (Nat.le_refl _) _ _ _ _ _, .inl ⟨hr, rfl⟩⟩

theorem tree_empty (ad : Option Addr) (cap : Nat) (w : World) : Calls Try.prog 12 #[.slice ad 0 cap] w (TreeGood [] w) := by
  have HF : Hid (∀ X, Below w.heap.size w X → TreeGood [] w (.returned (.tuple #[.agg #[.int .i64 0, .int .i64 0, .int .i64 0, .int .i64 0, .slice none 0 0], .bool false])) X) := fun X hX => ⟨hX, .inl ⟨(readF_none (takeF_nil 0)), rfl⟩⟩
  go_enter Try.func12, Try.ntmps12
  go_wp2
  exact bodyPost_ret (v := .tuple #[.agg #[.int .i64 0, .int .i64 0, .int .i64 0, .int .i64 0, .slice none 0 0], .bool false]) (by simp [results, Try.results12, go_sem]) rfl (HF.out _ ((Below.refl _ _).alloc (Nat.le_refl _) _))

theorem tree_early (c : CellV) (r : List CellV) (b off n cap : Nat) (w : World) (hs : SeenIn w b off (c :: r)) (hn : (c :: r).length = n) (hr : readF (c :: r) = none) (hb : 64 < n ∨ c.depth ≠ 0 ∨ 1000 < c.w ∨ 1000 < c.h) : Calls Try.prog 12 #[.slice (some ⟨b, off, none⟩) n cap] w (TreeGood (c :: r) w) := by
  have HF : Hid (∀ X, Below w.heap.size w X → TreeGood (c :: r) w (.returned (.tuple #[.agg #[.int .i64 0, .int .i64 0, .int .i64 0, .int .i64 0, .slice none 0 0], .bool false])) X) := fun X hX => ⟨hX, .inl ⟨hr, rfl⟩⟩
  have hq : ∀ o, HeadIn (w.alloc o) b off c := fun o => (hs.below ((Below.refl _ _).alloc (Nat.le_refl _) o)).at0
  have q0 := fun o => (hq o).q0
  have q4 := fun o => (hq o).q4
  have q5 := fun o => (hq o).q5
  have hn0 : ((n : Int) == 0) = false := by rw [← hn]; simp; omega
  have hnp : 0 < n := by rw [← hn]; simp
  obtain ⟨L, hL⟩ : ∃ L, c :: r = L := ⟨_, rfl⟩
  rw [hL] at HF ⊢
  clear hs hq hr hn hL
  by_cases h1 : (64 : Int) < n
  · clear hb
    go_enter Try.func12, Try.ntmps12
    go_wp2
    exact bodyPost_ret (v := .tuple #[.agg #[.int .i64 0, .int .i64 0, .int .i64 0, .int .i64 0, .slice none 0 0], .bool false]) (by simp [results, Try.results12, go_sem]) rfl (HF.out _ ((Below.refl _ _).alloc (Nat.le_refl _) _))
  · by_cases h2 : c.depth = 0
    · have h2' : (c.depth != 0) = false := by simpa using h2
      by_cases h3 : 1000 < c.w
      · clear hb h2
        go_enter Try.func12, Try.ntmps12
        go_wp2
        exact bodyPost_ret (v := .tuple #[.agg #[.int .i64 0, .int .i64 0, .int .i64 0, .int .i64 0, .slice none 0 0], .bool false]) (by simp [results, Try.results12, go_sem]) rfl (HF.out _ ((Below.refl _ _).alloc (Nat.le_refl _) _))
      · have h4 : 1000 < c.h := by omega
        clear hb h2
        go_enter Try.func12, Try.ntmps12
        go_wp2
        exact bodyPost_ret (v := .tuple #[.agg #[.int .i64 0, .int .i64 0, .int .i64 0, .int .i64 0, .slice none 0 0], .bool false]) (by simp [results, Try.results12, go_sem]) rfl (HF.out _ ((Below.refl _ _).alloc (Nat.le_refl _) _))
    · have h2' : (c.depth != 0) = true := by simpa using h2
      clear hb h2
      go_enter Try.func12, Try.ntmps12
      go_wp2
      exact bodyPost_ret (v := .tuple #[.agg #[.int .i64 0, .int .i64 0, .int .i64 0, .int .i64 0, .slice none 0 0], .bool false]) (by simp [results, Try.results12, go_sem]) rfl (HF.out _ ((Below.refl _ _).alloc (Nat.le_refl _) _))

end Go.Proofs.Ytcjcekaahooamaa
