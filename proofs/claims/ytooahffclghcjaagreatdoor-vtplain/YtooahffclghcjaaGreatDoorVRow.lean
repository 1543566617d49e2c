/-
  Rows of glyphs in memory.
-/
import Derived.Test.YtooahffclghcjaaGreatDoorVMem
import Derived.WalkKit
import Derived.RegionTactic
import Derived.BigRegion
import Derived.BigQuiet
import Derived.Deep.RegionWith
namespace Go.Proofs.YtooahffclghcjaaGreatDoor
open Go.RowKit
set_option linter.unusedVariables false
set_option maxRecDepth 100000

/-- A glyph. -/
structure Gl where
  l : Int
  n : Int
  fo : Int
  ba : Int
  ma : Int
def Gl.cells (g : Gl) : List Value := [.int .i32 g.l, .int .i64 g.n, .int .i64 g.fo, .int .i64 g.ba, .int .i64 g.ma]
def Gl.val (g : Gl) : Value := .agg #[.int .i32 g.l, .int .i64 g.n, .agg #[.int .i64 g.fo, .int .i64 g.ba, .int .i64 g.ma]]
def atV (fo ba ma : Int) : Value := .agg #[.int .i64 fo, .int .i64 ba, .int .i64 ma]
def glsV (gs : List Gl) : List Value := gs.flatMap Gl.cells
theorem gls_len (gs : List Gl) : (glsV gs).length = gs.length * 5 := by
  induction gs with
  | nil => rfl
  | cons p ps ih => have h : glsV (p :: ps) = p.cells ++ glsV ps := rfl; rw [h, List.length_append, ih, List.length_cons]; simp [Gl.cells]; omega
theorem gls_get {gs : List Gl} {i : Nat} {g : Gl} (h : gs[i]? = some g) : (glsV gs)[i * 5]? = some (.int .i32 g.l) ∧ (glsV gs)[i * 5 + 1]? = some (.int .i64 g.n) ∧ (glsV gs)[i * 5 + 2]? = some (.int .i64 g.fo) ∧ (glsV gs)[i * 5 + 3]? = some (.int .i64 g.ba) ∧ (glsV gs)[i * 5 + 4]? = some (.int .i64 g.ma) := by
  induction gs generalizing i with
  | nil => simp at h
  | cons x ps ih =>
    have hc : glsV (x :: ps) = x.cells ++ glsV ps := rfl
    cases i with
    | zero =>
      simp at h
      subst h
      rw [hc]
      exact ⟨rfl, rfl, rfl, rfl, rfl⟩
    | succ i =>
      have h1 := ih (i := i) (by simpa using h)
      have hl : x.cells.length = 5 := rfl
      rw [hc, List.getElem?_append_right (by omega), List.getElem?_append_right (by omega), List.getElem?_append_right (by omega), List.getElem?_append_right (by omega), List.getElem?_append_right (by omega), hl]
      rw [show (i + 1) * 5 - 5 = i * 5 by omega, show (i + 1) * 5 + 1 - 5 = i * 5 + 1 by omega, show (i + 1) * 5 + 2 - 5 = i * 5 + 2 by omega, show (i + 1) * 5 + 3 - 5 = i * 5 + 3 by omega, show (i + 1) * 5 + 4 - 5 = i * 5 + 4 by omega]
      exact h1
theorem gls_set (gs : List Gl) (i : Nat) (g : Gl) (h : i < gs.length) : (((((glsV gs).set (i * 5) (.int .i32 g.l)).set (i * 5 + 1) (.int .i64 g.n)).set (i * 5 + 2) (.int .i64 g.fo)).set (i * 5 + 3) (.int .i64 g.ba)).set (i * 5 + 4) (.int .i64 g.ma) = glsV (gs.set i g) := by
  induction gs generalizing i with
  | nil => simp at h
  | cons x ps ih =>
    have hc : glsV (x :: ps) = x.cells ++ glsV ps := rfl
    cases i with
    | zero => rfl
    | succ i =>
      have hl : x.cells.length = 5 := rfl
      rw [hc, List.set_append_right _ _ (by omega), List.set_append_right _ _ (by omega), List.set_append_right _ _ (by omega), List.set_append_right _ _ (by omega), List.set_append_right _ _ (by omega), hl]
      rw [show (i + 1) * 5 - 5 = i * 5 by omega, show (i + 1) * 5 + 1 - 5 = i * 5 + 1 by omega, show (i + 1) * 5 + 2 - 5 = i * 5 + 2 by omega, show (i + 1) * 5 + 3 - 5 = i * 5 + 3 by omega, show (i + 1) * 5 + 4 - 5 = i * 5 + 4 by omega, ih i (by simpa using h)]
      rfl

/-- A row's block. -/
def GAt (w : World) (g : Nat) (gs : List Gl) : Prop := w.heap[g]? = some (.cells (glsV gs).toArray 85 (0, 0))
section
variable {w w' : World} {g : Nat} {gs : List Gl}
theorem GAt.c (h : GAt w g gs) {i : Nat} {x : Gl} (hx : gs[i]? = some x) : w.cell? ⟨g, i * 5, none⟩ = some (.int .i32 x.l) ∧ w.cell? ⟨g, i * 5 + 1, none⟩ = some (.int .i64 x.n) ∧ w.cell? ⟨g, i * 5 + 2, none⟩ = some (.int .i64 x.fo) ∧ w.cell? ⟨g, i * 5 + 3, none⟩ = some (.int .i64 x.ba) ∧ w.cell? ⟨g, i * 5 + 4, none⟩ = some (.int .i64 x.ma) := by
  simp only [cell_atT h, List.getElem?_toArray]
  exact gls_get hx
theorem GAt.free (h : GAt w g gs) (i : Nat) : w.frozen? ⟨g, i, none⟩ = false := free_atT h i
theorem GAt.lt (h : GAt w g gs) : g < w.heap.size := lt_of_block h
theorem GAt.keep (h : GAt w g gs) (hk : w'.heap[g]? = w.heap[g]?) : GAt w' g gs := hk.trans h
theorem GAt.but (h : GAt w g gs) {S : List Nat} (hb : But S w w') (hS : g ∉ S) : GAt w' g gs := h.keep (hb.block g h.lt hS)
/-- A glyph written over. -/
theorem GAt.put (h : GAt w g gs) (i : Nat) (x : Gl) (hi : i < gs.length) : GAt (((((w.setCell ⟨g, i * 5, none⟩ (.int .i32 x.l)).setCell ⟨g, i * 5 + 1, none⟩ (.int .i64 x.n)).setCell ⟨g, i * 5 + 2, none⟩ (.int .i64 x.fo)).setCell ⟨g, i * 5 + 3, none⟩ (.int .i64 x.ba)).setCell ⟨g, i * 5 + 4, none⟩ (.int .i64 x.ma)) g (gs.set i x) := by
  unfold GAt
  rw [← gls_set gs i x hi]
  have h5 := put_at (put_at (put_at (put_at (put_at h (i * 5) (.int .i32 x.l)) (i * 5 + 1) (.int .i64 x.n)) (i * 5 + 2) (.int .i64 x.fo)) (i * 5 + 3) (.int .i64 x.ba)) (i * 5 + 4) (.int .i64 x.ma)
  rw [h5]
  simp only [List.setIfInBounds_toArray]
end


/-- Places filled. -/
def fil (gs : List Gl) (o k : Nat) (x : Gl) : List Gl := gs.take o ++ (List.replicate k x ++ gs.drop (o + k))
theorem fil_zero (gs : List Gl) (o : Nat) (x : Gl) : fil gs o 0 x = gs := by simp [fil]
theorem fil_len {gs : List Gl} {o k : Nat} (x : Gl) (h : o + k ≤ gs.length) : (fil gs o k x).length = gs.length := by simp [fil]; omega
theorem fil_step {gs : List Gl} {o k : Nat} (x : Gl) (h : o + k < gs.length) : (fil gs o k x).set (o + k) x = fil gs o (k + 1) x := by
  have h1 : (gs.take o).length = o := by simp; omega
  unfold fil
  rw [List.set_append_right _ _ (by omega), h1, List.set_append_right _ _ (by simp), List.length_replicate, show o + k - o - k = 0 by omega, List.drop_eq_getElem_cons h, List.set_cons_zero, List.replicate_succ', List.append_assoc]
  rfl
theorem fil_all (n : Nat) (gs : List Gl) (x : Gl) (h : gs.length = n) : fil gs 0 n x = List.replicate n x := by simp [fil, h]

set_option maxHeartbeats 1000000 in
theorem blank_any (fo ba ma : Int) (w : World) : Calls Tryz.prog 25 #[.agg #[.int .i64 fo, .int .i64 ba, .int .i64 ma]] w fun x w' => x = .returned (.agg #[.int .i32 32, .int .i64 1, .int .i64 fo, .int .i64 ba, .int .i64 ma]) ∧ Below w.heap.size w w' := by
  go_enter Tryz.func25, Tryz.ntmps25
  go_wp2
  exact bodyPost_ret (v := .agg #[.int .i32 32, .int .i64 1, .int .i64 fo, .int .i64 ba, .int .i64 ma]) (by simp [results, Tryz.results25, go_sem]) rfl ⟨rfl, ((Below.refl _ _).alloc (Nat.le_refl _) _).alloc (by simp) _⟩
set_option maxHeartbeats 1000000 in
theorem right_any (fo ba ma : Int) (w : World) : Calls Tryz.prog 57 #[.agg #[.int .i64 fo, .int .i64 ba, .int .i64 ma]] w fun x w' => x = .returned (.agg #[.int .i32 0, .int .i64 0, .int .i64 fo, .int .i64 ba, .int .i64 ma]) ∧ Below w.heap.size w w' := by
  go_enter Tryz.func57, Tryz.ntmps57
  go_wp2
  exact bodyPost_ret (v := .agg #[.int .i32 0, .int .i64 0, .int .i64 fo, .int .i64 ba, .int .i64 ma]) (by simp [results, Tryz.results57, go_sem]) rfl ⟨rfl, ((Below.refl _ _).alloc (Nat.le_refl _) _).alloc (by simp) _⟩
set_option maxHeartbeats 1000000 in
theorem fill_any {w : World} {g : Nat} {gs : List Gl} (h : GAt w g gs) (o n cap : Nat) (x : Gl) (hn : o + n ≤ gs.length) (hl : gs.length ≤ 1000) : Calls Tryz.prog 56 #[.slice (some ⟨g, o * 5, none⟩) n cap, .agg #[.int .i32 x.l, .int .i64 x.n, .int .i64 x.fo, .int .i64 x.ba, .int .i64 x.ma]] w fun r w' => r = .returned (.tuple #[]) ∧ GAt w' g (fil gs o n x) ∧ But [g] w w' := by
  obtain ⟨W, hW⟩ : ∃ W, w.alloc (.cells #[.int .i32 x.l, .int .i64 x.n, .int .i64 x.fo, .int .i64 x.ba, .int .i64 x.ma] 85) = W := ⟨_, rfl⟩
  have HW := hidK hW
  have HG : Hid (GAt W g gs) := by rw [← hW]; exact alloc_at h _
  obtain ⟨B, hB⟩ : ∃ B, w.heap.size = B := ⟨_, rfl⟩
  have HB := hidK hB
  have HX : Hid (W.heap[B]? = some (.cells #[.int .i32 x.l, .int .i64 x.n, .int .i64 x.fo, .int .i64 x.ba, .int .i64 x.ma] 85 (0, 0))) := by rw [← hB, ← hW]; exact heap_alloc_new w _
  have HgB : Hid (g ≠ B) := fun e => by have := h.lt; omega
  have HBW : Hid (But [g] w W) := by rw [← hW]; exact (But.refl _ _).alloc _
  clear hW h hB
  go_enter Tryz.func56, Tryz.ntmps56
  go_wp2
  rw [HW.out, HB.out]
  go_loopw [7] (fun i wr => ∃ k : Nat, k ≤ n ∧ i = .int .i64 k ∧ GAt wr g (fil gs o k x) ∧ But [g] W wr) (fun i _ => n - (intOf i).toNat)
  case atStart => exact ⟨0, Nat.zero_le _, rfl, by rw [fil_zero]; exact HG.out, But.refl _ _⟩
  case round =>
    obtain ⟨k, hk, rfl, hg, hb⟩ := hrel
    have HGk := hidK hg
    have HBk := hidK hb
    by_cases hlt : k < n
    · have hbx := (HBk.out.block B (lt_of_block HX.out) (by simpa using fun e => HgB.out e.symm)).trans HX.out
      have x0 := cell_atT hbx 0
      have x1 := cell_atT hbx 1
      have x2 := cell_atT hbx 2
      have x3 := cell_atT hbx 3
      have x4 := cell_atT hbx 4
      simp at x0 x1 x2 x3 x4
      obtain ⟨c0, c1, c2, c3, c4⟩ := hg.c (i := o + k) (List.getElem?_eq_getElem (by rw [fil_len x (by omega)]; omega))
      rw [Nat.add_mul] at c0 c1 c2 c3 c4
      have f0 := hg.free (o * 5 + k * 5)
      have f1 := hg.free (o * 5 + k * 5 + 1)
      have f2 := hg.free (o * 5 + k * 5 + 2)
      have f3 := hg.free (o * 5 + k * 5 + 3)
      have f4 := hg.free (o * 5 + k * 5 + 4)
      clear hbx hg hb
      go_wp2
      go_roundw
      case rel =>
        refine ⟨k + 1, by omega, by go_num, ?_, ?_⟩
        · rw [← fil_step x (by omega)]
          have h9 := HGk.out.put (o + k) x (by rw [fil_len x (by omega)]; omega)
          rw [Nat.add_mul] at h9
          exact h9
        · exact ((((HBk.out.next _ _).next _ _).next _ _).next _ _).next _ _
      case measure => simp [intOf]; omega
    · obtain rfl : k = n := by omega
      go_wp2
      go_end0
      exact ⟨rfl, HGk.out, HBW.out.trans HBk.out⟩
end Go.Proofs.YtooahffclghcjaaGreatDoor
