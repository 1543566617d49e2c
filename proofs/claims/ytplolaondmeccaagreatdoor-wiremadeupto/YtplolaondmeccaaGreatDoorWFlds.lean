/-
  The fields of a row, made: wire.fieldsOf at every kind; rowOf.
-/
import Derived.Test.YtplolaondmeccaaGreatDoorWMake
import Derived.WalkKit
import Derived.Laws.EntriesVeiled
namespace Go.Proofs.YtplolaondmeccaaGreatDoor
open Go.RowKit
set_option linter.unusedVariables false

/-- A list of fields lies in a block, three cells each. -/
def FieldsAt (B : Nat) (w : World) (b : Nat) (fs : List FSpec) : Prop :=
  (B ≤ b ∧ b < w.heap.size) ∧ ∀ (i : Nat) (F : FSpec), fs[i]? = some F → ∃ pv rv es, w.cell? ⟨b, 3 * i, none⟩ = some pv ∧ w.cell? ⟨b, 3 * i + 1, none⟩ = some rv ∧ w.cell? ⟨b, 3 * i + 2, none⟩ = some (.string es) ∧ IsFE B w F pv rv es

theorem FieldsAt.since {B B' : Nat} {w W : World} {b : Nat} {fs : List FSpec} (h : FieldsAt B w b fs) (hb : Since B w W) (hB : B' ≤ B) : FieldsAt B' W b fs := by
  refine ⟨⟨Nat.le_trans hB h.1.1, Nat.lt_of_lt_of_le h.1.2 hb.size⟩, fun i F hi => ?_⟩
  obtain ⟨pv, rv, es, h1, h2, h3, h4⟩ := h.2 i F hi
  exact ⟨pv, rv, es, (hb.cell (p := ⟨b, _, none⟩) h.1.1 h.1.2).trans h1, (hb.cell (p := ⟨b, _, none⟩) h.1.1 h.1.2).trans h2, (hb.cell (p := ⟨b, _, none⟩) h.1.1 h.1.2).trans h3, h4.since hb hB⟩

/-- A slice of fields is made. -/
def MakesAll (fs : List FSpec) (w : World) (e : Ending) (w' : World) : Prop :=
  ∃ b, e = .returned (.slice (some ⟨b, 0, none⟩) fs.length fs.length) ∧ FieldsAt w.heap.size w' b fs ∧ Below w.heap.size w w'

theorem below_step {w a b : World} (h : Below w.heap.size w a) (k : Below a.heap.size a b) : Below w.heap.size w b := h.trans (k.mono h.size)

theorem fields1 (w : World) (hE : Env w) : Calls Tryz.prog 26 #[.int .i64 1] w (MakesAll [fNum maxN .tick, fNum maxN .number, fNum 1 .flag] w) := by
  go_enter Tryz.func26, Tryz.ntmps26
  go_wp2_with (first
    | (go_at_call 40; refine (tick_makes _ hE).mono ?_; rintro e w1 ⟨pv1, rv1, es1, rfl, hf1, hb1⟩; have hE1 := hE.below hb1)
    | (go_at_call 41; refine (lineNumber_makes _ hE1).mono ?_; rintro e w2 ⟨pv2, rv2, es2, rfl, hf2, hb2⟩; have hE2 := hE1.below hb2)
    | (go_at_call 42; refine (flag_makes _ hE2).mono ?_; rintro e w3 ⟨pv3, rv3, es3, rfl, hf3, hb3⟩; have hE3 := hE2.below hb3))
  have g3 := below1 w3 (.cells #[pv1, rv1, .string es1, pv2, rv2, .string es2, pv3, rv3, .string es3] 60)
  have g2 := below_step hb3 g3
  have g1 := below_step hb2 g2
  have g0 := below_step hb1 g1
  have hh := heap_alloc_new w3 (.cells #[pv1, rv1, .string es1, pv2, rv2, .string es2, pv3, rv3, .string es3] 60)
  refine bodyPost_ret (v := .slice (some ⟨w3.heap.size, 0, none⟩) 3 3) (by simp [results, Tryz.results26, go_sem]) rfl ⟨_, rfl, ⟨⟨?_, by simp⟩, fun i F hi => ?_⟩, g0⟩
  · have := hb1.size; have := hb2.size; have := hb3.size; omega
  match i, hi with
  | 0, hi => cases hi; exact ⟨_, _, _, cell_at hh 0, cell_at hh 1, cell_at hh 2, hf1.since (Since.of_below g1) (Nat.le_refl _)⟩
  | 1, hi => cases hi; exact ⟨_, _, _, cell_at hh 3, cell_at hh 4, cell_at hh 5, hf2.since (Since.of_below g2) (by have := hb1.size; omega)⟩
  | 2, hi => cases hi; exact ⟨_, _, _, cell_at hh 6, cell_at hh 7, cell_at hh 8, hf3.since (Since.of_below g3) (by have := hb1.size; have := hb2.size; omega)⟩
  | _ + 3, hi => cases hi

theorem fields2 (w : World) (hE : Env w) : Calls Tryz.prog 26 #[.int .i64 2] w (MakesAll [fNum maxN .tick, fNum maxN .number, fNum 1 .flag] w) := by
  go_enter Tryz.func26, Tryz.ntmps26
  go_wp2_with (first
    | (go_at_call 40; refine (tick_makes _ hE).mono ?_; rintro e w1 ⟨pv1, rv1, es1, rfl, hf1, hb1⟩; have hE1 := hE.below hb1)
    | (go_at_call 41; refine (lineNumber_makes _ hE1).mono ?_; rintro e w2 ⟨pv2, rv2, es2, rfl, hf2, hb2⟩; have hE2 := hE1.below hb2)
    | (go_at_call 42; refine (flag_makes _ hE2).mono ?_; rintro e w3 ⟨pv3, rv3, es3, rfl, hf3, hb3⟩; have hE3 := hE2.below hb3))
  have g3 := below1 w3 (.cells #[pv1, rv1, .string es1, pv2, rv2, .string es2, pv3, rv3, .string es3] 60)
  have g2 := below_step hb3 g3
  have g1 := below_step hb2 g2
  have g0 := below_step hb1 g1
  have hh := heap_alloc_new w3 (.cells #[pv1, rv1, .string es1, pv2, rv2, .string es2, pv3, rv3, .string es3] 60)
  refine bodyPost_ret (v := .slice (some ⟨w3.heap.size, 0, none⟩) 3 3) (by simp [results, Tryz.results26, go_sem]) rfl ⟨_, rfl, ⟨⟨?_, by simp⟩, fun i F hi => ?_⟩, g0⟩
  · have := hb1.size; have := hb2.size; have := hb3.size; omega
  match i, hi with
  | 0, hi => cases hi; exact ⟨_, _, _, cell_at hh 0, cell_at hh 1, cell_at hh 2, hf1.since (Since.of_below g1) (Nat.le_refl _)⟩
  | 1, hi => cases hi; exact ⟨_, _, _, cell_at hh 3, cell_at hh 4, cell_at hh 5, hf2.since (Since.of_below g2) (by have := hb1.size; omega)⟩
  | 2, hi => cases hi; exact ⟨_, _, _, cell_at hh 6, cell_at hh 7, cell_at hh 8, hf3.since (Since.of_below g3) (by have := hb1.size; have := hb2.size; omega)⟩
  | _ + 3, hi => cases hi

theorem fields3 (w : World) (hE : Env w) : Calls Tryz.prog 26 #[.int .i64 3] w (MakesAll [fNum maxN .tick, fNum maxN .number, fNum 1 .flag] w) := by
  go_enter Tryz.func26, Tryz.ntmps26
  go_wp2_with (first
    | (go_at_call 40; refine (tick_makes _ hE).mono ?_; rintro e w1 ⟨pv1, rv1, es1, rfl, hf1, hb1⟩; have hE1 := hE.below hb1)
    | (go_at_call 41; refine (lineNumber_makes _ hE1).mono ?_; rintro e w2 ⟨pv2, rv2, es2, rfl, hf2, hb2⟩; have hE2 := hE1.below hb2)
    | (go_at_call 42; refine (flag_makes _ hE2).mono ?_; rintro e w3 ⟨pv3, rv3, es3, rfl, hf3, hb3⟩; have hE3 := hE2.below hb3))
  have g3 := below1 w3 (.cells #[pv1, rv1, .string es1, pv2, rv2, .string es2, pv3, rv3, .string es3] 60)
  have g2 := below_step hb3 g3
  have g1 := below_step hb2 g2
  have g0 := below_step hb1 g1
  have hh := heap_alloc_new w3 (.cells #[pv1, rv1, .string es1, pv2, rv2, .string es2, pv3, rv3, .string es3] 60)
  refine bodyPost_ret (v := .slice (some ⟨w3.heap.size, 0, none⟩) 3 3) (by simp [results, Tryz.results26, go_sem]) rfl ⟨_, rfl, ⟨⟨?_, by simp⟩, fun i F hi => ?_⟩, g0⟩
  · have := hb1.size; have := hb2.size; have := hb3.size; omega
  match i, hi with
  | 0, hi => cases hi; exact ⟨_, _, _, cell_at hh 0, cell_at hh 1, cell_at hh 2, hf1.since (Since.of_below g1) (Nat.le_refl _)⟩
  | 1, hi => cases hi; exact ⟨_, _, _, cell_at hh 3, cell_at hh 4, cell_at hh 5, hf2.since (Since.of_below g2) (by have := hb1.size; omega)⟩
  | 2, hi => cases hi; exact ⟨_, _, _, cell_at hh 6, cell_at hh 7, cell_at hh 8, hf3.since (Since.of_below g3) (by have := hb1.size; have := hb2.size; omega)⟩
  | _ + 3, hi => cases hi

theorem fields4 (w : World) (hE : Env w) : Calls Tryz.prog 26 #[.int .i64 4] w (MakesAll [fBody] w) := by
  go_enter Tryz.func26, Tryz.ntmps26
  go_wp2_with (go_at_call 43; refine (body_makes _ hE).mono ?_; rintro e w1 ⟨pv1, rv1, es1, rfl, hf1, hb1⟩; have hE1 := hE.below hb1)
  have g1 := below1 w1 (.cells #[pv1, rv1, .string es1] 60)
  have g0 := below_step hb1 g1
  have hh := heap_alloc_new w1 (.cells #[pv1, rv1, .string es1] 60)
  refine bodyPost_ret (v := .slice (some ⟨w1.heap.size, 0, none⟩) 1 1) (by simp [results, Tryz.results26, go_sem]) rfl ⟨_, rfl, ⟨⟨?_, by simp⟩, fun i F hi => ?_⟩, g0⟩
  · have := hb1.size; skip; omega
  match i, hi with
  | 0, hi => cases hi; exact ⟨_, _, _, cell_at hh 0, cell_at hh 1, cell_at hh 2, hf1.since (Since.of_below g1) (Nat.le_refl _)⟩
  | _ + 1, hi => cases hi

theorem fields5 (w : World) (hE : Env w) : Calls Tryz.prog 26 #[.int .i64 5] w (MakesAll [fId 37 .pane, fEsc 1 256] w) := by
  go_enter Tryz.func26, Tryz.ntmps26
  go_wp2_with (first
    | (go_at_call 44; refine (pane_makes _ hE).mono ?_; rintro e w1 ⟨pv1, rv1, es1, rfl, hf1, hb1⟩; have hE1 := hE.below hb1)
    | (go_at_call 45; refine (escaped_makes 1 256 (by decide) (by decide) _ hE1).mono ?_; rintro e w2 ⟨pv2, rv2, es2, rfl, hf2, hb2⟩; have hE2 := hE1.below hb2))
  have g2 := below1 w2 (.cells #[pv1, rv1, .string es1, pv2, rv2, .string es2] 60)
  have g1 := below_step hb2 g2
  have g0 := below_step hb1 g1
  have hh := heap_alloc_new w2 (.cells #[pv1, rv1, .string es1, pv2, rv2, .string es2] 60)
  refine bodyPost_ret (v := .slice (some ⟨w2.heap.size, 0, none⟩) 2 2) (by simp [results, Tryz.results26, go_sem]) rfl ⟨_, rfl, ⟨⟨?_, by simp⟩, fun i F hi => ?_⟩, g0⟩
  · have := hb1.size; have := hb2.size; omega
  match i, hi with
  | 0, hi => cases hi; exact ⟨_, _, _, cell_at hh 0, cell_at hh 1, cell_at hh 2, hf1.since (Since.of_below g1) (Nat.le_refl _)⟩
  | 1, hi => cases hi; exact ⟨_, _, _, cell_at hh 3, cell_at hh 4, cell_at hh 5, hf2.since (Since.of_below g2) (by have := hb1.size; omega)⟩
  | _ + 2, hi => cases hi

theorem fields6 (w : World) (hE : Env w) : Calls Tryz.prog 26 #[.int .i64 6] w (MakesAll [fId 37 .pane, fNum maxN .offset] w) := by
  go_enter Tryz.func26, Tryz.ntmps26
  go_wp2_with (first
    | (go_at_call 44; refine (pane_makes _ hE).mono ?_; rintro e w1 ⟨pv1, rv1, es1, rfl, hf1, hb1⟩; have hE1 := hE.below hb1)
    | (go_at_call 46; refine (offset_makes _ hE1).mono ?_; rintro e w2 ⟨pv2, rv2, es2, rfl, hf2, hb2⟩; have hE2 := hE1.below hb2))
  have g2 := below1 w2 (.cells #[pv1, rv1, .string es1, pv2, rv2, .string es2] 60)
  have g1 := below_step hb2 g2
  have g0 := below_step hb1 g1
  have hh := heap_alloc_new w2 (.cells #[pv1, rv1, .string es1, pv2, rv2, .string es2] 60)
  refine bodyPost_ret (v := .slice (some ⟨w2.heap.size, 0, none⟩) 2 2) (by simp [results, Tryz.results26, go_sem]) rfl ⟨_, rfl, ⟨⟨?_, by simp⟩, fun i F hi => ?_⟩, g0⟩
  · have := hb1.size; have := hb2.size; omega
  match i, hi with
  | 0, hi => cases hi; exact ⟨_, _, _, cell_at hh 0, cell_at hh 1, cell_at hh 2, hf1.since (Since.of_below g1) (Nat.le_refl _)⟩
  | 1, hi => cases hi; exact ⟨_, _, _, cell_at hh 3, cell_at hh 4, cell_at hh 5, hf2.since (Since.of_below g2) (by have := hb1.size; omega)⟩
  | _ + 2, hi => cases hi

theorem fields7 (w : World) (hE : Env w) : Calls Tryz.prog 26 #[.int .i64 7] w (MakesAll [fId 37 .pane, fNum maxN .offset] w) := by
  go_enter Tryz.func26, Tryz.ntmps26
  go_wp2_with (first
    | (go_at_call 44; refine (pane_makes _ hE).mono ?_; rintro e w1 ⟨pv1, rv1, es1, rfl, hf1, hb1⟩; have hE1 := hE.below hb1)
    | (go_at_call 46; refine (offset_makes _ hE1).mono ?_; rintro e w2 ⟨pv2, rv2, es2, rfl, hf2, hb2⟩; have hE2 := hE1.below hb2))
  have g2 := below1 w2 (.cells #[pv1, rv1, .string es1, pv2, rv2, .string es2] 60)
  have g1 := below_step hb2 g2
  have g0 := below_step hb1 g1
  have hh := heap_alloc_new w2 (.cells #[pv1, rv1, .string es1, pv2, rv2, .string es2] 60)
  refine bodyPost_ret (v := .slice (some ⟨w2.heap.size, 0, none⟩) 2 2) (by simp [results, Tryz.results26, go_sem]) rfl ⟨_, rfl, ⟨⟨?_, by simp⟩, fun i F hi => ?_⟩, g0⟩
  · have := hb1.size; have := hb2.size; omega
  match i, hi with
  | 0, hi => cases hi; exact ⟨_, _, _, cell_at hh 0, cell_at hh 1, cell_at hh 2, hf1.since (Since.of_below g1) (Nat.le_refl _)⟩
  | 1, hi => cases hi; exact ⟨_, _, _, cell_at hh 3, cell_at hh 4, cell_at hh 5, hf2.since (Since.of_below g2) (by have := hb1.size; omega)⟩
  | _ + 2, hi => cases hi

theorem fields8 (w : World) (hE : Env w) : Calls Tryz.prog 26 #[.int .i64 8] w (MakesAll [fId 37 .pane, fNum maxN .offset] w) := by
  go_enter Tryz.func26, Tryz.ntmps26
  go_wp2_with (first
    | (go_at_call 44; refine (pane_makes _ hE).mono ?_; rintro e w1 ⟨pv1, rv1, es1, rfl, hf1, hb1⟩; have hE1 := hE.below hb1)
    | (go_at_call 46; refine (offset_makes _ hE1).mono ?_; rintro e w2 ⟨pv2, rv2, es2, rfl, hf2, hb2⟩; have hE2 := hE1.below hb2))
  have g2 := below1 w2 (.cells #[pv1, rv1, .string es1, pv2, rv2, .string es2] 60)
  have g1 := below_step hb2 g2
  have g0 := below_step hb1 g1
  have hh := heap_alloc_new w2 (.cells #[pv1, rv1, .string es1, pv2, rv2, .string es2] 60)
  refine bodyPost_ret (v := .slice (some ⟨w2.heap.size, 0, none⟩) 2 2) (by simp [results, Tryz.results26, go_sem]) rfl ⟨_, rfl, ⟨⟨?_, by simp⟩, fun i F hi => ?_⟩, g0⟩
  · have := hb1.size; have := hb2.size; omega
  match i, hi with
  | 0, hi => cases hi; exact ⟨_, _, _, cell_at hh 0, cell_at hh 1, cell_at hh 2, hf1.since (Since.of_below g1) (Nat.le_refl _)⟩
  | 1, hi => cases hi; exact ⟨_, _, _, cell_at hh 3, cell_at hh 4, cell_at hh 5, hf2.since (Since.of_below g2) (by have := hb1.size; omega)⟩
  | _ + 2, hi => cases hi

theorem fields9 (w : World) (hE : Env w) : Calls Tryz.prog 26 #[.int .i64 9] w (MakesAll [fId 37 .pane] w) := by
  go_enter Tryz.func26, Tryz.ntmps26
  go_wp2_with (go_at_call 44; refine (pane_makes _ hE).mono ?_; rintro e w1 ⟨pv1, rv1, es1, rfl, hf1, hb1⟩; have hE1 := hE.below hb1)
  have g1 := below1 w1 (.cells #[pv1, rv1, .string es1] 60)
  have g0 := below_step hb1 g1
  have hh := heap_alloc_new w1 (.cells #[pv1, rv1, .string es1] 60)
  refine bodyPost_ret (v := .slice (some ⟨w1.heap.size, 0, none⟩) 1 1) (by simp [results, Tryz.results26, go_sem]) rfl ⟨_, rfl, ⟨⟨?_, by simp⟩, fun i F hi => ?_⟩, g0⟩
  · have := hb1.size; skip; omega
  match i, hi with
  | 0, hi => cases hi; exact ⟨_, _, _, cell_at hh 0, cell_at hh 1, cell_at hh 2, hf1.since (Since.of_below g1) (Nat.le_refl _)⟩
  | _ + 1, hi => cases hi

theorem fields10 (w : World) (hE : Env w) : Calls Tryz.prog 26 #[.int .i64 10] w (MakesAll [fId 64 .window, fName] w) := by
  go_enter Tryz.func26, Tryz.ntmps26
  go_wp2_with (first
    | (go_at_call 47; refine (window_makes _ hE).mono ?_; rintro e w1 ⟨pv1, rv1, es1, rfl, hf1, hb1⟩; have hE1 := hE.below hb1)
    | (go_at_call 48; refine (name_makes _ hE1).mono ?_; rintro e w2 ⟨pv2, rv2, es2, rfl, hf2, hb2⟩; have hE2 := hE1.below hb2))
  have g2 := below1 w2 (.cells #[pv1, rv1, .string es1, pv2, rv2, .string es2] 60)
  have g1 := below_step hb2 g2
  have g0 := below_step hb1 g1
  have hh := heap_alloc_new w2 (.cells #[pv1, rv1, .string es1, pv2, rv2, .string es2] 60)
  refine bodyPost_ret (v := .slice (some ⟨w2.heap.size, 0, none⟩) 2 2) (by simp [results, Tryz.results26, go_sem]) rfl ⟨_, rfl, ⟨⟨?_, by simp⟩, fun i F hi => ?_⟩, g0⟩
  · have := hb1.size; have := hb2.size; omega
  match i, hi with
  | 0, hi => cases hi; exact ⟨_, _, _, cell_at hh 0, cell_at hh 1, cell_at hh 2, hf1.since (Since.of_below g1) (Nat.le_refl _)⟩
  | 1, hi => cases hi; exact ⟨_, _, _, cell_at hh 3, cell_at hh 4, cell_at hh 5, hf2.since (Since.of_below g2) (by have := hb1.size; omega)⟩
  | _ + 2, hi => cases hi

theorem fields12 (w : World) (hE : Env w) : Calls Tryz.prog 26 #[.int .i64 12] w (MakesAll [fId 64 .window, fName] w) := by
  go_enter Tryz.func26, Tryz.ntmps26
  go_wp2_with (first
    | (go_at_call 47; refine (window_makes _ hE).mono ?_; rintro e w1 ⟨pv1, rv1, es1, rfl, hf1, hb1⟩; have hE1 := hE.below hb1)
    | (go_at_call 48; refine (name_makes _ hE1).mono ?_; rintro e w2 ⟨pv2, rv2, es2, rfl, hf2, hb2⟩; have hE2 := hE1.below hb2))
  have g2 := below1 w2 (.cells #[pv1, rv1, .string es1, pv2, rv2, .string es2] 60)
  have g1 := below_step hb2 g2
  have g0 := below_step hb1 g1
  have hh := heap_alloc_new w2 (.cells #[pv1, rv1, .string es1, pv2, rv2, .string es2] 60)
  refine bodyPost_ret (v := .slice (some ⟨w2.heap.size, 0, none⟩) 2 2) (by simp [results, Tryz.results26, go_sem]) rfl ⟨_, rfl, ⟨⟨?_, by simp⟩, fun i F hi => ?_⟩, g0⟩
  · have := hb1.size; have := hb2.size; omega
  match i, hi with
  | 0, hi => cases hi; exact ⟨_, _, _, cell_at hh 0, cell_at hh 1, cell_at hh 2, hf1.since (Since.of_below g1) (Nat.le_refl _)⟩
  | 1, hi => cases hi; exact ⟨_, _, _, cell_at hh 3, cell_at hh 4, cell_at hh 5, hf2.since (Since.of_below g2) (by have := hb1.size; omega)⟩
  | _ + 2, hi => cases hi

theorem fields11 (w : World) (hE : Env w) : Calls Tryz.prog 26 #[.int .i64 11] w (MakesAll [fId 64 .window] w) := by
  go_enter Tryz.func26, Tryz.ntmps26
  go_wp2_with (go_at_call 47; refine (window_makes _ hE).mono ?_; rintro e w1 ⟨pv1, rv1, es1, rfl, hf1, hb1⟩; have hE1 := hE.below hb1)
  have g1 := below1 w1 (.cells #[pv1, rv1, .string es1] 60)
  have g0 := below_step hb1 g1
  have hh := heap_alloc_new w1 (.cells #[pv1, rv1, .string es1] 60)
  refine bodyPost_ret (v := .slice (some ⟨w1.heap.size, 0, none⟩) 1 1) (by simp [results, Tryz.results26, go_sem]) rfl ⟨_, rfl, ⟨⟨?_, by simp⟩, fun i F hi => ?_⟩, g0⟩
  · have := hb1.size; skip; omega
  match i, hi with
  | 0, hi => cases hi; exact ⟨_, _, _, cell_at hh 0, cell_at hh 1, cell_at hh 2, hf1.since (Since.of_below g1) (Nat.le_refl _)⟩
  | _ + 1, hi => cases hi

theorem fields13 (w : World) (hE : Env w) : Calls Tryz.prog 26 #[.int .i64 13] w (MakesAll [fId 64 .window, fPlan .layout, fPlan .visible, fZoom] w) := by
  go_enter Tryz.func26, Tryz.ntmps26
  go_wp2_with (first
    | (go_at_call 47; refine (window_makes _ hE).mono ?_; rintro e w1 ⟨pv1, rv1, es1, rfl, hf1, hb1⟩; have hE1 := hE.below hb1)
    | (go_at_call 49; refine (layout_makes _ hE1).mono ?_; rintro e w2 ⟨pv2, rv2, es2, rfl, hf2, hb2⟩; have hE2 := hE1.below hb2)
    | (go_at_call 50; refine (visible_makes _ hE2).mono ?_; rintro e w3 ⟨pv3, rv3, es3, rfl, hf3, hb3⟩; have hE3 := hE2.below hb3)
    | (go_at_call 51; refine (zoom_makes _ hE3).mono ?_; rintro e w4 ⟨pv4, rv4, es4, rfl, hf4, hb4⟩; have hE4 := hE3.below hb4))
  have g4 := below1 w4 (.cells #[pv1, rv1, .string es1, pv2, rv2, .string es2, pv3, rv3, .string es3, pv4, rv4, .string es4] 60)
  have g3 := below_step hb4 g4
  have g2 := below_step hb3 g3
  have g1 := below_step hb2 g2
  have g0 := below_step hb1 g1
  have hh := heap_alloc_new w4 (.cells #[pv1, rv1, .string es1, pv2, rv2, .string es2, pv3, rv3, .string es3, pv4, rv4, .string es4] 60)
  refine bodyPost_ret (v := .slice (some ⟨w4.heap.size, 0, none⟩) 4 4) (by simp [results, Tryz.results26, go_sem]) rfl ⟨_, rfl, ⟨⟨?_, by simp⟩, fun i F hi => ?_⟩, g0⟩
  · have := hb1.size; have := hb2.size; have := hb3.size; have := hb4.size; omega
  match i, hi with
  | 0, hi => cases hi; exact ⟨_, _, _, cell_at hh 0, cell_at hh 1, cell_at hh 2, hf1.since (Since.of_below g1) (Nat.le_refl _)⟩
  | 1, hi => cases hi; exact ⟨_, _, _, cell_at hh 3, cell_at hh 4, cell_at hh 5, hf2.since (Since.of_below g2) (by have := hb1.size; omega)⟩
  | 2, hi => cases hi; exact ⟨_, _, _, cell_at hh 6, cell_at hh 7, cell_at hh 8, hf3.since (Since.of_below g3) (by have := hb1.size; have := hb2.size; omega)⟩
  | 3, hi => cases hi; exact ⟨_, _, _, cell_at hh 9, cell_at hh 10, cell_at hh 11, hf4.since (Since.of_below g4) (by have := hb1.size; have := hb2.size; have := hb3.size; omega)⟩
  | _ + 4, hi => cases hi

theorem fields14 (w : World) (hE : Env w) : Calls Tryz.prog 26 #[.int .i64 14] w (MakesAll [fId 64 .window, fId 37 .pane] w) := by
  go_enter Tryz.func26, Tryz.ntmps26
  go_wp2_with (first
    | (go_at_call 47; refine (window_makes _ hE).mono ?_; rintro e w1 ⟨pv1, rv1, es1, rfl, hf1, hb1⟩; have hE1 := hE.below hb1)
    | (go_at_call 44; refine (pane_makes _ hE1).mono ?_; rintro e w2 ⟨pv2, rv2, es2, rfl, hf2, hb2⟩; have hE2 := hE1.below hb2))
  have g2 := below1 w2 (.cells #[pv1, rv1, .string es1, pv2, rv2, .string es2] 60)
  have g1 := below_step hb2 g2
  have g0 := below_step hb1 g1
  have hh := heap_alloc_new w2 (.cells #[pv1, rv1, .string es1, pv2, rv2, .string es2] 60)
  refine bodyPost_ret (v := .slice (some ⟨w2.heap.size, 0, none⟩) 2 2) (by simp [results, Tryz.results26, go_sem]) rfl ⟨_, rfl, ⟨⟨?_, by simp⟩, fun i F hi => ?_⟩, g0⟩
  · have := hb1.size; have := hb2.size; omega
  match i, hi with
  | 0, hi => cases hi; exact ⟨_, _, _, cell_at hh 0, cell_at hh 1, cell_at hh 2, hf1.since (Since.of_below g1) (Nat.le_refl _)⟩
  | 1, hi => cases hi; exact ⟨_, _, _, cell_at hh 3, cell_at hh 4, cell_at hh 5, hf2.since (Since.of_below g2) (by have := hb1.size; omega)⟩
  | _ + 2, hi => cases hi

theorem fields15 (w : World) (hE : Env w) : Calls Tryz.prog 26 #[.int .i64 15] w (MakesAll [fId 36 .session, fName] w) := by
  go_enter Tryz.func26, Tryz.ntmps26
  go_wp2_with (first
    | (go_at_call 52; refine (session_makes _ hE).mono ?_; rintro e w1 ⟨pv1, rv1, es1, rfl, hf1, hb1⟩; have hE1 := hE.below hb1)
    | (go_at_call 48; refine (name_makes _ hE1).mono ?_; rintro e w2 ⟨pv2, rv2, es2, rfl, hf2, hb2⟩; have hE2 := hE1.below hb2))
  have g2 := below1 w2 (.cells #[pv1, rv1, .string es1, pv2, rv2, .string es2] 60)
  have g1 := below_step hb2 g2
  have g0 := below_step hb1 g1
  have hh := heap_alloc_new w2 (.cells #[pv1, rv1, .string es1, pv2, rv2, .string es2] 60)
  refine bodyPost_ret (v := .slice (some ⟨w2.heap.size, 0, none⟩) 2 2) (by simp [results, Tryz.results26, go_sem]) rfl ⟨_, rfl, ⟨⟨?_, by simp⟩, fun i F hi => ?_⟩, g0⟩
  · have := hb1.size; have := hb2.size; omega
  match i, hi with
  | 0, hi => cases hi; exact ⟨_, _, _, cell_at hh 0, cell_at hh 1, cell_at hh 2, hf1.since (Since.of_below g1) (Nat.le_refl _)⟩
  | 1, hi => cases hi; exact ⟨_, _, _, cell_at hh 3, cell_at hh 4, cell_at hh 5, hf2.since (Since.of_below g2) (by have := hb1.size; omega)⟩
  | _ + 2, hi => cases hi

theorem fields17 (w : World) (hE : Env w) : Calls Tryz.prog 26 #[.int .i64 17] w (MakesAll [fId 36 .session, fName] w) := by
  go_enter Tryz.func26, Tryz.ntmps26
  go_wp2_with (first
    | (go_at_call 52; refine (session_makes _ hE).mono ?_; rintro e w1 ⟨pv1, rv1, es1, rfl, hf1, hb1⟩; have hE1 := hE.below hb1)
    | (go_at_call 48; refine (name_makes _ hE1).mono ?_; rintro e w2 ⟨pv2, rv2, es2, rfl, hf2, hb2⟩; have hE2 := hE1.below hb2))
  have g2 := below1 w2 (.cells #[pv1, rv1, .string es1, pv2, rv2, .string es2] 60)
  have g1 := below_step hb2 g2
  have g0 := below_step hb1 g1
  have hh := heap_alloc_new w2 (.cells #[pv1, rv1, .string es1, pv2, rv2, .string es2] 60)
  refine bodyPost_ret (v := .slice (some ⟨w2.heap.size, 0, none⟩) 2 2) (by simp [results, Tryz.results26, go_sem]) rfl ⟨_, rfl, ⟨⟨?_, by simp⟩, fun i F hi => ?_⟩, g0⟩
  · have := hb1.size; have := hb2.size; omega
  match i, hi with
  | 0, hi => cases hi; exact ⟨_, _, _, cell_at hh 0, cell_at hh 1, cell_at hh 2, hf1.since (Since.of_below g1) (Nat.le_refl _)⟩
  | 1, hi => cases hi; exact ⟨_, _, _, cell_at hh 3, cell_at hh 4, cell_at hh 5, hf2.since (Since.of_below g2) (by have := hb1.size; omega)⟩
  | _ + 2, hi => cases hi

theorem fields21 (w : World) (hE : Env w) : Calls Tryz.prog 26 #[.int .i64 21] w (MakesAll [fId 36 .session, fName] w) := by
  go_enter Tryz.func26, Tryz.ntmps26
  go_wp2_with (first
    | (go_at_call 52; refine (session_makes _ hE).mono ?_; rintro e w1 ⟨pv1, rv1, es1, rfl, hf1, hb1⟩; have hE1 := hE.below hb1)
    | (go_at_call 48; refine (name_makes _ hE1).mono ?_; rintro e w2 ⟨pv2, rv2, es2, rfl, hf2, hb2⟩; have hE2 := hE1.below hb2))
  have g2 := below1 w2 (.cells #[pv1, rv1, .string es1, pv2, rv2, .string es2] 60)
  have g1 := below_step hb2 g2
  have g0 := below_step hb1 g1
  have hh := heap_alloc_new w2 (.cells #[pv1, rv1, .string es1, pv2, rv2, .string es2] 60)
  refine bodyPost_ret (v := .slice (some ⟨w2.heap.size, 0, none⟩) 2 2) (by simp [results, Tryz.results26, go_sem]) rfl ⟨_, rfl, ⟨⟨?_, by simp⟩, fun i F hi => ?_⟩, g0⟩
  · have := hb1.size; have := hb2.size; omega
  match i, hi with
  | 0, hi => cases hi; exact ⟨_, _, _, cell_at hh 0, cell_at hh 1, cell_at hh 2, hf1.since (Since.of_below g1) (Nat.le_refl _)⟩
  | 1, hi => cases hi; exact ⟨_, _, _, cell_at hh 3, cell_at hh 4, cell_at hh 5, hf2.since (Since.of_below g2) (by have := hb1.size; omega)⟩
  | _ + 2, hi => cases hi

theorem fields16 (w : World) (hE : Env w) : Calls Tryz.prog 26 #[.int .i64 16] w (MakesAll [fId 36 .session] w) := by
  go_enter Tryz.func26, Tryz.ntmps26
  go_wp2_with (go_at_call 52; refine (session_makes _ hE).mono ?_; rintro e w1 ⟨pv1, rv1, es1, rfl, hf1, hb1⟩; have hE1 := hE.below hb1)
  have g1 := below1 w1 (.cells #[pv1, rv1, .string es1] 60)
  have g0 := below_step hb1 g1
  have hh := heap_alloc_new w1 (.cells #[pv1, rv1, .string es1] 60)
  refine bodyPost_ret (v := .slice (some ⟨w1.heap.size, 0, none⟩) 1 1) (by simp [results, Tryz.results26, go_sem]) rfl ⟨_, rfl, ⟨⟨?_, by simp⟩, fun i F hi => ?_⟩, g0⟩
  · have := hb1.size; skip; omega
  match i, hi with
  | 0, hi => cases hi; exact ⟨_, _, _, cell_at hh 0, cell_at hh 1, cell_at hh 2, hf1.since (Since.of_below g1) (Nat.le_refl _)⟩
  | _ + 1, hi => cases hi

theorem fields18 (w : World) (hE : Env w) : Calls Tryz.prog 26 #[.int .i64 18] w (MakesAll [fId 36 .session, fNum 9999 .index, fId 64 .window] w) := by
  go_enter Tryz.func26, Tryz.ntmps26
  go_wp2_with (first
    | (go_at_call 52; refine (session_makes _ hE).mono ?_; rintro e w1 ⟨pv1, rv1, es1, rfl, hf1, hb1⟩; have hE1 := hE.below hb1)
    | (go_at_call 53; refine (index_makes _ hE1).mono ?_; rintro e w2 ⟨pv2, rv2, es2, rfl, hf2, hb2⟩; have hE2 := hE1.below hb2)
    | (go_at_call 47; refine (window_makes _ hE2).mono ?_; rintro e w3 ⟨pv3, rv3, es3, rfl, hf3, hb3⟩; have hE3 := hE2.below hb3))
  have g3 := below1 w3 (.cells #[pv1, rv1, .string es1, pv2, rv2, .string es2, pv3, rv3, .string es3] 60)
  have g2 := below_step hb3 g3
  have g1 := below_step hb2 g2
  have g0 := below_step hb1 g1
  have hh := heap_alloc_new w3 (.cells #[pv1, rv1, .string es1, pv2, rv2, .string es2, pv3, rv3, .string es3] 60)
  refine bodyPost_ret (v := .slice (some ⟨w3.heap.size, 0, none⟩) 3 3) (by simp [results, Tryz.results26, go_sem]) rfl ⟨_, rfl, ⟨⟨?_, by simp⟩, fun i F hi => ?_⟩, g0⟩
  · have := hb1.size; have := hb2.size; have := hb3.size; omega
  match i, hi with
  | 0, hi => cases hi; exact ⟨_, _, _, cell_at hh 0, cell_at hh 1, cell_at hh 2, hf1.since (Since.of_below g1) (Nat.le_refl _)⟩
  | 1, hi => cases hi; exact ⟨_, _, _, cell_at hh 3, cell_at hh 4, cell_at hh 5, hf2.since (Since.of_below g2) (by have := hb1.size; omega)⟩
  | 2, hi => cases hi; exact ⟨_, _, _, cell_at hh 6, cell_at hh 7, cell_at hh 8, hf3.since (Since.of_below g3) (by have := hb1.size; have := hb2.size; omega)⟩
  | _ + 3, hi => cases hi

theorem fields19 (w : World) (hE : Env w) : Calls Tryz.prog 26 #[.int .i64 19] w (MakesAll [fId 36 .session, fNum 9999 .index] w) := by
  go_enter Tryz.func26, Tryz.ntmps26
  go_wp2_with (first
    | (go_at_call 52; refine (session_makes _ hE).mono ?_; rintro e w1 ⟨pv1, rv1, es1, rfl, hf1, hb1⟩; have hE1 := hE.below hb1)
    | (go_at_call 53; refine (index_makes _ hE1).mono ?_; rintro e w2 ⟨pv2, rv2, es2, rfl, hf2, hb2⟩; have hE2 := hE1.below hb2))
  have g2 := below1 w2 (.cells #[pv1, rv1, .string es1, pv2, rv2, .string es2] 60)
  have g1 := below_step hb2 g2
  have g0 := below_step hb1 g1
  have hh := heap_alloc_new w2 (.cells #[pv1, rv1, .string es1, pv2, rv2, .string es2] 60)
  refine bodyPost_ret (v := .slice (some ⟨w2.heap.size, 0, none⟩) 2 2) (by simp [results, Tryz.results26, go_sem]) rfl ⟨_, rfl, ⟨⟨?_, by simp⟩, fun i F hi => ?_⟩, g0⟩
  · have := hb1.size; have := hb2.size; omega
  match i, hi with
  | 0, hi => cases hi; exact ⟨_, _, _, cell_at hh 0, cell_at hh 1, cell_at hh 2, hf1.since (Since.of_below g1) (Nat.le_refl _)⟩
  | 1, hi => cases hi; exact ⟨_, _, _, cell_at hh 3, cell_at hh 4, cell_at hh 5, hf2.since (Since.of_below g2) (by have := hb1.size; omega)⟩
  | _ + 2, hi => cases hi

theorem fields20 (w : World) (hE : Env w) : Calls Tryz.prog 26 #[.int .i64 20] w (MakesAll [fId 36 .session, fNum 9999 .index] w) := by
  go_enter Tryz.func26, Tryz.ntmps26
  go_wp2_with (first
    | (go_at_call 52; refine (session_makes _ hE).mono ?_; rintro e w1 ⟨pv1, rv1, es1, rfl, hf1, hb1⟩; have hE1 := hE.below hb1)
    | (go_at_call 53; refine (index_makes _ hE1).mono ?_; rintro e w2 ⟨pv2, rv2, es2, rfl, hf2, hb2⟩; have hE2 := hE1.below hb2))
  have g2 := below1 w2 (.cells #[pv1, rv1, .string es1, pv2, rv2, .string es2] 60)
  have g1 := below_step hb2 g2
  have g0 := below_step hb1 g1
  have hh := heap_alloc_new w2 (.cells #[pv1, rv1, .string es1, pv2, rv2, .string es2] 60)
  refine bodyPost_ret (v := .slice (some ⟨w2.heap.size, 0, none⟩) 2 2) (by simp [results, Tryz.results26, go_sem]) rfl ⟨_, rfl, ⟨⟨?_, by simp⟩, fun i F hi => ?_⟩, g0⟩
  · have := hb1.size; have := hb2.size; omega
  match i, hi with
  | 0, hi => cases hi; exact ⟨_, _, _, cell_at hh 0, cell_at hh 1, cell_at hh 2, hf1.since (Since.of_below g1) (Nat.le_refl _)⟩
  | 1, hi => cases hi; exact ⟨_, _, _, cell_at hh 3, cell_at hh 4, cell_at hh 5, hf2.since (Since.of_below g2) (by have := hb1.size; omega)⟩
  | _ + 2, hi => cases hi

theorem fields22 (w : World) (hE : Env w) : Calls Tryz.prog 26 #[.int .i64 22] w (MakesAll [fWord, fId 36 .session, fId 64 .window, fNum 9999 .index, fId 37 .pane, fColon, fEsc 0 1024] w) := by
  go_enter Tryz.func26, Tryz.ntmps26
  go_wp2_with (first
    | (go_at_call 54; refine (word_makes _ hE).mono ?_; rintro e w1 ⟨pv1, rv1, es1, rfl, hf1, hb1⟩; have hE1 := hE.below hb1)
    | (go_at_call 52; refine (session_makes _ hE1).mono ?_; rintro e w2 ⟨pv2, rv2, es2, rfl, hf2, hb2⟩; have hE2 := hE1.below hb2)
    | (go_at_call 47; refine (window_makes _ hE2).mono ?_; rintro e w3 ⟨pv3, rv3, es3, rfl, hf3, hb3⟩; have hE3 := hE2.below hb3)
    | (go_at_call 53; refine (index_makes _ hE3).mono ?_; rintro e w4 ⟨pv4, rv4, es4, rfl, hf4, hb4⟩; have hE4 := hE3.below hb4)
    | (go_at_call 44; refine (pane_makes _ hE4).mono ?_; rintro e w5 ⟨pv5, rv5, es5, rfl, hf5, hb5⟩; have hE5 := hE4.below hb5)
    | (go_at_call 55; refine (colon_makes _ hE5).mono ?_; rintro e w6 ⟨pv6, rv6, es6, rfl, hf6, hb6⟩; have hE6 := hE5.below hb6)
    | (go_at_call 45; refine (escaped_makes 0 1024 (by decide) (by decide) _ hE6).mono ?_; rintro e w7 ⟨pv7, rv7, es7, rfl, hf7, hb7⟩; have hE7 := hE6.below hb7))
  have g7 := below1 w7 (.cells #[pv1, rv1, .string es1, pv2, rv2, .string es2, pv3, rv3, .string es3, pv4, rv4, .string es4, pv5, rv5, .string es5, pv6, rv6, .string es6, pv7, rv7, .string es7] 60)
  have g6 := below_step hb7 g7
  have g5 := below_step hb6 g6
  have g4 := below_step hb5 g5
  have g3 := below_step hb4 g4
  have g2 := below_step hb3 g3
  have g1 := below_step hb2 g2
  have g0 := below_step hb1 g1
  have hh := heap_alloc_new w7 (.cells #[pv1, rv1, .string es1, pv2, rv2, .string es2, pv3, rv3, .string es3, pv4, rv4, .string es4, pv5, rv5, .string es5, pv6, rv6, .string es6, pv7, rv7, .string es7] 60)
  refine bodyPost_ret (v := .slice (some ⟨w7.heap.size, 0, none⟩) 7 7) (by simp [results, Tryz.results26, go_sem]) rfl ⟨_, rfl, ⟨⟨?_, by simp⟩, fun i F hi => ?_⟩, g0⟩
  · have := hb1.size; have := hb2.size; have := hb3.size; have := hb4.size; have := hb5.size; have := hb6.size; have := hb7.size; omega
  match i, hi with
  | 0, hi => cases hi; exact ⟨_, _, _, cell_at hh 0, cell_at hh 1, cell_at hh 2, hf1.since (Since.of_below g1) (Nat.le_refl _)⟩
  | 1, hi => cases hi; exact ⟨_, _, _, cell_at hh 3, cell_at hh 4, cell_at hh 5, hf2.since (Since.of_below g2) (by have := hb1.size; omega)⟩
  | 2, hi => cases hi; exact ⟨_, _, _, cell_at hh 6, cell_at hh 7, cell_at hh 8, hf3.since (Since.of_below g3) (by have := hb1.size; have := hb2.size; omega)⟩
  | 3, hi => cases hi; exact ⟨_, _, _, cell_at hh 9, cell_at hh 10, cell_at hh 11, hf4.since (Since.of_below g4) (by have := hb1.size; have := hb2.size; have := hb3.size; omega)⟩
  | 4, hi => cases hi; exact ⟨_, _, _, cell_at hh 12, cell_at hh 13, cell_at hh 14, hf5.since (Since.of_below g5) (by have := hb1.size; have := hb2.size; have := hb3.size; have := hb4.size; omega)⟩
  | 5, hi => cases hi; exact ⟨_, _, _, cell_at hh 15, cell_at hh 16, cell_at hh 17, hf6.since (Since.of_below g6) (by have := hb1.size; have := hb2.size; have := hb3.size; have := hb4.size; have := hb5.size; omega)⟩
  | 6, hi => cases hi; exact ⟨_, _, _, cell_at hh 18, cell_at hh 19, cell_at hh 20, hf7.since (Since.of_below g7) (by have := hb1.size; have := hb2.size; have := hb3.size; have := hb4.size; have := hb5.size; have := hb6.size; omega)⟩
  | _ + 7, hi => cases hi

theorem fields23 (w : World) (hE : Env w) : Calls Tryz.prog 26 #[.int .i64 23] w (MakesAll [fEsc 0 1024] w) := by
  go_enter Tryz.func26, Tryz.ntmps26
  go_wp2_with (go_at_call 45; refine (escaped_makes 0 1024 (by decide) (by decide) _ hE).mono ?_; rintro e w1 ⟨pv1, rv1, es1, rfl, hf1, hb1⟩; have hE1 := hE.below hb1)
  have g1 := below1 w1 (.cells #[pv1, rv1, .string es1] 60)
  have g0 := below_step hb1 g1
  have hh := heap_alloc_new w1 (.cells #[pv1, rv1, .string es1] 60)
  refine bodyPost_ret (v := .slice (some ⟨w1.heap.size, 0, none⟩) 1 1) (by simp [results, Tryz.results26, go_sem]) rfl ⟨_, rfl, ⟨⟨?_, by simp⟩, fun i F hi => ?_⟩, g0⟩
  · have := hb1.size; skip; omega
  match i, hi with
  | 0, hi => cases hi; exact ⟨_, _, _, cell_at hh 0, cell_at hh 1, cell_at hh 2, hf1.since (Since.of_below g1) (Nat.le_refl _)⟩
  | _ + 1, hi => cases hi

theorem fields24 (w : World) (hE : Env w) : Calls Tryz.prog 26 #[.int .i64 24] w (MakesAll [fReason] w) := by
  go_enter Tryz.func26, Tryz.ntmps26
  go_wp2_with (go_at_call 56; refine (reason_makes _ hE).mono ?_; rintro e w1 ⟨pv1, rv1, es1, rfl, hf1, hb1⟩; have hE1 := hE.below hb1)
  have g1 := below1 w1 (.cells #[pv1, rv1, .string es1] 60)
  have g0 := below_step hb1 g1
  have hh := heap_alloc_new w1 (.cells #[pv1, rv1, .string es1] 60)
  refine bodyPost_ret (v := .slice (some ⟨w1.heap.size, 0, none⟩) 1 1) (by simp [results, Tryz.results26, go_sem]) rfl ⟨_, rfl, ⟨⟨?_, by simp⟩, fun i F hi => ?_⟩, g0⟩
  · have := hb1.size; skip; omega
  match i, hi with
  | 0, hi => cases hi; exact ⟨_, _, _, cell_at hh 0, cell_at hh 1, cell_at hh 2, hf1.since (Since.of_below g1) (Nat.le_refl _)⟩
  | _ + 1, hi => cases hi

end Go.Proofs.YtplolaondmeccaaGreatDoor
