/-
  New rows.
  New screens.
-/
import Derived.Test.YtooahffclghcjaaGreatDoorVRow
import Derived.Test.YtooahffclghcjaaGreatDoorVSmall
import Derived.Laws.MakeOwn
import Derived.OwnWalk
import Derived.Deep.AppendSrc
namespace Go.Proofs.YtooahffclghcjaaGreatDoor
open Go.RowKit
set_option linter.unusedVariables false
set_option maxRecDepth 100000

def gl0 : Gl := ⟨0, 0, 0, 0, 0⟩
theorem infoGl : (Tryz.prog.info? 85).map (fun i => (i.zero, i.size, i.bytes)) = some (some (.agg #[.int .i32 0, .int .i64 0, .int .i64 0, .int .i64 0, .int .i64 0]), 5, 40) := by kernel_rfl
theorem underRow : Tryz.prog.underlying 81 = some (.slice 85) := by kernel_rfl
theorem made_cells (z : Array Value) (hz : z.size = 5) : ∀ n : Nat, (madeCells z (n * 5)).toList = (List.replicate n z.toList).flatten
  | 0 => by simp [madeCells]
  | n + 1 => by
    have ih := made_cells z hz n
    simp only [madeCells, Array.toList_map, Array.toList_range] at ih ⊢
    rw [List.replicate_succ', List.flatten_append, ← ih, show (n + 1) * 5 = n * 5 + 1 + 1 + 1 + 1 + 1 by omega]
    simp only [List.range_succ, List.map_append, List.append_assoc, List.map_cons, List.map_nil, List.flatten_cons, List.flatten_nil, List.append_nil, List.cons_append, List.nil_append]
    congr 1
    rw [hz, show n * 5 % 5 = 0 by omega, show (n * 5 + 1) % 5 = 1 by omega, show (n * 5 + 1 + 1) % 5 = 2 by omega, show (n * 5 + 1 + 1 + 1) % 5 = 3 by omega, show (n * 5 + 1 + 1 + 1 + 1) % 5 = 4 by omega]
    obtain ⟨l⟩ := z
    match l, hz with
    | [a, b, c, d, e], _ => rfl
theorem gls_rep (n : Nat) (x : Gl) : glsV (List.replicate n x) = (List.replicate n x.cells).flatten := by
  induction n with
  | zero => rfl
  | succ n ih => rw [List.replicate_succ, List.replicate_succ, List.flatten_cons, ← ih]; rfl
theorem made_gls (n : Nat) : madeCells #[.int .i32 0, .int .i64 0, .int .i64 0, .int .i64 0, .int .i64 0] (n * 5) = (glsV (List.replicate n gl0)).toArray := by
  rw [gls_rep]
  have h := made_cells #[.int .i32 0, .int .i64 0, .int .i64 0, .int .i64 0, .int .i64 0] rfl n
  rw [← Array.toArray_toList (xs := madeCells _ _), h]
  rfl
def madeRow (W : World) (n : Nat) : World := W.alloc (.cells (glsV (List.replicate n gl0)).toArray 85)
theorem madeRow_run (W : World) (n : Nat) (hn : n ≤ 1000) : (Instr.makeSlice 81 (.int .i64 (n : Int)) (.int .i64 (n : Int))).run Tryz.prog W = .ok (.slice (some ⟨W.heap.size, 0, none⟩) n n) (madeRow W n) := by
  obtain ⟨i, hi, hz, hs, hb⟩ := info_parts infoGl
  have h := run_make (P := Tryz.prog) W 81 85 i _ underRow hi hz .i64 .i64 (n : Int) (n : Int) (by omega) (Int.le_refl _) (by rw [hb]; omega) (by omega)
  rw [h, hs]
  rw [show ((n : Int)).toNat = n by omega]
  unfold madeRow
  rw [← made_gls]
  rfl

set_option maxHeartbeats 1000000 in
theorem newRow_any (n : Nat) (hn : n ≤ 1000) (x : Gl) (w : World) : Calls Tryz.prog 47 #[.int .i64 (n : Int), .agg #[.int .i32 x.l, .int .i64 x.n, .int .i64 x.fo, .int .i64 x.ba, .int .i64 x.ma]] w fun r w' => ∃ g, r = .returned (.slice (some ⟨g, 0, none⟩) n n) ∧ GAt w' g (List.replicate n x) ∧ Below w.heap.size w w' ∧ w.heap.size ≤ g := by
  obtain ⟨W, hW⟩ : ∃ W, w.alloc (.cells #[.int .i32 x.l, .int .i64 x.n, .int .i64 x.fo, .int .i64 x.ba, .int .i64 x.ma] 85) = W := ⟨_, rfl⟩
  have HW := hidK hW
  obtain ⟨B, hB⟩ : ∃ B, w.heap.size = B := ⟨_, rfl⟩
  have HB := hidK hB
  have hX : W.heap[B]? = some (.cells #[.int .i32 x.l, .int .i64 x.n, .int .i64 x.fo, .int .i64 x.ba, .int .i64 x.ma] 85 (0, 0)) := by rw [← hB, ← hW]; exact heap_alloc_new w _
  have HBW : Hid (Below w.heap.size w W) := by rw [← hW]; exact (Below.refl _ _).alloc (Nat.le_refl _) _
  have hmk := madeRow_run W n hn
  have hX2 : (madeRow W n).heap[B]? = some (.cells #[.int .i32 x.l, .int .i64 x.n, .int .i64 x.fo, .int .i64 x.ba, .int .i64 x.ma] 85 (0, 0)) := alloc_at hX _
  have HG : Hid (GAt (madeRow W n) W.heap.size (List.replicate n gl0)) := heap_alloc_new W _
  have HBM : Hid (Below W.heap.size W (madeRow W n)) := (Below.refl _ _).alloc (Nat.le_refl _) _
  obtain ⟨M, hM⟩ : ∃ M, madeRow W n = M := ⟨_, rfl⟩
  rw [hM] at hmk hX2
  have HMe := hidK hM
  have x0 := cell_atT hX2 0
  have x1 := cell_atT hX2 1
  have x2 := cell_atT hX2 2
  have x3 := cell_atT hX2 3
  have x4 := cell_atT hX2 4
  simp at x0 x1 x2 x3 x4
  obtain ⟨R, hR⟩ : ∃ R, W.heap.size = R := ⟨_, rfl⟩
  have HR := hidK hR
  rw [hR] at hmk
  have HF : Hid (∀ cap, Calls Tryz.prog 56 #[.slice (some ⟨R, 0, none⟩) n cap, .agg #[.int .i32 x.l, .int .i64 x.n, .int .i64 x.fo, .int .i64 x.ba, .int .i64 x.ma]] M fun r w' => r = .returned (.tuple #[]) ∧ GAt w' R (List.replicate n x) ∧ But [R] M w') := by
    intro cap
    rw [← hR, ← hM]
    have h9 := fill_any HG.out 0 n cap x (by simp) (by simpa using hn)
    rw [fil_all n _ x (by simp)] at h9
    exact h9
  clear hW hB hM hR hX hX2
  go_enter Tryz.func47, Tryz.ntmps47
  go_wp2_with fail
  rw [HW.out, HB.out, hmk]
  go_wp2_with (go_at_call 56; refine (HF.out _).mono ?_; rintro e w1 ⟨rfl, hg, hb⟩; have HG1 := hidK hg; have HB1 := hidK hb; clear hg hb)
  go_ret
  have h1 : w.heap.size ≤ R := by have := HBW.out.size; rw [HR.out] at this; exact this
  refine ⟨R, rfl, HG1.out, ?_, h1⟩
  have h2 : Below w.heap.size w M := HBW.out.trans ((HMe.out ▸ HBM.out).mono HBW.out.size)
  exact HB1.out.under h2 h2.size (by simpa using h1)

/-- Rows in memory: each in a block of its own. -/
def rowV (r : Nat × List Gl) : Value := .slice (some ⟨r.1, 0, none⟩) r.2.length r.2.length
structure RowsAt (w : World) (G : Nat) (rs : List (Nat × List Gl)) (k : Nat) : Prop where
  blk : w.heap[G]? = some (.cells (rs.map rowV ++ List.replicate k (Value.slice none 0 0)).toArray 81 (0, 0))
  row : ∀ r ∈ rs, GAt w r.1 r.2
  apart : rs.Pairwise fun a b => a.1 ≠ b.1
theorem RowsAt.ne {w : World} {G : Nat} {rs : List (Nat × List Gl)} {k : Nat} (h : RowsAt w G rs k) : ∀ r ∈ rs, r.1 ≠ G := by
  intro r hr e
  have h1 := h.row r hr
  rw [GAt, e, h.blk] at h1
  simp at h1
theorem RowsAt.keep {w w' : World} {G : Nat} {rs : List (Nat × List Gl)} {k : Nat} (h : RowsAt w G rs k) (hG : w'.heap[G]? = w.heap[G]?) (hr : ∀ r ∈ rs, w'.heap[r.1]? = w.heap[r.1]?) : RowsAt w' G rs k :=
  ⟨hG.trans h.blk, fun r hh => (h.row r hh).keep (hr r hh), h.apart⟩
theorem RowsAt.below {w w' : World} {G : Nat} {rs : List (Nat × List Gl)} {k : Nat} (h : RowsAt w G rs k) (hb : Below w.heap.size w w') : RowsAt w' G rs k :=
  h.keep (hb.block _ (lt_of_block h.blk)) (fun r hr => hb.block _ (h.row r hr).lt)
theorem RowsAt.but {w w' : World} {G : Nat} {rs : List (Nat × List Gl)} {k : Nat} (h : RowsAt w G rs k) {S : List Nat} (hb : But S w w') (hG : G ∉ S) (hr : ∀ r ∈ rs, r.1 ∉ S) : RowsAt w' G rs k :=
  h.keep (hb.block _ (lt_of_block h.blk) hG) (fun r hh => hb.block _ (h.row r hh).lt (hr r hh))
theorem RowsAt.cell {w : World} {G : Nat} {rs : List (Nat × List Gl)} {k : Nat} (h : RowsAt w G rs k) {i : Nat} {r : Nat × List Gl} (hr : rs[i]? = some r) : w.cell? ⟨G, i, none⟩ = some (.slice (some ⟨r.1, 0, none⟩) r.2.length r.2.length) := by
  have hi := (List.getElem?_eq_some_iff.1 hr).1
  rw [cell_atT h.blk, List.getElem?_toArray, List.getElem?_append_left (by simpa using hi), List.getElem?_map, hr]
  rfl
theorem RowsAt.next {w : World} {G : Nat} {rs : List (Nat × List Gl)} {k : Nat} (h : RowsAt w G rs (k + 1)) : w.cell? ⟨G, rs.length, none⟩ = some (.slice none 0 0) := by
  rw [cell_atT h.blk, List.getElem?_toArray, List.getElem?_append_right (by simp)]
  simp
theorem RowsAt.free {w : World} {G : Nat} {rs : List (Nat × List Gl)} {k : Nat} (h : RowsAt w G rs k) (i : Nat) : w.frozen? ⟨G, i, none⟩ = false := free_atT h.blk i
/-- One row more. -/
theorem RowsAt.add {w : World} {G : Nat} {rs : List (Nat × List Gl)} {k : Nat} (h : RowsAt w G rs (k + 1)) {r : Nat × List Gl} (hr : GAt w r.1 r.2) (hn : ∀ x ∈ rs, x.1 ≠ r.1) : RowsAt (w.setCell ⟨G, rs.length, none⟩ (rowV r)) G (rs ++ [r]) k := by
  have hG : r.1 ≠ G := fun e => by
    rw [GAt, e, h.blk] at hr
    simp at hr
  refine ⟨?_, fun x hx => ?_, ?_⟩
  · rw [put_at h.blk]
    congr 2
    simp only [List.setIfInBounds_toArray]
    rw [List.set_append_right _ _ (by simp), List.length_map, Nat.sub_self, List.replicate_succ, List.set_cons_zero, List.map_append, List.append_assoc]
    rfl
  · rcases List.mem_append.1 hx with hx | hx
    · exact put_other (h.row x hx) (h.ne x hx) _ _
    · have : x = r := by simpa using hx
      subst this
      exact put_other hr hG _ _
  · rw [List.pairwise_append]
    exact ⟨h.apart, List.pairwise_singleton _ _, fun a ha b hb => by have : b = r := by simpa using hb
                                                                     subst this; exact hn a ha⟩
theorem infoRow : (Tryz.prog.info? 81).map (fun i => (i.zero, i.size, i.bytes)) = some (some (.slice none 0 0), 1, 24) := by kernel_rfl
theorem underRows : Tryz.prog.underlying 40 = some (.slice 81) := by kernel_rfl
theorem made_rep (z : Value) (n : Nat) : madeCells #[z] n = (List.replicate n z).toArray := by
  apply Array.ext
  · simp [madeCells]
  · intro i h1 h2
    simp [madeCells, Nat.mod_one]
def madeRows (W : World) (n : Nat) : World := W.alloc (.cells (List.replicate n (Value.slice none 0 0)).toArray 81)
theorem madeRows_run (W : World) (n : Nat) (hn : n ≤ 1000) : (Instr.makeSlice 40 (.int .i64 (n : Int)) (.int .i64 (n : Int))).run Tryz.prog W = .ok (.slice (some ⟨W.heap.size, 0, none⟩) n n) (madeRows W n) := by
  obtain ⟨i, hi, hz, hs, hb⟩ := info_parts infoRow
  have h := run_make (P := Tryz.prog) W 40 81 i _ underRows hi hz .i64 .i64 (n : Int) (n : Int) (by omega) (Int.le_refl _) (by rw [hb]; omega) (by omega)
  rw [h, hs]
  rw [show ((n : Int)).toNat = n by omega, Nat.mul_one]
  unfold madeRows
  rw [← made_rep]
  rfl

end Go.Proofs.YtooahffclghcjaaGreatDoor
namespace Go.Proofs.YtooahffclghcjaaGreatDoor
open Go.RowKit
set_option linter.unusedVariables false
set_option maxRecDepth 100000

/-- Rows that are all alike. -/
def Alike (n : Nat) (x : Gl) (rs : List (Nat × List Gl)) : Prop := ∀ r ∈ rs, r.2 = List.replicate n x
set_option maxHeartbeats 1000000 in
theorem newRows_any (hn n : Nat) (h1 : hn ≤ 1000) (h2 : n ≤ 1000) (x : Gl) (w : World) : Calls Tryz.prog 24 #[.int .i64 (hn : Int), .int .i64 (n : Int), .agg #[.int .i32 x.l, .int .i64 x.n, .int .i64 x.fo, .int .i64 x.ba, .int .i64 x.ma]] w fun r w' => ∃ G rs, r = .returned (.slice (some ⟨G, 0, none⟩) hn hn) ∧ rs.length = hn ∧ RowsAt w' G rs 0 ∧ Alike n x rs ∧ Below w.heap.size w w' ∧ w.heap.size ≤ G ∧ ∀ r ∈ rs, w.heap.size ≤ r.1 := by
  obtain ⟨W, hW⟩ : ∃ W, w.alloc (.cells #[.int .i32 x.l, .int .i64 x.n, .int .i64 x.fo, .int .i64 x.ba, .int .i64 x.ma] 85) = W := ⟨_, rfl⟩
  have HW := hidK hW
  obtain ⟨B, hB⟩ : ∃ B, w.heap.size = B := ⟨_, rfl⟩
  have HB := hidK hB
  have hX : W.heap[B]? = some (.cells #[.int .i32 x.l, .int .i64 x.n, .int .i64 x.fo, .int .i64 x.ba, .int .i64 x.ma] 85 (0, 0)) := by rw [← hB, ← hW]; exact heap_alloc_new w _
  have HBW : Hid (Below w.heap.size w W) := by rw [← hW]; exact (Below.refl _ _).alloc (Nat.le_refl _) _
  have hmk := madeRows_run W hn h1
  have HX : Hid ((madeRows W hn).heap[B]? = some (.cells #[.int .i32 x.l, .int .i64 x.n, .int .i64 x.fo, .int .i64 x.ba, .int .i64 x.ma] 85 (0, 0))) := alloc_at hX _
  have HG : Hid (RowsAt (madeRows W hn) W.heap.size [] hn) := ⟨heap_alloc_new W _, (fun r hr => by cases hr), List.Pairwise.nil⟩
  have HBM : Hid (Below W.heap.size W (madeRows W hn)) := (Below.refl _ _).alloc (Nat.le_refl _) _
  obtain ⟨M, hM⟩ : ∃ M, madeRows W hn = M := ⟨_, rfl⟩
  rw [hM] at hmk HX HG HBM
  obtain ⟨R, hR⟩ : ∃ R, W.heap.size = R := ⟨_, rfl⟩
  rw [hR] at hmk HG
  have HBl : Hid (Below w.heap.size w M) := HBW.out.trans (HBM.out.mono HBW.out.size)
  have HRl : Hid (w.heap.size ≤ R) := by rw [← hR]; exact HBW.out.size
  have HBR : Hid (B < R) := by rw [← hR]; exact lt_of_block hX
  have HN : Hid (∀ W, Calls Tryz.prog 47 #[.int .i64 (n : Int), .agg #[.int .i32 x.l, .int .i64 x.n, .int .i64 x.fo, .int .i64 x.ba, .int .i64 x.ma]] W fun r w' => ∃ g, r = .returned (.slice (some ⟨g, 0, none⟩) n n) ∧ GAt w' g (List.replicate n x) ∧ Below W.heap.size W w' ∧ W.heap.size ≤ g) := newRow_any n h2 x
  clear hW hB hM hR hX HBM HBW
  go_enter Tryz.func24, Tryz.ntmps24
  go_wp2_with fail
  rw [HW.out, HB.out, hmk]
  go_wp2_with fail
  go_loopw [13] (fun i wr => ∃ rs : List (Nat × List Gl), rs.length ≤ hn ∧ i = .int .i64 (rs.length : Int) ∧ RowsAt wr R rs (hn - rs.length) ∧ Alike n x rs ∧ Below w.heap.size w wr ∧ (∀ r ∈ rs, w.heap.size ≤ r.1) ∧ wr.heap[B]? = some (.cells #[.int .i32 x.l, .int .i64 x.n, .int .i64 x.fo, .int .i64 x.ba, .int .i64 x.ma] 85 (0, 0))) (fun i _ => hn - (intOf i).toNat)
  case atStart => exact ⟨[], Nat.zero_le _, rfl, HG.out, (fun r hr => by cases hr), HBl.out, (fun r hr => by cases hr), HX.out⟩
  case round =>
    obtain ⟨rs, hk, rfl, hr, ha, hb, hy, hbx⟩ := hrel
    have HR := hidK hr
    have HBb := hidK hb
    have HA := hidK (And.intro ha hy)
    have HBx := hidK hbx
    by_cases hlt : rs.length < hn
    · have x0 := cell_atT hbx 0
      have x1 := cell_atT hbx 1
      have x2 := cell_atT hbx 2
      have x3 := cell_atT hbx 3
      have x4 := cell_atT hbx 4
      simp at x0 x1 x2 x3 x4
      have HNx : Hid (∀ W', Below wr.heap.size wr W' → W'.cell? ⟨R, rs.length, none⟩ = some (.slice none 0 0) ∧ W'.frozen? ⟨R, rs.length, none⟩ = false) := fun W' hW' => by
        have h3 := HR.out.below hW'
        rw [show hn - rs.length = hn - rs.length - 1 + 1 by omega] at h3
        exact ⟨h3.next, h3.free _⟩
      clear hr hb ha hy hbx
      go_wp2_with (go_at_call 47; refine (HN.out _).mono ?_; rintro e w1 ⟨g, rfl, hg1, hb1, hg2⟩; have HG1 := hidK hg1; have HB1 := hidK hb1; have HG2 := hidK hg2; obtain ⟨n0, n1⟩ := HNx.out w1 hb1; clear hg1 hb1 hg2)
      go_roundw
      case rel =>
        have h3 := HR.out.below HB1.out
        rw [show hn - rs.length = hn - rs.length - 1 + 1 by omega] at h3
        have h4 := h3.add (r := (g, List.replicate n x)) HG1.out (fun y hy => by have := (HR.out.row y hy).lt; have := HG2.out; simp only; omega)
        refine ⟨rs ++ [(g, List.replicate n x)], by simp; omega, by simp, ?_, ?_, ?_, ?_, ?_⟩
        · rw [List.length_append, List.length_singleton, Nat.sub_add_eq]
          simp only [rowV, List.length_replicate] at h4
          exact h4
        · intro r hr
          rcases List.mem_append.1 hr with hr | hr
          · exact HA.out.1 r hr
          · have : r = (g, List.replicate n x) := by simpa using hr
            rw [this]
        · have h5 := HBb.out.trans (HB1.out.mono HBb.out.size)
          exact ((But.refl [R] w1).setCell (p := ⟨R, rs.length, none⟩) (.inl (by simp)) _).under h5 h5.size (by simpa using HRl.out)
        · intro r hr
          rcases List.mem_append.1 hr with hr | hr
          · exact HA.out.2 r hr
          · have : r = (g, List.replicate n x) := by simpa using hr
            rw [this]
            exact Nat.le_trans HBb.out.size HG2.out
        · refine put_other ((HB1.out.block B (lt_of_block HBx.out)).trans HBx.out) ?_ _ _
          have := HBR.out
          omega
      case measure => simp [intOf]; omega
    · have hE : rs.length = hn := by omega
      go_wp2_with fail
      go_ret
      refine ⟨R, rs, rfl, hE, ?_, HA.out.1, HBb.out, HRl.out, HA.out.2⟩
      have h6 := HR.out
      rw [hE, Nat.sub_self] at h6
      exact h6
end Go.Proofs.YtooahffclghcjaaGreatDoor
