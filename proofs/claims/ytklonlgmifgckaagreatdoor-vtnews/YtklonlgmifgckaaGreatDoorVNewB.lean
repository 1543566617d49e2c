/-
  New screens.
-/
import Derived.Test.YtklonlgmifgckaaGreatDoorVNew
namespace Go.Proofs.YtklonlgmifgckaaGreatDoor
open Go.RowKit
set_option linter.unusedVariables false
set_option maxRecDepth 100000

/-- Rows that are all alike. -/
def Alike (n : Nat) (x : Gl) (rs : List (Nat × List Gl)) : Prop := ∀ r ∈ rs, r.2 = List.replicate n x
set_option maxHeartbeats 1000000 in
theorem newRows_any (hn n : Nat) (h1 : hn ≤ 1000) (h2 : n ≤ 1000) (x : Gl) (w : World) : Calls Tryz.prog 31 #[.int .i64 (hn : Int), .int .i64 (n : Int), .agg #[.int .i32 x.l, .int .i64 x.n, .int .i64 x.fo, .int .i64 x.ba, .int .i64 x.ma]] w fun r w' => ∃ G rs, r = .returned (.slice (some ⟨G, 0, none⟩) hn hn) ∧ rs.length = hn ∧ RowsAt w' G rs 0 ∧ Alike n x rs ∧ Below w.heap.size w w' ∧ w.heap.size ≤ G ∧ ∀ r ∈ rs, w.heap.size ≤ r.1 := by
  obtain ⟨W, hW⟩ : ∃ W, w.alloc (.cells #[.int .i32 x.l, .int .i64 x.n, .int .i64 x.fo, .int .i64 x.ba, .int .i64 x.ma] 87) = W := ⟨_, rfl⟩
  have HW := hidK hW
  obtain ⟨B, hB⟩ : ∃ B, w.heap.size = B := ⟨_, rfl⟩
  have HB := hidK hB
  have hX : W.heap[B]? = some (.cells #[.int .i32 x.l, .int .i64 x.n, .int .i64 x.fo, .int .i64 x.ba, .int .i64 x.ma] 87 (0, 0)) := by rw [← hB, ← hW]; exact heap_alloc_new w _
  have HBW : Hid (Below w.heap.size w W) := by rw [← hW]; exact (Below.refl _ _).alloc (Nat.le_refl _) _
  have hmk := madeRows_run W hn h1
  have HX : Hid ((madeRows W hn).heap[B]? = some (.cells #[.int .i32 x.l, .int .i64 x.n, .int .i64 x.fo, .int .i64 x.ba, .int .i64 x.ma] 87 (0, 0))) := alloc_at hX _
  have HG : Hid (RowsAt (madeRows W hn) W.heap.size [] hn) := ⟨heap_alloc_new W _, (fun r hr => by cases hr), List.Pairwise.nil⟩
  have HBM : Hid (Below W.heap.size W (madeRows W hn)) := (Below.refl _ _).alloc (Nat.le_refl _) _
  obtain ⟨M, hM⟩ : ∃ M, madeRows W hn = M := ⟨_, rfl⟩
  rw [hM] at hmk HX HG HBM
  obtain ⟨R, hR⟩ : ∃ R, W.heap.size = R := ⟨_, rfl⟩
  rw [hR] at hmk HG
  have HBl : Hid (Below w.heap.size w M) := HBW.out.trans (HBM.out.mono HBW.out.size)
  have HRl : Hid (w.heap.size ≤ R) := by rw [← hR]; exact HBW.out.size
  have HBR : Hid (B < R) := by rw [← hR]; exact lt_of_block hX
  have HN : Hid (∀ W, Calls Tryz.prog 42 #[.int .i64 (n : Int), .agg #[.int .i32 x.l, .int .i64 x.n, .int .i64 x.fo, .int .i64 x.ba, .int .i64 x.ma]] W fun r w' => ∃ g, r = .returned (.slice (some ⟨g, 0, none⟩) n n) ∧ GAt w' g (List.replicate n x) ∧ Below W.heap.size W w' ∧ W.heap.size ≤ g) := newRow_any n h2 x
  clear hW hB hM hR hX HBM HBW
  go_enter Tryz.func31, Tryz.ntmps31
  go_wp2_with fail
  rw [HW.out, HB.out, hmk]
  go_wp2_with fail
  go_loopw [13] (fun i wr => ∃ rs : List (Nat × List Gl), rs.length ≤ hn ∧ i = .int .i64 (rs.length : Int) ∧ RowsAt wr R rs (hn - rs.length) ∧ Alike n x rs ∧ Below w.heap.size w wr ∧ (∀ r ∈ rs, w.heap.size ≤ r.1) ∧ wr.heap[B]? = some (.cells #[.int .i32 x.l, .int .i64 x.n, .int .i64 x.fo, .int .i64 x.ba, .int .i64 x.ma] 87 (0, 0))) (fun i _ => hn - (intOf i).toNat)
  case atStart => exact ⟨[], Nat.zero_le _, rfl, HG.out, (fun r hr => by cases hr), HBl.out, (fun r hr => by cases hr), HX.out⟩
  case round =>
    obtain ⟨rs, hk, rfl, hr, ha, hb, hy, hbx⟩ := hrel
    have HR := hidK hr
    have HBb := hidK hb
    have HA := hidK (And.intro ha hy)
    have HBx := hidK hbx
    by_cases hlt : rs.length < hn
    · have x0 := cell_atT hbx 0
      have x1 := cell_atT hbx 1
      have x2 := cell_atT hbx 2
      have x3 := cell_atT hbx 3
      have x4 := cell_atT hbx 4
      simp at x0 x1 x2 x3 x4
      have HNx : Hid (∀ W', Below wr.heap.size wr W' → W'.cell? ⟨R, rs.length, none⟩ = some (.slice none 0 0) ∧ W'.frozen? ⟨R, rs.length, none⟩ = false) := fun W' hW' => by
        have h3 := HR.out.below hW'
        rw [show hn - rs.length = hn - rs.length - 1 + 1 by omega] at h3
        exact ⟨h3.next, h3.free _⟩
      clear hr hb ha hy hbx
      go_wp2_with (go_at_call 42; refine (HN.out _).mono ?_; rintro e w1 ⟨g, rfl, hg1, hb1, hg2⟩; have HG1 := hidK hg1; have HB1 := hidK hb1; have HG2 := hidK hg2; obtain ⟨n0, n1⟩ := HNx.out w1 hb1; clear hg1 hb1 hg2)
      go_roundw
      case rel =>
        have h3 := HR.out.below HB1.out
        rw [show hn - rs.length = hn - rs.length - 1 + 1 by omega] at h3
        have h4 := h3.add (r := (g, List.replicate n x)) HG1.out (fun y hy => by have := (HR.out.row y hy).lt; have := HG2.out; simp only; omega)
        refine ⟨rs ++ [(g, List.replicate n x)], by simp; omega, by simp, ?_, ?_, ?_, ?_, ?_⟩
        · rw [List.length_append, List.length_singleton, Nat.sub_add_eq]
          simp only [rowV, List.length_replicate] at h4
          exact h4
        · intro r hr
          rcases List.mem_append.1 hr with hr | hr
          · exact HA.out.1 r hr
          · have : r = (g, List.replicate n x) := by simpa using hr
            rw [this]
        · have h5 := HBb.out.trans (HB1.out.mono HBb.out.size)
          exact ((But.refl [R] w1).setCell (p := ⟨R, rs.length, none⟩) (.inl (by simp)) _).under h5 h5.size (by simpa using HRl.out)
        · intro r hr
          rcases List.mem_append.1 hr with hr | hr
          · exact HA.out.2 r hr
          · have : r = (g, List.replicate n x) := by simpa using hr
            rw [this]
            exact Nat.le_trans HBb.out.size HG2.out
        · refine put_other ((HB1.out.block B (lt_of_block HBx.out)).trans HBx.out) ?_ _ _
          have := HBR.out
          omega
      case measure => simp [intOf]; omega
    · have hE : rs.length = hn := by omega
      go_wp2_with fail
      go_ret
      refine ⟨R, rs, rfl, hE, ?_, HA.out.1, HBb.out, HRl.out, HA.out.2⟩
      have h6 := HR.out
      rw [hE, Nat.sub_self] at h6
      exact h6
end Go.Proofs.YtklonlgmifgckaaGreatDoor
