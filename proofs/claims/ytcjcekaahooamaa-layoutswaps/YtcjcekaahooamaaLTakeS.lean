/-
  Layouts: a row or a column at the head of a list, over what takeAll does.
-/
import Derived.Test.YtcjcekaahooamaaLTake
namespace Go.Proofs.Ytcjcekaahooamaa
open Go.RowKit
set_option linter.unusedVariables false
set_option maxRecDepth 100000

/-- What take leaves of a row or a column. -/
def SplitPost (w : World) (c : CellV) (R : Value → Value → World → World → Prop) (e : Ending) (w' : World) : Prop :=
  ∃ g sl v' X w2, e = .returned (.tuple #[splitI g, v']) ∧ Below w.heap.size w X ∧ R sl v' X w2 ∧ Below X.heap.size X w2 ∧ w2.heap.size ≤ g ∧ SplitAt w' g c.box c.kind sl ∧ Below w2.heap.size w2 w'

theorem two_new (w : World) (c : CellV) (kd : Int) (X : World) (hX : (w.alloc (.cells #[.int .i64 c.depth, .int .i64 kd, .int .i64 c.x, .int .i64 c.y, .int .i64 c.w, .int .i64 c.h, .int .i64 c.p] 33)).alloc (.cells #[.int .i64 c.x, .int .i64 c.y, .int .i64 c.w, .int .i64 c.h] 42) = X) :
    Below w.heap.size w X ∧ ∀ w2, Below X.heap.size X w2 → w2.cell? ⟨w.heap.size, 1, none⟩ = some (.int .i64 kd) ∧ w2.cell? ⟨w.heap.size + 1, 0, none⟩ = some (.int .i64 c.x) ∧ w2.cell? ⟨w.heap.size + 1, 1, none⟩ = some (.int .i64 c.y) ∧ w2.cell? ⟨w.heap.size + 1, 2, none⟩ = some (.int .i64 c.w) ∧ w2.cell? ⟨w.heap.size + 1, 3, none⟩ = some (.int .i64 c.h) ∧ w.heap.size + 1 + 1 ≤ w2.heap.size := by
  subst hX
  refine ⟨((Below.refl _ _).alloc (Nat.le_refl _) _).alloc (by simp) _, fun w2 hb => ?_⟩
  have h1 := heap_alloc_new w (.cells #[.int .i64 c.depth, .int .i64 kd, .int .i64 c.x, .int .i64 c.y, .int .i64 c.w, .int .i64 c.h, .int .i64 c.p] 33)
  obtain ⟨W1, hW1⟩ : ∃ W1, w.alloc (.cells #[.int .i64 c.depth, .int .i64 kd, .int .i64 c.x, .int .i64 c.y, .int .i64 c.w, .int .i64 c.h, .int .i64 c.p] 33) = W1 := ⟨_, rfl⟩
  have hs1 : W1.heap.size = w.heap.size + 1 := by rw [← hW1]; simp
  rw [hW1] at h1 hb
  have h2 := heap_alloc_new W1 (.cells #[.int .i64 c.x, .int .i64 c.y, .int .i64 c.w, .int .i64 c.h] 42)
  have h3 : (W1.alloc (.cells #[.int .i64 c.x, .int .i64 c.y, .int .i64 c.w, .int .i64 c.h] 42)).heap[w.heap.size]? = _ := ((((Below.refl W1.heap.size W1).alloc (Nat.le_refl _) _).block w.heap.size (by omega))).trans h1
  have hs2 : (W1.alloc (.cells #[.int .i64 c.x, .int .i64 c.y, .int .i64 c.w, .int .i64 c.h] 42)).heap.size = w.heap.size + 1 + 1 := by rw [← hs1]; simp
  rw [hs1] at h2
  have g1 := (hb.block w.heap.size (by omega)).trans h3
  have g2 := (hb.block (w.heap.size + 1) (by omega)).trans h2
  refine ⟨cell_atL g1 1, cell_atL g2 0, cell_atL g2 1, cell_atL g2 2, cell_atL g2 3, ?_⟩
  have := hb.size
  omega

set_option maxHeartbeats 1000000 in
theorem take_split (v : Value) (c : CellV) (l : List CellV) (W0 w : World) (hW : Below W0.heap.size W0 w) (R : Value → Value → World → World → Prop) (h : CellsIn W0 v (c :: l)) (hk : c.kind = 2 ∨ c.kind = 3) (hd : 0 ≤ c.depth ∧ c.depth ≤ 1000)
    (HA : ∀ X v1, Below w.heap.size w X → CellsIn W0 v1 l → Calls Try.prog 37 #[v1, .int .i64 (c.depth + 1)] X fun e w' => ∃ sa sn sc v', e = .returned (.tuple #[.slice sa sn sc, v']) ∧ R (.slice sa sn sc) v' X w' ∧ Below X.heap.size X w') :
    Calls Try.prog 18 #[v, .int .i64 c.depth] w fun e w' => SplitPost w c R e w' := by
  obtain ⟨b, off, cap, rfl, hcap, hcells, hrest⟩ := h.cons
  obtain ⟨q0, q1, q2, q3, q4, q5, q6⟩ := HeadIn.of (fun j u hu => (hW.cell (p := ⟨b, off + j, none⟩) (World.block_lt_of_cell? W0 _ (hcells j u hu))).trans (hcells j u hu))
  obtain ⟨n, hn⟩ : ∃ n, l.length + 1 = n := ⟨_, rfl⟩
  have Hn : Hid (l.length + 1 = n) := hn
  have HA1 : Hid (∀ X v1, Below w.heap.size w X → (∀ ad, (l = [] ∨ ad = some ⟨b, off + 7, none⟩) → v1 = .slice ad l.length (cap - 1) → Calls Try.prog 37 #[v1, .int .i64 (c.depth + 1)] X fun e w' => ∃ sa sn sc v', e = .returned (.tuple #[.slice sa sn sc, v']) ∧ R (.slice sa sn sc) v' X w' ∧ Below X.heap.size X w')) := fun X v1 hX ad had hv => HA X v1 hX (hv ▸ hrest ad had)
  have HA0 : Hid (∀ X ad cap', l.length = 0 → Below w.heap.size w X → Calls Try.prog 37 #[.slice ad 0 cap', .int .i64 (c.depth + 1)] X fun e w' => ∃ sa sn sc v', e = .returned (.tuple #[.slice sa sn sc, v']) ∧ R (.slice sa sn sc) v' X w' ∧ Below X.heap.size X w') := fun X ad cap' hl hX => HA X _ hX (CellsIn.empty _ _ _ _ hl)
  clear h hcells hrest HA hW
  rw [hn] at hcap ⊢
  have hn1 : 0 < n := by omega
  have hn0 : ((n : Int) == 0) = false := by simp; omega
  have hn2 : (1 : Int) ≤ (n : Int) := by omega
  have hn3 : (n : Int) ≤ (cap : Int) := by omega
  have hn4 : 1 ≤ n := hn1
  have hdw : IntKind.i64.wrap (c.depth + 1) = c.depth + 1 := by rw [IntKind.wrap_i64]; omega
  obtain ⟨kd, hkd⟩ : ∃ k, c.kind = k := ⟨_, rfl⟩
  have Hkd : Hid (c.kind = kd) := hkd
  rw [hkd] at hk q1
  have k1 : (kd == 1) = false := by rcases hk with rfl | rfl <;> rfl
  have k23 : (kd == 2) = true ∨ (kd == 2) = false ∧ (kd == 3) = true := by rcases hk with rfl | rfl <;> simp
  clear hn hkd hk hd
  by_cases hc1 : cap = 1
  · subst hc1
    have hn5 : n = 1 := by omega
    subst hn5
    have HE : Hid (l.length = 0) := by have := Hn.out; show l.length = 0; omega
    clear hcap hn1 hn0 hn2 hn3 hn4
    rcases k23 with k2 | ⟨k2, k3⟩
    · go_enter Try.func18, Try.ntmps18
      go_wp2_with fail
      obtain ⟨X, hX⟩ : ∃ X, (w.alloc (.cells #[.int .i64 c.depth, .int .i64 kd, .int .i64 c.x, .int .i64 c.y, .int .i64 c.w, .int .i64 c.h, .int .i64 c.p] 33)).alloc (.cells #[.int .i64 c.x, .int .i64 c.y, .int .i64 c.w, .int .i64 c.h] 42) = X := ⟨_, rfl⟩
      have hXF := two_new w c kd X hX
      rw [hX]
      refine (HA0.out X _ _ HE.out hXF.1).mono ?_
      rintro e w2 ⟨sa, sn, sc, v', rfl, hR, hb2⟩
      have HRR : Hid (R (.slice sa sn sc) v' X w2) := hR
      obtain ⟨y1, y2, y3, y4, y5, y6⟩ := hXF.2 w2 hb2
      have HX0 : Hid (Below w.heap.size w X) := hXF.1
      have HB2 : Hid (Below X.heap.size X w2) := hb2
      clear hR hb2 hXF hX
      go_wp2
      all_goals go_ret2
      all_goals refine ⟨w2.heap.size, .slice sa sn sc, v', X, w2, rfl, HX0.out, HRR.out, HB2.out, Nat.le_refl _, ?_, (Below.refl _ _).alloc (Nat.le_refl _) _⟩
      all_goals rw [Hkd.out]
      all_goals exact block_new _ _ rfl _ _
    · go_enter Try.func18, Try.ntmps18
      go_wp2_with fail
      obtain ⟨X, hX⟩ : ∃ X, (w.alloc (.cells #[.int .i64 c.depth, .int .i64 kd, .int .i64 c.x, .int .i64 c.y, .int .i64 c.w, .int .i64 c.h, .int .i64 c.p] 33)).alloc (.cells #[.int .i64 c.x, .int .i64 c.y, .int .i64 c.w, .int .i64 c.h] 42) = X := ⟨_, rfl⟩
      have hXF := two_new w c kd X hX
      rw [hX]
      refine (HA0.out X _ _ HE.out hXF.1).mono ?_
      rintro e w2 ⟨sa, sn, sc, v', rfl, hR, hb2⟩
      have HRR : Hid (R (.slice sa sn sc) v' X w2) := hR
      obtain ⟨y1, y2, y3, y4, y5, y6⟩ := hXF.2 w2 hb2
      have HX0 : Hid (Below w.heap.size w X) := hXF.1
      have HB2 : Hid (Below X.heap.size X w2) := hb2
      clear hR hb2 hXF hX
      go_wp2
      all_goals go_ret2
      all_goals refine ⟨w2.heap.size, .slice sa sn sc, v', X, w2, rfl, HX0.out, HRR.out, HB2.out, Nat.le_refl _, ?_, (Below.refl _ _).alloc (Nat.le_refl _) _⟩
      all_goals rw [Hkd.out]
      all_goals exact block_new _ _ rfl _ _
  · have hc2 : (cap == 1) = false := by simpa using hc1
    have HE : Hid (n - 1 = l.length) := by have := Hn.out; show n - 1 = l.length; omega
    rcases k23 with k2 | ⟨k2, k3⟩
    · go_enter Try.func18, Try.ntmps18
      go_wp2_with fail
      obtain ⟨X, hX⟩ : ∃ X, (w.alloc (.cells #[.int .i64 c.depth, .int .i64 kd, .int .i64 c.x, .int .i64 c.y, .int .i64 c.w, .int .i64 c.h, .int .i64 c.p] 33)).alloc (.cells #[.int .i64 c.x, .int .i64 c.y, .int .i64 c.w, .int .i64 c.h] 42) = X := ⟨_, rfl⟩
      have hXF := two_new w c kd X hX
      rw [hX]
      refine (HA1.out X _ hXF.1 (some ⟨b, off + 7, none⟩) (.inr rfl) (by rw [HE.out])).mono ?_
      rintro e w2 ⟨sa, sn, sc, v', rfl, hR, hb2⟩
      have HRR : Hid (R (.slice sa sn sc) v' X w2) := hR
      obtain ⟨y1, y2, y3, y4, y5, y6⟩ := hXF.2 w2 hb2
      have HX0 : Hid (Below w.heap.size w X) := hXF.1
      have HB2 : Hid (Below X.heap.size X w2) := hb2
      clear hR hb2 hXF hX
      go_wp2
      all_goals go_ret2
      all_goals refine ⟨w2.heap.size, .slice sa sn sc, v', X, w2, rfl, HX0.out, HRR.out, HB2.out, Nat.le_refl _, ?_, (Below.refl _ _).alloc (Nat.le_refl _) _⟩
      all_goals rw [Hkd.out]
      all_goals exact block_new _ _ rfl _ _
    · go_enter Try.func18, Try.ntmps18
      go_wp2_with fail
      obtain ⟨X, hX⟩ : ∃ X, (w.alloc (.cells #[.int .i64 c.depth, .int .i64 kd, .int .i64 c.x, .int .i64 c.y, .int .i64 c.w, .int .i64 c.h, .int .i64 c.p] 33)).alloc (.cells #[.int .i64 c.x, .int .i64 c.y, .int .i64 c.w, .int .i64 c.h] 42) = X := ⟨_, rfl⟩
      have hXF := two_new w c kd X hX
      rw [hX]
      refine (HA1.out X _ hXF.1 (some ⟨b, off + 7, none⟩) (.inr rfl) (by rw [HE.out])).mono ?_
      rintro e w2 ⟨sa, sn, sc, v', rfl, hR, hb2⟩
      have HRR : Hid (R (.slice sa sn sc) v' X w2) := hR
      obtain ⟨y1, y2, y3, y4, y5, y6⟩ := hXF.2 w2 hb2
      have HX0 : Hid (Below w.heap.size w X) := hXF.1
      have HB2 : Hid (Below X.heap.size X w2) := hb2
      clear hR hb2 hXF hX
      go_wp2
      all_goals go_ret2
      all_goals refine ⟨w2.heap.size, .slice sa sn sc, v', X, w2, rfl, HX0.out, HRR.out, HB2.out, Nat.le_refl _, ?_, (Below.refl _ _).alloc (Nat.le_refl _) _⟩
      all_goals rw [Hkd.out]
      all_goals exact block_new _ _ rfl _ _

end Go.Proofs.Ytcjcekaahooamaa
