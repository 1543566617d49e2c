/-
  The tail: made: a Log, and the document's.
-/
import Derived.Test.YteeakldeimhjjabTWorks
import Derived.WalkKit
import Derived.Deep.RegionHeld3
namespace Go.Proofs.Yteeakldeimhjjab
open Go.RowKit Go.Lib
set_option linter.unusedVariables false
set_option maxRecDepth 100000

theorem loadE_cases (lim st : Int) (n : Nat) : loadE lim st n = 0 ∨ loadE lim st n = 1 ∨ loadE lim st n = 2 := by
  unfold loadE
  split
  · exact .inr (.inl rfl)
  · split
    · exact .inr (.inr rfl)
    · exact .inl rfl

/-- A Log and the document's, or neither. -/
def Both (w w' : World) (lim st : Int) (s : ByteArray) (x : Ending) : Prop :=
  Below w.heap.size w w' ∧
  (x = .returned (.tuple #[.pointer none, .agg #[.int .i64 0, .int .i64 0, .string ⟨#[]⟩], .bool true]) ∨
   loadE lim st s.data.toList.length = 0 ∧ ∃ b v, x = .returned (.tuple #[.pointer (some ⟨b, 0, none⟩), refV lim st s, .bool true]) ∧ LogAt w' b v lim.toNat (st.toNat + s.data.toList.length) s.data.toList ∧ ∀ k ∈ foot b v, w.heap.size ≤ k)

theorem heap_two (w : World) (o p : Obj) : ((w.alloc o).alloc p).heap[w.heap.size]? = some o ∧ ((w.alloc o).alloc p).heap[w.heap.size + 1]? = some p ∧ ((w.alloc o).alloc p).heap.size = w.heap.size + 2 := by
  refine ⟨?_, ?_, by simp⟩
  · rw [Below.heap_alloc _ _ _ (by simp)]
    exact heap_alloc_new w _
  · have := heap_alloc_new (w.alloc o) p
    simpa using this
theorem under_two {w w1 : World} {o p : Obj} (h : Below ((w.alloc o).alloc p).heap.size ((w.alloc o).alloc p) w1) : Below w.heap.size w w1 ∧ w1.heap[w.heap.size]? = some o ∧ w1.heap[w.heap.size + 1]? = some p ∧ w.heap.size + 2 ≤ w1.heap.size := by
  obtain ⟨h1, h2, h3⟩ := heap_two w o p
  rw [h3] at h
  refine ⟨(((Below.refl _ w).alloc (Nat.le_refl _) o).alloc (by simp) p).trans (h.mono (by omega)), (h.block _ (by omega)).trans h1, (h.block _ (by omega)).trans h2, by have := h.size; omega⟩
theorem under_one {w w1 : World} {o : Obj} (h : Below (w.alloc o).heap.size (w.alloc o) w1) : Below w.heap.size w w1 ∧ w1.heap[w.heap.size]? = some o ∧ w.heap.size + 1 ≤ w1.heap.size := by
  have h3 : (w.alloc o).heap.size = w.heap.size + 1 := by simp
  rw [h3] at h
  exact ⟨((Below.refl _ w).alloc (Nat.le_refl _) o).trans (h.mono (by omega)), (h.block _ (by omega)).trans (heap_alloc_new w _), by have := h.size; omega⟩


/-- Three cells stored. -/
theorem stored3 {w : World} {R : Nat} {a b c x y z : Value} {t : TypeId} (h : w.heap[R]? = some (.cells #[a, b, c] t (0, 0))) :
    (((w.setCell ⟨R, 0, none⟩ x).setCell ⟨R, 1, none⟩ y).setCell ⟨R, 2, none⟩ z).heap[R]? = some (.cells #[x, y, z] t (0, 0)) ∧
    (∀ k, k ≠ R → (((w.setCell ⟨R, 0, none⟩ x).setCell ⟨R, 1, none⟩ y).setCell ⟨R, 2, none⟩ z).heap[k]? = w.heap[k]?) ∧
    ∀ B, B ≤ R → Below B w (((w.setCell ⟨R, 0, none⟩ x).setCell ⟨R, 1, none⟩ y).setCell ⟨R, 2, none⟩ z) := by
  refine ⟨?_, fun k hk => ?_, fun B hB => (((Below.refl B w).setCell (p := ⟨R, 0, none⟩) hB _).setCell (p := ⟨R, 1, none⟩) hB _).setCell (p := ⟨R, 2, none⟩) hB _⟩
  · rw [heap_setCell_same _ R 2 _ _ _ (heap_setCell_same _ R 1 _ _ _ (heap_setCell_same _ R 0 _ _ _ h))]
    rfl
  · rw [Below.heap_setCell _ _ _ _ hk, Below.heap_setCell _ _ _ _ hk, Below.heap_setCell _ _ _ _ hk]

set_option maxHeartbeats 4000000 in
theorem made_load (lim st : Int) (s : ByteArray) (w : World) (hs : s.size ≤ 9223372036854775807) (h1 : -9223372036854775808 ≤ lim) (h2 : lim ≤ 9223372036854775807) (h3 : -9223372036854775808 ≤ st) (h4 : st ≤ 9223372036854775807) :
    Calls Try.prog 5 #[.agg #[.bool false, .int .i64 lim, .int .i64 st, .string s]] w fun x w' => Both w w' lim st s x := by
  have HW : Hid (∀ W, Calls Try.prog 13 #[] W fun x w' => x = .returned (.bool true) ∧ Below W.heap.size W w') := works_any
  have HL : Hid (∀ W, Calls Try.prog 7 #[.int .i64 lim, .int .i64 st, .string s] W fun x w' => Made W w' lim st s.data.toList x) := fun W => load_any lim st s W hs h1 h2 h3 h4
  have HR : Hid (∀ W, Calls Try.prog 16 #[.int .i64 lim, .int .i64 st, .string s] W fun x w' => x = .returned (refMade lim st s) ∧ Below W.heap.size W w') := fun W => refLoad_any lim st s W hs h1 h2 h3 h4
  obtain ⟨E, hE⟩ : ∃ E, loadE lim st s.data.toList.length = E := ⟨_, rfl⟩
  have hE3 : E = 0 ∨ E = 1 ∨ E = 2 := by rw [← hE]; exact loadE_cases _ _ _
  have HE : Hid (loadE lim st s.data.toList.length = E) := hE
  clear hE
  go_enter Try.func5, Try.ntmps5
  go_wp2_with fail
  refine (HW.out _).mono ?_
  rintro x w1 ⟨rfl, hb1⟩
  obtain ⟨b1, m1, z1, s1⟩ := under_two hb1
  have HB1 : Hid (Below w.heap.size w w1) := b1
  have m1b : (w1.alloc (.cells #[.int .i64 0, .int .i64 0, .string ⟨#[]⟩] 27)).heap[w.heap.size]? = some (.cells #[.bool false, .int .i64 lim, .int .i64 st, .string s] 23 (0, 0)) := by rw [Below.heap_alloc _ _ _ (by omega)]; exact m1
  have c0 : (w1.alloc (.cells #[.int .i64 0, .int .i64 0, .string ⟨#[]⟩] 27)).cell? ⟨w.heap.size, 0, none⟩ = some (.bool false) := cell_atT m1b 0
  have c1 : (w1.alloc (.cells #[.int .i64 0, .int .i64 0, .string ⟨#[]⟩] 27)).cell? ⟨w.heap.size, 1, none⟩ = some (.int .i64 lim) := cell_atT m1b 1
  have c2 : (w1.alloc (.cells #[.int .i64 0, .int .i64 0, .string ⟨#[]⟩] 27)).cell? ⟨w.heap.size, 2, none⟩ = some (.int .i64 st) := cell_atT m1b 2
  have c3 : (w1.alloc (.cells #[.int .i64 0, .int .i64 0, .string ⟨#[]⟩] 27)).cell? ⟨w.heap.size, 3, none⟩ = some (.string s) := cell_atT m1b 3
  have M1 : Hid (w1.heap[w.heap.size]? = some (.cells #[.bool false, .int .i64 lim, .int .i64 st, .string s] 23 (0, 0))) := m1
  have Z1 : Hid (w1.heap[w.heap.size + 1]? = some (.cells #[.int .i64 0, .int .i64 0, .string ⟨#[]⟩] 27 (0, 0))) := z1
  have S1 : Hid (w.heap.size + 2 ≤ w1.heap.size) := s1
  clear hb1 b1 m1 z1 s1 m1b
  go_wp2_with fail
  refine (HL.out _).mono ?_
  rintro x w2 ⟨hb2, hmade⟩
  obtain ⟨b2, r2, s2⟩ := under_one hb2
  have HB2 : Hid (Below w1.heap.size w1 w2) := b2
  have R2 : Hid (w2.heap[w1.heap.size]? = some (.cells #[.int .i64 0, .int .i64 0, .string ⟨#[]⟩] 27 (0, 0))) := r2
  have S2 : Hid (w1.heap.size + 1 ≤ w2.heap.size) := s2
  have M2 : Hid (w2.heap[w.heap.size]? = some (.cells #[.bool false, .int .i64 lim, .int .i64 st, .string s] 23 (0, 0))) := (b2.block _ (by have := S1.out; omega)).trans M1.out
  have Z2 : Hid (w2.heap[w.heap.size + 1]? = some (.cells #[.int .i64 0, .int .i64 0, .string ⟨#[]⟩] 27 (0, 0))) := (b2.block _ (by have := S1.out; omega)).trans Z1.out
  have d1 : w2.cell? ⟨w.heap.size, 1, none⟩ = some (.int .i64 lim) := cell_atT M2.out 1
  have d2 : w2.cell? ⟨w.heap.size, 2, none⟩ = some (.int .i64 st) := cell_atT M2.out 2
  have d3 : w2.cell? ⟨w.heap.size, 3, none⟩ = some (.string s) := cell_atT M2.out 3
  have HF : Hid ((∃ P, x = .returned (.tuple #[.pointer P, .int .i64 E])) ∧ (E = 0 → ∃ b v, x = .returned (.tuple #[.pointer (some ⟨b, 0, none⟩), .int .i64 0]) ∧ LogAt w2 b v lim.toNat ((st : Int).toNat + s.data.toList.length) s.data.toList ∧ ∀ k ∈ foot b v, w1.heap.size + 1 ≤ k) ∧ (E ≠ 0 → x = .returned (.tuple #[.pointer none, .int .i64 E]))) := by
    rcases hmade with ⟨hE, hx⟩ | ⟨hE, b, v, hx, hl, hf⟩
    · rw [HE.out] at hE hx
      exact ⟨⟨_, hx⟩, fun h => absurd h hE, fun _ => hx⟩
    · rw [HE.out] at hE
      refine ⟨⟨_, by rw [hE]; exact hx⟩, fun _ => ⟨b, v, hx, hl, fun k hk => ?_⟩, fun h => absurd hE h⟩
      have h5 := hf k hk
      have h6 : (w1.alloc (Obj.cells #[.int .i64 0, .int .i64 0, .string ⟨#[]⟩] 27)).heap.size = w1.heap.size + 1 := by simp
      rw [h6] at h5
      exact h5
  clear hb2 b2 r2 s2 hmade
  have HREF : Hid (refMade lim st s = if E = 0 then .tuple #[refV lim st s, .int .i64 0] else .tuple #[refV 0 0 ⟨#[]⟩, .int .i64 E]) := by
    show _ = _
    unfold refMade
    have h5 : loadE lim st (s : ByteArray).data.toList.length = E := HE.out
    rw [h5]
  have FIN : Hid (∀ w3, Below w2.heap.size w2 w3 → w3.heap[w1.heap.size]? = some (.cells #[.int .i64 0, .int .i64 0, .string ⟨#[]⟩] 27 (0, 0)) ∧ w3.heap[w.heap.size + 1]? = some (.cells #[.int .i64 0, .int .i64 0, .string ⟨#[]⟩] 27 (0, 0))) := fun w3 hb => ⟨(hb.block _ (by have := S2.out; omega)).trans R2.out, (hb.block _ (by have := S1.out; have := S2.out; omega)).trans Z2.out⟩
  have hne : w.heap.size + 1 ≠ w1.heap.size := by have := S1.out; omega
  have hne2 : w1.heap.size ≠ w.heap.size + 1 := Ne.symm hne
  rcases hE3 with rfl | rfl | rfl
  · obtain ⟨b, v, rfl, hl, hf⟩ := HF.out.2.1 rfl
    have HLg : Hid (LogAt w2 b v lim.toNat ((st : Int).toNat + s.data.toList.length) s.data.toList) := hl
    have HFt : Hid (∀ k ∈ foot b v, w1.heap.size + 1 ≤ k) := hf
    have HREF0 : Hid (refMade lim st s = .tuple #[.agg #[.int .i64 lim, .int .i64 st, .string s], .int .i64 0]) := by
      have h := HREF.out
      rw [if_pos rfl] at h
      exact h
    clear hl hf HF HREF
    go_wp2_with fail
    refine (HR.out _).mono ?_
    rintro x w3 ⟨rfl, hb3⟩
    have HB3 : Hid (Below w2.heap.size w2 w3) := hb3
    obtain ⟨r3, z3⟩ := FIN.out w3 hb3
    rw [HREF0.out]
    have f0 := free_atT r3
    have e0 : w3.cell? ⟨w1.heap.size, 0, none⟩ = some (.int .i64 0) := cell_atT r3 0
    have e1 : w3.cell? ⟨w1.heap.size, 1, none⟩ = some (.int .i64 0) := cell_atT r3 1
    have e2 : w3.cell? ⟨w1.heap.size, 2, none⟩ = some (.string ⟨#[]⟩) := cell_atT r3 2
    have HST : Hid (w3.heap[w1.heap.size]? = some (.cells #[.int .i64 0, .int .i64 0, .string ⟨#[]⟩] 27 (0, 0))) := r3
    have HZ3 : Hid (w3.heap[w.heap.size + 1]? = some (.cells #[.int .i64 0, .int .i64 0, .string ⟨#[]⟩] 27 (0, 0))) := z3
    clear hb3 r3 z3
    go_wp2_with fail
    obtain ⟨W4, hW4⟩ : ∃ W4, W4 = (((w3.setCell ⟨w1.heap.size, 0, none⟩ (.int .i64 lim)).setCell ⟨w1.heap.size, 1, none⟩ (.int .i64 st)).setCell ⟨w1.heap.size, 2, none⟩ (.string s)) := ⟨_, rfl⟩
    rw [← hW4]
    have ST := stored3 (x := .int .i64 lim) (y := .int .i64 st) (z := .string s) HST.out
    rw [← hW4] at ST
    have q0 : W4.cell? ⟨w1.heap.size, 0, none⟩ = some (.int .i64 lim) := cell_atT ST.1 0
    have q1 : W4.cell? ⟨w1.heap.size, 1, none⟩ = some (.int .i64 st) := cell_atT ST.1 1
    have q2 : W4.cell? ⟨w1.heap.size, 2, none⟩ = some (.string s) := cell_atT ST.1 2
    have hz4 := (ST.2.1 (w.heap.size + 1) hne).trans HZ3.out
    have p0 : W4.cell? ⟨w.heap.size + 1, 0, none⟩ = some (.int .i64 0) := cell_atT hz4 0
    have p1 : W4.cell? ⟨w.heap.size + 1, 1, none⟩ = some (.int .i64 0) := cell_atT hz4 1
    have p2 : W4.cell? ⟨w.heap.size + 1, 2, none⟩ = some (.string ⟨#[]⟩) := cell_atT hz4 2
    have pf := free_atT hz4
    have HW4 : Hid (W4.heap[w.heap.size + 1]? = some (.cells #[.int .i64 0, .int .i64 0, .string ⟨#[]⟩] 27 (0, 0)) ∧ Below w1.heap.size w3 W4 ∧ ∀ k, k ≠ w1.heap.size → W4.heap[k]? = w3.heap[k]?) := ⟨hz4, ST.2.2 _ (Nat.le_refl _), ST.2.1⟩
    clear hW4 ST hz4 e0 e1 e2 f0
    go_region_held3 (fun W' => W'.cell? ⟨w1.heap.size, 0, none⟩ = some (.int .i64 lim) ∧ W'.cell? ⟨w1.heap.size, 1, none⟩ = some (.int .i64 st) ∧ W'.cell? ⟨w1.heap.size, 2, none⟩ = some (.string s)) (go_keep) (fail)
    all_goals (try go_wp2)
    all_goals (have SF := stored3 (x := .int .i64 lim) (y := .int .i64 st) (z := .string s) HW4.out.1)
    all_goals (have t0 := cell_atT SF.1 0; have t1 := cell_atT SF.1 1; have t2 := cell_atT SF.1 2)
    all_goals refine bodyPost_ret (v := .tuple #[.pointer (some ⟨b, 0, none⟩), .agg #[.int .i64 lim, .int .i64 st, .string s], .bool true]) (by simp [results, Try.results5, go_sem, t0, t1, t2]) rfl ?_
    all_goals (have BF : Below w.heap.size w W4 := HB1.out.trans ((HB2.out.mono (by have := S1.out; omega)).trans ((HB3.out.mono (by have := S1.out; have := S2.out; omega)).trans (HW4.out.2.1.mono (by have := S1.out; omega)))))
    all_goals (have BG := (BF.trans (SF.2.2 w.heap.size (by omega))).drew)
    all_goals exact ⟨BG, .inr ⟨HE.out, b, v, rfl, HLg.out.keep fun k hk => by
      have h5 := HFt.out k hk
      have h6 := HLg.out.lt k hk
      have := S1.out
      exact ((SF.2.1 k (by omega)).trans (HW4.out.2.2 k (by omega))).trans (HB3.out.block k h6), fun k hk => by
      have h5 := HFt.out k hk
      have := S1.out
      omega⟩⟩
  · obtain rfl := HF.out.2.2 (by decide)
    have HREF0 : Hid (refMade lim st s = .tuple #[.agg #[.int .i64 0, .int .i64 0, .string ⟨#[]⟩], .int .i64 1]) := by
      have h := HREF.out
      rw [if_neg (by decide)] at h
      exact h
    clear HF HREF
    go_wp2_with fail
    refine (HR.out _).mono ?_
    rintro x w3 ⟨rfl, hb3⟩
    have HB3 : Hid (Below w2.heap.size w2 w3) := hb3
    obtain ⟨r3, z3⟩ := FIN.out w3 hb3
    rw [HREF0.out]
    have f0 := free_atT r3
    have e0 : w3.cell? ⟨w1.heap.size, 0, none⟩ = some (.int .i64 0) := cell_atT r3 0
    have e1 : w3.cell? ⟨w1.heap.size, 1, none⟩ = some (.int .i64 0) := cell_atT r3 1
    have e2 : w3.cell? ⟨w1.heap.size, 2, none⟩ = some (.string ⟨#[]⟩) := cell_atT r3 2
    have HST : Hid (w3.heap[w1.heap.size]? = some (.cells #[.int .i64 0, .int .i64 0, .string ⟨#[]⟩] 27 (0, 0))) := r3
    have HZ3 : Hid (w3.heap[w.heap.size + 1]? = some (.cells #[.int .i64 0, .int .i64 0, .string ⟨#[]⟩] 27 (0, 0))) := z3
    clear hb3 r3 z3
    go_wp2_with fail
    obtain ⟨W4, hW4⟩ : ∃ W4, W4 = (((w3.setCell ⟨w1.heap.size, 0, none⟩ (.int .i64 0)).setCell ⟨w1.heap.size, 1, none⟩ (.int .i64 0)).setCell ⟨w1.heap.size, 2, none⟩ (.string ⟨#[]⟩)) := ⟨_, rfl⟩
    rw [← hW4]
    have ST := stored3 (x := .int .i64 0) (y := .int .i64 0) (z := .string ⟨#[]⟩) HST.out
    rw [← hW4] at ST
    have q0 : W4.cell? ⟨w1.heap.size, 0, none⟩ = some (.int .i64 0) := cell_atT ST.1 0
    have q1 : W4.cell? ⟨w1.heap.size, 1, none⟩ = some (.int .i64 0) := cell_atT ST.1 1
    have q2 : W4.cell? ⟨w1.heap.size, 2, none⟩ = some (.string ⟨#[]⟩) := cell_atT ST.1 2
    have hz4 := (ST.2.1 (w.heap.size + 1) hne).trans HZ3.out
    have p0 : W4.cell? ⟨w.heap.size + 1, 0, none⟩ = some (.int .i64 0) := cell_atT hz4 0
    have p1 : W4.cell? ⟨w.heap.size + 1, 1, none⟩ = some (.int .i64 0) := cell_atT hz4 1
    have p2 : W4.cell? ⟨w.heap.size + 1, 2, none⟩ = some (.string ⟨#[]⟩) := cell_atT hz4 2
    have pf := free_atT hz4
    have HW4 : Hid (W4.heap[w.heap.size + 1]? = some (.cells #[.int .i64 0, .int .i64 0, .string ⟨#[]⟩] 27 (0, 0)) ∧ Below w1.heap.size w3 W4 ∧ ∀ k, k ≠ w1.heap.size → W4.heap[k]? = w3.heap[k]?) := ⟨hz4, ST.2.2 _ (Nat.le_refl _), ST.2.1⟩
    clear hW4 ST hz4 e0 e1 e2 f0
    go_region_held3 (fun W' => W'.cell? ⟨w1.heap.size, 0, none⟩ = some (.int .i64 0) ∧ W'.cell? ⟨w1.heap.size, 1, none⟩ = some (.int .i64 0) ∧ W'.cell? ⟨w1.heap.size, 2, none⟩ = some (.string ⟨#[]⟩)) (go_keep) (fail)
    all_goals (try go_wp2)
    all_goals (have SF := stored3 (x := .int .i64 0) (y := .int .i64 0) (z := .string ⟨#[]⟩) HW4.out.1)
    all_goals (have t0 := cell_atT SF.1 0; have t1 := cell_atT SF.1 1; have t2 := cell_atT SF.1 2)
    all_goals refine bodyPost_ret (v := .tuple #[.pointer none, .agg #[.int .i64 0, .int .i64 0, .string ⟨#[]⟩], .bool true]) (by simp [results, Try.results5, go_sem, t0, t1, t2]) rfl ?_
    all_goals (have BF : Below w.heap.size w W4 := HB1.out.trans ((HB2.out.mono (by have := S1.out; omega)).trans ((HB3.out.mono (by have := S1.out; have := S2.out; omega)).trans (HW4.out.2.1.mono (by have := S1.out; omega)))))
    all_goals (have BG := (BF.trans (SF.2.2 w.heap.size (by omega))).drew)
    all_goals exact ⟨BG, .inl rfl⟩
  · obtain rfl := HF.out.2.2 (by decide)
    have HREF0 : Hid (refMade lim st s = .tuple #[.agg #[.int .i64 0, .int .i64 0, .string ⟨#[]⟩], .int .i64 2]) := by
      have h := HREF.out
      rw [if_neg (by decide)] at h
      exact h
    clear HF HREF
    go_wp2_with fail
    refine (HR.out _).mono ?_
    rintro x w3 ⟨rfl, hb3⟩
    have HB3 : Hid (Below w2.heap.size w2 w3) := hb3
    obtain ⟨r3, z3⟩ := FIN.out w3 hb3
    rw [HREF0.out]
    have f0 := free_atT r3
    have e0 : w3.cell? ⟨w1.heap.size, 0, none⟩ = some (.int .i64 0) := cell_atT r3 0
    have e1 : w3.cell? ⟨w1.heap.size, 1, none⟩ = some (.int .i64 0) := cell_atT r3 1
    have e2 : w3.cell? ⟨w1.heap.size, 2, none⟩ = some (.string ⟨#[]⟩) := cell_atT r3 2
    have HST : Hid (w3.heap[w1.heap.size]? = some (.cells #[.int .i64 0, .int .i64 0, .string ⟨#[]⟩] 27 (0, 0))) := r3
    have HZ3 : Hid (w3.heap[w.heap.size + 1]? = some (.cells #[.int .i64 0, .int .i64 0, .string ⟨#[]⟩] 27 (0, 0))) := z3
    clear hb3 r3 z3
    go_wp2_with fail
    obtain ⟨W4, hW4⟩ : ∃ W4, W4 = (((w3.setCell ⟨w1.heap.size, 0, none⟩ (.int .i64 0)).setCell ⟨w1.heap.size, 1, none⟩ (.int .i64 0)).setCell ⟨w1.heap.size, 2, none⟩ (.string ⟨#[]⟩)) := ⟨_, rfl⟩
    rw [← hW4]
    have ST := stored3 (x := .int .i64 0) (y := .int .i64 0) (z := .string ⟨#[]⟩) HST.out
    rw [← hW4] at ST
    have q0 : W4.cell? ⟨w1.heap.size, 0, none⟩ = some (.int .i64 0) := cell_atT ST.1 0
    have q1 : W4.cell? ⟨w1.heap.size, 1, none⟩ = some (.int .i64 0) := cell_atT ST.1 1
    have q2 : W4.cell? ⟨w1.heap.size, 2, none⟩ = some (.string ⟨#[]⟩) := cell_atT ST.1 2
    have hz4 := (ST.2.1 (w.heap.size + 1) hne).trans HZ3.out
    have p0 : W4.cell? ⟨w.heap.size + 1, 0, none⟩ = some (.int .i64 0) := cell_atT hz4 0
    have p1 : W4.cell? ⟨w.heap.size + 1, 1, none⟩ = some (.int .i64 0) := cell_atT hz4 1
    have p2 : W4.cell? ⟨w.heap.size + 1, 2, none⟩ = some (.string ⟨#[]⟩) := cell_atT hz4 2
    have pf := free_atT hz4
    have HW4 : Hid (W4.heap[w.heap.size + 1]? = some (.cells #[.int .i64 0, .int .i64 0, .string ⟨#[]⟩] 27 (0, 0)) ∧ Below w1.heap.size w3 W4 ∧ ∀ k, k ≠ w1.heap.size → W4.heap[k]? = w3.heap[k]?) := ⟨hz4, ST.2.2 _ (Nat.le_refl _), ST.2.1⟩
    clear hW4 ST hz4 e0 e1 e2 f0
    go_region_held3 (fun W' => W'.cell? ⟨w1.heap.size, 0, none⟩ = some (.int .i64 0) ∧ W'.cell? ⟨w1.heap.size, 1, none⟩ = some (.int .i64 0) ∧ W'.cell? ⟨w1.heap.size, 2, none⟩ = some (.string ⟨#[]⟩)) (go_keep) (fail)
    all_goals (try go_wp2)
    all_goals (have SF := stored3 (x := .int .i64 0) (y := .int .i64 0) (z := .string ⟨#[]⟩) HW4.out.1)
    all_goals (have t0 := cell_atT SF.1 0; have t1 := cell_atT SF.1 1; have t2 := cell_atT SF.1 2)
    all_goals refine bodyPost_ret (v := .tuple #[.pointer none, .agg #[.int .i64 0, .int .i64 0, .string ⟨#[]⟩], .bool true]) (by simp [results, Try.results5, go_sem, t0, t1, t2]) rfl ?_
    all_goals (have BF : Below w.heap.size w W4 := HB1.out.trans ((HB2.out.mono (by have := S1.out; omega)).trans ((HB3.out.mono (by have := S1.out; have := S2.out; omega)).trans (HW4.out.2.1.mono (by have := S1.out; omega)))))
    all_goals (have BG := (BF.trans (SF.2.2 w.heap.size (by omega))).drew)
    all_goals exact ⟨BG, .inl rfl⟩

set_option maxHeartbeats 4000000 in
theorem made_new (lim st : Int) (s : ByteArray) (w : World) (h1 : -9223372036854775808 ≤ lim) (h2 : lim ≤ 9223372036854775807) (h3 : -9223372036854775808 ≤ st) (h4 : st ≤ 9223372036854775807) :
    Calls Try.prog 5 #[.agg #[.bool true, .int .i64 lim, .int .i64 st, .string s]] w fun x w' => Both w w' lim 0 ⟨#[]⟩ x := by
  have HW : Hid (∀ W, Calls Try.prog 13 #[] W fun x w' => x = .returned (.bool true) ∧ Below W.heap.size W w') := works_any
  have HL : Hid (∀ W, Calls Try.prog 14 #[.int .i64 lim] W fun x w' => Made W w' lim 0 ([] : List UInt8) x) := fun W => new_any lim W h1 h2
  have HR : Hid (∀ W, Calls Try.prog 15 #[.int .i64 lim] W fun x w' => x = .returned (refMade lim 0 ⟨#[]⟩) ∧ Below W.heap.size W w') := fun W => refNew_any lim W h1 h2
  obtain ⟨E, hE⟩ : ∃ E, loadE lim 0 ([] : List UInt8).length = E := ⟨_, rfl⟩
  have hE3 : E = 0 ∨ E = 1 ∨ E = 2 := by rw [← hE]; exact loadE_cases _ _ _
  have HE : Hid (loadE lim 0 ([] : List UInt8).length = E) := hE
  clear hE
  go_enter Try.func5, Try.ntmps5
  go_wp2_with fail
  refine (HW.out _).mono ?_
  rintro x w1 ⟨rfl, hb1⟩
  obtain ⟨b1, m1, z1, s1⟩ := under_two hb1
  have HB1 : Hid (Below w.heap.size w w1) := b1
  have m1b : (w1.alloc (.cells #[.int .i64 0, .int .i64 0, .string ⟨#[]⟩] 27)).heap[w.heap.size]? = some (.cells #[.bool true, .int .i64 lim, .int .i64 st, .string s] 23 (0, 0)) := by rw [Below.heap_alloc _ _ _ (by omega)]; exact m1
  have c0 : (w1.alloc (.cells #[.int .i64 0, .int .i64 0, .string ⟨#[]⟩] 27)).cell? ⟨w.heap.size, 0, none⟩ = some (.bool true) := cell_atT m1b 0
  have c1 : (w1.alloc (.cells #[.int .i64 0, .int .i64 0, .string ⟨#[]⟩] 27)).cell? ⟨w.heap.size, 1, none⟩ = some (.int .i64 lim) := cell_atT m1b 1
  have c2 : (w1.alloc (.cells #[.int .i64 0, .int .i64 0, .string ⟨#[]⟩] 27)).cell? ⟨w.heap.size, 2, none⟩ = some (.int .i64 st) := cell_atT m1b 2
  have c3 : (w1.alloc (.cells #[.int .i64 0, .int .i64 0, .string ⟨#[]⟩] 27)).cell? ⟨w.heap.size, 3, none⟩ = some (.string s) := cell_atT m1b 3
  have M1 : Hid (w1.heap[w.heap.size]? = some (.cells #[.bool true, .int .i64 lim, .int .i64 st, .string s] 23 (0, 0))) := m1
  have Z1 : Hid (w1.heap[w.heap.size + 1]? = some (.cells #[.int .i64 0, .int .i64 0, .string ⟨#[]⟩] 27 (0, 0))) := z1
  have S1 : Hid (w.heap.size + 2 ≤ w1.heap.size) := s1
  clear hb1 b1 m1 z1 s1 m1b
  go_wp2_with fail
  refine (HL.out _).mono ?_
  rintro x w2 ⟨hb2, hmade⟩
  obtain ⟨b2, r2, s2⟩ := under_one hb2
  have HB2 : Hid (Below w1.heap.size w1 w2) := b2
  have R2 : Hid (w2.heap[w1.heap.size]? = some (.cells #[.int .i64 0, .int .i64 0, .string ⟨#[]⟩] 27 (0, 0))) := r2
  have S2 : Hid (w1.heap.size + 1 ≤ w2.heap.size) := s2
  have M2 : Hid (w2.heap[w.heap.size]? = some (.cells #[.bool true, .int .i64 lim, .int .i64 st, .string s] 23 (0, 0))) := (b2.block _ (by have := S1.out; omega)).trans M1.out
  have Z2 : Hid (w2.heap[w.heap.size + 1]? = some (.cells #[.int .i64 0, .int .i64 0, .string ⟨#[]⟩] 27 (0, 0))) := (b2.block _ (by have := S1.out; omega)).trans Z1.out
  have d1 : w2.cell? ⟨w.heap.size, 1, none⟩ = some (.int .i64 lim) := cell_atT M2.out 1
  have d2 : w2.cell? ⟨w.heap.size, 2, none⟩ = some (.int .i64 st) := cell_atT M2.out 2
  have d3 : w2.cell? ⟨w.heap.size, 3, none⟩ = some (.string s) := cell_atT M2.out 3
  have HF : Hid ((∃ P, x = .returned (.tuple #[.pointer P, .int .i64 E])) ∧ (E = 0 → ∃ b v, x = .returned (.tuple #[.pointer (some ⟨b, 0, none⟩), .int .i64 0]) ∧ LogAt w2 b v lim.toNat ((0 : Int).toNat + ([] : List UInt8).length) ([] : List UInt8) ∧ ∀ k ∈ foot b v, w1.heap.size + 1 ≤ k) ∧ (E ≠ 0 → x = .returned (.tuple #[.pointer none, .int .i64 E]))) := by
    rcases hmade with ⟨hE, hx⟩ | ⟨hE, b, v, hx, hl, hf⟩
    · rw [HE.out] at hE hx
      exact ⟨⟨_, hx⟩, fun h => absurd h hE, fun _ => hx⟩
    · rw [HE.out] at hE
      refine ⟨⟨_, by rw [hE]; exact hx⟩, fun _ => ⟨b, v, hx, hl, fun k hk => ?_⟩, fun h => absurd hE h⟩
      have h5 := hf k hk
      have h6 : (w1.alloc (Obj.cells #[.int .i64 0, .int .i64 0, .string ⟨#[]⟩] 27)).heap.size = w1.heap.size + 1 := by simp
      rw [h6] at h5
      exact h5
  clear hb2 b2 r2 s2 hmade
  have HREF : Hid (refMade lim 0 ⟨#[]⟩ = if E = 0 then .tuple #[refV lim 0 ⟨#[]⟩, .int .i64 0] else .tuple #[refV 0 0 ⟨#[]⟩, .int .i64 E]) := by
    show _ = _
    unfold refMade
    have h5 : loadE lim 0 (⟨#[]⟩ : ByteArray).data.toList.length = E := HE.out
    rw [h5]
  have FIN : Hid (∀ w3, Below w2.heap.size w2 w3 → w3.heap[w1.heap.size]? = some (.cells #[.int .i64 0, .int .i64 0, .string ⟨#[]⟩] 27 (0, 0)) ∧ w3.heap[w.heap.size + 1]? = some (.cells #[.int .i64 0, .int .i64 0, .string ⟨#[]⟩] 27 (0, 0))) := fun w3 hb => ⟨(hb.block _ (by have := S2.out; omega)).trans R2.out, (hb.block _ (by have := S1.out; have := S2.out; omega)).trans Z2.out⟩
  have hne : w.heap.size + 1 ≠ w1.heap.size := by have := S1.out; omega
  have hne2 : w1.heap.size ≠ w.heap.size + 1 := Ne.symm hne
  rcases hE3 with rfl | rfl | rfl
  · obtain ⟨b, v, rfl, hl, hf⟩ := HF.out.2.1 rfl
    have HLg : Hid (LogAt w2 b v lim.toNat ((0 : Int).toNat + ([] : List UInt8).length) ([] : List UInt8)) := hl
    have HFt : Hid (∀ k ∈ foot b v, w1.heap.size + 1 ≤ k) := hf
    have HREF0 : Hid (refMade lim 0 ⟨#[]⟩ = .tuple #[.agg #[.int .i64 lim, .int .i64 0, .string ⟨#[]⟩], .int .i64 0]) := by
      have h := HREF.out
      rw [if_pos rfl] at h
      exact h
    clear hl hf HF HREF
    go_wp2_with fail
    refine (HR.out _).mono ?_
    rintro x w3 ⟨rfl, hb3⟩
    have HB3 : Hid (Below w2.heap.size w2 w3) := hb3
    obtain ⟨r3, z3⟩ := FIN.out w3 hb3
    rw [HREF0.out]
    have f0 := free_atT r3
    have e0 : w3.cell? ⟨w1.heap.size, 0, none⟩ = some (.int .i64 0) := cell_atT r3 0
    have e1 : w3.cell? ⟨w1.heap.size, 1, none⟩ = some (.int .i64 0) := cell_atT r3 1
    have e2 : w3.cell? ⟨w1.heap.size, 2, none⟩ = some (.string ⟨#[]⟩) := cell_atT r3 2
    have HST : Hid (w3.heap[w1.heap.size]? = some (.cells #[.int .i64 0, .int .i64 0, .string ⟨#[]⟩] 27 (0, 0))) := r3
    have HZ3 : Hid (w3.heap[w.heap.size + 1]? = some (.cells #[.int .i64 0, .int .i64 0, .string ⟨#[]⟩] 27 (0, 0))) := z3
    clear hb3 r3 z3
    go_wp2_with fail
    obtain ⟨W4, hW4⟩ : ∃ W4, W4 = (((w3.setCell ⟨w1.heap.size, 0, none⟩ (.int .i64 lim)).setCell ⟨w1.heap.size, 1, none⟩ (.int .i64 0)).setCell ⟨w1.heap.size, 2, none⟩ (.string ⟨#[]⟩)) := ⟨_, rfl⟩
    rw [← hW4]
    have ST := stored3 (x := .int .i64 lim) (y := .int .i64 0) (z := .string ⟨#[]⟩) HST.out
    rw [← hW4] at ST
    have q0 : W4.cell? ⟨w1.heap.size, 0, none⟩ = some (.int .i64 lim) := cell_atT ST.1 0
    have q1 : W4.cell? ⟨w1.heap.size, 1, none⟩ = some (.int .i64 0) := cell_atT ST.1 1
    have q2 : W4.cell? ⟨w1.heap.size, 2, none⟩ = some (.string ⟨#[]⟩) := cell_atT ST.1 2
    have hz4 := (ST.2.1 (w.heap.size + 1) hne).trans HZ3.out
    have p0 : W4.cell? ⟨w.heap.size + 1, 0, none⟩ = some (.int .i64 0) := cell_atT hz4 0
    have p1 : W4.cell? ⟨w.heap.size + 1, 1, none⟩ = some (.int .i64 0) := cell_atT hz4 1
    have p2 : W4.cell? ⟨w.heap.size + 1, 2, none⟩ = some (.string ⟨#[]⟩) := cell_atT hz4 2
    have pf := free_atT hz4
    have HW4 : Hid (W4.heap[w.heap.size + 1]? = some (.cells #[.int .i64 0, .int .i64 0, .string ⟨#[]⟩] 27 (0, 0)) ∧ Below w1.heap.size w3 W4 ∧ ∀ k, k ≠ w1.heap.size → W4.heap[k]? = w3.heap[k]?) := ⟨hz4, ST.2.2 _ (Nat.le_refl _), ST.2.1⟩
    clear hW4 ST hz4 e0 e1 e2 f0
    go_region_held3 (fun W' => W'.cell? ⟨w1.heap.size, 0, none⟩ = some (.int .i64 lim) ∧ W'.cell? ⟨w1.heap.size, 1, none⟩ = some (.int .i64 0) ∧ W'.cell? ⟨w1.heap.size, 2, none⟩ = some (.string ⟨#[]⟩)) (go_keep) (fail)
    all_goals (try go_wp2)
    all_goals (have SF := stored3 (x := .int .i64 lim) (y := .int .i64 0) (z := .string ⟨#[]⟩) HW4.out.1)
    all_goals (have t0 := cell_atT SF.1 0; have t1 := cell_atT SF.1 1; have t2 := cell_atT SF.1 2)
    all_goals refine bodyPost_ret (v := .tuple #[.pointer (some ⟨b, 0, none⟩), .agg #[.int .i64 lim, .int .i64 0, .string ⟨#[]⟩], .bool true]) (by simp [results, Try.results5, go_sem, t0, t1, t2]) rfl ?_
    all_goals (have BF : Below w.heap.size w W4 := HB1.out.trans ((HB2.out.mono (by have := S1.out; omega)).trans ((HB3.out.mono (by have := S1.out; have := S2.out; omega)).trans (HW4.out.2.1.mono (by have := S1.out; omega)))))
    all_goals (have BG := (BF.trans (SF.2.2 w.heap.size (by omega))).drew)
    all_goals exact ⟨BG, .inr ⟨HE.out, b, v, rfl, HLg.out.keep fun k hk => by
      have h5 := HFt.out k hk
      have h6 := HLg.out.lt k hk
      have := S1.out
      exact ((SF.2.1 k (by omega)).trans (HW4.out.2.2 k (by omega))).trans (HB3.out.block k h6), fun k hk => by
      have h5 := HFt.out k hk
      have := S1.out
      omega⟩⟩
  · obtain rfl := HF.out.2.2 (by decide)
    have HREF0 : Hid (refMade lim 0 ⟨#[]⟩ = .tuple #[.agg #[.int .i64 0, .int .i64 0, .string ⟨#[]⟩], .int .i64 1]) := by
      have h := HREF.out
      rw [if_neg (by decide)] at h
      exact h
    clear HF HREF
    go_wp2_with fail
    refine (HR.out _).mono ?_
    rintro x w3 ⟨rfl, hb3⟩
    have HB3 : Hid (Below w2.heap.size w2 w3) := hb3
    obtain ⟨r3, z3⟩ := FIN.out w3 hb3
    rw [HREF0.out]
    have f0 := free_atT r3
    have e0 : w3.cell? ⟨w1.heap.size, 0, none⟩ = some (.int .i64 0) := cell_atT r3 0
    have e1 : w3.cell? ⟨w1.heap.size, 1, none⟩ = some (.int .i64 0) := cell_atT r3 1
    have e2 : w3.cell? ⟨w1.heap.size, 2, none⟩ = some (.string ⟨#[]⟩) := cell_atT r3 2
    have HST : Hid (w3.heap[w1.heap.size]? = some (.cells #[.int .i64 0, .int .i64 0, .string ⟨#[]⟩] 27 (0, 0))) := r3
    have HZ3 : Hid (w3.heap[w.heap.size + 1]? = some (.cells #[.int .i64 0, .int .i64 0, .string ⟨#[]⟩] 27 (0, 0))) := z3
    clear hb3 r3 z3
    go_wp2_with fail
    obtain ⟨W4, hW4⟩ : ∃ W4, W4 = (((w3.setCell ⟨w1.heap.size, 0, none⟩ (.int .i64 0)).setCell ⟨w1.heap.size, 1, none⟩ (.int .i64 0)).setCell ⟨w1.heap.size, 2, none⟩ (.string ⟨#[]⟩)) := ⟨_, rfl⟩
    rw [← hW4]
    have ST := stored3 (x := .int .i64 0) (y := .int .i64 0) (z := .string ⟨#[]⟩) HST.out
    rw [← hW4] at ST
    have q0 : W4.cell? ⟨w1.heap.size, 0, none⟩ = some (.int .i64 0) := cell_atT ST.1 0
    have q1 : W4.cell? ⟨w1.heap.size, 1, none⟩ = some (.int .i64 0) := cell_atT ST.1 1
    have q2 : W4.cell? ⟨w1.heap.size, 2, none⟩ = some (.string ⟨#[]⟩) := cell_atT ST.1 2
    have hz4 := (ST.2.1 (w.heap.size + 1) hne).trans HZ3.out
    have p0 : W4.cell? ⟨w.heap.size + 1, 0, none⟩ = some (.int .i64 0) := cell_atT hz4 0
    have p1 : W4.cell? ⟨w.heap.size + 1, 1, none⟩ = some (.int .i64 0) := cell_atT hz4 1
    have p2 : W4.cell? ⟨w.heap.size + 1, 2, none⟩ = some (.string ⟨#[]⟩) := cell_atT hz4 2
    have pf := free_atT hz4
    have HW4 : Hid (W4.heap[w.heap.size + 1]? = some (.cells #[.int .i64 0, .int .i64 0, .string ⟨#[]⟩] 27 (0, 0)) ∧ Below w1.heap.size w3 W4 ∧ ∀ k, k ≠ w1.heap.size → W4.heap[k]? = w3.heap[k]?) := ⟨hz4, ST.2.2 _ (Nat.le_refl _), ST.2.1⟩
    clear hW4 ST hz4 e0 e1 e2 f0
    go_region_held3 (fun W' => W'.cell? ⟨w1.heap.size, 0, none⟩ = some (.int .i64 0) ∧ W'.cell? ⟨w1.heap.size, 1, none⟩ = some (.int .i64 0) ∧ W'.cell? ⟨w1.heap.size, 2, none⟩ = some (.string ⟨#[]⟩)) (go_keep) (fail)
    all_goals (try go_wp2)
    all_goals (have SF := stored3 (x := .int .i64 0) (y := .int .i64 0) (z := .string ⟨#[]⟩) HW4.out.1)
    all_goals (have t0 := cell_atT SF.1 0; have t1 := cell_atT SF.1 1; have t2 := cell_atT SF.1 2)
    all_goals refine bodyPost_ret (v := .tuple #[.pointer none, .agg #[.int .i64 0, .int .i64 0, .string ⟨#[]⟩], .bool true]) (by simp [results, Try.results5, go_sem, t0, t1, t2]) rfl ?_
    all_goals (have BF : Below w.heap.size w W4 := HB1.out.trans ((HB2.out.mono (by have := S1.out; omega)).trans ((HB3.out.mono (by have := S1.out; have := S2.out; omega)).trans (HW4.out.2.1.mono (by have := S1.out; omega)))))
    all_goals (have BG := (BF.trans (SF.2.2 w.heap.size (by omega))).drew)
    all_goals exact ⟨BG, .inl rfl⟩
  · obtain rfl := HF.out.2.2 (by decide)
    have HREF0 : Hid (refMade lim 0 ⟨#[]⟩ = .tuple #[.agg #[.int .i64 0, .int .i64 0, .string ⟨#[]⟩], .int .i64 2]) := by
      have h := HREF.out
      rw [if_neg (by decide)] at h
      exact h
    clear HF HREF
    go_wp2_with fail
    refine (HR.out _).mono ?_
    rintro x w3 ⟨rfl, hb3⟩
    have HB3 : Hid (Below w2.heap.size w2 w3) := hb3
    obtain ⟨r3, z3⟩ := FIN.out w3 hb3
    rw [HREF0.out]
    have f0 := free_atT r3
    have e0 : w3.cell? ⟨w1.heap.size, 0, none⟩ = some (.int .i64 0) := cell_atT r3 0
    have e1 : w3.cell? ⟨w1.heap.size, 1, none⟩ = some (.int .i64 0) := cell_atT r3 1
    have e2 : w3.cell? ⟨w1.heap.size, 2, none⟩ = some (.string ⟨#[]⟩) := cell_atT r3 2
    have HST : Hid (w3.heap[w1.heap.size]? = some (.cells #[.int .i64 0, .int .i64 0, .string ⟨#[]⟩] 27 (0, 0))) := r3
    have HZ3 : Hid (w3.heap[w.heap.size + 1]? = some (.cells #[.int .i64 0, .int .i64 0, .string ⟨#[]⟩] 27 (0, 0))) := z3
    clear hb3 r3 z3
    go_wp2_with fail
    obtain ⟨W4, hW4⟩ : ∃ W4, W4 = (((w3.setCell ⟨w1.heap.size, 0, none⟩ (.int .i64 0)).setCell ⟨w1.heap.size, 1, none⟩ (.int .i64 0)).setCell ⟨w1.heap.size, 2, none⟩ (.string ⟨#[]⟩)) := ⟨_, rfl⟩
    rw [← hW4]
    have ST := stored3 (x := .int .i64 0) (y := .int .i64 0) (z := .string ⟨#[]⟩) HST.out
    rw [← hW4] at ST
    have q0 : W4.cell? ⟨w1.heap.size, 0, none⟩ = some (.int .i64 0) := cell_atT ST.1 0
    have q1 : W4.cell? ⟨w1.heap.size, 1, none⟩ = some (.int .i64 0) := cell_atT ST.1 1
    have q2 : W4.cell? ⟨w1.heap.size, 2, none⟩ = some (.string ⟨#[]⟩) := cell_atT ST.1 2
    have hz4 := (ST.2.1 (w.heap.size + 1) hne).trans HZ3.out
    have p0 : W4.cell? ⟨w.heap.size + 1, 0, none⟩ = some (.int .i64 0) := cell_atT hz4 0
    have p1 : W4.cell? ⟨w.heap.size + 1, 1, none⟩ = some (.int .i64 0) := cell_atT hz4 1
    have p2 : W4.cell? ⟨w.heap.size + 1, 2, none⟩ = some (.string ⟨#[]⟩) := cell_atT hz4 2
    have pf := free_atT hz4
    have HW4 : Hid (W4.heap[w.heap.size + 1]? = some (.cells #[.int .i64 0, .int .i64 0, .string ⟨#[]⟩] 27 (0, 0)) ∧ Below w1.heap.size w3 W4 ∧ ∀ k, k ≠ w1.heap.size → W4.heap[k]? = w3.heap[k]?) := ⟨hz4, ST.2.2 _ (Nat.le_refl _), ST.2.1⟩
    clear hW4 ST hz4 e0 e1 e2 f0
    go_region_held3 (fun W' => W'.cell? ⟨w1.heap.size, 0, none⟩ = some (.int .i64 0) ∧ W'.cell? ⟨w1.heap.size, 1, none⟩ = some (.int .i64 0) ∧ W'.cell? ⟨w1.heap.size, 2, none⟩ = some (.string ⟨#[]⟩)) (go_keep) (fail)
    all_goals (try go_wp2)
    all_goals (have SF := stored3 (x := .int .i64 0) (y := .int .i64 0) (z := .string ⟨#[]⟩) HW4.out.1)
    all_goals (have t0 := cell_atT SF.1 0; have t1 := cell_atT SF.1 1; have t2 := cell_atT SF.1 2)
    all_goals refine bodyPost_ret (v := .tuple #[.pointer none, .agg #[.int .i64 0, .int .i64 0, .string ⟨#[]⟩], .bool true]) (by simp [results, Try.results5, go_sem, t0, t1, t2]) rfl ?_
    all_goals (have BF : Below w.heap.size w W4 := HB1.out.trans ((HB2.out.mono (by have := S1.out; omega)).trans ((HB3.out.mono (by have := S1.out; have := S2.out; omega)).trans (HW4.out.2.1.mono (by have := S1.out; omega)))))
    all_goals (have BG := (BF.trans (SF.2.2 w.heap.size (by omega))).drew)
    all_goals exact ⟨BG, .inl rfl⟩

end Go.Proofs.Yteeakldeimhjjab
