/-
  Layouts: Resize in the document.
  Layouts: the law of Resize.
-/
import Derived.Test.YtfmlebimlacdpaaCFi
import Derived.Test.YtfmlebimlacdpaaCWo
import Derived.Test.YtfmlebimlacdpaaCOp
namespace Go.Proofs.Ytfmlebimlacdpaa
open Go.RowKit
set_option linter.unusedVariables false
set_option maxRecDepth 100000

/-- What Tree answers of a layout. -/
def TreeYes (t : Tree) (w : World) (e : Ending) (w' : World) : Prop := ∃ sa sn sc fp, e = .returned (.tuple #[.agg (nodeV (nodeOf t) (.slice sa sn sc)), .bool true]) ∧ (nodeOf t).In w' (.slice sa sn sc) fp ∧ Below w.heap.size w w'
theorem tree_yes (v : Value) (l : List CellV) (w : World) (h : CellsIn w v l) {t : Tree} (hF : readF l = some t) : Calls Try.prog 36 #[v] w (TreeYes t w) := (tree_any v l w h).mono fun e w' h => by
  obtain ⟨hb, ⟨h1, _⟩ | ⟨t', sa, sn, sc, fp, h1, h2, h3⟩⟩ := h
  · rw [hF] at h1
    cases h1
  · rw [hF] at h1
    cases h1
    exact ⟨sa, sn, sc, fp, h2, h3, hb⟩
theorem tree_no (v : Value) (l : List CellV) (w : World) (h : CellsIn w v l) (hF : readF l = none) : Calls Try.prog 36 #[v] w fun e w' => e = .returned (.tuple #[.agg zeroN, .bool false]) ∧ Below w.heap.size w w' := (tree_any v l w h).mono fun e w' h => by
  obtain ⟨hb, ⟨_, h1⟩ | ⟨t', sa, sn, sc, fp, h1, h2, h3⟩⟩ := h
  · exact ⟨h1, hb⟩
  · rw [hF] at h1
    cases h1
theorem alloc_below {W w1 : World} (h : Below W.heap.size W w1) (o : Obj) : Below W.heap.size W (w1.alloc o) := below_step h ((Below.refl _ _).alloc (Nat.le_refl _) o)

theorem resR_none (v : Value) (l : List CellV) (a b : Int) (w : World) (h : CellsIn w v l) (hF : readF l = none) : Calls Try.prog 16 #[v, .int .i64 a, .int .i64 b] w (Ans2 40 [] w) := by
  have HT : Hid (Calls Try.prog 36 #[v] w fun e w' => e = .returned (.tuple #[.agg zeroN, .bool false]) ∧ Below w.heap.size w w') := tree_no v l w h hF
  clear h hF
  go_enter Try.func16, Try.ntmps16
  go_wp2_with fail
  refine HT.out.mono ?_
  rintro e w1 ⟨rfl, hb⟩
  have HB : Hid (∀ o, Below w.heap.size w (w1.alloc o)) := alloc_below hb
  unfold zeroN
  clear hb
  go_wp2
  go_ret2
  exact ⟨_, rfl, World.ownsRow_nil _ _ _ _, HB.out _⟩

theorem resR_side1 (v : Value) (l : List CellV) (a b : Int) (w : World) (h : CellsIn w v l) {t : Tree} (hF : readF l = some t) (a1 : a < 1) : Calls Try.prog 16 #[v, .int .i64 a, .int .i64 b] w (Ans2 41 [] w) := by
  have HT : Hid (Calls Try.prog 36 #[v] w (TreeYes t w)) := tree_yes v l w h hF
  clear h hF
  go_enter Try.func16, Try.ntmps16
  go_wp2_with fail
  refine HT.out.mono ?_
  rintro e w1 ⟨sa, sn, sc, fp, rfl, hIn, hb⟩
  have HB : Hid (∀ o, Below w.heap.size w (w1.alloc o)) := alloc_below hb
  obtain ⟨nn, hnn⟩ : ∃ x, nodeOf t = x := ⟨_, rfl⟩
  rw [hnn]
  unfold nodeV
  clear hb hIn hnn
  go_wp2
  all_goals go_ret2
  all_goals exact ⟨_, rfl, World.ownsRow_nil _ _ _ _, HB.out _⟩

theorem resR_side2 (v : Value) (l : List CellV) (a b : Int) (w : World) (h : CellsIn w v l) {t : Tree} (hF : readF l = some t) (a1 : ¬ a < 1) (a2 : 1000 < a) : Calls Try.prog 16 #[v, .int .i64 a, .int .i64 b] w (Ans2 41 [] w) := by
  have HT : Hid (Calls Try.prog 36 #[v] w (TreeYes t w)) := tree_yes v l w h hF
  clear h hF
  go_enter Try.func16, Try.ntmps16
  go_wp2_with fail
  refine HT.out.mono ?_
  rintro e w1 ⟨sa, sn, sc, fp, rfl, hIn, hb⟩
  have HB : Hid (∀ o, Below w.heap.size w (w1.alloc o)) := alloc_below hb
  obtain ⟨nn, hnn⟩ : ∃ x, nodeOf t = x := ⟨_, rfl⟩
  rw [hnn]
  unfold nodeV
  clear hb hIn hnn
  go_wp2
  all_goals go_ret2
  all_goals exact ⟨_, rfl, World.ownsRow_nil _ _ _ _, HB.out _⟩

theorem resR_side3 (v : Value) (l : List CellV) (a b : Int) (w : World) (h : CellsIn w v l) {t : Tree} (hF : readF l = some t) (a1 : ¬ a < 1) (a2 : ¬ 1000 < a) (a3 : b < 1) : Calls Try.prog 16 #[v, .int .i64 a, .int .i64 b] w (Ans2 41 [] w) := by
  have HT : Hid (Calls Try.prog 36 #[v] w (TreeYes t w)) := tree_yes v l w h hF
  clear h hF
  go_enter Try.func16, Try.ntmps16
  go_wp2_with fail
  refine HT.out.mono ?_
  rintro e w1 ⟨sa, sn, sc, fp, rfl, hIn, hb⟩
  have HB : Hid (∀ o, Below w.heap.size w (w1.alloc o)) := alloc_below hb
  obtain ⟨nn, hnn⟩ : ∃ x, nodeOf t = x := ⟨_, rfl⟩
  rw [hnn]
  unfold nodeV
  clear hb hIn hnn
  go_wp2
  all_goals go_ret2
  all_goals exact ⟨_, rfl, World.ownsRow_nil _ _ _ _, HB.out _⟩

theorem resR_side4 (v : Value) (l : List CellV) (a b : Int) (w : World) (h : CellsIn w v l) {t : Tree} (hF : readF l = some t) (a1 : ¬ a < 1) (a2 : ¬ 1000 < a) (a3 : ¬ b < 1) (a4 : 1000 < b) : Calls Try.prog 16 #[v, .int .i64 a, .int .i64 b] w (Ans2 41 [] w) := by
  have HT : Hid (Calls Try.prog 36 #[v] w (TreeYes t w)) := tree_yes v l w h hF
  clear h hF
  go_enter Try.func16, Try.ntmps16
  go_wp2_with fail
  refine HT.out.mono ?_
  rintro e w1 ⟨sa, sn, sc, fp, rfl, hIn, hb⟩
  have HB : Hid (∀ o, Below w.heap.size w (w1.alloc o)) := alloc_below hb
  obtain ⟨nn, hnn⟩ : ∃ x, nodeOf t = x := ⟨_, rfl⟩
  rw [hnn]
  unfold nodeV
  clear hb hIn hnn
  go_wp2
  all_goals go_ret2
  all_goals exact ⟨_, rfl, World.ownsRow_nil _ _ _ _, HB.out _⟩

theorem resR_side (v : Value) (l : List CellV) (a b : Int) (w : World) (h : CellsIn w v l) {t : Tree} (hF : readF l = some t) (hab : ¬ (sideB a = true ∧ sideB b = true)) : Calls Try.prog 16 #[v, .int .i64 a, .int .i64 b] w (Ans2 41 [] w) := by
  simp only [sideB, Bool.and_eq_true, decide_eq_true_eq] at hab
  by_cases a1 : a < 1
  · exact resR_side1 v l a b w h hF a1
  by_cases a2 : 1000 < a
  · exact resR_side2 v l a b w h hF a1 a2
  by_cases a3 : b < 1
  · exact resR_side3 v l a b w h hF a1 a2 a3
  exact resR_side4 v l a b w h hF a1 a2 a3 (by omega)

set_option maxHeartbeats 2000000 in
theorem resR_small1 (v : Value) (l : List CellV) (a b : Int) (w : World) (h : CellsIn w v l) {t : Tree} (hF : readF l = some t) (ha : sideB a = true) (hb : sideB b = true) (hlow : a < leastT t 2 ∧ leastT t 3 ≤ 1000000) : Calls Try.prog 16 #[v, .int .i64 a, .int .i64 b] w (Ans2 44 [] w) := by
  have HT : Hid (Calls Try.prog 36 #[v] w (TreeYes t w)) := tree_yes v l w h hF
  have HLt : Hid (IsLay l t) := readF_lay hF
  simp only [sideB, Bool.and_eq_true, decide_eq_true_eq] at ha hb
  have a1 : ¬ a < 1 := by omega
  have a2 : ¬ 1000 < a := by omega
  have a3 : ¬ b < 1 := by omega
  have a4 : ¬ 1000 < b := by omega
  clear h hF ha hb
  go_enter Try.func16, Try.ntmps16
  go_wp2_with fail
  refine HT.out.mono ?_
  rintro e w1 ⟨sa, sn, sc, fp, rfl, hIn, hb⟩
  obtain ⟨W, hW⟩ : ∃ W, w1.alloc (.cells #[.int .i64 (nodeOf t).k, .int .i64 (nodeOf t).w, .int .i64 (nodeOf t).h, .int .i64 (nodeOf t).i, .slice sa sn sc] 73) = W := ⟨_, rfl⟩
  have hbW : Below w1.heap.size w1 W := by rw [← hW]; exact (Below.refl _ _).alloc (Nat.le_refl _) _
  have HBW : Hid (Below w.heap.size w W) := below_step hb hbW
  have hM : W.heap[w1.heap.size]? = some (.cells #[.int .i64 (nodeOf t).k, .int .i64 (nodeOf t).w, .int .i64 (nodeOf t).h, .int .i64 (nodeOf t).i, .slice sa sn sc] 73 (0, 0)) := by rw [← hW]; exact heap_alloc_new _ _
  have HX : Hid (∀ X, Below W.heap.size W X → X.heap[w1.heap.size]? = some (.cells #[.int .i64 (nodeOf t).k, .int .i64 (nodeOf t).w, .int .i64 (nodeOf t).h, .int .i64 (nodeOf t).i, .slice sa sn sc] 73 (0, 0))) := fun X hX => (hX.block _ (lt_of_block hM)).trans hM
  have HIn : Hid (∀ X, Below W.heap.size W X → (nodeOf t).In X (.slice sa sn sc) fp) := fun X hX => (hIn.below hbW).below hX
  have HRm : Hid (∀ X d, Below W.heap.size W X → Calls Try.prog 48 #[.agg #[.int .i64 (nodeOf t).k, .int .i64 (nodeOf t).w, .int .i64 (nodeOf t).h, .int .i64 (nodeOf t).i, .slice sa sn sc], .int .i64 d] X fun e w' => e = .returned (.int .i64 (t.room d)) ∧ Below W.heap.size W w') := fun X d hX => (room_good t HLt.out.kinds HLt.out.sound (by have := lay_size HLt.out; omega) _ fp X d (HIn.out X hX)).mono fun e w' h2 => ⟨h2.1, below_step hX h2.2⟩
  have HW : Hid (w1.alloc (.cells #[.int .i64 (nodeOf t).k, .int .i64 (nodeOf t).w, .int .i64 (nodeOf t).h, .int .i64 (nodeOf t).i, .slice sa sn sc] 73) = W) := hW
  have hb2 := room_bound t 2 HLt.out.sound
  have hb3 := room_bound t 3 HLt.out.sound
  have hsd := t.sound_sides HLt.out.sound
  have hsz := lay_size HLt.out
  rw [← nodeOf_w, ← nodeOf_h] at hsd
  have HNw : Hid ((nodeOf t).w = t.box.w ∧ (nodeOf t).h = t.box.h) := ⟨nodeOf_w t, nodeOf_h t⟩
  have hs2 : leastT t 2 = (nodeOf t).w - t.room 2 := by rw [nodeOf_w]; rfl
  have hs3 : leastT t 3 = (nodeOf t).h - t.room 3 := by rw [nodeOf_h]; rfl
  rw [hs2, hs3] at hlow
  obtain ⟨nn, hnn⟩ : ∃ x, nodeOf t = x := ⟨_, rfl⟩
  have HNn : Hid (nodeOf t = nn) := hnn
  rw [hnn] at HX HRm HW hsd HIn HNw hlow ⊢
  obtain ⟨A, hA⟩ : ∃ x, t.room 2 = x := ⟨_, rfl⟩
  obtain ⟨B, hB⟩ : ∃ x, t.room 3 = x := ⟨_, rfl⟩
  have HR2 : Hid (∀ X, Below W.heap.size W X → Calls Try.prog 48 #[.agg #[.int .i64 nn.k, .int .i64 nn.w, .int .i64 nn.h, .int .i64 nn.i, .slice sa sn sc], .int .i64 2] X fun e w' => e = .returned (.int .i64 A) ∧ Below W.heap.size W w') := fun X hX => hA ▸ HRm.out X 2 hX
  have HR3 : Hid (∀ X, Below W.heap.size W X → Calls Try.prog 48 #[.agg #[.int .i64 nn.k, .int .i64 nn.w, .int .i64 nn.h, .int .i64 nn.i, .slice sa sn sc], .int .i64 3] X fun e w' => e = .returned (.int .i64 B) ∧ Below W.heap.size W w') := fun X hX => hB ▸ HRm.out X 3 hX
  rw [hA] at hb2 hlow
  rw [hB] at hb3 hlow
  have v1 : IntKind.i64.wrap (nn.w - A) = nn.w - A := by rw [IntKind.wrap_i64]; omega
  have v2 : IntKind.i64.wrap (nn.h - B) = nn.h - B := by rw [IntKind.wrap_i64]; omega
  have d1 : decide (a < nn.w - A) = true := decide_eq_true (by omega)
  unfold nodeV
  clear hb hIn hbW hM hb2 hb3 hsd hsz hW hnn hA hB HRm hs2 hs3 hlow
  go_wp2_with fail
  rw [HW.out]
  refine wp_region_qw (fun X => Below W.heap.size W X) (by kernel_rfl) (by kernel_rfl) (Below.refl _ _).drew ?_
  repeat (
    first
    | (refine qw_take (v := ?_) (by rfl) (fun X hX => ?_) ?_
       rotate_left
       · have hm := HX.out X hX
         have m0 : X.cell? ⟨w1.heap.size, 0, none⟩ = some (.int .i64 nn.k) := cell_atL hm 0
         have m1 : X.cell? ⟨w1.heap.size, 1, none⟩ = some (.int .i64 nn.w) := cell_atL hm 1
         have m2 : X.cell? ⟨w1.heap.size, 2, none⟩ = some (.int .i64 nn.h) := cell_atL hm 2
         have m3 : X.cell? ⟨w1.heap.size, 3, none⟩ = some (.int .i64 nn.i) := cell_atL hm 3
         have m4 : X.cell? ⟨w1.heap.size, 4, none⟩ = some (.slice sa sn sc) := cell_atL hm 4
         clear hm
         go_simp
         all_goals first | with_reducible rfl | with_reducible exact HR2.out X hX | with_reducible exact HR3.out X hX
       intro K hK
       go_simp
       try simp only [d1]
       refine hK.out _ ?_
       clear hK K)
    | (refine qw_skip (by rfl) ?_
       intro K hK
       go_simp
       refine hK.out _ ?_
       clear hK K))
  refine qw_nil ?_
  intro w4 hB4
  have HB4 : Hid (Below w.heap.size w w4) := below_step HBW.out hB4
  clear hB4
  go_wp2
  go_ret2
  exact ⟨_, rfl, World.ownsRow_nil _ _ _ _, HB4.out⟩

set_option maxHeartbeats 2000000 in
theorem resR_small2 (v : Value) (l : List CellV) (a b : Int) (w : World) (h : CellsIn w v l) {t : Tree} (hF : readF l = some t) (ha : sideB a = true) (hb : sideB b = true) (hlow : ¬ a < leastT t 2 ∧ b < leastT t 3) : Calls Try.prog 16 #[v, .int .i64 a, .int .i64 b] w (Ans2 44 [] w) := by
  have HT : Hid (Calls Try.prog 36 #[v] w (TreeYes t w)) := tree_yes v l w h hF
  have HLt : Hid (IsLay l t) := readF_lay hF
  simp only [sideB, Bool.and_eq_true, decide_eq_true_eq] at ha hb
  have a1 : ¬ a < 1 := by omega
  have a2 : ¬ 1000 < a := by omega
  have a3 : ¬ b < 1 := by omega
  have a4 : ¬ 1000 < b := by omega
  clear h hF ha hb
  go_enter Try.func16, Try.ntmps16
  go_wp2_with fail
  refine HT.out.mono ?_
  rintro e w1 ⟨sa, sn, sc, fp, rfl, hIn, hb⟩
  obtain ⟨W, hW⟩ : ∃ W, w1.alloc (.cells #[.int .i64 (nodeOf t).k, .int .i64 (nodeOf t).w, .int .i64 (nodeOf t).h, .int .i64 (nodeOf t).i, .slice sa sn sc] 73) = W := ⟨_, rfl⟩
  have hbW : Below w1.heap.size w1 W := by rw [← hW]; exact (Below.refl _ _).alloc (Nat.le_refl _) _
  have HBW : Hid (Below w.heap.size w W) := below_step hb hbW
  have hM : W.heap[w1.heap.size]? = some (.cells #[.int .i64 (nodeOf t).k, .int .i64 (nodeOf t).w, .int .i64 (nodeOf t).h, .int .i64 (nodeOf t).i, .slice sa sn sc] 73 (0, 0)) := by rw [← hW]; exact heap_alloc_new _ _
  have HX : Hid (∀ X, Below W.heap.size W X → X.heap[w1.heap.size]? = some (.cells #[.int .i64 (nodeOf t).k, .int .i64 (nodeOf t).w, .int .i64 (nodeOf t).h, .int .i64 (nodeOf t).i, .slice sa sn sc] 73 (0, 0))) := fun X hX => (hX.block _ (lt_of_block hM)).trans hM
  have HIn : Hid (∀ X, Below W.heap.size W X → (nodeOf t).In X (.slice sa sn sc) fp) := fun X hX => (hIn.below hbW).below hX
  have HRm : Hid (∀ X d, Below W.heap.size W X → Calls Try.prog 48 #[.agg #[.int .i64 (nodeOf t).k, .int .i64 (nodeOf t).w, .int .i64 (nodeOf t).h, .int .i64 (nodeOf t).i, .slice sa sn sc], .int .i64 d] X fun e w' => e = .returned (.int .i64 (t.room d)) ∧ Below W.heap.size W w') := fun X d hX => (room_good t HLt.out.kinds HLt.out.sound (by have := lay_size HLt.out; omega) _ fp X d (HIn.out X hX)).mono fun e w' h2 => ⟨h2.1, below_step hX h2.2⟩
  have HW : Hid (w1.alloc (.cells #[.int .i64 (nodeOf t).k, .int .i64 (nodeOf t).w, .int .i64 (nodeOf t).h, .int .i64 (nodeOf t).i, .slice sa sn sc] 73) = W) := hW
  have hb2 := room_bound t 2 HLt.out.sound
  have hb3 := room_bound t 3 HLt.out.sound
  have hsd := t.sound_sides HLt.out.sound
  have hsz := lay_size HLt.out
  rw [← nodeOf_w, ← nodeOf_h] at hsd
  have HNw : Hid ((nodeOf t).w = t.box.w ∧ (nodeOf t).h = t.box.h) := ⟨nodeOf_w t, nodeOf_h t⟩
  have hs2 : leastT t 2 = (nodeOf t).w - t.room 2 := by rw [nodeOf_w]; rfl
  have hs3 : leastT t 3 = (nodeOf t).h - t.room 3 := by rw [nodeOf_h]; rfl
  rw [hs2, hs3] at hlow
  obtain ⟨nn, hnn⟩ : ∃ x, nodeOf t = x := ⟨_, rfl⟩
  have HNn : Hid (nodeOf t = nn) := hnn
  rw [hnn] at HX HRm HW hsd HIn HNw hlow ⊢
  obtain ⟨A, hA⟩ : ∃ x, t.room 2 = x := ⟨_, rfl⟩
  obtain ⟨B, hB⟩ : ∃ x, t.room 3 = x := ⟨_, rfl⟩
  have HR2 : Hid (∀ X, Below W.heap.size W X → Calls Try.prog 48 #[.agg #[.int .i64 nn.k, .int .i64 nn.w, .int .i64 nn.h, .int .i64 nn.i, .slice sa sn sc], .int .i64 2] X fun e w' => e = .returned (.int .i64 A) ∧ Below W.heap.size W w') := fun X hX => hA ▸ HRm.out X 2 hX
  have HR3 : Hid (∀ X, Below W.heap.size W X → Calls Try.prog 48 #[.agg #[.int .i64 nn.k, .int .i64 nn.w, .int .i64 nn.h, .int .i64 nn.i, .slice sa sn sc], .int .i64 3] X fun e w' => e = .returned (.int .i64 B) ∧ Below W.heap.size W w') := fun X hX => hB ▸ HRm.out X 3 hX
  rw [hA] at hb2 hlow
  rw [hB] at hb3 hlow
  have v1 : IntKind.i64.wrap (nn.w - A) = nn.w - A := by rw [IntKind.wrap_i64]; omega
  have v2 : IntKind.i64.wrap (nn.h - B) = nn.h - B := by rw [IntKind.wrap_i64]; omega
  have d1 : decide (a < nn.w - A) = false := decide_eq_false (by omega)
  have d2 : decide (b < nn.h - B) = true := decide_eq_true (by omega)
  unfold nodeV
  clear hb hIn hbW hM hb2 hb3 hsd hsz hW hnn hA hB HRm hs2 hs3 hlow
  go_wp2_with fail
  rw [HW.out]
  refine wp_region_qw (fun X => Below W.heap.size W X) (by kernel_rfl) (by kernel_rfl) (Below.refl _ _).drew ?_
  repeat (
    first
    | (refine qw_take (v := ?_) (by rfl) (fun X hX => ?_) ?_
       rotate_left
       · have hm := HX.out X hX
         have m0 : X.cell? ⟨w1.heap.size, 0, none⟩ = some (.int .i64 nn.k) := cell_atL hm 0
         have m1 : X.cell? ⟨w1.heap.size, 1, none⟩ = some (.int .i64 nn.w) := cell_atL hm 1
         have m2 : X.cell? ⟨w1.heap.size, 2, none⟩ = some (.int .i64 nn.h) := cell_atL hm 2
         have m3 : X.cell? ⟨w1.heap.size, 3, none⟩ = some (.int .i64 nn.i) := cell_atL hm 3
         have m4 : X.cell? ⟨w1.heap.size, 4, none⟩ = some (.slice sa sn sc) := cell_atL hm 4
         clear hm
         go_simp
         all_goals first | with_reducible rfl | with_reducible exact HR2.out X hX | with_reducible exact HR3.out X hX
       intro K hK
       go_simp
       try simp only [d1, d2]
       refine hK.out _ ?_
       clear hK K)
    | (refine qw_skip (by rfl) ?_
       intro K hK
       go_simp
       refine hK.out _ ?_
       clear hK K))
  refine qw_nil ?_
  intro w4 hB4
  have HB4 : Hid (Below w.heap.size w w4) := below_step HBW.out hB4
  clear hB4
  go_wp2
  go_ret2
  exact ⟨_, rfl, World.ownsRow_nil _ _ _ _, HB4.out⟩

set_option maxHeartbeats 2000000 in
theorem resR_ok (v : Value) (l : List CellV) (a b : Int) (w : World) (h : CellsIn w v l) {t t1 t2 : Tree} (hF : readF l = some t) (hR : Resized l t t1 t2 a b) : Calls Try.prog 16 #[v, .int .i64 a, .int .i64 b] w (Ans2 0 (laidL t2) w) := by
  have HT : Hid (Calls Try.prog 36 #[v] w (TreeYes t w)) := tree_yes v l w h hF
  have HLt : Hid (IsLay l t) := hR.lay
  have ha := hR.side.1
  have hb := hR.side.2
  have hlow := hR.low
  have HRz : Hid (Resized l t t1 t2 a b) := hR
  simp only [sideB, Bool.and_eq_true, decide_eq_true_eq] at ha hb
  have a1 : ¬ a < 1 := by omega
  have a2 : ¬ 1000 < a := by omega
  have a3 : ¬ b < 1 := by omega
  have a4 : ¬ 1000 < b := by omega
  have hn1 := hR.one.ok
  have hn2 := hR.two.ok
  have x1 := hn1.low
  have x2 := hn1.high
  have x3 := hn2.low
  have x4 := hn2.high
  rw [← nodeOf_w] at x1 x2
  rw [← nodeOf_h] at x3 x4
  clear h hF ha hb hR hn1 hn2
  go_enter Try.func16, Try.ntmps16
  go_wp2_with fail
  refine HT.out.mono ?_
  rintro e w1 ⟨sa, sn, sc, fp, rfl, hIn, hb⟩
  obtain ⟨W, hW⟩ : ∃ W, w1.alloc (.cells #[.int .i64 (nodeOf t).k, .int .i64 (nodeOf t).w, .int .i64 (nodeOf t).h, .int .i64 (nodeOf t).i, .slice sa sn sc] 73) = W := ⟨_, rfl⟩
  have hbW : Below w1.heap.size w1 W := by rw [← hW]; exact (Below.refl _ _).alloc (Nat.le_refl _) _
  have HBW : Hid (Below w.heap.size w W) := below_step hb hbW
  have hM : W.heap[w1.heap.size]? = some (.cells #[.int .i64 (nodeOf t).k, .int .i64 (nodeOf t).w, .int .i64 (nodeOf t).h, .int .i64 (nodeOf t).i, .slice sa sn sc] 73 (0, 0)) := by rw [← hW]; exact heap_alloc_new _ _
  have HX : Hid (∀ X, Below W.heap.size W X → X.heap[w1.heap.size]? = some (.cells #[.int .i64 (nodeOf t).k, .int .i64 (nodeOf t).w, .int .i64 (nodeOf t).h, .int .i64 (nodeOf t).i, .slice sa sn sc] 73 (0, 0))) := fun X hX => (hX.block _ (lt_of_block hM)).trans hM
  have HIn : Hid (∀ X, Below W.heap.size W X → (nodeOf t).In X (.slice sa sn sc) fp) := fun X hX => (hIn.below hbW).below hX
  have HRm : Hid (∀ X d, Below W.heap.size W X → Calls Try.prog 48 #[.agg #[.int .i64 (nodeOf t).k, .int .i64 (nodeOf t).w, .int .i64 (nodeOf t).h, .int .i64 (nodeOf t).i, .slice sa sn sc], .int .i64 d] X fun e w' => e = .returned (.int .i64 (t.room d)) ∧ Below W.heap.size W w') := fun X d hX => (room_good t HLt.out.kinds HLt.out.sound (by have := lay_size HLt.out; omega) _ fp X d (HIn.out X hX)).mono fun e w' h2 => ⟨h2.1, below_step hX h2.2⟩
  have HW : Hid (w1.alloc (.cells #[.int .i64 (nodeOf t).k, .int .i64 (nodeOf t).w, .int .i64 (nodeOf t).h, .int .i64 (nodeOf t).i, .slice sa sn sc] 73) = W) := hW
  have hb2 := room_bound t 2 HLt.out.sound
  have hb3 := room_bound t 3 HLt.out.sound
  have hsd := t.sound_sides HLt.out.sound
  have hsz := lay_size HLt.out
  rw [← nodeOf_w, ← nodeOf_h] at hsd
  have HNw : Hid ((nodeOf t).w = t.box.w ∧ (nodeOf t).h = t.box.h) := ⟨nodeOf_w t, nodeOf_h t⟩
  have hs2 : leastT t 2 = (nodeOf t).w - t.room 2 := by rw [nodeOf_w]; rfl
  have hs3 : leastT t 3 = (nodeOf t).h - t.room 3 := by rw [nodeOf_h]; rfl
  rw [hs2, hs3] at hlow
  obtain ⟨nn, hnn⟩ : ∃ x, nodeOf t = x := ⟨_, rfl⟩
  have HNn : Hid (nodeOf t = nn) := hnn
  rw [hnn] at HX HRm HW hsd HIn HNw hlow ⊢
  obtain ⟨A, hA⟩ : ∃ x, t.room 2 = x := ⟨_, rfl⟩
  obtain ⟨B, hB⟩ : ∃ x, t.room 3 = x := ⟨_, rfl⟩
  have HR2 : Hid (∀ X, Below W.heap.size W X → Calls Try.prog 48 #[.agg #[.int .i64 nn.k, .int .i64 nn.w, .int .i64 nn.h, .int .i64 nn.i, .slice sa sn sc], .int .i64 2] X fun e w' => e = .returned (.int .i64 A) ∧ Below W.heap.size W w') := fun X hX => hA ▸ HRm.out X 2 hX
  have HR3 : Hid (∀ X, Below W.heap.size W X → Calls Try.prog 48 #[.agg #[.int .i64 nn.k, .int .i64 nn.w, .int .i64 nn.h, .int .i64 nn.i, .slice sa sn sc], .int .i64 3] X fun e w' => e = .returned (.int .i64 B) ∧ Below W.heap.size W w') := fun X hX => hB ▸ HRm.out X 3 hX
  rw [hA] at hb2 hlow
  rw [hB] at hb3 hlow
  have v1 : IntKind.i64.wrap (nn.w - A) = nn.w - A := by rw [IntKind.wrap_i64]; omega
  have v2 : IntKind.i64.wrap (nn.h - B) = nn.h - B := by rw [IntKind.wrap_i64]; omega
  have d1 : decide (a < nn.w - A) = false := decide_eq_false (by omega)
  have d2 : decide (b < nn.h - B) = false := decide_eq_false (by omega)
  rw [hnn] at x1 x2 x3 x4
  have v3 : IntKind.i64.wrap (a - nn.w) = a - nn.w := by rw [IntKind.wrap_i64]; omega
  have v4 : IntKind.i64.wrap (b - nn.h) = b - nn.h := by rw [IntKind.wrap_i64]; omega
  have HS1 : Hid (∀ X, Below W.heap.size W X → Calls Try.prog 49 #[.agg #[.int .i64 nn.k, .int .i64 nn.w, .int .i64 nn.h, .int .i64 nn.i, .slice sa sn sc], .int .i64 2, .int .i64 (a - nn.w)] X fun e w' => ∃ ta tn tc, e = .returned (.agg (nodeV (nodeOf t1) (.slice ta tn tc))) ∧ Below W.heap.size W w' ∧ ∃ f, (nodeOf t1).In w' (.slice ta tn tc) f) := fun X hX => by
    have h := str_good t 2 (a - t.box.w) t1 (.slice sa sn sc) fp X HRz.out.one (by rw [HNn.out]; exact HIn.out X hX)
    rw [HNn.out, ← HNw.out.1] at h
    refine h.mono ?_
    rintro e w' ⟨ta, tn, tc, f, he, h2, _, h3⟩
    exact ⟨ta, tn, tc, he, below_step hX h3, f, h2⟩
  have HS2 : Hid (∀ X f ta tn tc, (nodeOf t1).In X (.slice ta tn tc) f → Calls Try.prog 49 #[.agg (nodeV (nodeOf t1) (.slice ta tn tc)), .int .i64 3, .int .i64 (b - nn.h)] X fun e w' => ∃ ua un uc, e = .returned (.agg (nodeV (nodeOf t2) (.slice ua un uc))) ∧ Below X.heap.size X w' ∧ Calls Try.prog 42 #[.agg (nodeV (nodeOf t2) (.slice ua un uc))] w' fun e w'' => ∃ u, e = .returned u ∧ CeOwns w'' w'.heap.size u (laidL t2) ∧ Below w'.heap.size w' w'') := fun X f ta tn tc hX => by
    have h := str_good t1 3 (b - t.box.h) t2 (.slice ta tn tc) f X HRz.out.two hX
    rw [← HNw.out.2] at h
    refine h.mono ?_
    rintro e w' ⟨ua, un, uc, f2, he, h2, _, h3⟩
    exact ⟨ua, un, uc, he, h3, list_end HRz.out.s2 HRz.out.k2 (by rw [HRz.out.z2]; have := lay_size HLt.out; omega) h2⟩
  obtain ⟨n1, hn1⟩ : ∃ x, nodeOf t1 = x := ⟨_, rfl⟩
  obtain ⟨n2, hn2⟩ : ∃ x, nodeOf t2 = x := ⟨_, rfl⟩
  rw [hn1] at HS1 HS2
  rw [hn2] at HS2
  clear hn1 hn2 x1 x2 x3 x4
  unfold nodeV
  clear hb hIn hbW hM hb2 hb3 hsd hsz hW hnn hA hB HRm hs2 hs3 hlow
  go_wp2_with fail
  rw [HW.out]
  refine wp_region_qw (fun X => Below W.heap.size W X) (by kernel_rfl) (by kernel_rfl) (Below.refl _ _).drew ?_
  repeat (
    first
    | (refine qw_take (v := ?_) (by rfl) (fun X hX => ?_) ?_
       rotate_left
       · have hm := HX.out X hX
         have m0 : X.cell? ⟨w1.heap.size, 0, none⟩ = some (.int .i64 nn.k) := cell_atL hm 0
         have m1 : X.cell? ⟨w1.heap.size, 1, none⟩ = some (.int .i64 nn.w) := cell_atL hm 1
         have m2 : X.cell? ⟨w1.heap.size, 2, none⟩ = some (.int .i64 nn.h) := cell_atL hm 2
         have m3 : X.cell? ⟨w1.heap.size, 3, none⟩ = some (.int .i64 nn.i) := cell_atL hm 3
         have m4 : X.cell? ⟨w1.heap.size, 4, none⟩ = some (.slice sa sn sc) := cell_atL hm 4
         clear hm
         go_simp
         all_goals first | with_reducible rfl | with_reducible exact HR2.out X hX | with_reducible exact HR3.out X hX
       intro K hK
       go_simp
       try simp only [d1, d2]
       refine hK.out _ ?_
       clear hK K)
    | (refine qw_skip (by rfl) ?_
       intro K hK
       go_simp
       refine hK.out _ ?_
       clear hK K))
  refine qw_nil ?_
  intro w4 hB4
  have hm := HX.out w4 hB4
  have m0 : w4.cell? ⟨w1.heap.size, 0, none⟩ = some (.int .i64 nn.k) := cell_atL hm 0
  have m1 : w4.cell? ⟨w1.heap.size, 1, none⟩ = some (.int .i64 nn.w) := cell_atL hm 1
  have m2 : w4.cell? ⟨w1.heap.size, 2, none⟩ = some (.int .i64 nn.h) := cell_atL hm 2
  have m3 : w4.cell? ⟨w1.heap.size, 3, none⟩ = some (.int .i64 nn.i) := cell_atL hm 3
  have m4 : w4.cell? ⟨w1.heap.size, 4, none⟩ = some (.slice sa sn sc) := cell_atL hm 4
  have HB4 : Hid (Below W.heap.size W w4) := hB4
  have HC5 : Hid (∀ X, Below W.heap.size W X → X.cell? ⟨w1.heap.size, 0, none⟩ = some (.int .i64 nn.k) ∧ X.cell? ⟨w1.heap.size, 1, none⟩ = some (.int .i64 nn.w) ∧ X.cell? ⟨w1.heap.size, 2, none⟩ = some (.int .i64 nn.h) ∧ X.cell? ⟨w1.heap.size, 3, none⟩ = some (.int .i64 nn.i) ∧ X.cell? ⟨w1.heap.size, 4, none⟩ = some (.slice sa sn sc)) := fun X hX => ⟨cell_atL (HX.out X hX) 0, cell_atL (HX.out X hX) 1, cell_atL (HX.out X hX) 2, cell_atL (HX.out X hX) 3, cell_atL (HX.out X hX) 4⟩
  have HS1' : Hid (Calls Try.prog 49 #[.agg #[.int .i64 nn.k, .int .i64 nn.w, .int .i64 nn.h, .int .i64 nn.i, .slice sa sn sc], .int .i64 2, .int .i64 (a - nn.w)] w4.drew fun e w' => ∃ ta tn tc, e = .returned (.agg #[.int .i64 n1.k, .int .i64 n1.w, .int .i64 n1.h, .int .i64 n1.i, .slice ta tn tc]) ∧ Below W.heap.size W w' ∧ ∃ f, n1.In w' (.slice ta tn tc) f) := HS1.out w4.drew HB4.out.drew
  unfold nodeV at HS2
  clear hm hB4 HS1 HR2 HR3 d1 d2 v1 v2
  go_wp2_with fail
  go_region_held3 (fun W' => W'.cell? ⟨w1.heap.size, 0, none⟩ = some (.int .i64 nn.k) ∧ W'.cell? ⟨w1.heap.size, 1, none⟩ = some (.int .i64 nn.w) ∧ W'.cell? ⟨w1.heap.size, 2, none⟩ = some (.int .i64 nn.h) ∧ W'.cell? ⟨w1.heap.size, 3, none⟩ = some (.int .i64 nn.i) ∧ W'.cell? ⟨w1.heap.size, 4, none⟩ = some (.slice sa sn sc)) (go_keep) (first
    | (go_at_call 42; refine HL6.out.mono ?_; rintro e w7 ⟨u, rfl, hu, hb7⟩; have HU : Hid (CeOwns w7 w.heap.size u (laidL t2)) := hu.lower (below_step HBW.out HB6.out).size; have HB7 : Hid (Below w.heap.size w w7) := below_step (below_step HBW.out HB6.out) hb7; obtain ⟨m0, m1, m2, m3, m4⟩ := HC5.out w7 (below_step HB6.out hb7); clear hu hb7)
    | (go_at_call 49; refine HS2'.out.mono ?_; rintro e w6 ⟨ua, un, uc, rfl, hb6, hL6⟩; have HB6 : Hid (Below W.heap.size W w6) := below_step HB5.out hb6; have HL6 : Hid (Calls Try.prog 42 #[.agg #[.int .i64 n2.k, .int .i64 n2.w, .int .i64 n2.h, .int .i64 n2.i, .slice ua un uc]] w6 fun e w'' => ∃ u, e = .returned u ∧ CeOwns w'' w6.heap.size u (laidL t2) ∧ Below w6.heap.size w6 w'') := hL6; obtain ⟨m0, m1, m2, m3, m4⟩ := HC5.out w6 HB6.out; clear hb6 hL6)
    | (go_at_call 49; refine HS1'.out.mono ?_; rintro e w5 ⟨ta, tn, tc, rfl, hb5, f5, hIn5⟩; have HB5 : Hid (Below W.heap.size W w5) := hb5; have HS2' : Hid (Calls Try.prog 49 #[.agg #[.int .i64 n1.k, .int .i64 n1.w, .int .i64 n1.h, .int .i64 n1.i, .slice ta tn tc], .int .i64 3, .int .i64 (b - nn.h)] w5 fun e w' => ∃ ua un uc, e = .returned (.agg #[.int .i64 n2.k, .int .i64 n2.w, .int .i64 n2.h, .int .i64 n2.i, .slice ua un uc]) ∧ Below w5.heap.size w5 w' ∧ Calls Try.prog 42 #[.agg #[.int .i64 n2.k, .int .i64 n2.w, .int .i64 n2.h, .int .i64 n2.i, .slice ua un uc]] w' fun e w'' => ∃ u, e = .returned u ∧ CeOwns w'' w'.heap.size u (laidL t2) ∧ Below w'.heap.size w' w'') := HS2.out w5 f5 ta tn tc hIn5; obtain ⟨m0, m1, m2, m3, m4⟩ := HC5.out w5 hb5; clear hb5 hIn5))
  all_goals go_wp2
  all_goals go_ret2
  all_goals exact ⟨u, rfl, HU.out, HB7.out⟩


end Go.Proofs.Ytfmlebimlacdpaa

namespace Go.Proofs.Ytfmlebimlacdpaa
open Go.RowKit
set_option linter.unusedVariables false
set_option maxRecDepth 100000

theorem laidL_length (t : Tree) : (laidL t).length = t.size := by
  unfold laidL
  rw [Tree.tell_length, Tree.size_moved]
theorem resize_any (l : List CellV) (a b : Int) : ∃ er r, (r : List CellV).length ≤ 63 ∧ (∀ v X, CellsIn X v l → Calls Try.prog 15 #[v, .int .i64 a, .int .i64 b] X (Ans2 er r X)) ∧ (∀ v X, CellsIn X v l → Calls Try.prog 16 #[v, .int .i64 a, .int .i64 b] X (Ans2 er r X)) := by
  cases hF : readF l with
  | none => exact ⟨40, [], by simp, fun v X h => resP_none v l a b X h hF, fun v X h => resR_none v l a b X h hF⟩
  | some t =>
    by_cases hs : sideB a = true ∧ sideB b = true
    · have hl := readF_lay hF
      have h3 : leastT t 3 ≤ 1000000 := by
        have h1 := t.sound_sides hl.sound
        have h2 := room_bound t 3 hl.sound
        show t.box.h - t.room 3 ≤ 1000000
        omega
      by_cases h1 : a < leastT t 2
      · exact ⟨44, [], by simp, fun v X h => resP_small v l a b X h hF hs.1 hs.2 (.inl h1), fun v X h => resR_small1 v l a b X h hF hs.1 hs.2 ⟨h1, h3⟩⟩
      · by_cases h2 : b < leastT t 3
        · exact ⟨44, [], by simp, fun v X h => resP_small v l a b X h hF hs.1 hs.2 (.inr h2), fun v X h => resR_small2 v l a b X h hF hs.1 hs.2 ⟨h1, h2⟩⟩
        · obtain ⟨t1, t2, hR⟩ := resized_any hF a b hs.1 hs.2 (by omega) (by omega)
          exact ⟨0, laidL t2, by rw [laidL_length, hR.z2]; exact lay_size hl, fun v X h => resP_ok v l a b X h hF hR, fun v X h => resR_ok v l a b X h hF hR⟩
    · exact ⟨41, [], by simp, fun v X h => resP_side v l a b X h hF hs, fun v X h => resR_side v l a b X h hF hs⟩

set_option maxHeartbeats 1000000 in
theorem resizes_walk (v : Value) (l : List CellV) (pa pb : Int) (w : World) (hv : CellsIn w v l) (hnil : v = .slice none 0 0 ∨ ∃ a n c, v = .slice (some a) n c) (hlen : l.length * 56 ≤ 140737488351232) : Calls Try.prog 4 #[v, .int .i64 pa, .int .i64 pb] w fun x w' => x = .returned (.bool true) ∧ Below w.heap.size w w' := by
  have HTw : Hid (Calls Try.prog 9 #[v] w fun e w' => ∃ g cap, e = .returned (.slice (some ⟨g, 0, none⟩) l.length cap) ∧ TwinAt w' g cap l ∧ w.heap.size ≤ g ∧ Below w.heap.size w w') := twin_any v l w hv hnil hlen
  obtain ⟨er, r, hrl, hPa, hRa⟩ := resize_any l pa pb
  have HP : Hid (∀ u X, CellsIn X u l → Calls Try.prog 15 #[u, .int .i64 pa, .int .i64 pb] X fun x w' => ∃ q, x = .returned (.tuple #[q, .int .i64 er]) ∧ CeOwns w' X.heap.size q r ∧ Below X.heap.size X w') := hPa
  have HR : Hid (∀ X, Below w.heap.size w X → Calls Try.prog 16 #[v, .int .i64 pa, .int .i64 pb] X fun x w' => ∃ q, x = .returned (.tuple #[q, .int .i64 er]) ∧ CeOwns w' X.heap.size q r ∧ Below X.heap.size X w') := fun X hX => hRa v X (hv.below hX)
  have HW : Hid (∀ W, Calls Try.prog 12 #[] W fun e w' => e = .returned (.bool true) ∧ Below W.heap.size W w') := works_true
  have HK : Hid (∀ g cap X, TwinAt X g cap l → Below w.heap.size w X → Calls Try.prog 14 #[.slice (some ⟨g, 0, none⟩) l.length cap, v] X fun e w' => e = .returned (.bool true) ∧ Below X.heap.size X w') := fun g cap X hT hX => kept_any v g cap l X hT (hv.below hX) hlen
  have HS : Hid (∀ u v W, CellsIn W u r → CellsIn W v r → Calls Try.prog 13 #[u, v] W fun e w' => e = .returned (.bool true) ∧ Below W.heap.size W w') := fun u v W h1 h2 => by
    have := law_any u v _ _ W h1 h2 (by omega)
    rw [decide_eq_true rfl] at this
    exact this
  obtain ⟨L, hL⟩ : ∃ L, l.length = L := ⟨_, rfl⟩
  rw [hL] at HTw HK
  have HL : Hid (l.length = L) := hL
  clear hv hnil hlen hL hrl hPa hRa
  go_enter Try.func4, Try.ntmps4
  go_wp2_with fail
  refine HTw.out.mono ?_
  rintro x w1 ⟨g, cap, rfl, hT, _, hb1⟩
  have H1 : Hid (TwinAt w1 g cap l ∧ Below w.heap.size w w1) := ⟨hT, hb1⟩
  have HP1 : Hid (Calls Try.prog 15 #[.slice (some ⟨g, 0, none⟩) L cap, .int .i64 pa, .int .i64 pb] w1 fun x w' => ∃ q, x = .returned (.tuple #[q, .int .i64 er]) ∧ CeOwns w' w1.heap.size q r ∧ Below w1.heap.size w1 w') := HP.out _ w1 (by have := hT.cellsIn; rw [HL.out] at this; exact this)
  clear hT hb1 HTw HP
  go_wp2_with fail
  refine HP1.out.mono ?_
  rintro x w2 ⟨q, rfl, hq, hb2⟩
  have H2 : Hid (TwinAt w2 g cap l ∧ Below w.heap.size w w2 ∧ CellsIn w2 q r) := ⟨H1.out.1.below hb2, below_step H1.out.2 hb2, hq.cellsIn⟩
  clear hb2 H1 HP1 hq
  go_wp2_with fail
  refine (HR.out _ H2.out.2.1).mono ?_
  rintro x w3 ⟨q', rfl, hq', hb3⟩
  have H3 : Hid (TwinAt w3 g cap l ∧ Below w.heap.size w w3 ∧ CellsIn w3 q r ∧ CellsIn w3 q' r) := ⟨H2.out.1.below hb3, below_step H2.out.2.1 hb3, H2.out.2.2.below hb3, hq'.cellsIn⟩
  clear hb3 H2 HR hq'
  go_wp2_with fail
  refine (HW.out _).mono ?_
  rintro x w4 ⟨rfl, hb4⟩
  have H4 : Hid (TwinAt w4 g cap l ∧ Below w.heap.size w w4 ∧ CellsIn w4 q r ∧ CellsIn w4 q' r) := ⟨H3.out.1.below hb4, below_step H3.out.2.1 hb4, H3.out.2.2.1.below hb4, H3.out.2.2.2.below hb4⟩
  clear hb4 H3 HW
  go_wp2_with fail
  refine (HS.out _ _ _ H4.out.2.2.1 H4.out.2.2.2).mono ?_
  rintro x w5 ⟨rfl, hb5⟩
  have H5 : Hid (TwinAt w5 g cap l ∧ Below w.heap.size w w5) := ⟨H4.out.1.below hb5, below_step H4.out.2.1 hb5⟩
  clear hb5 H4 HS
  go_wp2_with fail
  refine (HK.out _ _ _ H5.out.1 H5.out.2).mono ?_
  rintro x w6 ⟨rfl, hb6⟩
  have H6 : Hid (Below w.heap.size w w6) := below_step H5.out.2 hb6
  clear hb6 H5
  go_wp2
  go_ret
  exact ⟨rfl, H6.out⟩

end Go.Proofs.Ytfmlebimlacdpaa
