/-
  Buffers: a text copied, a buffer copied.
-/
import Derived.Test.YtgbaeajcgiaboaaDoorUIns
import Derived.Laws.ResultCell
namespace Go.Proofs.YtgbaeajcgiaboaaDoor
open Go.RowKit
set_option linter.unusedVariables false
set_option maxRecDepth 100000

theorem clone_any (s : ByteArray) (w : World) (hl : s.size ≤ 140737488355328) : Calls Tryd.prog 26 #[.string s] w fun r w' => r = .returned (.string s) ∧ Below w.heap.size w w' := by
  have HC := hidK (Tryd.stringslite_Clone s w (by omega))
  clear hl
  go_enter Tryd.func26, Tryd.ntmps26
  go_wp2_with fail
  refine HC.out.mono ?_
  rintro e w1 ⟨rfl, hb⟩
  have HB := hidK hb
  clear hb
  go_wp2_with fail
  go_ret
  exact ⟨rfl, HB.out⟩
theorem two_set {W : World} {g : Nat} {T : TypeId} {c0 c1 : Value} (h : W.heap[g]? = some (.cells #[c0, c1] T (0, 0))) (v0 v1 : Value) : ((W.setCell ⟨g, 0, none⟩ v0).setCell ⟨g, 1, none⟩ v1).heap[g]? = some (.cells #[v0, v1] T (0, 0)) := put_at (put_at h 0 v0) 1 v1
theorem below_step2 {w X Y : World} {B : Nat} (h : Below w.heap.size w X) (k : Below B X Y) (hb : w.heap.size ≤ B) : Below w.heap.size w Y :=
  ⟨k.os.trans h.os, k.tape.trans h.tape, k.output.trans h.output, Nat.le_trans h.size k.size, fun i hi => (k.block i (Nat.lt_of_lt_of_le hi hb)).trans (h.block i hi)⟩
theorem infoBuffer : (Tryd.prog.info? 34).map (·.size) = some 2 := by kernel_rfl
set_option maxHeartbeats 8000000 in
theorem fresh_any (t l : ByteArray) (w : World) (ht : t.size ≤ 140737488355328) (hl : l.size ≤ 140737488355328) : Calls Tryd.prog 24 #[.agg #[.string t, .string l]] w fun e w' => e = .returned (.agg #[.string t, .string l]) ∧ Below w.heap.size w w' := by
  obtain ⟨W1, hW1⟩ : ∃ W, w.alloc (.cells #[.string t, .string l] 34) = W := ⟨_, rfl⟩
  obtain ⟨W3, hW3⟩ : ∃ W, W1.alloc (.cells #[.string ⟨#[]⟩, .string ⟨#[]⟩] 34) = W := ⟨_, rfl⟩
  obtain ⟨Q1, hQ1⟩ : ∃ Q, w.heap.size = Q := ⟨_, rfl⟩
  obtain ⟨Q3, hQ3⟩ : ∃ Q, W1.heap.size = Q := ⟨_, rfl⟩
  have s1 : W1.heap.size = w.heap.size + 1 := by rw [← hW1]; simp
  have s3 : W3.heap.size = W1.heap.size + 1 := by rw [← hW3]; simp
  have a1 : W1.heap[Q1]? = some (.cells #[.string t, .string l] 34 (0, 0)) := by rw [← hW1, ← hQ1]; exact heap_alloc_new w _
  have a3 : W3.heap[Q3]? = some (.cells #[.string ⟨#[]⟩, .string ⟨#[]⟩] 34 (0, 0)) := by rw [← hW3, ← hQ3]; exact heap_alloc_new W1 _
  have b1 : W3.heap[Q1]? = some (.cells #[.string t, .string l] 34 (0, 0)) := by rw [← hW3]; exact alloc_at a1 _
  have hw3 : Below w.heap.size w W3 := by
    rw [← hW3, ← hW1]
    exact ((Below.refl _ _).alloc (Nat.le_refl _) _).alloc (by simp) _
  have HSx : Hid (∀ Y, Below Q3 W3 Y → Y.cell? ⟨Q1, 0, none⟩ = some (.string t) ∧ Y.cell? ⟨Q1, 1, none⟩ = some (.string l)) := fun Y hY => by
    have c1 := (hY.block Q1 (by omega)).trans b1
    exact ⟨cell_at c1 0, cell_at c1 1⟩
  have HC1 : Hid (∀ Y, Calls Tryd.prog 26 #[.string t] Y fun r w' => r = .returned (.string t) ∧ Below Y.heap.size Y w') := fun Y => clone_any t Y ht
  have HC2 : Hid (∀ Y, Calls Tryd.prog 26 #[.string l] Y fun r w' => r = .returned (.string l) ∧ Below Y.heap.size Y w') := fun Y => clone_any l Y hl
  have HBx := hidK (Below.refl Q3 W3)
  have HAx := hidK a3
  have HW := hidK (And.intro hw3 (And.intro hQ1 (And.intro hQ3 (And.intro s1 s3))))
  clear s1 s3 a1 a3 b1 hw3 ht hl
  go_enter Tryd.func24, Tryd.ntmps24
  go_wp2_with fail
  refine wp_region_held_drew (S := (fun X => X.cell? ⟨Q1, 0, none⟩ = some (.string t) ∧ X.cell? ⟨Q1, 1, none⟩ = some (.string l))) (by kernel_rfl) ?sP (fun hHeld => ?_)
  case sP => ((try dsimp only); exact HSx.out _ (by first | exact HBx.out | exact HBx.out.drew | exact ((HBx.out.setCell (Nat.le_refl _) _).setCell (Nat.le_refl _) _)))
  have HBn := hidK HBx.out.drew
  clear HBx
  have HBx := hidK HBn.out
  clear HBn
  have HAn : Hid (W3.drew.heap[Q3]? = some (.cells #[.string ⟨#[]⟩, .string ⟨#[]⟩] 34 (0, 0))) := HAx.out
  clear HAx
  have HAx := hidK HAn.out
  clear HAn
  refine wpAnyH_take (i := 0) (oi := { dst := some 3, op := Op.fieldAddr 34 (Operand.tmp 1) 0, type := 0, pos := "buffers.go:98", after := #[], guard := none }) (v := ?vP0n1) rfl (by kernel_rfl) (by kernel_rfl) (by kernel_rfl) (fun _ _ _ h => h) (Or.inl ⟨by rfl, ?yP0n1⟩) (by assumption) ?rP0n1
  case yP0n1 => (intro w hSw; (try dsimp only at hSw); first | (go_simp; done) | (go_simp; with_reducible rfl))
  try simp only [Act.put, List.setIfInBounds_toArray, List.set_cons_zero, List.set_cons_succ]
  refine wpAnyH_take (i := 1) (oi := { dst := some 4, op := Op.load 9 (Operand.tmp 3), type := 9, pos := "buffers.go:98", after := #[{ on := 0, ground := Ground.data }], guard := none }) (v := ?vP1n2) rfl (by kernel_rfl) (by kernel_rfl) (by kernel_rfl) (fun _ _ _ h => h) (Or.inl ⟨by rfl, ?yP1n2⟩) (by assumption) ?rP1n2
  case yP1n2 => (intro w hSw; (try dsimp only at hSw); first | (go_simp; done) | (go_simp; with_reducible rfl))
  try simp only [Act.put, List.setIfInBounds_toArray, List.set_cons_zero, List.set_cons_succ]
  refine wpAnyH_take (i := 3) (oi := { dst := some 6, op := Op.fieldAddr 34 (Operand.tmp 1) 1, type := 0, pos := "buffers.go:98", after := #[], guard := none }) (v := ?vP3n3) rfl (by kernel_rfl) (by kernel_rfl) (by kernel_rfl) (fun _ _ _ h => h) (Or.inl ⟨by rfl, ?yP3n3⟩) (by assumption) ?rP3n3
  case yP3n3 => (intro w hSw; (try dsimp only at hSw); first | (go_simp; done) | (go_simp; with_reducible rfl))
  try simp only [Act.put, List.setIfInBounds_toArray, List.set_cons_zero, List.set_cons_succ]
  refine wpAnyH_take (i := 4) (oi := { dst := some 7, op := Op.load 9 (Operand.tmp 6), type := 9, pos := "buffers.go:98", after := #[{ on := 3, ground := Ground.data }], guard := none }) (v := ?vP4n4) rfl (by kernel_rfl) (by kernel_rfl) (by kernel_rfl) (fun _ _ _ h => h) (Or.inl ⟨by rfl, ?yP4n4⟩) (by assumption) ?rP4n4
  case yP4n4 => (intro w hSw; (try dsimp only at hSw); first | (go_simp; done) | (go_simp; with_reducible rfl))
  try simp only [Act.put, List.setIfInBounds_toArray, List.set_cons_zero, List.set_cons_succ]
  refine wpAnyH_ready (rs := [2]) (by kernel_rfl) (by simp) (AllReadyH.cons (o := { dst := some 5, op := Op.call { callee := Callee.value (Operand.func 26), args := #[Operand.tmp 4], argTypes := #[9] }, type := 9, pos := "buffers.go:98", after := #[{ on := 1, ground := Ground.data }], guard := none }) rfl (fun K hK => ?bPn5q0) AllReadyH.nil)
  go_simp
  go_wp2_with (refine (HC1.out _).mono ?_; rintro e Y1 ⟨rfl, hb⟩; have HBn := hidK (HBx.out.trans (hb.mono (by have h1 := HW.out.2.2.1; have h2 := HBx.out.size; have h3 := HW.out.2.2.2.2; simp at h2 ⊢; omega))); have HAn := hidK ((hb.block Q3 (lt_block HAx.out)).trans HAx.out); clear hb HBx HAx; have HBx := hidK HBn.out; have HAx := hidK HAn.out; clear HBn HAn)
  refine hK.out _ _ ?kPn5o2 (fun hHeld5 => ?_)
  case kPn5o2 => ((try dsimp only); exact HSx.out _ (by first | exact HBx.out | exact HBx.out.drew | exact ((HBx.out.setCell (Nat.le_refl _) _).setCell (Nat.le_refl _) _)))
  clear hK K
  try simp only [Act.put, List.setIfInBounds_toArray, List.set_cons_zero, List.set_cons_succ]
  refine wpAnyH_ready (rs := [5]) (by kernel_rfl) (by simp) (AllReadyH.cons (o := { dst := some 8, op := Op.call { callee := Callee.value (Operand.func 26), args := #[Operand.tmp 7], argTypes := #[9] }, type := 9, pos := "buffers.go:98", after := #[{ on := 4, ground := Ground.data }, { on := 2, ground := Ground.chain }], guard := none }) rfl (fun K hK => ?bPn6q0) AllReadyH.nil)
  go_simp
  go_wp2_with (refine (HC2.out _).mono ?_; rintro e Y2 ⟨rfl, hb⟩; have HBn := hidK (HBx.out.trans (hb.mono (by have h1 := HW.out.2.2.1; have h2 := HBx.out.size; have h3 := HW.out.2.2.2.2; simp at h2 ⊢; omega))); have HAn := hidK ((hb.block Q3 (lt_block HAx.out)).trans HAx.out); clear hb HBx HAx; have HBx := hidK HBn.out; have HAx := hidK HAn.out; clear HBn HAn; have x0 := cell_at HAx.out 0; have x1 := cell_at HAx.out 1; have y0 := free_at HAx.out 0; have y1 := free_at HAx.out 1)
  refine hK.out _ _ ?kPn6o5 (fun hHeld6 => ?_)
  case kPn6o5 => ((try dsimp only); exact HSx.out _ (by first | exact HBx.out | exact HBx.out.drew | exact ((HBx.out.setCell (Nat.le_refl _) _).setCell (Nat.le_refl _) _)))
  clear hK K
  try simp only [Act.put, List.setIfInBounds_toArray, List.set_cons_zero, List.set_cons_succ]
  refine wpAnyH_take (i := 6) (oi := { dst := some 9, op := Op.build 34 #[(0, Operand.tmp 5), (1, Operand.tmp 8)], type := 34, pos := "buffers.go:98", after := #[{ on := 2, ground := Ground.data }, { on := 5, ground := Ground.data }], guard := none }) (v := ?vP6n7) rfl (by kernel_rfl) (by kernel_rfl) (by kernel_rfl) (fun _ _ _ h => h) (Or.inl ⟨by rfl, ?yP6n7⟩) (by assumption) ?rP6n7
  case yP6n7 => (intro w hSw; (try dsimp only at hSw); first | (go_simp; done) | (go_simp; with_reducible rfl))
  try simp only [Act.put, List.setIfInBounds_toArray, List.set_cons_zero, List.set_cons_succ]
  refine wpAnyH_ready (rs := [7]) (by kernel_rfl) (by simp) (AllReadyH.cons (o := { dst := none, op := Op.store 34 (Operand.tmp 2) (Operand.tmp 9), type := 0, pos := "buffers.go:98", after := #[{ on := 6, ground := Ground.data }, { on := 5, ground := Ground.chain }, { on := 0, ground := Ground.phase }, { on := 1, ground := Ground.phase }, { on := 2, ground := Ground.phase }, { on := 3, ground := Ground.phase }, { on := 4, ground := Ground.phase }, { on := 5, ground := Ground.phase }, { on := 6, ground := Ground.phase }], guard := none }) rfl (fun K hK => ?bPn8q0) AllReadyH.nil)
  go_simp
  refine hK.out _ _ ?kPn8o7 (fun hHeld8 => ?_)
  case kPn8o7 => ((try dsimp only); exact HSx.out _ (by first | exact HBx.out | exact HBx.out.drew | exact ((HBx.out.setCell (Nat.le_refl _) _).setCell (Nat.le_refl _) _)))
  clear hK K
  skip
  try simp only [Act.put, List.setIfInBounds_toArray, List.set_cons_zero, List.set_cons_succ]
  refine wpAnyH_done (by kernel_rfl) ?_ _
  go_wp2_with fail
  refine ret_cell1 rfl rfl (two_set HAx.out (.string t) (.string l)) Tryd.underlying34 rfl infoBuffer rfl ⟨rfl, ?_⟩
  have hq := HW.out
  refine below_step2 hq.1 ((HBx.out.setCell (Nat.le_refl _) _).setCell (Nat.le_refl _) _) (by omega)
end Go.Proofs.YtgbaeajcgiaboaaDoor
