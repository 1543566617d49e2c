/-
  Binds: a text copied; a binding told.
  Binds: a binding told.
-/
import Derived.Test.YtbonnjilbocldaaGreatDoorBMap
import Derived.Test.YtbonnjilbocldaaGreatDoorShelf
import Derived.Test.YtbonnjilbocldaaGreatDoorHE
import Derived.Deep.RegionHeld3
import Derived.Laws.ResultCell
namespace Go.Proofs.YtbonnjilbocldaaGreatDoor
open Go.RowKit
set_option linter.unusedVariables false
set_option maxRecDepth 100000

theorem clone_any (s : ByteArray) (w : World) (hl : s.size ≤ 140737488355328) : Calls Tryz.prog 36 #[.string s] w fun r w' => r = .returned (.string s) ∧ Below w.heap.size w w' := by
  have HC := hidK (Tryz.stringslite_Clone s w (by omega))
  clear hl
  go_enter Tryz.func36, Tryz.ntmps36
  go_wp2_with fail
  refine HC.out.mono ?_
  rintro e w1 ⟨rfl, hb⟩
  have HB := hidK hb
  clear hb
  go_wp2_with fail
  go_ret
  exact ⟨rfl, HB.out⟩
end Go.Proofs.YtbonnjilbocldaaGreatDoor

namespace Go.Proofs.YtbonnjilbocldaaGreatDoor
open Go.RowKit
set_option linter.unusedVariables false
set_option maxRecDepth 100000

def bindV (t : ByteArray) (c m : Int) (r : Bool) (l : ByteArray) : Value := .agg #[.string t, .int .i64 c, .int .i64 m, .bool r, .string l]
theorem infoBinding : (Tryz.prog.info? 39).map (·.size) = some 5 := by kernel_rfl
theorem five_set {W : World} {g : Nat} {T : TypeId} {c0 c1 c2 c3 c4 : Value} (h : W.heap[g]? = some (.cells #[c0, c1, c2, c3, c4] T (0, 0))) (v0 v1 v2 v3 v4 : Value) :
    (((((W.setCell ⟨g, 0, none⟩ v0).setCell ⟨g, 1, none⟩ v1).setCell ⟨g, 2, none⟩ v2).setCell ⟨g, 3, none⟩ v3).setCell ⟨g, 4, none⟩ v4).heap[g]? = some (.cells #[v0, v1, v2, v3, v4] T (0, 0)) :=
  put_at (put_at (put_at (put_at (put_at h 0 v0) 1 v1) 2 v2) 3 v3) 4 v4
theorem below_step2 {w X Y : World} {B : Nat} (h : Below w.heap.size w X) (k : Below B X Y) (hb : w.heap.size ≤ B) : Below w.heap.size w Y :=
  ⟨k.os.trans h.os, k.tape.trans h.tape, k.output.trans h.output, Nat.le_trans h.size k.size, fun i hi => (k.block i (Nat.lt_of_lt_of_le hi hb)).trans (h.block i hi)⟩
set_option maxHeartbeats 8000000 in
theorem told_any (t l : ByteArray) (c m : Int) (r : Bool) (w : World) (ht : t.size ≤ 140737488355328) (hl : l.size ≤ 140737488355328) : Calls Tryz.prog 37 #[.agg #[.string t, .int .i64 c, .int .i64 m], .agg #[.string l, .bool r]] w fun e w' => e = .returned (bindV t c m r l) ∧ Below w.heap.size w w' := by
  obtain ⟨W1, hW1⟩ : ∃ W, w.alloc (.cells #[.string t, .int .i64 c, .int .i64 m] 76) = W := ⟨_, rfl⟩
  obtain ⟨W2, hW2⟩ : ∃ W, W1.alloc (.cells #[.string l, .bool r] 78) = W := ⟨_, rfl⟩
  obtain ⟨W3, hW3⟩ : ∃ W, W2.alloc (.cells #[.string ⟨#[]⟩, .int .i64 0, .int .i64 0, .bool false, .string ⟨#[]⟩] 39) = W := ⟨_, rfl⟩
  obtain ⟨Q1, hQ1⟩ : ∃ Q, w.heap.size = Q := ⟨_, rfl⟩
  obtain ⟨Q2, hQ2⟩ : ∃ Q, W1.heap.size = Q := ⟨_, rfl⟩
  obtain ⟨Q3, hQ3⟩ : ∃ Q, W2.heap.size = Q := ⟨_, rfl⟩
  have s1 : W1.heap.size = w.heap.size + 1 := by rw [← hW1]; simp
  have s2 : W2.heap.size = W1.heap.size + 1 := by rw [← hW2]; simp
  have s3 : W3.heap.size = W2.heap.size + 1 := by rw [← hW3]; simp
  have a1 : W1.heap[Q1]? = some (.cells #[.string t, .int .i64 c, .int .i64 m] 76 (0, 0)) := by rw [← hW1, ← hQ1]; exact heap_alloc_new w _
  have a2 : W2.heap[Q2]? = some (.cells #[.string l, .bool r] 78 (0, 0)) := by rw [← hW2, ← hQ2]; exact heap_alloc_new W1 _
  have a3 : W3.heap[Q3]? = some (.cells #[.string ⟨#[]⟩, .int .i64 0, .int .i64 0, .bool false, .string ⟨#[]⟩] 39 (0, 0)) := by rw [← hW3, ← hQ3]; exact heap_alloc_new W2 _
  have b1 : W3.heap[Q1]? = some (.cells #[.string t, .int .i64 c, .int .i64 m] 76 (0, 0)) := by rw [← hW3]; refine alloc_at ?_ _; rw [← hW2]; exact alloc_at a1 _
  have b2 : W3.heap[Q2]? = some (.cells #[.string l, .bool r] 78 (0, 0)) := by rw [← hW3]; exact alloc_at a2 _
  have hw3 : Below w.heap.size w W3 := by
    rw [← hW3, ← hW2, ← hW1]
    exact (((Below.refl _ _).alloc (Nat.le_refl _) _).alloc (by simp) _).alloc (by simp; omega) _
  have HSx : Hid (∀ Y, Below Q3 W3 Y → Y.cell? ⟨Q1, 0, none⟩ = some (.string t) ∧ Y.cell? ⟨Q1, 1, none⟩ = some (.int .i64 c) ∧ Y.cell? ⟨Q1, 2, none⟩ = some (.int .i64 m) ∧ Y.cell? ⟨Q2, 0, none⟩ = some (.string l) ∧ Y.cell? ⟨Q2, 1, none⟩ = some (.bool r)) := fun Y hY => by
    have c1 := (hY.block Q1 (by omega)).trans b1
    have c2 := (hY.block Q2 (by omega)).trans b2
    exact ⟨cell_at c1 0, cell_at c1 1, cell_at c1 2, cell_at c2 0, cell_at c2 1⟩
  have HC1 : Hid (∀ Y, Calls Tryz.prog 36 #[.string t] Y fun r w' => r = .returned (.string t) ∧ Below Y.heap.size Y w') := fun Y => clone_any t Y ht
  have HC2 : Hid (∀ Y, Calls Tryz.prog 36 #[.string l] Y fun r w' => r = .returned (.string l) ∧ Below Y.heap.size Y w') := fun Y => clone_any l Y hl
  have HBx := hidK (Below.refl Q3 W3)
  have HAx := hidK a3
  have HW := hidK (And.intro hw3 (And.intro hQ1 (And.intro hQ2 (And.intro hQ3 (And.intro s1 (And.intro s2 s3))))))
  clear s1 s2 s3 a1 a2 a3 b1 b2 hw3 ht hl
  go_enter Tryz.func37, Tryz.ntmps37
  go_wp2_with fail
  refine wp_region_held_drew (S := (fun X => X.cell? ⟨Q1, 0, none⟩ = some (.string t) ∧ X.cell? ⟨Q1, 1, none⟩ = some (.int .i64 c) ∧ X.cell? ⟨Q1, 2, none⟩ = some (.int .i64 m) ∧ X.cell? ⟨Q2, 0, none⟩ = some (.string l) ∧ X.cell? ⟨Q2, 1, none⟩ = some (.bool r))) (by kernel_rfl) ?sP (fun hHeld => ?_)
  case sP => ((try dsimp only); exact HSx.out _ (by first | exact HBx.out | exact HBx.out.drew | exact (((((HBx.out.setCell (Nat.le_refl _) _).setCell (Nat.le_refl _) _).setCell (Nat.le_refl _) _).setCell (Nat.le_refl _) _).setCell (Nat.le_refl _) _)))
  have HBn := hidK HBx.out.drew
  clear HBx
  have HBx := hidK HBn.out
  clear HBn
  have HAn : Hid (W3.drew.heap[Q3]? = some (.cells #[.string ⟨#[]⟩, .int .i64 0, .int .i64 0, .bool false, .string ⟨#[]⟩] 39 (0, 0))) := HAx.out
  clear HAx
  have HAx := hidK HAn.out
  clear HAn
  refine wpAnyH_take (i := 0) (oi := { dst := some 5, op := Op.fieldAddr 76 (Operand.tmp 2) 0, type := 0, pos := "binds.go:86", after := #[], guard := none }) (v := ?vP0n1) rfl (by kernel_rfl) (by kernel_rfl) (by kernel_rfl) (fun _ _ _ h => h) (Or.inl ⟨by rfl, ?yP0n1⟩) (by assumption) ?rP0n1
  case yP0n1 => (intro w hSw; (try dsimp only at hSw); first | (go_simp; done) | (go_simp; with_reducible rfl))
  try simp only [Act.put, List.setIfInBounds_toArray, List.set_cons_zero, List.set_cons_succ]
  refine wpAnyH_take (i := 1) (oi := { dst := some 6, op := Op.load 9 (Operand.tmp 5), type := 9, pos := "binds.go:86", after := #[{ on := 0, ground := Ground.data }], guard := none }) (v := ?vP1n2) rfl (by kernel_rfl) (by kernel_rfl) (by kernel_rfl) (fun _ _ _ h => h) (Or.inl ⟨by rfl, ?yP1n2⟩) (by assumption) ?rP1n2
  case yP1n2 => (intro w hSw; (try dsimp only at hSw); first | (go_simp; done) | (go_simp; with_reducible rfl))
  try simp only [Act.put, List.setIfInBounds_toArray, List.set_cons_zero, List.set_cons_succ]
  refine wpAnyH_take (i := 3) (oi := { dst := some 8, op := Op.fieldAddr 76 (Operand.tmp 2) 1, type := 0, pos := "binds.go:86", after := #[], guard := none }) (v := ?vP3n3) rfl (by kernel_rfl) (by kernel_rfl) (by kernel_rfl) (fun _ _ _ h => h) (Or.inl ⟨by rfl, ?yP3n3⟩) (by assumption) ?rP3n3
  case yP3n3 => (intro w hSw; (try dsimp only at hSw); first | (go_simp; done) | (go_simp; with_reducible rfl))
  try simp only [Act.put, List.setIfInBounds_toArray, List.set_cons_zero, List.set_cons_succ]
  refine wpAnyH_take (i := 4) (oi := { dst := some 9, op := Op.load 23 (Operand.tmp 8), type := 23, pos := "binds.go:86", after := #[{ on := 3, ground := Ground.data }], guard := none }) (v := ?vP4n4) rfl (by kernel_rfl) (by kernel_rfl) (by kernel_rfl) (fun _ _ _ h => h) (Or.inl ⟨by rfl, ?yP4n4⟩) (by assumption) ?rP4n4
  case yP4n4 => (intro w hSw; (try dsimp only at hSw); first | (go_simp; done) | (go_simp; with_reducible rfl))
  try simp only [Act.put, List.setIfInBounds_toArray, List.set_cons_zero, List.set_cons_succ]
  refine wpAnyH_take (i := 5) (oi := { dst := some 10, op := Op.fieldAddr 78 (Operand.tmp 3) 1, type := 0, pos := "binds.go:86", after := #[], guard := none }) (v := ?vP5n5) rfl (by kernel_rfl) (by kernel_rfl) (by kernel_rfl) (fun _ _ _ h => h) (Or.inl ⟨by rfl, ?yP5n5⟩) (by assumption) ?rP5n5
  case yP5n5 => (intro w hSw; (try dsimp only at hSw); first | (go_simp; done) | (go_simp; with_reducible rfl))
  try simp only [Act.put, List.setIfInBounds_toArray, List.set_cons_zero, List.set_cons_succ]
  refine wpAnyH_take (i := 6) (oi := { dst := some 11, op := Op.load 4 (Operand.tmp 10), type := 4, pos := "binds.go:86", after := #[{ on := 5, ground := Ground.data }], guard := none }) (v := ?vP6n6) rfl (by kernel_rfl) (by kernel_rfl) (by kernel_rfl) (fun _ _ _ h => h) (Or.inl ⟨by rfl, ?yP6n6⟩) (by assumption) ?rP6n6
  case yP6n6 => (intro w hSw; (try dsimp only at hSw); first | (go_simp; done) | (go_simp; with_reducible rfl))
  try simp only [Act.put, List.setIfInBounds_toArray, List.set_cons_zero, List.set_cons_succ]
  refine wpAnyH_take (i := 7) (oi := { dst := some 12, op := Op.fieldAddr 78 (Operand.tmp 3) 0, type := 0, pos := "binds.go:86", after := #[], guard := none }) (v := ?vP7n7) rfl (by kernel_rfl) (by kernel_rfl) (by kernel_rfl) (fun _ _ _ h => h) (Or.inl ⟨by rfl, ?yP7n7⟩) (by assumption) ?rP7n7
  case yP7n7 => (intro w hSw; (try dsimp only at hSw); first | (go_simp; done) | (go_simp; with_reducible rfl))
  try simp only [Act.put, List.setIfInBounds_toArray, List.set_cons_zero, List.set_cons_succ]
  refine wpAnyH_take (i := 8) (oi := { dst := some 13, op := Op.load 9 (Operand.tmp 12), type := 9, pos := "binds.go:86", after := #[{ on := 7, ground := Ground.data }], guard := none }) (v := ?vP8n8) rfl (by kernel_rfl) (by kernel_rfl) (by kernel_rfl) (fun _ _ _ h => h) (Or.inl ⟨by rfl, ?yP8n8⟩) (by assumption) ?rP8n8
  case yP8n8 => (intro w hSw; (try dsimp only at hSw); first | (go_simp; done) | (go_simp; with_reducible rfl))
  try simp only [Act.put, List.setIfInBounds_toArray, List.set_cons_zero, List.set_cons_succ]
  refine wpAnyH_ready (rs := [2]) (by kernel_rfl) (by simp) (AllReadyH.cons (o := { dst := some 7, op := Op.call { callee := Callee.value (Operand.func 36), args := #[Operand.tmp 6], argTypes := #[9] }, type := 9, pos := "binds.go:87", after := #[{ on := 1, ground := Ground.data }], guard := none }) rfl (fun K hK => ?bPn9q0) AllReadyH.nil)
  go_simp
  go_wp2_with (refine (HC1.out _).mono ?_; rintro e Y1 ⟨rfl, hb⟩; have HBn := hidK (HBx.out.trans (hb.mono (by have h1 := HW.out.2.2.2.1; have h2 := HBx.out.size; have h3 := HW.out.2.2.2.2.2.2; simp at h2 ⊢; omega))); have HAn := hidK ((hb.block Q3 (lt_block HAx.out)).trans HAx.out); clear hb HBx HAx; have HBx := hidK HBn.out; have HAx := hidK HAn.out; clear HBn HAn)
  refine hK.out _ _ ?kPn9o2 (fun hHeld9 => ?_)
  case kPn9o2 => ((try dsimp only); exact HSx.out _ (by first | exact HBx.out | exact HBx.out.drew | exact (((((HBx.out.setCell (Nat.le_refl _) _).setCell (Nat.le_refl _) _).setCell (Nat.le_refl _) _).setCell (Nat.le_refl _) _).setCell (Nat.le_refl _) _)))
  clear hK K
  try simp only [Act.put, List.setIfInBounds_toArray, List.set_cons_zero, List.set_cons_succ]
  refine wpAnyH_ready (rs := [9]) (by kernel_rfl) (by simp) (AllReadyH.cons (o := { dst := some 14, op := Op.call { callee := Callee.value (Operand.func 36), args := #[Operand.tmp 13], argTypes := #[9] }, type := 9, pos := "binds.go:90", after := #[{ on := 8, ground := Ground.data }, { on := 2, ground := Ground.chain }], guard := none }) rfl (fun K hK => ?bPn10q0) AllReadyH.nil)
  go_simp
  go_wp2_with (refine (HC2.out _).mono ?_; rintro e Y2 ⟨rfl, hb⟩; have HBn := hidK (HBx.out.trans (hb.mono (by have h1 := HW.out.2.2.2.1; have h2 := HBx.out.size; have h3 := HW.out.2.2.2.2.2.2; simp at h2 ⊢; omega))); have HAn := hidK ((hb.block Q3 (lt_block HAx.out)).trans HAx.out); clear hb HBx HAx; have HBx := hidK HBn.out; have HAx := hidK HAn.out; clear HBn HAn; have x0 := cell_at HAx.out 0; have x1 := cell_at HAx.out 1; have x2 := cell_at HAx.out 2; have x3 := cell_at HAx.out 3; have x4 := cell_at HAx.out 4; have y0 := free_at HAx.out 0; have y1 := free_at HAx.out 1; have y2 := free_at HAx.out 2; have y3 := free_at HAx.out 3; have y4 := free_at HAx.out 4)
  refine hK.out _ _ ?kPn10o9 (fun hHeld10 => ?_)
  case kPn10o9 => ((try dsimp only); exact HSx.out _ (by first | exact HBx.out | exact HBx.out.drew | exact (((((HBx.out.setCell (Nat.le_refl _) _).setCell (Nat.le_refl _) _).setCell (Nat.le_refl _) _).setCell (Nat.le_refl _) _).setCell (Nat.le_refl _) _)))
  clear hK K
  try simp only [Act.put, List.setIfInBounds_toArray, List.set_cons_zero, List.set_cons_succ]
  refine wpAnyH_take (i := 10) (oi := { dst := some 15, op := Op.build 39 #[(0, Operand.tmp 7), (1, Operand.tmp 9), (2, Operand.tmp 11), (3, Operand.tmp 14)], type := 39, pos := "binds.go:86", after := #[{ on := 2, ground := Ground.data }, { on := 4, ground := Ground.data }, { on := 6, ground := Ground.data }, { on := 9, ground := Ground.data }], guard := none }) (v := ?vP10n11) rfl (by kernel_rfl) (by kernel_rfl) (by kernel_rfl) (fun _ _ _ h => h) (Or.inl ⟨by rfl, ?yP10n11⟩) (by assumption) ?rP10n11
  case yP10n11 => (intro w hSw; (try dsimp only at hSw); first | (go_simp; done) | (go_simp; with_reducible rfl))
  try simp only [Act.put, List.setIfInBounds_toArray, List.set_cons_zero, List.set_cons_succ]
  refine wpAnyH_ready (rs := [11]) (by kernel_rfl) (by simp) (AllReadyH.cons (o := { dst := none, op := Op.store 39 (Operand.tmp 4) (Operand.tmp 15), type := 0, pos := "binds.go:86", after := #[{ on := 10, ground := Ground.data }, { on := 9, ground := Ground.chain }, { on := 0, ground := Ground.phase }, { on := 1, ground := Ground.phase }, { on := 2, ground := Ground.phase }, { on := 3, ground := Ground.phase }, { on := 4, ground := Ground.phase }, { on := 5, ground := Ground.phase }, { on := 6, ground := Ground.phase }, { on := 7, ground := Ground.phase }, { on := 8, ground := Ground.phase }, { on := 9, ground := Ground.phase }, { on := 10, ground := Ground.phase }], guard := none }) rfl (fun K hK => ?bPn12q0) AllReadyH.nil)
  go_simp
  refine hK.out _ _ ?kPn12o11 (fun hHeld12 => ?_)
  case kPn12o11 => ((try dsimp only); exact HSx.out _ (by first | exact HBx.out | exact HBx.out.drew | exact (((((HBx.out.setCell (Nat.le_refl _) _).setCell (Nat.le_refl _) _).setCell (Nat.le_refl _) _).setCell (Nat.le_refl _) _).setCell (Nat.le_refl _) _)))
  clear hK K
  skip
  try simp only [Act.put, List.setIfInBounds_toArray, List.set_cons_zero, List.set_cons_succ]
  refine wpAnyH_done (by kernel_rfl) ?_ _
  go_wp2_with fail
  refine ret_cell1 rfl rfl (five_set HAx.out (.string t) (.int .i64 c) (.int .i64 m) (.bool r) (.string l)) Tryz.underlying39 rfl infoBinding rfl ⟨rfl, ?_⟩
  have hq := HW.out
  refine below_step2 hq.1 (((((HBx.out.setCell (Nat.le_refl _) _).setCell (Nat.le_refl _) _).setCell (Nat.le_refl _) _).setCell (Nat.le_refl _) _).setCell (Nat.le_refl _) _) (by omega)
end Go.Proofs.YtbonnjilbocldaaGreatDoor
