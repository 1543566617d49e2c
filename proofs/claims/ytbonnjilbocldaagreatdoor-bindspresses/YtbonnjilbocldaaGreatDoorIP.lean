/-
  Binds: Unbind.
  Names and words: what octal.IsName and octal.IsWord answer, for every input.
  Binds: Bind.
-/
import Derived.Test.YtbonnjilbocldaaGreatDoorHG
import Derived.Test.YtbonnjilbocldaaGreatDoorProg
import Derived.Test.YtbonnjilbocldaaGreatDoorHA
import Derived.Test.YtbonnjilbocldaaGreatDoorShelf
import Derived.WalkKit
namespace Go.Proofs.YtbonnjilbocldaaGreatDoor
open Go.RowKit
set_option linter.unusedVariables false
set_option maxRecDepth 100000

theorem hold4 {w Y w5 : World} {d b n Q3 : Nat} {D : DataW Unit} {t : ByteArray} {c m : Int} (h : Tb w d b n D) (hy : Below w.heap.size w Y) (hg : Y.grownBy w5 (some b)) (hq : w.heap.size ≤ Q3 ∧ Y.heap[Q3]? = some (.cells #[.string t, .int .i64 c, .int .i64 m] 76 (0, 0))) :
    w5.cell? ⟨d, 0, none⟩ = some (.map (some b)) ∧ w5.cell? ⟨Q3, 0, none⟩ = some (.string t) ∧ w5.cell? ⟨Q3, 1, none⟩ = some (.int .i64 c) ∧ w5.cell? ⟨Q3, 2, none⟩ = some (.int .i64 m) := by
  have hlt := h.lt
  have hsz := hy.size
  have e1 : w5.heap[d]? = some (.cells #[.map (some b)] 66 (0, 0)) := by
    rw [hg.block d (by omega) (fun e => h.ne (Option.some.inj e)), hy.block d hlt.1]
    exact h.blk
  have e2 : w5.heap[Q3]? = some (.cells #[.string t, .int .i64 c, .int .i64 m] 76 (0, 0)) := by
    rw [hg.block Q3 (lt_block hq.2) (fun e => by have := Option.some.inj e; omega)]
    exact hq.2
  exact ⟨cell_at e1 0, cell_at e2 0, cell_at e2 1, cell_at e2 2⟩
set_option maxHeartbeats 8000000 in
theorem unbind_any {w : World} {d b n : Nat} {D : DataW Unit} (h : Tb w d b n D) (t : ByteArray) (c m : Int) (ht : t.size ≤ 140737488355328) (hc : (Lit.int .i64 c).wf = true) (hm : (Lit.int .i64 m).wf = true) :
    Calls Tryz.prog 13 #[.pointer (some ⟨d, 0, none⟩), .string t, .agg #[.int .i64 c, .int .i64 m]] w fun e w' => unbP (Maps.has D (slotK t.data.toList c m)) w d b n D (slotK t.data.toList c m) e w' := by
  obtain ⟨s, r, hat, hlk⟩ := h.look ht hc hm
  have hkey : keyOf Tryz.prog 76 (.agg #[.string t, .int .i64 c, .int .i64 m]) = some (slotK t.data.toList c m) := slot_key (t := t) (by unfold maxLen; omega) hc hm
  obtain ⟨kl, hkl⟩ : ∃ kl, slotK t.data.toList c m = kl := ⟨_, rfl⟩
  rw [hkl] at hkey hlk hat ⊢
  obtain ⟨has, hhas⟩ : ∃ has, Maps.has D kl = has := ⟨_, rfl⟩
  rw [hhas] at hlk ⊢
  have HK := hidK hkey
  have HTb := hidK h
  obtain ⟨W1, hW1⟩ : ∃ W, w.alloc (.cells #[.int .i64 c, .int .i64 m] 23) = W := ⟨_, rfl⟩
  obtain ⟨W3, hW3⟩ : ∃ W, W1.alloc (.cells #[.string t, .int .i64 c, .int .i64 m] 76) = W := ⟨_, rfl⟩
  obtain ⟨Q1, hQ1⟩ : ∃ Q, w.heap.size = Q := ⟨_, rfl⟩
  obtain ⟨Q3, hQ3⟩ : ∃ Q, W1.heap.size = Q := ⟨_, rfl⟩
  have b1 : Below w.heap.size w W1 := by rw [← hW1]; exact (Below.refl _ _).alloc (Nat.le_refl _) _
  have b3 : Below W1.heap.size W1 W3 := by rw [← hW3]; exact (Below.refl _ _).alloc (Nat.le_refl _) _
  have a1 : W1.heap[Q1]? = some (.cells #[.int .i64 c, .int .i64 m] 23 (0, 0)) := by rw [← hW1, ← hQ1]; exact heap_alloc_new w _
  have a3 : W3.heap[Q3]? = some (.cells #[.string t, .int .i64 c, .int .i64 m] 76 (0, 0)) := by rw [← hW3, ← hQ3]; exact heap_alloc_new W1 _
  have hw3 := below_step b1 b3
  have c1 : W1.cell? ⟨Q1, 0, none⟩ = some (.int .i64 c) := cell_at a1 0
  have c2 : W1.cell? ⟨Q1, 1, none⟩ = some (.int .i64 m) := cell_at a1 1
  have HSx : Hid (∀ Y, Below W3.heap.size W3 Y → Y.cell? ⟨d, 0, none⟩ = some (.map (some b)) ∧ Y.cell? ⟨Q3, 0, none⟩ = some (.string t) ∧ Y.cell? ⟨Q3, 1, none⟩ = some (.int .i64 c) ∧ Y.cell? ⟨Q3, 2, none⟩ = some (.int .i64 m) ∧ (Instr.lookup 64 (.map (some b)) (.agg #[.string t, .int .i64 c, .int .i64 m]) true).run Tryz.prog Y = .ok (.tuple #[.agg #[.string s, .bool r], .bool has]) Y) := fun Y hY => by
    have hy := below_step hw3 hY
    have e1 := (hy.block d h.lt.1).trans h.blk
    have e2 := (hY.block Q3 (lt_block a3)).trans a3
    exact ⟨cell_at e1 0, cell_at e2 0, cell_at e2 1, cell_at e2 2, hlk Y (hy.block b h.lt.2)⟩
  have HBx := hidK (Below.refl W3.heap.size W3)
  have HA3 := hidK (And.intro (by have := b1.size; omega : w.heap.size ≤ Q3) a3)
  have HW := hidK (And.intro hw3 hhas)
  clear hlk hat hhas b1 b3 a1 a3 hw3 ht hc hm h hkey hkl
  go_enter Tryz.func13, Tryz.ntmps13
  go_wp2_with fail
  refine wp_region_held_drew (S := (fun X => X.cell? ⟨d, 0, none⟩ = some (.map (some b)) ∧ X.cell? ⟨Q3, 0, none⟩ = some (.string t) ∧ X.cell? ⟨Q3, 1, none⟩ = some (.int .i64 c) ∧ X.cell? ⟨Q3, 2, none⟩ = some (.int .i64 m) ∧ (Instr.lookup 64 (.map (some b)) (.agg #[.string t, .int .i64 c, .int .i64 m]) true).run Tryz.prog X = .ok (.tuple #[.agg #[.string s, .bool r], .bool has]) X)) (by kernel_rfl) ?sP (fun hHeld => ?_)
  case sP => ((try dsimp only); exact HSx.out _ (by first | exact HBx.out | exact HBx.out.drew | exact HBx.out.alloc HBx.out.size _ | exact (HBx.out.setCell HBx.out.size _).setCell HBx.out.size _))
  have HBn := hidK HBx.out.drew
  clear HBx
  have HBx := hidK HBn.out
  clear HBn
  refine wpAnyH_take (i := 0) (oi := { dst := some 14, op := Op.move (Operand.tmp 0), type := 29, pos := "binds.go:67", after := #[], guard := none }) (v := ?vP0n1) rfl (by kernel_rfl) (by kernel_rfl) (by kernel_rfl) (fun _ _ _ h => h) (Or.inl ⟨by rfl, ?yP0n1⟩) (by assumption) ?rP0n1
  case yP0n1 => (intro w hSw; (try dsimp only at hSw); first | (go_simp; done) | (go_simp; with_reducible rfl))
  try simp only [Act.put, List.setIfInBounds_toArray, List.set_cons_zero, List.set_cons_succ]
  refine wpAnyH_take (i := 1) (oi := { dst := some 15, op := Op.nilCheck (Operand.tmp 14), type := 0, pos := "binds.go:67", after := #[{ on := 0, ground := Ground.data }], guard := none }) (v := ?vP1n2) rfl (by kernel_rfl) (by kernel_rfl) (by kernel_rfl) (fun _ _ _ h => h) (Or.inl ⟨by rfl, ?yP1n2⟩) (by assumption) ?rP1n2
  case yP1n2 => (intro w hSw; (try dsimp only at hSw); first | (go_simp; done) | (go_simp; with_reducible rfl))
  try simp only [Act.put, List.setIfInBounds_toArray, List.set_cons_zero, List.set_cons_succ]
  refine wpAnyH_take (i := 2) (oi := { dst := some 16, op := Op.fieldAddr 66 (Operand.tmp 15) 0, type := 0, pos := "binds.go:67", after := #[{ on := 1, ground := Ground.data }], guard := none }) (v := ?vP2n3) rfl (by kernel_rfl) (by kernel_rfl) (by kernel_rfl) (fun _ _ _ h => h) (Or.inl ⟨by rfl, ?yP2n3⟩) (by assumption) ?rP2n3
  case yP2n3 => (intro w hSw; (try dsimp only at hSw); first | (go_simp; done) | (go_simp; with_reducible rfl))
  try simp only [Act.put, List.setIfInBounds_toArray, List.set_cons_zero, List.set_cons_succ]
  refine wpAnyH_take (i := 3) (oi := { dst := some 17, op := Op.load 64 (Operand.tmp 16), type := 64, pos := "binds.go:67", after := #[{ on := 2, ground := Ground.data }], guard := none }) (v := ?vP3n4) rfl (by kernel_rfl) (by kernel_rfl) (by kernel_rfl) (fun _ _ _ h => h) (Or.inl ⟨by rfl, ?yP3n4⟩) (by assumption) ?rP3n4
  case yP3n4 => (intro w hSw; (try dsimp only at hSw); first | (go_simp; done) | (go_simp; with_reducible rfl))
  try simp only [Act.put, List.setIfInBounds_toArray, List.set_cons_zero, List.set_cons_succ]
  refine wpAnyH_take (i := 4) (oi := { dst := some 18, op := Op.load 76 (Operand.tmp 7), type := 76, pos := "binds.go:67", after := #[], guard := none }) (v := ?vP4n5) rfl (by kernel_rfl) (by kernel_rfl) (by kernel_rfl) (fun _ _ _ h => h) (Or.inl ⟨by rfl, ?yP4n5⟩) (by assumption) ?rP4n5
  case yP4n5 => (intro w hSw; (try dsimp only at hSw); first | (go_simp; done) | (go_simp; with_reducible rfl))
  try simp only [Act.put, List.setIfInBounds_toArray, List.set_cons_zero, List.set_cons_succ]
  refine wpAnyH_take (i := 5) (oi := { dst := some 19, op := Op.lookup 64 (Operand.tmp 17) (Operand.tmp 18) true, type := 79, pos := "binds.go:67", after := #[{ on := 3, ground := Ground.data }, { on := 4, ground := Ground.data }], guard := none }) (v := ?vP5n6) rfl (by kernel_rfl) (by kernel_rfl) (by kernel_rfl) (fun _ _ _ h => h) (Or.inl ⟨by rfl, ?yP5n6⟩) (by assumption) ?rP5n6
  case yP5n6 => (intro w hSw; (try dsimp only at hSw); first | (go_simp; done) | (go_simp; with_reducible rfl))
  try simp only [Act.put, List.setIfInBounds_toArray, List.set_cons_zero, List.set_cons_succ]
  refine wpAnyH_take (i := 6) (oi := { dst := some 13, op := Op.move (Operand.tmp 19), type := 79, pos := "binds.go:67", after := #[{ on := 5, ground := Ground.data }], guard := none }) (v := ?vP6n7) rfl (by kernel_rfl) (by kernel_rfl) (by kernel_rfl) (fun _ _ _ h => h) (Or.inl ⟨by rfl, ?yP6n7⟩) (by assumption) ?rP6n7
  case yP6n7 => (intro w hSw; (try dsimp only at hSw); first | (go_simp; done) | (go_simp; with_reducible rfl))
  try simp only [Act.put, List.setIfInBounds_toArray, List.set_cons_zero, List.set_cons_succ]
  refine wpAnyH_take (i := 7) (oi := { dst := some 20, op := Op.extract (Operand.tmp 13) 0, type := 78, pos := "binds.go:67", after := #[{ on := 6, ground := Ground.data }], guard := none }) (v := ?vP7n8) rfl (by kernel_rfl) (by kernel_rfl) (by kernel_rfl) (fun _ _ _ h => h) (Or.inl ⟨by rfl, ?yP7n8⟩) (by assumption) ?rP7n8
  case yP7n8 => (intro w hSw; (try dsimp only at hSw); first | (go_simp; done) | (go_simp; with_reducible rfl))
  try simp only [Act.put, List.setIfInBounds_toArray, List.set_cons_zero, List.set_cons_succ]
  refine wpAnyH_take (i := 8) (oi := { dst := some 21, op := Op.extract (Operand.tmp 13) 1, type := 4, pos := "binds.go:67", after := #[{ on := 6, ground := Ground.data }, { on := 10, ground := Ground.gcOnly Departure.lateStores }], guard := none }) (v := ?vP8n9) rfl (by kernel_rfl) (by kernel_rfl) (by kernel_rfl) (fun _ _ _ h => h) (Or.inl ⟨by rfl, ?yP8n9⟩) (by assumption) ?rP8n9
  case yP8n9 => (intro w hSw; (try dsimp only at hSw); first | (go_simp; done) | (go_simp; with_reducible rfl))
  try simp only [Act.put, List.setIfInBounds_toArray, List.set_cons_zero, List.set_cons_succ]
  refine wpAnyH_ready (rs := [9]) (by kernel_rfl) (by simp) (AllReadyH.cons (o := { dst := some 8, op := Op.alloc 78, type := 0, pos := "binds.go:67", after := #[], guard := none }) rfl (fun K hK => ?bPn10q0) AllReadyH.nil)
  go_simp
  refine hK.out _ _ ?kPn10o9 (fun hHeld10 => ?_)
  case kPn10o9 => ((try dsimp only); exact HSx.out _ (by first | exact HBx.out | exact HBx.out.drew | exact HBx.out.alloc HBx.out.size _ | exact (HBx.out.setCell HBx.out.size _).setCell HBx.out.size _))
  clear hK K
  skip
  try simp only [Act.put, List.setIfInBounds_toArray, List.set_cons_zero, List.set_cons_succ]
  refine wpAnyH_ready (rs := [10]) (by kernel_rfl) (by simp) (AllReadyH.cons (o := { dst := none, op := Op.store 78 (Operand.tmp 8) (Operand.tmp 20), type := 0, pos := "binds.go:67", after := #[{ on := 9, ground := Ground.data }, { on := 7, ground := Ground.data }, { on := 0, ground := Ground.phase }, { on := 1, ground := Ground.phase }, { on := 2, ground := Ground.phase }, { on := 3, ground := Ground.phase }, { on := 4, ground := Ground.phase }, { on := 5, ground := Ground.phase }, { on := 6, ground := Ground.phase }, { on := 7, ground := Ground.phase }, { on := 8, ground := Ground.textOnly Departure.lateStores }, { on := 9, ground := Ground.phase }], guard := none }) rfl (fun K hK => ?bPn11q0) AllReadyH.nil)
  go_simp
  refine hK.out _ _ ?kPn11o10 (fun hHeld11 => ?_)
  case kPn11o10 => ((try dsimp only); exact HSx.out _ (by first | exact HBx.out | exact HBx.out.drew | exact HBx.out.alloc HBx.out.size _ | exact (HBx.out.setCell HBx.out.size _).setCell HBx.out.size _))
  clear hK K
  skip
  try simp only [Act.put, List.setIfInBounds_toArray, List.set_cons_zero, List.set_cons_succ]
  refine wpAnyH_take (i := 11) (oi := { dst := some 9, op := Op.assign (Operand.tmp 21), type := 4, pos := "binds.go:67", after := #[{ on := 8, ground := Ground.data }, { on := 10, ground := Ground.chain }, { on := 0, ground := Ground.phase }, { on := 1, ground := Ground.phase }, { on := 2, ground := Ground.phase }, { on := 3, ground := Ground.phase }, { on := 4, ground := Ground.phase }, { on := 5, ground := Ground.phase }, { on := 6, ground := Ground.phase }, { on := 7, ground := Ground.phase }, { on := 8, ground := Ground.phase }, { on := 9, ground := Ground.phase }, { on := 10, ground := Ground.phase }], guard := none }) (v := ?vP11n12) rfl (by kernel_rfl) (by kernel_rfl) (by kernel_rfl) (fun _ _ _ h => h) (Or.inl ⟨by rfl, ?yP11n12⟩) (by assumption) ?rP11n12
  case yP11n12 => (intro w hSw; (try dsimp only at hSw); first | (go_simp; done) | (go_simp; with_reducible rfl))
  try simp only [Act.put, List.setIfInBounds_toArray, List.set_cons_zero, List.set_cons_succ]
  refine wpAnyH_done (by kernel_rfl) ?_ _
  refine gen_exitB (fun Y => Below W3.heap.size W3 Y) ?g1 ?_
  case g1 => first | exact HBx.out.alloc HBx.out.size _ | exact ((HBx.out.alloc HBx.out.size _).setCell (Nat.le_refl _) _).setCell (Nat.le_refl _) _
  intro Y hy1
  have HY := hidK hy1
  clear hy1 HBx
  cases has with
  | false =>
    go_wp2_with fail
    go_ret
    exact ⟨rfl, below_step HW.out.1 HY.out⟩
  | true =>
    have hyw := below_step HW.out.1 HY.out
    have HTy := hidK (HTb.out.more hyw)
    have HBy := hidK hyw
    have HQ3 : Hid (w.heap.size ≤ Q3 ∧ Y.drew.heap[Q3]? = some (.cells #[.string t, .int .i64 c, .int .i64 m] 76 (0, 0))) := ⟨HA3.out.1, (HY.out.block Q3 (lt_block HA3.out.2)).trans HA3.out.2⟩
    clear hyw
    go_wp2_with fail
    refine wp_region_held_drew (S := (fun X => X.cell? ⟨d, 0, none⟩ = some (.map (some b)) ∧ X.cell? ⟨Q3, 0, none⟩ = some (.string t) ∧ X.cell? ⟨Q3, 1, none⟩ = some (.int .i64 c) ∧ X.cell? ⟨Q3, 2, none⟩ = some (.int .i64 m))) (by kernel_rfl) ?sR (fun hHeld => ?_)
    case sR => ((try dsimp only); first | exact ⟨(HSx.out _ HY.out.drew).1, (HSx.out _ HY.out.drew).2.1, (HSx.out _ HY.out.drew).2.2.1, (HSx.out _ HY.out.drew).2.2.2.1⟩ | exact HSz.out)
    refine wpAnyH_take (i := 0) (oi := { dst := some 24, op := Op.move (Operand.tmp 0), type := 29, pos := "binds.go:70", after := #[], guard := none }) (v := ?vR0n1) rfl (by kernel_rfl) (by kernel_rfl) (by kernel_rfl) (fun _ _ _ h => h) (Or.inl ⟨by rfl, ?yR0n1⟩) (by assumption) ?rR0n1
    case yR0n1 => (intro w hSw; (try dsimp only at hSw); first | (go_simp; done) | (go_simp; with_reducible rfl))
    try simp only [Act.put, List.setIfInBounds_toArray, List.set_cons_zero, List.set_cons_succ]
    refine wpAnyH_take (i := 1) (oi := { dst := some 25, op := Op.nilCheck (Operand.tmp 24), type := 0, pos := "binds.go:70", after := #[{ on := 0, ground := Ground.data }], guard := none }) (v := ?vR1n2) rfl (by kernel_rfl) (by kernel_rfl) (by kernel_rfl) (fun _ _ _ h => h) (Or.inl ⟨by rfl, ?yR1n2⟩) (by assumption) ?rR1n2
    case yR1n2 => (intro w hSw; (try dsimp only at hSw); first | (go_simp; done) | (go_simp; with_reducible rfl))
    try simp only [Act.put, List.setIfInBounds_toArray, List.set_cons_zero, List.set_cons_succ]
    refine wpAnyH_take (i := 2) (oi := { dst := some 26, op := Op.fieldAddr 66 (Operand.tmp 25) 0, type := 0, pos := "binds.go:70", after := #[{ on := 1, ground := Ground.data }], guard := none }) (v := ?vR2n3) rfl (by kernel_rfl) (by kernel_rfl) (by kernel_rfl) (fun _ _ _ h => h) (Or.inl ⟨by rfl, ?yR2n3⟩) (by assumption) ?rR2n3
    case yR2n3 => (intro w hSw; (try dsimp only at hSw); first | (go_simp; done) | (go_simp; with_reducible rfl))
    try simp only [Act.put, List.setIfInBounds_toArray, List.set_cons_zero, List.set_cons_succ]
    refine wpAnyH_take (i := 3) (oi := { dst := some 27, op := Op.load 64 (Operand.tmp 26), type := 64, pos := "binds.go:70", after := #[{ on := 2, ground := Ground.data }], guard := none }) (v := ?vR3n4) rfl (by kernel_rfl) (by kernel_rfl) (by kernel_rfl) (fun _ _ _ h => h) (Or.inl ⟨by rfl, ?yR3n4⟩) (by assumption) ?rR3n4
    case yR3n4 => (intro w hSw; (try dsimp only at hSw); first | (go_simp; done) | (go_simp; with_reducible rfl))
    try simp only [Act.put, List.setIfInBounds_toArray, List.set_cons_zero, List.set_cons_succ]
    refine wpAnyH_take (i := 4) (oi := { dst := some 28, op := Op.load 76 (Operand.tmp 7), type := 76, pos := "binds.go:70", after := #[], guard := none }) (v := ?vR4n5) rfl (by kernel_rfl) (by kernel_rfl) (by kernel_rfl) (fun _ _ _ h => h) (Or.inl ⟨by rfl, ?yR4n5⟩) (by assumption) ?rR4n5
    case yR4n5 => (intro w hSw; (try dsimp only at hSw); first | (go_simp; done) | (go_simp; with_reducible rfl))
    try simp only [Act.put, List.setIfInBounds_toArray, List.set_cons_zero, List.set_cons_succ]
    refine wpAnyH_ready (rs := [5]) (by kernel_rfl) (by simp) (AllReadyH.cons (o := { dst := none, op := Op.call { callee := Callee.builtin Builtin.delete, args := #[Operand.tmp 27, Operand.tmp 28], argTypes := #[64, 76] }, type := 0, pos := "binds.go:70", after := #[{ on := 3, ground := Ground.data }, { on := 4, ground := Ground.data }], guard := none }) rfl (fun K hK => ?bRn6q0) AllReadyH.nil)
    refine step_delete _ rfl (.tmp 27) (.tmp 28) rfl ?hm1 ?hx1 (own_same (w := Y) HTy.out.own rfl) HK.out ?_
    case hm1 => simp [Act.eval]
    case hx1 => simp [Act.eval]
    intro w5 ho5
    have HSz : Hid (w5.cell? ⟨d, 0, none⟩ = some (.map (some b)) ∧ w5.cell? ⟨Q3, 0, none⟩ = some (.string t) ∧ w5.cell? ⟨Q3, 1, none⟩ = some (.int .i64 c) ∧ w5.cell? ⟨Q3, 2, none⟩ = some (.int .i64 m)) := hold4 HTb.out HBy.out.drew ho5.out.2 HQ3.out
    refine hK.out _ _ ?kRn6o5 (fun hHeld6 => ?_)
    case kRn6o5 => ((try dsimp only); first | exact ⟨(HSx.out _ HY.out.drew).1, (HSx.out _ HY.out.drew).2.1, (HSx.out _ HY.out.drew).2.2.1, (HSx.out _ HY.out.drew).2.2.2.1⟩ | exact HSz.out)
    clear hK K
    try simp only [Act.put]
    refine wpAnyH_done (by kernel_rfl) ?_ _
    go_wp2_with fail
    go_ret
    exact ⟨rfl, HTb.out.turned HBy.out.drew ho5.out.1 ho5.out.2 (del_short HTb.out.short)⟩
end Go.Proofs.YtbonnjilbocldaaGreatDoor

namespace Go.Proofs.YtbonnjilbocldaaGreatDoor
open Go.RowKit
set_option linter.unusedVariables false

/-- A byte that a name may hold. -/
def nb (c : UInt8) : Bool := decide (32 ≤ c.toNat ∧ c.toNat ≤ 126 ∧ c.toNat ≠ 46 ∧ c.toNat ≠ 58)

/-- Whether a text holds a byte. -/
def has (s : ByteArray) (c : UInt8) : Bool := s.data.toList.any (· == c)

theorem nb_true {c : UInt8} (h : 32 ≤ c.toNat ∧ c.toNat ≤ 126 ∧ c.toNat ≠ 46 ∧ c.toNat ≠ 58) : nb c = true := decide_eq_true h
theorem nb_false {c : UInt8} (h : ¬ (32 ≤ c.toNat ∧ c.toNat ≤ 126 ∧ c.toNat ≠ 46 ∧ c.toNat ≠ 58)) : nb c = false := decide_eq_false h
theorem of_nb_true {c : UInt8} (h : nb c = true) : 32 ≤ c.toNat ∧ c.toNat ≤ 126 ∧ c.toNat ≠ 46 ∧ c.toNat ≠ 58 := of_decide_eq_true h
theorem of_nb_false {c : UInt8} (h : nb c = false) : ¬ (32 ≤ c.toNat ∧ c.toNat ≤ 126 ∧ c.toNat ≠ 46 ∧ c.toNat ≠ 58) := of_decide_eq_false h

theorem has_lt (s : ByteArray) (c : UInt8) : decide (firstIdx s c < 0) = !has s c := by
  have h := firstIdx_nonneg s c
  unfold has
  rw [← h]
  by_cases h0 : 0 ≤ firstIdx s c
  · rw [decide_eq_true h0, decide_eq_false (by omega)]; rfl
  · rw [decide_eq_false h0, decide_eq_true (by omega)]; rfl

theorem has_of_lt {s : ByteArray} {c : UInt8} (k : Nat) (h : k < s.size) (e : s[k] = c) : has s c = true := by
  unfold has
  rw [List.any_eq_true]
  refine ⟨s[k], ?_, by simp [e]⟩
  have : s[k] = s.data.toList[k]'(by simpa using h) := rfl
  rw [this]
  exact List.getElem_mem _

theorem has_false {s : ByteArray} {c : UInt8} (h : ∀ k (hk : k < s.size), s[k] ≠ c) : has s c = false := by
  unfold has
  rw [List.any_eq_false]
  intro x hx
  obtain ⟨k, hk, rfl⟩ := List.getElem_of_mem hx
  have := h k (by simpa using hk)
  simp only [beq_iff_eq]
  exact this


theorem inName_any (c : UInt8) (w : World) :
    Calls Tryz.prog 73 #[.int .u8 c.toNat] w fun e w' => e = .returned (.bool (nb c)) ∧ w' = w := by
  go_enter Tryz.func73, Tryz.ntmps73
  go_wp2
  all_goals go_ret
  all_goals refine ⟨ret_bool ?_, rfl⟩
  all_goals (unfold nb; rw [Bool.eq_iff_iff]; simp; omega)


theorem indexByte_any (s : ByteArray) (c : UInt8) (w : World) :
    Calls Tryz.prog 55 #[.string s, .int .u8 c.toNat] w fun e w' => e = .returned (.int .i64 (firstIdx s c)) ∧ w' = w := by
  have h := Tryz.strings_IndexByte s c.toNat w
  rw [show ((c.toNat : Int).toNat).toUInt8 = c by simp, ← Lib.firstIdx_eq] at h
  exact h

/-- The bytes that no name begins with. -/
def bars : ByteArray := ⟨#[32, 33, 36, 37, 43, 45, 61, 64, 94, 123]⟩

/-- Whether a text is a name. -/
def nameB (s : ByteArray) : Bool :=
  if h : 0 < s.size ∧ s.size ≤ 32 then
    s.data.toList.all nb && (!has bars s[0] && decide (s[s.size - 1].toNat ≠ 32))
  else false

theorem nall_false {s : ByteArray} (k : Nat) (h : k < s.size) (e : nb s[k] = false) : s.data.toList.all nb = false := by
  rw [List.all_eq_false]
  refine ⟨s[k], ?_, by simp [e]⟩
  have : s[k] = s.data.toList[k]'(by simpa using h) := rfl
  rw [this]
  exact List.getElem_mem _

theorem nall_true {s : ByteArray} (h : ∀ k (hk : k < s.size), nb s[k] = true) : s.data.toList.all nb = true := by
  rw [List.all_eq_true]
  intro x hx
  obtain ⟨k, hk, rfl⟩ := List.getElem_of_mem hx
  exact h k (by simpa using hk)

theorem nameB_out {s : ByteArray} (h : ¬ (0 < s.size ∧ s.size ≤ 32)) : nameB s = false := dif_neg h
theorem nameB_bad {s : ByteArray} (k : Nat) (hk : k < s.size) (e : nb s[k] = false) : nameB s = false := by
  unfold nameB
  split
  · rw [nall_false k hk e]; rfl
  · rfl
theorem nameB_in {s : ByteArray} (h0 : 0 < s.size) (h1 : s.size ≤ 32) (h : ∀ k (hk : k < s.size), nb s[k] = true) :
    nameB s = (!has bars s[0] && decide (s[s.size - 1].toNat ≠ 32)) := by
  unfold nameB
  rw [dif_pos ⟨h0, h1⟩, nall_true h]; rfl

theorem toList_neN {s : ByteArray} (h : ¬ s.size = 0) : ¬ s.toList = [] ∧ s.toList.isEmpty = false := by
  have hl : s.toList ≠ [] := by
    rw [Lib.toList_data]
    intro e
    apply h
    have := congrArg List.length e
    simpa using this
  exact ⟨hl, by simpa using hl⟩

theorem has_neg {s : ByteArray} {c : UInt8} (h : firstIdx s c < 0) : has s c = false := by
  have := has_lt s c
  rw [decide_eq_true h] at this
  simpa using this.symm
theorem has_pos {s : ByteArray} {c : UInt8} (h : 0 ≤ firstIdx s c) : has s c = true := by
  have := has_lt s c
  rw [decide_eq_false (by omega)] at this
  simpa using this.symm
theorem end_yes {s : ByteArray} {h : Bool} {c : UInt8} (e : nameB s = (!h && decide (c.toNat ≠ 32))) (hh : h = false) : ((c.toNat : Int) != 32) = nameB s := by
  rw [e, hh, Bool.eq_iff_iff]; simp; omega
theorem end_no {s : ByteArray} {h : Bool} {b : Bool} (e : nameB s = (!h && b)) (hh : h = true) : false = nameB s := by
  rw [e, hh]; rfl

set_option maxHeartbeats 400000 in
theorem isName_any (s : ByteArray) (w : World) (hs : s.size ≤ maxLen) :
    Calls Tryz.prog 54 #[.string s] w fun e w' => e = .returned (.bool (nameB s)) ∧ w' = w := by
  unfold maxLen at hs
  by_cases h0 : s.size = 0
  · obtain rfl : s = ByteArray.empty := ByteArray.size_eq_zero_iff.1 h0
    go_enter Tryz.func54, Tryz.ntmps54
    go_wp2
    all_goals go_ret
    all_goals exact ⟨rfl, rfl⟩
  · obtain ⟨hne, hne'⟩ := toList_neN h0
    have hp : 0 < s.size := by omega
    by_cases h32 : 32 < s.size
    · go_enter Tryz.func54, Tryz.ntmps54
      go_wp2
      all_goals go_ret
      all_goals exact ⟨ret_bool (nameB_out (by omega)).symm, rfl⟩
    · go_enter Tryz.func54, Tryz.ntmps54
      go_wp2
      go_loop [3] (fun i => ∃ k : Nat, k ≤ s.size ∧ i = .int .i64 k ∧ ∀ j (hj : j < s.size), j < k → nb s[j] = true) (fun i => s.size - (intOf i).toNat)
      case atStart => exact ⟨0, Nat.zero_le _, rfl, fun j _ h => by omega⟩
      case round =>
        obtain ⟨k, hk, rfl, hno⟩ := hrel
        have HN : Hid (∀ j (hj : j < s.size), j < k → nb s[j] = true) := hno
        clear hno
        by_cases hlt : k < s.size
        · by_cases hb : nb s[k] = true
          · go_wp2_with (go_at_call 73; refine (inName_any _ _).mono ?_; rintro e w' ⟨rfl, rfl⟩)
            go_round
            case rel =>
              refine ⟨k + 1, by omega, by go_num, fun j hj h => ?_⟩
              by_cases hjk : j = k
              · subst hjk; exact hb
              · exact HN.out j hj (by omega)
            case measure => simp [intOf]; omega
          · have hb' : nb s[k] = false := by simpa using hb
            clear hb
            go_wp2_with (go_at_call 73; refine (inName_any _ _).mono ?_; rintro e w' ⟨rfl, rfl⟩)
            go_ret
            exact ⟨ret_bool (nameB_bad k hlt hb').symm, rfl⟩
        · have HB : Hid (nameB s = (!has bars s[0] && decide (s[s.size - 1].toNat ≠ 32))) :=
            nameB_in hp (by omega) (fun j hj => HN.out j hj (by omega))
          go_wp2_with (go_at_call 55; refine (indexByte_any _ _ _).mono ?_; rintro e w' ⟨rfl, rfl⟩)
          all_goals go_ret
          · exact ⟨ret_bool (end_yes HB.out (has_neg ‹_›)), rfl⟩
          · exact ⟨ret_bool (end_no HB.out (has_pos ‹_›)), rfl⟩


theorem isWord_any (s : ByteArray) (w : World) (hs : s.size ≤ maxLen) :
    Calls Tryz.prog 34 #[.string s] w fun e w' => e = .returned (.bool (nameB s && !has s 32)) ∧ w' = w := by
  cases hn : nameB s
  all_goals
    go_enter Tryz.func34, Tryz.ntmps34
    go_wp2_with (first | (go_at_call 54; refine (isName_any _ _ hs).mono ?_; rintro e w' ⟨rfl, rfl⟩) | (go_at_call 55; refine (indexByte_any _ 32 _).mono ?_; rintro e w' ⟨rfl, rfl⟩))
    all_goals go_ret
  · exact ⟨rfl, rfl⟩
  · exact ⟨ret_bool (by rw [has_lt]; simp), rfl⟩

end Go.Proofs.YtbonnjilbocldaaGreatDoor

namespace Go.Proofs.YtbonnjilbocldaaGreatDoor
open Go.RowKit
set_option linter.unusedVariables false
set_option maxRecDepth 100000

def wordB (t : ByteArray) : Bool := nameB t && !has t 32
/-- What Bind tells and leaves. -/
def bndP (w : World) (d b n : Nat) (D : DataW Unit) (t : ByteArray) (c m : Int) (rp : Bool) (ln : ByteArray) (e : Ending) (w' : World) : Prop :=
  if wordB t = false then e = .returned (.int .i64 73) ∧ Below w.heap.size w w'
  else if validB c m = false then e = .returned (.int .i64 210) ∧ Below w.heap.size w w'
  else if 8192 < ln.size then e = .returned (.int .i64 2) ∧ Below w.heap.size w w'
  else if Maps.has D (slotK t.data.toList c m) = false ∧ 200 ≤ Maps.size D then e = .returned (.int .i64 3) ∧ Below w.heap.size w w'
  else e = .returned (.int .i64 0) ∧ Tn w w' d b (n + 1) (D.put (slotK t.data.toList c m) (meanD ln rp))
/-- The blocks that Bind lays. -/
structure Bl (w Y : World) (d b Q1 Q3 : Nat) (t : ByteArray) (c m : Int) (rp : Bool) (ln : ByteArray) : Prop where
  below : Below w.heap.size w Y
  q1 : Y.heap[Q1]? = some (.cells #[.string t, .int .i64 c, .int .i64 m, .bool rp, .string ln] 39 (0, 0))
  q3 : Y.heap[Q3]? = some (.cells #[.string t, .int .i64 c, .int .i64 m] 76 (0, 0))
  lo : w.heap.size ≤ Q1 ∧ w.heap.size ≤ Q3
theorem Bl.more {w Y Z : World} {d b Q1 Q3 : Nat} {t : ByteArray} {c m : Int} {rp : Bool} {ln : ByteArray} (h : Bl w Y d b Q1 Q3 t c m rp ln) (hb : Below Y.heap.size Y Z) : Bl w Z d b Q1 Q3 t c m rp ln :=
  ⟨below_step h.below hb, (hb.block Q1 (lt_block h.q1)).trans h.q1, (hb.block Q3 (lt_block h.q3)).trans h.q3, h.lo⟩
theorem Bl.put {w Y : World} {d b Q1 Q3 : Nat} {t : ByteArray} {c m : Int} {rp : Bool} {ln : ByteArray} (h : Bl w Y d b Q1 Q3 t c m rp ln) : Bl w (Y.setCell ⟨Q3, 0, none⟩ (.string t)) d b Q1 Q3 t c m rp ln :=
  ⟨h.below.setCell h.lo.2 _, put_other h.q1 (fun e => by have h1 := h.q1; rw [e, h.q3] at h1; cases h1) _ _, put_at h.q3 0 _, h.lo⟩
theorem hold6 {w Y w5 : World} {d b n Q1 Q3 : Nat} {D : DataW Unit} {t ln : ByteArray} {c m : Int} {rp : Bool} (h : Tb w d b n D) (hY : Bl w Y d b Q1 Q3 t c m rp ln) (hg : Y.grownBy w5 (some b)) :
    w5.cell? ⟨d, 0, none⟩ = some (.map (some b)) ∧ w5.cell? ⟨Q3, 0, none⟩ = some (.string t) ∧ w5.cell? ⟨Q3, 1, none⟩ = some (.int .i64 c) ∧ w5.cell? ⟨Q3, 2, none⟩ = some (.int .i64 m) ∧ w5.cell? ⟨Q1, 3, none⟩ = some (.bool rp) ∧ w5.cell? ⟨Q1, 4, none⟩ = some (.string ln) := by
  have hlt := h.lt
  have hsz := hY.below.size
  have hlo := hY.lo
  have e1 : w5.heap[d]? = some (.cells #[.map (some b)] 66 (0, 0)) := by
    rw [hg.block d (by omega) (fun e => h.ne (Option.some.inj e)), hY.below.block d hlt.1]
    exact h.blk
  have e2 := (hg.block Q3 (lt_block hY.q3) (fun e => by have := Option.some.inj e; omega)).trans hY.q3
  have e3 := (hg.block Q1 (lt_block hY.q1) (fun e => by have := Option.some.inj e; omega)).trans hY.q1
  exact ⟨cell_at e1 0, cell_at e2 0, cell_at e2 1, cell_at e2 2, cell_at e3 3, cell_at e3 4⟩
set_option maxHeartbeats 8000000 in
theorem bind_any {w : World} {d b n : Nat} {D : DataW Unit} (h : Tb w d b n D) (hn : n ≤ 1000000) (t ln : ByteArray) (c m : Int) (rp : Bool) (ht : t.size ≤ 140737488355328) (hln : ln.size ≤ 140737488355328) (hc : (Lit.int .i64 c).wf = true) (hm : (Lit.int .i64 m).wf = true) :
    Calls Tryz.prog 11 #[.pointer (some ⟨d, 0, none⟩), .agg #[.string t, .int .i64 c, .int .i64 m, .bool rp, .string ln]] w fun e w' => bndP w d b n D t c m rp ln e w' := by
  obtain ⟨s, r, hat, hlk⟩ := h.look ht hc hm
  have hkey : keyOf Tryz.prog 76 (.agg #[.string t, .int .i64 c, .int .i64 m]) = some (slotK t.data.toList c m) := slot_key (t := t) (by unfold maxLen; omega) hc hm
  have hkl0 : WideAt.IsKeyLit (slotK t.data.toList c m) := slotKeyed.key hkey
  obtain ⟨kl, hkl⟩ : ∃ kl, slotK t.data.toList c m = kl := ⟨_, rfl⟩
  have hpost : ∀ e w', bndP w d b n D t c m rp ln e w' ↔ (if wordB t = false then e = .returned (.int .i64 73) ∧ Below w.heap.size w w' else if validB c m = false then e = .returned (.int .i64 210) ∧ Below w.heap.size w w' else if 8192 < ln.size then e = .returned (.int .i64 2) ∧ Below w.heap.size w w' else if Maps.has D kl = false ∧ 200 ≤ Maps.size D then e = .returned (.int .i64 3) ∧ Below w.heap.size w w' else e = .returned (.int .i64 0) ∧ Tn w w' d b (n + 1) (D.put kl (meanD ln rp))) := fun e w' => by rw [← hkl]; exact Iff.rfl
  rw [hkl] at hkey hlk hat hkl0
  obtain ⟨has, hhas⟩ : ∃ has, Maps.has D kl = has := ⟨_, rfl⟩
  rw [hhas] at hlk
  have HK := hidK hkey
  have HKl := hidK hkl0
  have HTb := hidK h
  have HPo := hidK hpost
  obtain ⟨W1, hW1⟩ : ∃ W, w.alloc (.cells #[.string t, .int .i64 c, .int .i64 m, .bool rp, .string ln] 39) = W := ⟨_, rfl⟩
  obtain ⟨W3, hW3⟩ : ∃ W, W1.alloc (.cells #[.string t, .int .i64 c, .int .i64 m] 76) = W := ⟨_, rfl⟩
  obtain ⟨Q1, hQ1⟩ : ∃ Q, w.heap.size = Q := ⟨_, rfl⟩
  obtain ⟨Q3, hQ3⟩ : ∃ Q, W1.heap.size = Q := ⟨_, rfl⟩
  have b1 : Below w.heap.size w W1 := by rw [← hW1]; exact (Below.refl _ _).alloc (Nat.le_refl _) _
  have b3 : Below W1.heap.size W1 W3 := by rw [← hW3]; exact (Below.refl _ _).alloc (Nat.le_refl _) _
  have a1 : W1.heap[Q1]? = some (.cells #[.string t, .int .i64 c, .int .i64 m, .bool rp, .string ln] 39 (0, 0)) := by rw [← hW1, ← hQ1]; exact heap_alloc_new w _
  have a3 : W3.heap[Q3]? = some (.cells #[.string t, .int .i64 c, .int .i64 m] 76 (0, 0)) := by rw [← hW3, ← hQ3]; exact heap_alloc_new W1 _
  have hbl : Bl w W3 d b Q1 Q3 t c m rp ln := ⟨below_step b1 b3, (b3.block Q1 (lt_block a1)).trans a1, a3, by have := b1.size; omega⟩
  have c1 : W1.cell? ⟨Q1, 0, none⟩ = some (.string t) := cell_at a1 0
  have c2 : W1.cell? ⟨Q1, 1, none⟩ = some (.int .i64 c) := cell_at a1 1
  have c3 : W1.cell? ⟨Q1, 2, none⟩ = some (.int .i64 m) := cell_at a1 2
  have HSx : Hid (∀ Y, Below W3.heap.size W3 Y → Y.cell? ⟨d, 0, none⟩ = some (.map (some b)) ∧ Y.cell? ⟨Q3, 0, none⟩ = some (.string t) ∧ Y.cell? ⟨Q3, 1, none⟩ = some (.int .i64 c) ∧ Y.cell? ⟨Q3, 2, none⟩ = some (.int .i64 m) ∧ (Instr.lookup 64 (.map (some b)) (.agg #[.string t, .int .i64 c, .int .i64 m]) true).run Tryz.prog Y = .ok (.tuple #[.agg #[.string s, .bool r], .bool has]) Y) := fun Y hY => by
    have hy := below_step hbl.below hY
    have e1 := (hy.block d h.lt.1).trans h.blk
    have e2 := (hY.block Q3 (lt_block a3)).trans a3
    exact ⟨cell_at e1 0, cell_at e2 0, cell_at e2 1, cell_at e2 2, hlk Y (hy.block b h.lt.2)⟩
  have HBx := hidK (Below.refl W3.heap.size W3)
  have HBl := hidK hbl
  have HHa := hidK hhas
  obtain ⟨wv, hwv⟩ : ∃ wv, wordB t = wv := ⟨_, rfl⟩
  have HWo : Hid (∀ Y, Calls Tryz.prog 34 #[.string t] Y fun e w' => e = .returned (.bool wv) ∧ Y = w') := fun Y => (isWord_any t Y (by unfold maxLen; omega)).mono fun e w' ⟨h1, h2⟩ => ⟨by rw [h1, ← hwv]; rfl, h2.symm⟩
  obtain ⟨vv, hvv⟩ : ∃ vv, validB c m = vv := ⟨_, rfl⟩
  have HVa : Hid (∀ Y, Calls Tryz.prog 35 #[.agg #[.int .i64 c, .int .i64 m]] Y fun e w' => e = .returned (.bool vv) ∧ Below Y.heap.size Y w') := fun Y => by rw [← hvv]; exact valid_any c m Y
  obtain ⟨LN, hLN⟩ : ∃ LN, ln.size = LN := ⟨_, rfl⟩
  obtain ⟨SZ, hSZ⟩ : ∃ SZ, Maps.size D = SZ := ⟨_, rfl⟩
  have HLe : Hid (∀ Y ty, Below w.heap.size w Y → (Builtin.len_ #[64] ty #[.map (some b)]).run Tryz.prog Y = .ok (.int .i64 (SZ : Int)) Y) := fun Y ty hY => by
    rw [← hSZ]; exact (own_same h.own (hY.block b h.lt.2)).len underRows ty
  have HC1 : Hid (∀ Y, Calls Tryz.prog 36 #[.string t] Y fun r w' => r = .returned (.string t) ∧ Below Y.heap.size Y w') := fun Y => clone_any t Y ht
  have HC2 : Hid (∀ Y, Calls Tryz.prog 36 #[.string ln] Y fun r w' => r = .returned (.string ln) ∧ Below Y.heap.size Y w') := fun Y => clone_any ln Y hln
  have HNm : Hid (n < maxLen) := by show _ < _; unfold maxLen; omega
  have HCs : Hid (wordB t = wv ∧ validB c m = vv ∧ ln.size = LN ∧ Maps.size D = SZ) := ⟨hwv, hvv, hLN, hSZ⟩
  clear hlk hat hhas b1 b3 a1 a3 hbl ht hln hc hm h hkey hkl0 hkl hpost hwv hvv hSZ
  go_enter Tryz.func11, Tryz.ntmps11
  go_wp2_with fail
  refine wp_region_held_drew (S := (fun X => X.cell? ⟨d, 0, none⟩ = some (.map (some b)) ∧ X.cell? ⟨Q3, 0, none⟩ = some (.string t) ∧ X.cell? ⟨Q3, 1, none⟩ = some (.int .i64 c) ∧ X.cell? ⟨Q3, 2, none⟩ = some (.int .i64 m) ∧ (Instr.lookup 64 (.map (some b)) (.agg #[.string t, .int .i64 c, .int .i64 m]) true).run Tryz.prog X = .ok (.tuple #[.agg #[.string s, .bool r], .bool has]) X)) (by kernel_rfl) ?sP (fun hHeld => ?_)
  case sP => ((try dsimp only); exact HSx.out _ (by first | exact HBx.out | exact HBx.out.drew | exact HBx.out.alloc HBx.out.size _ | exact (HBx.out.setCell HBx.out.size _).setCell HBx.out.size _))
  have HBn := hidK HBx.out.drew
  clear HBx
  have HBx := hidK HBn.out
  clear HBn
  refine wpAnyH_take (i := 0) (oi := { dst := some 14, op := Op.move (Operand.tmp 0), type := 29, pos := "binds.go:48", after := #[], guard := none }) (v := ?vP0n1) rfl (by kernel_rfl) (by kernel_rfl) (by kernel_rfl) (fun _ _ _ h => h) (Or.inl ⟨by rfl, ?yP0n1⟩) (by assumption) ?rP0n1
  case yP0n1 => (intro w hSw; (try dsimp only at hSw); first | (go_simp; done) | (go_simp; with_reducible rfl))
  try simp only [Act.put, List.setIfInBounds_toArray, List.set_cons_zero, List.set_cons_succ]
  refine wpAnyH_take (i := 1) (oi := { dst := some 15, op := Op.nilCheck (Operand.tmp 14), type := 0, pos := "binds.go:48", after := #[{ on := 0, ground := Ground.data }], guard := none }) (v := ?vP1n2) rfl (by kernel_rfl) (by kernel_rfl) (by kernel_rfl) (fun _ _ _ h => h) (Or.inl ⟨by rfl, ?yP1n2⟩) (by assumption) ?rP1n2
  case yP1n2 => (intro w hSw; (try dsimp only at hSw); first | (go_simp; done) | (go_simp; with_reducible rfl))
  try simp only [Act.put, List.setIfInBounds_toArray, List.set_cons_zero, List.set_cons_succ]
  refine wpAnyH_take (i := 2) (oi := { dst := some 16, op := Op.fieldAddr 66 (Operand.tmp 15) 0, type := 0, pos := "binds.go:48", after := #[{ on := 1, ground := Ground.data }], guard := none }) (v := ?vP2n3) rfl (by kernel_rfl) (by kernel_rfl) (by kernel_rfl) (fun _ _ _ h => h) (Or.inl ⟨by rfl, ?yP2n3⟩) (by assumption) ?rP2n3
  case yP2n3 => (intro w hSw; (try dsimp only at hSw); first | (go_simp; done) | (go_simp; with_reducible rfl))
  try simp only [Act.put, List.setIfInBounds_toArray, List.set_cons_zero, List.set_cons_succ]
  refine wpAnyH_take (i := 3) (oi := { dst := some 17, op := Op.load 64 (Operand.tmp 16), type := 64, pos := "binds.go:48", after := #[{ on := 2, ground := Ground.data }], guard := none }) (v := ?vP3n4) rfl (by kernel_rfl) (by kernel_rfl) (by kernel_rfl) (fun _ _ _ h => h) (Or.inl ⟨by rfl, ?yP3n4⟩) (by assumption) ?rP3n4
  case yP3n4 => (intro w hSw; (try dsimp only at hSw); first | (go_simp; done) | (go_simp; with_reducible rfl))
  try simp only [Act.put, List.setIfInBounds_toArray, List.set_cons_zero, List.set_cons_succ]
  refine wpAnyH_take (i := 4) (oi := { dst := some 18, op := Op.load 76 (Operand.tmp 5), type := 76, pos := "binds.go:48", after := #[], guard := none }) (v := ?vP4n5) rfl (by kernel_rfl) (by kernel_rfl) (by kernel_rfl) (fun _ _ _ h => h) (Or.inl ⟨by rfl, ?yP4n5⟩) (by assumption) ?rP4n5
  case yP4n5 => (intro w hSw; (try dsimp only at hSw); first | (go_simp; done) | (go_simp; with_reducible rfl))
  try simp only [Act.put, List.setIfInBounds_toArray, List.set_cons_zero, List.set_cons_succ]
  refine wpAnyH_take (i := 5) (oi := { dst := some 19, op := Op.lookup 64 (Operand.tmp 17) (Operand.tmp 18) true, type := 79, pos := "binds.go:48", after := #[{ on := 3, ground := Ground.data }, { on := 4, ground := Ground.data }], guard := none }) (v := ?vP5n6) rfl (by kernel_rfl) (by kernel_rfl) (by kernel_rfl) (fun _ _ _ h => h) (Or.inl ⟨by rfl, ?yP5n6⟩) (by assumption) ?rP5n6
  case yP5n6 => (intro w hSw; (try dsimp only at hSw); first | (go_simp; done) | (go_simp; with_reducible rfl))
  try simp only [Act.put, List.setIfInBounds_toArray, List.set_cons_zero, List.set_cons_succ]
  refine wpAnyH_take (i := 6) (oi := { dst := some 13, op := Op.move (Operand.tmp 19), type := 79, pos := "binds.go:48", after := #[{ on := 5, ground := Ground.data }], guard := none }) (v := ?vP6n7) rfl (by kernel_rfl) (by kernel_rfl) (by kernel_rfl) (fun _ _ _ h => h) (Or.inl ⟨by rfl, ?yP6n7⟩) (by assumption) ?rP6n7
  case yP6n7 => (intro w hSw; (try dsimp only at hSw); first | (go_simp; done) | (go_simp; with_reducible rfl))
  try simp only [Act.put, List.setIfInBounds_toArray, List.set_cons_zero, List.set_cons_succ]
  refine wpAnyH_take (i := 7) (oi := { dst := some 20, op := Op.extract (Operand.tmp 13) 0, type := 78, pos := "binds.go:48", after := #[{ on := 6, ground := Ground.data }], guard := none }) (v := ?vP7n8) rfl (by kernel_rfl) (by kernel_rfl) (by kernel_rfl) (fun _ _ _ h => h) (Or.inl ⟨by rfl, ?yP7n8⟩) (by assumption) ?rP7n8
  case yP7n8 => (intro w hSw; (try dsimp only at hSw); first | (go_simp; done) | (go_simp; with_reducible rfl))
  try simp only [Act.put, List.setIfInBounds_toArray, List.set_cons_zero, List.set_cons_succ]
  refine wpAnyH_take (i := 8) (oi := { dst := some 21, op := Op.extract (Operand.tmp 13) 1, type := 4, pos := "binds.go:48", after := #[{ on := 6, ground := Ground.data }, { on := 10, ground := Ground.gcOnly Departure.lateStores }], guard := none }) (v := ?vP8n9) rfl (by kernel_rfl) (by kernel_rfl) (by kernel_rfl) (fun _ _ _ h => h) (Or.inl ⟨by rfl, ?yP8n9⟩) (by assumption) ?rP8n9
  case yP8n9 => (intro w hSw; (try dsimp only at hSw); first | (go_simp; done) | (go_simp; with_reducible rfl))
  try simp only [Act.put, List.setIfInBounds_toArray, List.set_cons_zero, List.set_cons_succ]
  refine wpAnyH_ready (rs := [9]) (by kernel_rfl) (by simp) (AllReadyH.cons (o := { dst := some 6, op := Op.alloc 78, type := 0, pos := "binds.go:48", after := #[], guard := none }) rfl (fun K hK => ?bPn10q0) AllReadyH.nil)
  go_simp
  refine hK.out _ _ ?kPn10o9 (fun hHeld10 => ?_)
  case kPn10o9 => ((try dsimp only); exact HSx.out _ (by first | exact HBx.out | exact HBx.out.drew | exact HBx.out.alloc HBx.out.size _ | exact (HBx.out.setCell HBx.out.size _).setCell HBx.out.size _))
  clear hK K
  skip
  try simp only [Act.put, List.setIfInBounds_toArray, List.set_cons_zero, List.set_cons_succ]
  refine wpAnyH_ready (rs := [10]) (by kernel_rfl) (by simp) (AllReadyH.cons (o := { dst := none, op := Op.store 78 (Operand.tmp 6) (Operand.tmp 20), type := 0, pos := "binds.go:48", after := #[{ on := 9, ground := Ground.data }, { on := 7, ground := Ground.data }, { on := 0, ground := Ground.phase }, { on := 1, ground := Ground.phase }, { on := 2, ground := Ground.phase }, { on := 3, ground := Ground.phase }, { on := 4, ground := Ground.phase }, { on := 5, ground := Ground.phase }, { on := 6, ground := Ground.phase }, { on := 7, ground := Ground.phase }, { on := 8, ground := Ground.textOnly Departure.lateStores }, { on := 9, ground := Ground.phase }], guard := none }) rfl (fun K hK => ?bPn11q0) AllReadyH.nil)
  go_simp
  refine hK.out _ _ ?kPn11o10 (fun hHeld11 => ?_)
  case kPn11o10 => ((try dsimp only); exact HSx.out _ (by first | exact HBx.out | exact HBx.out.drew | exact HBx.out.alloc HBx.out.size _ | exact (HBx.out.setCell HBx.out.size _).setCell HBx.out.size _))
  clear hK K
  skip
  try simp only [Act.put, List.setIfInBounds_toArray, List.set_cons_zero, List.set_cons_succ]
  refine wpAnyH_take (i := 11) (oi := { dst := some 7, op := Op.assign (Operand.tmp 21), type := 4, pos := "binds.go:48", after := #[{ on := 8, ground := Ground.data }, { on := 10, ground := Ground.chain }, { on := 0, ground := Ground.phase }, { on := 1, ground := Ground.phase }, { on := 2, ground := Ground.phase }, { on := 3, ground := Ground.phase }, { on := 4, ground := Ground.phase }, { on := 5, ground := Ground.phase }, { on := 6, ground := Ground.phase }, { on := 7, ground := Ground.phase }, { on := 8, ground := Ground.phase }, { on := 9, ground := Ground.phase }, { on := 10, ground := Ground.phase }], guard := none }) (v := ?vP11n12) rfl (by kernel_rfl) (by kernel_rfl) (by kernel_rfl) (fun _ _ _ h => h) (Or.inl ⟨by rfl, ?yP11n12⟩) (by assumption) ?rP11n12
  case yP11n12 => (intro w hSw; (try dsimp only at hSw); first | (go_simp; done) | (go_simp; with_reducible rfl))
  try simp only [Act.put, List.setIfInBounds_toArray, List.set_cons_zero, List.set_cons_succ]
  refine wpAnyH_done (by kernel_rfl) ?_ _
  refine gen_exitB (fun Y => Below W3.heap.size W3 Y) ?g1 ?_
  case g1 => first | exact HBx.out.alloc HBx.out.size _ | exact ((HBx.out.alloc HBx.out.size _).setCell (Nat.le_refl _) _).setCell (Nat.le_refl _) _
  intro Y hy1
  have HY := hidK (HBl.out.more hy1)
  clear hy1 HBx HBl HSx
  have y0 := cell_at HY.out.q1 0
  cases wv with
  | false =>
    go_wp2_with fail
    refine (HWo.out _).mono ?_
    rintro e Z ⟨rfl, rfl⟩
    go_wp2_with fail
    go_ret
    rw [HPo.out, if_pos HCs.out.1]
    exact ⟨rfl, HY.out.below⟩
  | true =>
    go_wp2_with fail
    refine (HWo.out _).mono ?_
    rintro e Z ⟨rfl, rfl⟩
    have y1 := cell_at HY.out.q1 1
    have y2 := cell_at HY.out.q1 2
    cases vv with
    | false =>
      go_wp2_with fail
      refine (HVa.out _).mono ?_
      rintro e Z ⟨rfl, hb⟩
      have HZ := hidK (HY.out.more hb)
      clear hb
      go_wp2_with fail
      go_ret
      rw [HPo.out, if_neg (by rw [HCs.out.1]; decide), if_pos HCs.out.2.1]
      exact ⟨rfl, HZ.out.below⟩
    | true =>
      go_wp2_with fail
      refine (HVa.out _).mono ?_
      rintro e Z ⟨rfl, hb⟩
      have HZ := hidK (HY.out.more hb)
      clear hb y0 y1 y2
      have y3 := cell_at HZ.out.q1 4
      have d0 : Z.cell? ⟨d, 0, none⟩ = some (.map (some b)) := cell_at (HTb.out.more HZ.out.below).blk 0
      by_cases hl8 : 8192 < LN
      · have hi8 : (8192 : Int) < (LN : Int) := by omega
        go_wp2_with fail
        go_ret
        rw [HPo.out, if_neg (by rw [HCs.out.1]; decide), if_neg (by rw [HCs.out.2.1]; decide), if_pos (by rw [HCs.out.2.2.1]; exact hl8)]
        exact ⟨rfl, HZ.out.below⟩
      · have hi8 : ¬ (8192 : Int) < (LN : Int) := by omega
        have HP4 : Hid (∀ e w', (if Maps.has D kl = false ∧ 200 ≤ Maps.size D then e = .returned (.int .i64 3) ∧ Below w.heap.size w w' else e = .returned (.int .i64 0) ∧ Tn w w' d b (n + 1) (D.put kl (meanD ln rp))) → bndP w d b n D t c m rp ln e w') := fun e w' hh => by
          rw [HPo.out, if_neg (by rw [HCs.out.1]; decide), if_neg (by rw [HCs.out.2.1]; decide), if_neg (by rw [HCs.out.2.2.1]; exact hl8)]
          exact hh
        have hle : ∀ ty, (Builtin.len_ #[64] ty #[.map (some b)]).run Tryz.prog Z = .ok (.int .i64 (SZ : Int)) Z := fun ty => HLe.out Z ty HZ.out.below
        have HSy : Hid (∀ X, Bl w X d b Q1 Q3 t c m rp ln → X.cell? ⟨d, 0, none⟩ = some (.map (some b)) ∧ X.cell? ⟨Q3, 0, none⟩ = some (.string t) ∧ X.cell? ⟨Q3, 1, none⟩ = some (.int .i64 c) ∧ X.cell? ⟨Q3, 2, none⟩ = some (.int .i64 m) ∧ X.cell? ⟨Q1, 3, none⟩ = some (.bool rp) ∧ X.cell? ⟨Q1, 4, none⟩ = some (.string ln)) := fun X hX => ⟨cell_at (HTb.out.more hX.below).blk 0, cell_at hX.q3 0, cell_at hX.q3 1, cell_at hX.q3 2, cell_at hX.q1 3, cell_at hX.q1 4⟩
        have HL8 : Hid (ln.size ≤ 8192) := by show _ ≤ _; rw [HCs.out.2.2.1]; omega
        by_cases hfull : has = false ∧ 200 ≤ SZ
        · obtain ⟨rfl, hs2⟩ := hfull
          have hi2 : (200 : Int) ≤ (SZ : Int) := by omega
          go_wp2_with fail
          go_ret
          refine HP4.out _ _ ?_
          rw [if_pos ⟨HHa.out, by rw [HCs.out.2.2.2]; exact hs2⟩]
          exact ⟨rfl, HZ.out.below⟩
        · have HP5 : Hid (∀ e w', e = .returned (.int .i64 0) ∧ Tn w w' d b (n + 1) (D.put kl (meanD ln rp)) → bndP w d b n D t c m rp ln e w') := fun e w' hh => by
            refine HP4.out _ _ ?_
            rw [if_neg (by rw [HHa.out, HCs.out.2.2.2]; exact hfull)]
            exact hh
          have y4 := cell_at HZ.out.q1 0
          have hi2 : has = true ∨ (has = false ∧ ¬ (200 : Int) ≤ (SZ : Int)) := by
            cases has
            · exact .inr ⟨rfl, fun q => hfull ⟨rfl, by omega⟩⟩
            · exact .inl rfl
          clear hfull HP4
          rcases hi2 with rfl | ⟨rfl, hi2⟩
          · go_wp2_with fail
            refine (HC1.out _).mono ?_
            rintro e Z2 ⟨rfl, hb⟩
            have hZ2 := HZ.out.more hb
            have z0 := cell_at hZ2.q3 0
            have z1 := free_at hZ2.q3 0
            have HZ3 := hidK hZ2.put
            clear hb hZ2
            obtain ⟨Z3, hZ3⟩ : ∃ Z3, Z2.setCell ⟨Q3, 0, none⟩ (.string t) = Z3 := ⟨_, rfl⟩
            rw [hZ3] at HZ3
            go_wp2_with fail
            refine wp_region_held_drew (S := (fun X => X.cell? ⟨d, 0, none⟩ = some (.map (some b)) ∧ X.cell? ⟨Q3, 0, none⟩ = some (.string t) ∧ X.cell? ⟨Q3, 1, none⟩ = some (.int .i64 c) ∧ X.cell? ⟨Q3, 2, none⟩ = some (.int .i64 m) ∧ X.cell? ⟨Q1, 3, none⟩ = some (.bool rp) ∧ X.cell? ⟨Q1, 4, none⟩ = some (.string ln))) (by kernel_rfl) ?sR (fun hHeld => ?_)
            case sR => ((try dsimp only); first | exact HSy.out _ (by first | exact HZ3.out | exact HZ3.out.more (Below.refl _ _).drew) | exact HSz.out)
            have HZ4 := hidK (HZ3.out.more (Below.refl _ _).drew)
            clear HZ3
            have HZ3 := hidK HZ4.out
            clear HZ4
            refine wpAnyH_take (i := 0) (oi := { dst := some 52, op := Op.move (Operand.tmp 0), type := 29, pos := "binds.go:60", after := #[], guard := none }) (v := ?vR0n1) rfl (by kernel_rfl) (by kernel_rfl) (by kernel_rfl) (fun _ _ _ h => h) (Or.inl ⟨by rfl, ?yR0n1⟩) (by assumption) ?rR0n1
            case yR0n1 => (intro w hSw; (try dsimp only at hSw); first | (go_simp; done) | (go_simp; with_reducible rfl))
            try simp only [Act.put, List.setIfInBounds_toArray, List.set_cons_zero, List.set_cons_succ]
            refine wpAnyH_take (i := 1) (oi := { dst := some 53, op := Op.nilCheck (Operand.tmp 52), type := 0, pos := "binds.go:60", after := #[{ on := 0, ground := Ground.data }], guard := none }) (v := ?vR1n2) rfl (by kernel_rfl) (by kernel_rfl) (by kernel_rfl) (fun _ _ _ h => h) (Or.inl ⟨by rfl, ?yR1n2⟩) (by assumption) ?rR1n2
            case yR1n2 => (intro w hSw; (try dsimp only at hSw); first | (go_simp; done) | (go_simp; with_reducible rfl))
            try simp only [Act.put, List.setIfInBounds_toArray, List.set_cons_zero, List.set_cons_succ]
            refine wpAnyH_take (i := 2) (oi := { dst := some 54, op := Op.fieldAddr 66 (Operand.tmp 53) 0, type := 0, pos := "binds.go:60", after := #[{ on := 1, ground := Ground.data }], guard := none }) (v := ?vR2n3) rfl (by kernel_rfl) (by kernel_rfl) (by kernel_rfl) (fun _ _ _ h => h) (Or.inl ⟨by rfl, ?yR2n3⟩) (by assumption) ?rR2n3
            case yR2n3 => (intro w hSw; (try dsimp only at hSw); first | (go_simp; done) | (go_simp; with_reducible rfl))
            try simp only [Act.put, List.setIfInBounds_toArray, List.set_cons_zero, List.set_cons_succ]
            refine wpAnyH_take (i := 3) (oi := { dst := some 55, op := Op.load 64 (Operand.tmp 54), type := 64, pos := "binds.go:60", after := #[{ on := 2, ground := Ground.data }], guard := none }) (v := ?vR3n4) rfl (by kernel_rfl) (by kernel_rfl) (by kernel_rfl) (fun _ _ _ h => h) (Or.inl ⟨by rfl, ?yR3n4⟩) (by assumption) ?rR3n4
            case yR3n4 => (intro w hSw; (try dsimp only at hSw); first | (go_simp; done) | (go_simp; with_reducible rfl))
            try simp only [Act.put, List.setIfInBounds_toArray, List.set_cons_zero, List.set_cons_succ]
            refine wpAnyH_take (i := 4) (oi := { dst := some 56, op := Op.load 76 (Operand.tmp 5), type := 76, pos := "binds.go:60", after := #[], guard := none }) (v := ?vR4n5) rfl (by kernel_rfl) (by kernel_rfl) (by kernel_rfl) (fun _ _ _ h => h) (Or.inl ⟨by rfl, ?yR4n5⟩) (by assumption) ?rR4n5
            case yR4n5 => (intro w hSw; (try dsimp only at hSw); first | (go_simp; done) | (go_simp; with_reducible rfl))
            try simp only [Act.put, List.setIfInBounds_toArray, List.set_cons_zero, List.set_cons_succ]
            refine wpAnyH_take (i := 5) (oi := { dst := some 57, op := Op.fieldAddr 39 (Operand.tmp 3) 3, type := 0, pos := "binds.go:60", after := #[], guard := none }) (v := ?vR5n6) rfl (by kernel_rfl) (by kernel_rfl) (by kernel_rfl) (fun _ _ _ h => h) (Or.inl ⟨by rfl, ?yR5n6⟩) (by assumption) ?rR5n6
            case yR5n6 => (intro w hSw; (try dsimp only at hSw); first | (go_simp; done) | (go_simp; with_reducible rfl))
            try simp only [Act.put, List.setIfInBounds_toArray, List.set_cons_zero, List.set_cons_succ]
            refine wpAnyH_take (i := 6) (oi := { dst := some 58, op := Op.load 9 (Operand.tmp 57), type := 9, pos := "binds.go:60", after := #[{ on := 5, ground := Ground.data }], guard := none }) (v := ?vR6n7) rfl (by kernel_rfl) (by kernel_rfl) (by kernel_rfl) (fun _ _ _ h => h) (Or.inl ⟨by rfl, ?yR6n7⟩) (by assumption) ?rR6n7
            case yR6n7 => (intro w hSw; (try dsimp only at hSw); first | (go_simp; done) | (go_simp; with_reducible rfl))
            try simp only [Act.put, List.setIfInBounds_toArray, List.set_cons_zero, List.set_cons_succ]
            refine wpAnyH_take (i := 8) (oi := { dst := some 60, op := Op.fieldAddr 39 (Operand.tmp 3) 2, type := 0, pos := "binds.go:60", after := #[], guard := none }) (v := ?vR8n8) rfl (by kernel_rfl) (by kernel_rfl) (by kernel_rfl) (fun _ _ _ h => h) (Or.inl ⟨by rfl, ?yR8n8⟩) (by assumption) ?rR8n8
            case yR8n8 => (intro w hSw; (try dsimp only at hSw); first | (go_simp; done) | (go_simp; with_reducible rfl))
            try simp only [Act.put, List.setIfInBounds_toArray, List.set_cons_zero, List.set_cons_succ]
            refine wpAnyH_take (i := 9) (oi := { dst := some 61, op := Op.load 4 (Operand.tmp 60), type := 4, pos := "binds.go:60", after := #[{ on := 8, ground := Ground.data }], guard := none }) (v := ?vR9n9) rfl (by kernel_rfl) (by kernel_rfl) (by kernel_rfl) (fun _ _ _ h => h) (Or.inl ⟨by rfl, ?yR9n9⟩) (by assumption) ?rR9n9
            case yR9n9 => (intro w hSw; (try dsimp only at hSw); first | (go_simp; done) | (go_simp; with_reducible rfl))
            try simp only [Act.put, List.setIfInBounds_toArray, List.set_cons_zero, List.set_cons_succ]
            refine wpAnyH_ready (rs := [7]) (by kernel_rfl) (by simp) (AllReadyH.cons (o := { dst := some 59, op := Op.call { callee := Callee.value (Operand.func 36), args := #[Operand.tmp 58], argTypes := #[9] }, type := 9, pos := "binds.go:60", after := #[{ on := 6, ground := Ground.data }], guard := none }) rfl (fun K hK => ?bRn10q0) AllReadyH.nil)
            go_simp
            go_wp2_with (refine (HC2.out _).mono ?_; rintro e Y1 ⟨rfl, hb⟩; have HZ4 := hidK (HZ3.out.more hb); clear hb HZ3; have HZ3 := hidK HZ4.out; clear HZ4)
            refine hK.out _ _ ?kRn10o7 (fun hHeld10 => ?_)
            case kRn10o7 => ((try dsimp only); first | exact HSy.out _ (by first | exact HZ3.out | exact HZ3.out.more (Below.refl _ _).drew) | exact HSz.out)
            clear hK K
            try simp only [Act.put, List.setIfInBounds_toArray, List.set_cons_zero, List.set_cons_succ]
            refine wpAnyH_take (i := 10) (oi := { dst := some 62, op := Op.build 78 #[(0, Operand.tmp 59), (1, Operand.tmp 61)], type := 78, pos := "binds.go:60", after := #[{ on := 7, ground := Ground.data }, { on := 9, ground := Ground.data }], guard := none }) (v := ?vR10n11) rfl (by kernel_rfl) (by kernel_rfl) (by kernel_rfl) (fun _ _ _ h => h) (Or.inl ⟨by rfl, ?yR10n11⟩) (by assumption) ?rR10n11
            case yR10n11 => (intro w hSw; (try dsimp only at hSw); first | (go_simp; done) | (go_simp; with_reducible rfl))
            try simp only [Act.put, List.setIfInBounds_toArray, List.set_cons_zero, List.set_cons_succ]
            refine wpAnyH_ready (rs := [11]) (by kernel_rfl) (by simp) (AllReadyH.cons (o := { dst := none, op := Op.mapUpdate 64 (Operand.tmp 55) (Operand.tmp 56) (Operand.tmp 62), type := 0, pos := "binds.go:60", after := #[{ on := 3, ground := Ground.data }, { on := 4, ground := Ground.data }, { on := 10, ground := Ground.data }, { on := 7, ground := Ground.chain }, { on := 0, ground := Ground.phase }, { on := 1, ground := Ground.phase }, { on := 2, ground := Ground.phase }, { on := 3, ground := Ground.phase }, { on := 4, ground := Ground.phase }, { on := 5, ground := Ground.phase }, { on := 6, ground := Ground.phase }, { on := 7, ground := Ground.phase }, { on := 8, ground := Ground.phase }, { on := 9, ground := Ground.phase }, { on := 10, ground := Ground.phase }], guard := none }) rfl (fun K hK => ?bRn12q0) AllReadyH.nil)
            refine step_update _ rfl (.tmp 55) (.tmp 56) (.tmp 62) rfl ?hm1 ?hx1 ?hv1 (HTb.out.more HZ3.out.below).own HNm.out HK.out (meanR_mk ln rp) ?_
            case hm1 => simp [Act.eval]
            case hx1 => simp [Act.eval]
            case hv1 => simp [Act.eval]
            intro w5 ho5
            have HSz : Hid (w5.cell? ⟨d, 0, none⟩ = some (.map (some b)) ∧ w5.cell? ⟨Q3, 0, none⟩ = some (.string t) ∧ w5.cell? ⟨Q3, 1, none⟩ = some (.int .i64 c) ∧ w5.cell? ⟨Q3, 2, none⟩ = some (.int .i64 m) ∧ w5.cell? ⟨Q1, 3, none⟩ = some (.bool rp) ∧ w5.cell? ⟨Q1, 4, none⟩ = some (.string ln)) := hold6 HTb.out HZ3.out ho5.out.2
            refine hK.out _ _ ?kRn12o11 (fun hHeld12 => ?_)
            case kRn12o11 => ((try dsimp only); first | exact HSy.out _ (by first | exact HZ3.out | exact HZ3.out.more (Below.refl _ _).drew) | exact HSz.out)
            clear hK K
            try simp only [Act.put]
            refine wpAnyH_done (by kernel_rfl) ?_ _
            go_wp2_with fail
            go_ret
            exact HP5.out _ _ ⟨rfl, HTb.out.turned HZ3.out.below ho5.out.1 ho5.out.2 (put_short HTb.out.own.isMap HKl.out HL8.out HTb.out.short)⟩
          · go_wp2_with fail
            refine (HC1.out _).mono ?_
            rintro e Z2 ⟨rfl, hb⟩
            have hZ2 := HZ.out.more hb
            have z0 := cell_at hZ2.q3 0
            have z1 := free_at hZ2.q3 0
            have HZ3 := hidK hZ2.put
            clear hb hZ2
            obtain ⟨Z3, hZ3⟩ : ∃ Z3, Z2.setCell ⟨Q3, 0, none⟩ (.string t) = Z3 := ⟨_, rfl⟩
            rw [hZ3] at HZ3
            go_wp2_with fail
            refine wp_region_held_drew (S := (fun X => X.cell? ⟨d, 0, none⟩ = some (.map (some b)) ∧ X.cell? ⟨Q3, 0, none⟩ = some (.string t) ∧ X.cell? ⟨Q3, 1, none⟩ = some (.int .i64 c) ∧ X.cell? ⟨Q3, 2, none⟩ = some (.int .i64 m) ∧ X.cell? ⟨Q1, 3, none⟩ = some (.bool rp) ∧ X.cell? ⟨Q1, 4, none⟩ = some (.string ln))) (by kernel_rfl) ?sU (fun hHeld => ?_)
            case sU => ((try dsimp only); first | exact HSy.out _ (by first | exact HZ3.out | exact HZ3.out.more (Below.refl _ _).drew) | exact HSz.out)
            have HZ4 := hidK (HZ3.out.more (Below.refl _ _).drew)
            clear HZ3
            have HZ3 := hidK HZ4.out
            clear HZ4
            refine wpAnyH_take (i := 0) (oi := { dst := some 52, op := Op.move (Operand.tmp 0), type := 29, pos := "binds.go:60", after := #[], guard := none }) (v := ?vU0n1) rfl (by kernel_rfl) (by kernel_rfl) (by kernel_rfl) (fun _ _ _ h => h) (Or.inl ⟨by rfl, ?yU0n1⟩) (by assumption) ?rU0n1
            case yU0n1 => (intro w hSw; (try dsimp only at hSw); first | (go_simp; done) | (go_simp; with_reducible rfl))
            try simp only [Act.put, List.setIfInBounds_toArray, List.set_cons_zero, List.set_cons_succ]
            refine wpAnyH_take (i := 1) (oi := { dst := some 53, op := Op.nilCheck (Operand.tmp 52), type := 0, pos := "binds.go:60", after := #[{ on := 0, ground := Ground.data }], guard := none }) (v := ?vU1n2) rfl (by kernel_rfl) (by kernel_rfl) (by kernel_rfl) (fun _ _ _ h => h) (Or.inl ⟨by rfl, ?yU1n2⟩) (by assumption) ?rU1n2
            case yU1n2 => (intro w hSw; (try dsimp only at hSw); first | (go_simp; done) | (go_simp; with_reducible rfl))
            try simp only [Act.put, List.setIfInBounds_toArray, List.set_cons_zero, List.set_cons_succ]
            refine wpAnyH_take (i := 2) (oi := { dst := some 54, op := Op.fieldAddr 66 (Operand.tmp 53) 0, type := 0, pos := "binds.go:60", after := #[{ on := 1, ground := Ground.data }], guard := none }) (v := ?vU2n3) rfl (by kernel_rfl) (by kernel_rfl) (by kernel_rfl) (fun _ _ _ h => h) (Or.inl ⟨by rfl, ?yU2n3⟩) (by assumption) ?rU2n3
            case yU2n3 => (intro w hSw; (try dsimp only at hSw); first | (go_simp; done) | (go_simp; with_reducible rfl))
            try simp only [Act.put, List.setIfInBounds_toArray, List.set_cons_zero, List.set_cons_succ]
            refine wpAnyH_take (i := 3) (oi := { dst := some 55, op := Op.load 64 (Operand.tmp 54), type := 64, pos := "binds.go:60", after := #[{ on := 2, ground := Ground.data }], guard := none }) (v := ?vU3n4) rfl (by kernel_rfl) (by kernel_rfl) (by kernel_rfl) (fun _ _ _ h => h) (Or.inl ⟨by rfl, ?yU3n4⟩) (by assumption) ?rU3n4
            case yU3n4 => (intro w hSw; (try dsimp only at hSw); first | (go_simp; done) | (go_simp; with_reducible rfl))
            try simp only [Act.put, List.setIfInBounds_toArray, List.set_cons_zero, List.set_cons_succ]
            refine wpAnyH_take (i := 4) (oi := { dst := some 56, op := Op.load 76 (Operand.tmp 5), type := 76, pos := "binds.go:60", after := #[], guard := none }) (v := ?vU4n5) rfl (by kernel_rfl) (by kernel_rfl) (by kernel_rfl) (fun _ _ _ h => h) (Or.inl ⟨by rfl, ?yU4n5⟩) (by assumption) ?rU4n5
            case yU4n5 => (intro w hSw; (try dsimp only at hSw); first | (go_simp; done) | (go_simp; with_reducible rfl))
            try simp only [Act.put, List.setIfInBounds_toArray, List.set_cons_zero, List.set_cons_succ]
            refine wpAnyH_take (i := 5) (oi := { dst := some 57, op := Op.fieldAddr 39 (Operand.tmp 3) 3, type := 0, pos := "binds.go:60", after := #[], guard := none }) (v := ?vU5n6) rfl (by kernel_rfl) (by kernel_rfl) (by kernel_rfl) (fun _ _ _ h => h) (Or.inl ⟨by rfl, ?yU5n6⟩) (by assumption) ?rU5n6
            case yU5n6 => (intro w hSw; (try dsimp only at hSw); first | (go_simp; done) | (go_simp; with_reducible rfl))
            try simp only [Act.put, List.setIfInBounds_toArray, List.set_cons_zero, List.set_cons_succ]
            refine wpAnyH_take (i := 6) (oi := { dst := some 58, op := Op.load 9 (Operand.tmp 57), type := 9, pos := "binds.go:60", after := #[{ on := 5, ground := Ground.data }], guard := none }) (v := ?vU6n7) rfl (by kernel_rfl) (by kernel_rfl) (by kernel_rfl) (fun _ _ _ h => h) (Or.inl ⟨by rfl, ?yU6n7⟩) (by assumption) ?rU6n7
            case yU6n7 => (intro w hSw; (try dsimp only at hSw); first | (go_simp; done) | (go_simp; with_reducible rfl))
            try simp only [Act.put, List.setIfInBounds_toArray, List.set_cons_zero, List.set_cons_succ]
            refine wpAnyH_take (i := 8) (oi := { dst := some 60, op := Op.fieldAddr 39 (Operand.tmp 3) 2, type := 0, pos := "binds.go:60", after := #[], guard := none }) (v := ?vU8n8) rfl (by kernel_rfl) (by kernel_rfl) (by kernel_rfl) (fun _ _ _ h => h) (Or.inl ⟨by rfl, ?yU8n8⟩) (by assumption) ?rU8n8
            case yU8n8 => (intro w hSw; (try dsimp only at hSw); first | (go_simp; done) | (go_simp; with_reducible rfl))
            try simp only [Act.put, List.setIfInBounds_toArray, List.set_cons_zero, List.set_cons_succ]
            refine wpAnyH_take (i := 9) (oi := { dst := some 61, op := Op.load 4 (Operand.tmp 60), type := 4, pos := "binds.go:60", after := #[{ on := 8, ground := Ground.data }], guard := none }) (v := ?vU9n9) rfl (by kernel_rfl) (by kernel_rfl) (by kernel_rfl) (fun _ _ _ h => h) (Or.inl ⟨by rfl, ?yU9n9⟩) (by assumption) ?rU9n9
            case yU9n9 => (intro w hSw; (try dsimp only at hSw); first | (go_simp; done) | (go_simp; with_reducible rfl))
            try simp only [Act.put, List.setIfInBounds_toArray, List.set_cons_zero, List.set_cons_succ]
            refine wpAnyH_ready (rs := [7]) (by kernel_rfl) (by simp) (AllReadyH.cons (o := { dst := some 59, op := Op.call { callee := Callee.value (Operand.func 36), args := #[Operand.tmp 58], argTypes := #[9] }, type := 9, pos := "binds.go:60", after := #[{ on := 6, ground := Ground.data }], guard := none }) rfl (fun K hK => ?bUn10q0) AllReadyH.nil)
            go_simp
            go_wp2_with (refine (HC2.out _).mono ?_; rintro e Y1 ⟨rfl, hb⟩; have HZ4 := hidK (HZ3.out.more hb); clear hb HZ3; have HZ3 := hidK HZ4.out; clear HZ4)
            refine hK.out _ _ ?kUn10o7 (fun hHeld10 => ?_)
            case kUn10o7 => ((try dsimp only); first | exact HSy.out _ (by first | exact HZ3.out | exact HZ3.out.more (Below.refl _ _).drew) | exact HSz.out)
            clear hK K
            try simp only [Act.put, List.setIfInBounds_toArray, List.set_cons_zero, List.set_cons_succ]
            refine wpAnyH_take (i := 10) (oi := { dst := some 62, op := Op.build 78 #[(0, Operand.tmp 59), (1, Operand.tmp 61)], type := 78, pos := "binds.go:60", after := #[{ on := 7, ground := Ground.data }, { on := 9, ground := Ground.data }], guard := none }) (v := ?vU10n11) rfl (by kernel_rfl) (by kernel_rfl) (by kernel_rfl) (fun _ _ _ h => h) (Or.inl ⟨by rfl, ?yU10n11⟩) (by assumption) ?rU10n11
            case yU10n11 => (intro w hSw; (try dsimp only at hSw); first | (go_simp; done) | (go_simp; with_reducible rfl))
            try simp only [Act.put, List.setIfInBounds_toArray, List.set_cons_zero, List.set_cons_succ]
            refine wpAnyH_ready (rs := [11]) (by kernel_rfl) (by simp) (AllReadyH.cons (o := { dst := none, op := Op.mapUpdate 64 (Operand.tmp 55) (Operand.tmp 56) (Operand.tmp 62), type := 0, pos := "binds.go:60", after := #[{ on := 3, ground := Ground.data }, { on := 4, ground := Ground.data }, { on := 10, ground := Ground.data }, { on := 7, ground := Ground.chain }, { on := 0, ground := Ground.phase }, { on := 1, ground := Ground.phase }, { on := 2, ground := Ground.phase }, { on := 3, ground := Ground.phase }, { on := 4, ground := Ground.phase }, { on := 5, ground := Ground.phase }, { on := 6, ground := Ground.phase }, { on := 7, ground := Ground.phase }, { on := 8, ground := Ground.phase }, { on := 9, ground := Ground.phase }, { on := 10, ground := Ground.phase }], guard := none }) rfl (fun K hK => ?bUn12q0) AllReadyH.nil)
            refine step_update _ rfl (.tmp 55) (.tmp 56) (.tmp 62) rfl ?hm2 ?hx2 ?hv2 (HTb.out.more HZ3.out.below).own HNm.out HK.out (meanR_mk ln rp) ?_
            case hm2 => simp [Act.eval]
            case hx2 => simp [Act.eval]
            case hv2 => simp [Act.eval]
            intro w5 ho5
            have HSz : Hid (w5.cell? ⟨d, 0, none⟩ = some (.map (some b)) ∧ w5.cell? ⟨Q3, 0, none⟩ = some (.string t) ∧ w5.cell? ⟨Q3, 1, none⟩ = some (.int .i64 c) ∧ w5.cell? ⟨Q3, 2, none⟩ = some (.int .i64 m) ∧ w5.cell? ⟨Q1, 3, none⟩ = some (.bool rp) ∧ w5.cell? ⟨Q1, 4, none⟩ = some (.string ln)) := hold6 HTb.out HZ3.out ho5.out.2
            refine hK.out _ _ ?kUn12o11 (fun hHeld12 => ?_)
            case kUn12o11 => ((try dsimp only); first | exact HSy.out _ (by first | exact HZ3.out | exact HZ3.out.more (Below.refl _ _).drew) | exact HSz.out)
            clear hK K
            try simp only [Act.put]
            refine wpAnyH_done (by kernel_rfl) ?_ _
            go_wp2_with fail
            go_ret
            exact HP5.out _ _ ⟨rfl, HTb.out.turned HZ3.out.below ho5.out.1 ho5.out.2 (put_short HTb.out.own.isMap HKl.out HL8.out HTb.out.short)⟩
end Go.Proofs.YtbonnjilbocldaaGreatDoor
