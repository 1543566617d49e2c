/-
  Binds: Unbind.
-/
import Derived.Test.YtbonnjilbocldaaDoorHG
namespace Go.Proofs.YtbonnjilbocldaaDoor
open Go.RowKit
set_option linter.unusedVariables false
set_option maxRecDepth 100000

theorem hold4 {w Y w5 : World} {d b n Q3 : Nat} {D : DataW Unit} {t : ByteArray} {c m : Int} (h : Tb w d b n D) (hy : Below w.heap.size w Y) (hg : Y.grownBy w5 (some b)) (hq : w.heap.size ≤ Q3 ∧ Y.heap[Q3]? = some (.cells #[.string t, .int .i64 c, .int .i64 m] 60 (0, 0))) :
    w5.cell? ⟨d, 0, none⟩ = some (.map (some b)) ∧ w5.cell? ⟨Q3, 0, none⟩ = some (.string t) ∧ w5.cell? ⟨Q3, 1, none⟩ = some (.int .i64 c) ∧ w5.cell? ⟨Q3, 2, none⟩ = some (.int .i64 m) := by
  have hlt := h.lt
  have hsz := hy.size
  have e1 : w5.heap[d]? = some (.cells #[.map (some b)] 48 (0, 0)) := by
    rw [hg.block d (by omega) (fun e => h.ne (Option.some.inj e)), hy.block d hlt.1]
    exact h.blk
  have e2 : w5.heap[Q3]? = some (.cells #[.string t, .int .i64 c, .int .i64 m] 60 (0, 0)) := by
    rw [hg.block Q3 (lt_block hq.2) (fun e => by have := Option.some.inj e; omega)]
    exact hq.2
  exact ⟨cell_at e1 0, cell_at e2 0, cell_at e2 1, cell_at e2 2⟩
set_option maxHeartbeats 8000000 in
theorem unbind_any {w : World} {d b n : Nat} {D : DataW Unit} (h : Tb w d b n D) (t : ByteArray) (c m : Int) (ht : t.size ≤ 140737488355328) (hc : (Lit.int .i64 c).wf = true) (hm : (Lit.int .i64 m).wf = true) :
    Calls Tryd.prog 18 #[.pointer (some ⟨d, 0, none⟩), .string t, .agg #[.int .i64 c, .int .i64 m]] w fun e w' => unbP (Maps.has D (slotK t.data.toList c m)) w d b n D (slotK t.data.toList c m) e w' := by
  obtain ⟨s, r, hat, hlk⟩ := h.look ht hc hm
  have hkey : keyOf Tryd.prog 60 (.agg #[.string t, .int .i64 c, .int .i64 m]) = some (slotK t.data.toList c m) := slot_key (t := t) (by unfold maxLen; omega) hc hm
  obtain ⟨kl, hkl⟩ : ∃ kl, slotK t.data.toList c m = kl := ⟨_, rfl⟩
  rw [hkl] at hkey hlk hat ⊢
  obtain ⟨has, hhas⟩ : ∃ has, Maps.has D kl = has := ⟨_, rfl⟩
  rw [hhas] at hlk ⊢
  have HK := hidK hkey
  have HTb := hidK h
  obtain ⟨W1, hW1⟩ : ∃ W, w.alloc (.cells #[.int .i64 c, .int .i64 m] 23) = W := ⟨_, rfl⟩
  obtain ⟨W3, hW3⟩ : ∃ W, W1.alloc (.cells #[.string t, .int .i64 c, .int .i64 m] 60) = W := ⟨_, rfl⟩
  obtain ⟨Q1, hQ1⟩ : ∃ Q, w.heap.size = Q := ⟨_, rfl⟩
  obtain ⟨Q3, hQ3⟩ : ∃ Q, W1.heap.size = Q := ⟨_, rfl⟩
  have b1 : Below w.heap.size w W1 := by rw [← hW1]; exact (Below.refl _ _).alloc (Nat.le_refl _) _
  have b3 : Below W1.heap.size W1 W3 := by rw [← hW3]; exact (Below.refl _ _).alloc (Nat.le_refl _) _
  have a1 : W1.heap[Q1]? = some (.cells #[.int .i64 c, .int .i64 m] 23 (0, 0)) := by rw [← hW1, ← hQ1]; exact heap_alloc_new w _
  have a3 : W3.heap[Q3]? = some (.cells #[.string t, .int .i64 c, .int .i64 m] 60 (0, 0)) := by rw [← hW3, ← hQ3]; exact heap_alloc_new W1 _
  have hw3 := below_step b1 b3
  have c1 : W1.cell? ⟨Q1, 0, none⟩ = some (.int .i64 c) := cell_at a1 0
  have c2 : W1.cell? ⟨Q1, 1, none⟩ = some (.int .i64 m) := cell_at a1 1
  have HSx : Hid (∀ Y, Below W3.heap.size W3 Y → Y.cell? ⟨d, 0, none⟩ = some (.map (some b)) ∧ Y.cell? ⟨Q3, 0, none⟩ = some (.string t) ∧ Y.cell? ⟨Q3, 1, none⟩ = some (.int .i64 c) ∧ Y.cell? ⟨Q3, 2, none⟩ = some (.int .i64 m) ∧ (Instr.lookup 46 (.map (some b)) (.agg #[.string t, .int .i64 c, .int .i64 m]) true).run Tryd.prog Y = .ok (.tuple #[.agg #[.string s, .bool r], .bool has]) Y) := fun Y hY => by
    have hy := below_step hw3 hY
    have e1 := (hy.block d h.lt.1).trans h.blk
    have e2 := (hY.block Q3 (lt_block a3)).trans a3
    exact ⟨cell_at e1 0, cell_at e2 0, cell_at e2 1, cell_at e2 2, hlk Y (hy.block b h.lt.2)⟩
  have HBx := hidK (Below.refl W3.heap.size W3)
  have HA3 := hidK (And.intro (by have := b1.size; omega : w.heap.size ≤ Q3) a3)
  have HW := hidK (And.intro hw3 hhas)
  clear hlk hat hhas b1 b3 a1 a3 hw3 ht hc hm h hkey hkl
  go_enter Tryd.func18, Tryd.ntmps18
  go_wp2_with fail
  refine wp_region_held_drew (S := (fun X => X.cell? ⟨d, 0, none⟩ = some (.map (some b)) ∧ X.cell? ⟨Q3, 0, none⟩ = some (.string t) ∧ X.cell? ⟨Q3, 1, none⟩ = some (.int .i64 c) ∧ X.cell? ⟨Q3, 2, none⟩ = some (.int .i64 m) ∧ (Instr.lookup 46 (.map (some b)) (.agg #[.string t, .int .i64 c, .int .i64 m]) true).run Tryd.prog X = .ok (.tuple #[.agg #[.string s, .bool r], .bool has]) X)) (by kernel_rfl) ?sP (fun hHeld => ?_)
  case sP => ((try dsimp only); exact HSx.out _ (by first | exact HBx.out | exact HBx.out.drew | exact HBx.out.alloc HBx.out.size _ | exact (HBx.out.setCell HBx.out.size _).setCell HBx.out.size _))
  have HBn := hidK HBx.out.drew
  clear HBx
  have HBx := hidK HBn.out
  clear HBn
  refine wpAnyH_take (i := 0) (oi := { dst := some 14, op := Op.move (Operand.tmp 0), type := 31, pos := "binds.go:67", after := #[], guard := none }) (v := ?vP0n1) rfl (by kernel_rfl) (by kernel_rfl) (by kernel_rfl) (fun _ _ _ h => h) (Or.inl ⟨by rfl, ?yP0n1⟩) (by assumption) ?rP0n1
  case yP0n1 => (intro w hSw; (try dsimp only at hSw); first | (go_simp; done) | (go_simp; with_reducible rfl))
  try simp only [Act.put, List.setIfInBounds_toArray, List.set_cons_zero, List.set_cons_succ]
  refine wpAnyH_take (i := 1) (oi := { dst := some 15, op := Op.nilCheck (Operand.tmp 14), type := 0, pos := "binds.go:67", after := #[{ on := 0, ground := Ground.data }], guard := none }) (v := ?vP1n2) rfl (by kernel_rfl) (by kernel_rfl) (by kernel_rfl) (fun _ _ _ h => h) (Or.inl ⟨by rfl, ?yP1n2⟩) (by assumption) ?rP1n2
  case yP1n2 => (intro w hSw; (try dsimp only at hSw); first | (go_simp; done) | (go_simp; with_reducible rfl))
  try simp only [Act.put, List.setIfInBounds_toArray, List.set_cons_zero, List.set_cons_succ]
  refine wpAnyH_take (i := 2) (oi := { dst := some 16, op := Op.fieldAddr 48 (Operand.tmp 15) 0, type := 0, pos := "binds.go:67", after := #[{ on := 1, ground := Ground.data }], guard := none }) (v := ?vP2n3) rfl (by kernel_rfl) (by kernel_rfl) (by kernel_rfl) (fun _ _ _ h => h) (Or.inl ⟨by rfl, ?yP2n3⟩) (by assumption) ?rP2n3
  case yP2n3 => (intro w hSw; (try dsimp only at hSw); first | (go_simp; done) | (go_simp; with_reducible rfl))
  try simp only [Act.put, List.setIfInBounds_toArray, List.set_cons_zero, List.set_cons_succ]
  refine wpAnyH_take (i := 3) (oi := { dst := some 17, op := Op.load 46 (Operand.tmp 16), type := 46, pos := "binds.go:67", after := #[{ on := 2, ground := Ground.data }], guard := none }) (v := ?vP3n4) rfl (by kernel_rfl) (by kernel_rfl) (by kernel_rfl) (fun _ _ _ h => h) (Or.inl ⟨by rfl, ?yP3n4⟩) (by assumption) ?rP3n4
  case yP3n4 => (intro w hSw; (try dsimp only at hSw); first | (go_simp; done) | (go_simp; with_reducible rfl))
  try simp only [Act.put, List.setIfInBounds_toArray, List.set_cons_zero, List.set_cons_succ]
  refine wpAnyH_take (i := 4) (oi := { dst := some 18, op := Op.load 60 (Operand.tmp 7), type := 60, pos := "binds.go:67", after := #[], guard := none }) (v := ?vP4n5) rfl (by kernel_rfl) (by kernel_rfl) (by kernel_rfl) (fun _ _ _ h => h) (Or.inl ⟨by rfl, ?yP4n5⟩) (by assumption) ?rP4n5
  case yP4n5 => (intro w hSw; (try dsimp only at hSw); first | (go_simp; done) | (go_simp; with_reducible rfl))
  try simp only [Act.put, List.setIfInBounds_toArray, List.set_cons_zero, List.set_cons_succ]
  refine wpAnyH_take (i := 5) (oi := { dst := some 19, op := Op.lookup 46 (Operand.tmp 17) (Operand.tmp 18) true, type := 63, pos := "binds.go:67", after := #[{ on := 3, ground := Ground.data }, { on := 4, ground := Ground.data }], guard := none }) (v := ?vP5n6) rfl (by kernel_rfl) (by kernel_rfl) (by kernel_rfl) (fun _ _ _ h => h) (Or.inl ⟨by rfl, ?yP5n6⟩) (by assumption) ?rP5n6
  case yP5n6 => (intro w hSw; (try dsimp only at hSw); first | (go_simp; done) | (go_simp; with_reducible rfl))
  try simp only [Act.put, List.setIfInBounds_toArray, List.set_cons_zero, List.set_cons_succ]
  refine wpAnyH_take (i := 6) (oi := { dst := some 13, op := Op.move (Operand.tmp 19), type := 63, pos := "binds.go:67", after := #[{ on := 5, ground := Ground.data }], guard := none }) (v := ?vP6n7) rfl (by kernel_rfl) (by kernel_rfl) (by kernel_rfl) (fun _ _ _ h => h) (Or.inl ⟨by rfl, ?yP6n7⟩) (by assumption) ?rP6n7
  case yP6n7 => (intro w hSw; (try dsimp only at hSw); first | (go_simp; done) | (go_simp; with_reducible rfl))
  try simp only [Act.put, List.setIfInBounds_toArray, List.set_cons_zero, List.set_cons_succ]
  refine wpAnyH_take (i := 7) (oi := { dst := some 20, op := Op.extract (Operand.tmp 13) 0, type := 62, pos := "binds.go:67", after := #[{ on := 6, ground := Ground.data }], guard := none }) (v := ?vP7n8) rfl (by kernel_rfl) (by kernel_rfl) (by kernel_rfl) (fun _ _ _ h => h) (Or.inl ⟨by rfl, ?yP7n8⟩) (by assumption) ?rP7n8
  case yP7n8 => (intro w hSw; (try dsimp only at hSw); first | (go_simp; done) | (go_simp; with_reducible rfl))
  try simp only [Act.put, List.setIfInBounds_toArray, List.set_cons_zero, List.set_cons_succ]
  refine wpAnyH_take (i := 8) (oi := { dst := some 21, op := Op.extract (Operand.tmp 13) 1, type := 4, pos := "binds.go:67", after := #[{ on := 6, ground := Ground.data }, { on := 10, ground := Ground.gcOnly Departure.lateStores }], guard := none }) (v := ?vP8n9) rfl (by kernel_rfl) (by kernel_rfl) (by kernel_rfl) (fun _ _ _ h => h) (Or.inl ⟨by rfl, ?yP8n9⟩) (by assumption) ?rP8n9
  case yP8n9 => (intro w hSw; (try dsimp only at hSw); first | (go_simp; done) | (go_simp; with_reducible rfl))
  try simp only [Act.put, List.setIfInBounds_toArray, List.set_cons_zero, List.set_cons_succ]
  refine wpAnyH_ready (rs := [9]) (by kernel_rfl) (by simp) (AllReadyH.cons (o := { dst := some 8, op := Op.alloc 62, type := 0, pos := "binds.go:67", after := #[], guard := none }) rfl (fun K hK => ?bPn10q0) AllReadyH.nil)
  go_simp
  refine hK.out _ _ ?kPn10o9 (fun hHeld10 => ?_)
  case kPn10o9 => ((try dsimp only); exact HSx.out _ (by first | exact HBx.out | exact HBx.out.drew | exact HBx.out.alloc HBx.out.size _ | exact (HBx.out.setCell HBx.out.size _).setCell HBx.out.size _))
  clear hK K
  skip
  try simp only [Act.put, List.setIfInBounds_toArray, List.set_cons_zero, List.set_cons_succ]
  refine wpAnyH_ready (rs := [10]) (by kernel_rfl) (by simp) (AllReadyH.cons (o := { dst := none, op := Op.store 62 (Operand.tmp 8) (Operand.tmp 20), type := 0, pos := "binds.go:67", after := #[{ on := 9, ground := Ground.data }, { on := 7, ground := Ground.data }, { on := 0, ground := Ground.phase }, { on := 1, ground := Ground.phase }, { on := 2, ground := Ground.phase }, { on := 3, ground := Ground.phase }, { on := 4, ground := Ground.phase }, { on := 5, ground := Ground.phase }, { on := 6, ground := Ground.phase }, { on := 7, ground := Ground.phase }, { on := 8, ground := Ground.textOnly Departure.lateStores }, { on := 9, ground := Ground.phase }], guard := none }) rfl (fun K hK => ?bPn11q0) AllReadyH.nil)
  go_simp
  refine hK.out _ _ ?kPn11o10 (fun hHeld11 => ?_)
  case kPn11o10 => ((try dsimp only); exact HSx.out _ (by first | exact HBx.out | exact HBx.out.drew | exact HBx.out.alloc HBx.out.size _ | exact (HBx.out.setCell HBx.out.size _).setCell HBx.out.size _))
  clear hK K
  skip
  try simp only [Act.put, List.setIfInBounds_toArray, List.set_cons_zero, List.set_cons_succ]
  refine wpAnyH_take (i := 11) (oi := { dst := some 9, op := Op.assign (Operand.tmp 21), type := 4, pos := "binds.go:67", after := #[{ on := 8, ground := Ground.data }, { on := 10, ground := Ground.chain }, { on := 0, ground := Ground.phase }, { on := 1, ground := Ground.phase }, { on := 2, ground := Ground.phase }, { on := 3, ground := Ground.phase }, { on := 4, ground := Ground.phase }, { on := 5, ground := Ground.phase }, { on := 6, ground := Ground.phase }, { on := 7, ground := Ground.phase }, { on := 8, ground := Ground.phase }, { on := 9, ground := Ground.phase }, { on := 10, ground := Ground.phase }], guard := none }) (v := ?vP11n12) rfl (by kernel_rfl) (by kernel_rfl) (by kernel_rfl) (fun _ _ _ h => h) (Or.inl ⟨by rfl, ?yP11n12⟩) (by assumption) ?rP11n12
  case yP11n12 => (intro w hSw; (try dsimp only at hSw); first | (go_simp; done) | (go_simp; with_reducible rfl))
  try simp only [Act.put, List.setIfInBounds_toArray, List.set_cons_zero, List.set_cons_succ]
  refine wpAnyH_done (by kernel_rfl) ?_ _
  refine gen_exitB (fun Y => Below W3.heap.size W3 Y) ?g1 ?_
  case g1 => first | exact HBx.out.alloc HBx.out.size _ | exact ((HBx.out.alloc HBx.out.size _).setCell (Nat.le_refl _) _).setCell (Nat.le_refl _) _
  intro Y hy1
  have HY := hidK hy1
  clear hy1 HBx
  cases has with
  | false =>
    go_wp2_with fail
    go_ret
    exact ⟨rfl, below_step HW.out.1 HY.out⟩
  | true =>
    have hyw := below_step HW.out.1 HY.out
    have HTy := hidK (HTb.out.more hyw)
    have HBy := hidK hyw
    have HQ3 : Hid (w.heap.size ≤ Q3 ∧ Y.drew.heap[Q3]? = some (.cells #[.string t, .int .i64 c, .int .i64 m] 60 (0, 0))) := ⟨HA3.out.1, (HY.out.block Q3 (lt_block HA3.out.2)).trans HA3.out.2⟩
    clear hyw
    go_wp2_with fail
    refine wp_region_held_drew (S := (fun X => X.cell? ⟨d, 0, none⟩ = some (.map (some b)) ∧ X.cell? ⟨Q3, 0, none⟩ = some (.string t) ∧ X.cell? ⟨Q3, 1, none⟩ = some (.int .i64 c) ∧ X.cell? ⟨Q3, 2, none⟩ = some (.int .i64 m))) (by kernel_rfl) ?sR (fun hHeld => ?_)
    case sR => ((try dsimp only); first | exact ⟨(HSx.out _ HY.out.drew).1, (HSx.out _ HY.out.drew).2.1, (HSx.out _ HY.out.drew).2.2.1, (HSx.out _ HY.out.drew).2.2.2.1⟩ | exact HSz.out)
    refine wpAnyH_take (i := 0) (oi := { dst := some 24, op := Op.move (Operand.tmp 0), type := 31, pos := "binds.go:70", after := #[], guard := none }) (v := ?vR0n1) rfl (by kernel_rfl) (by kernel_rfl) (by kernel_rfl) (fun _ _ _ h => h) (Or.inl ⟨by rfl, ?yR0n1⟩) (by assumption) ?rR0n1
    case yR0n1 => (intro w hSw; (try dsimp only at hSw); first | (go_simp; done) | (go_simp; with_reducible rfl))
    try simp only [Act.put, List.setIfInBounds_toArray, List.set_cons_zero, List.set_cons_succ]
    refine wpAnyH_take (i := 1) (oi := { dst := some 25, op := Op.nilCheck (Operand.tmp 24), type := 0, pos := "binds.go:70", after := #[{ on := 0, ground := Ground.data }], guard := none }) (v := ?vR1n2) rfl (by kernel_rfl) (by kernel_rfl) (by kernel_rfl) (fun _ _ _ h => h) (Or.inl ⟨by rfl, ?yR1n2⟩) (by assumption) ?rR1n2
    case yR1n2 => (intro w hSw; (try dsimp only at hSw); first | (go_simp; done) | (go_simp; with_reducible rfl))
    try simp only [Act.put, List.setIfInBounds_toArray, List.set_cons_zero, List.set_cons_succ]
    refine wpAnyH_take (i := 2) (oi := { dst := some 26, op := Op.fieldAddr 48 (Operand.tmp 25) 0, type := 0, pos := "binds.go:70", after := #[{ on := 1, ground := Ground.data }], guard := none }) (v := ?vR2n3) rfl (by kernel_rfl) (by kernel_rfl) (by kernel_rfl) (fun _ _ _ h => h) (Or.inl ⟨by rfl, ?yR2n3⟩) (by assumption) ?rR2n3
    case yR2n3 => (intro w hSw; (try dsimp only at hSw); first | (go_simp; done) | (go_simp; with_reducible rfl))
    try simp only [Act.put, List.setIfInBounds_toArray, List.set_cons_zero, List.set_cons_succ]
    refine wpAnyH_take (i := 3) (oi := { dst := some 27, op := Op.load 46 (Operand.tmp 26), type := 46, pos := "binds.go:70", after := #[{ on := 2, ground := Ground.data }], guard := none }) (v := ?vR3n4) rfl (by kernel_rfl) (by kernel_rfl) (by kernel_rfl) (fun _ _ _ h => h) (Or.inl ⟨by rfl, ?yR3n4⟩) (by assumption) ?rR3n4
    case yR3n4 => (intro w hSw; (try dsimp only at hSw); first | (go_simp; done) | (go_simp; with_reducible rfl))
    try simp only [Act.put, List.setIfInBounds_toArray, List.set_cons_zero, List.set_cons_succ]
    refine wpAnyH_take (i := 4) (oi := { dst := some 28, op := Op.load 60 (Operand.tmp 7), type := 60, pos := "binds.go:70", after := #[], guard := none }) (v := ?vR4n5) rfl (by kernel_rfl) (by kernel_rfl) (by kernel_rfl) (fun _ _ _ h => h) (Or.inl ⟨by rfl, ?yR4n5⟩) (by assumption) ?rR4n5
    case yR4n5 => (intro w hSw; (try dsimp only at hSw); first | (go_simp; done) | (go_simp; with_reducible rfl))
    try simp only [Act.put, List.setIfInBounds_toArray, List.set_cons_zero, List.set_cons_succ]
    refine wpAnyH_ready (rs := [5]) (by kernel_rfl) (by simp) (AllReadyH.cons (o := { dst := none, op := Op.call { callee := Callee.builtin Builtin.delete, args := #[Operand.tmp 27, Operand.tmp 28], argTypes := #[46, 60] }, type := 0, pos := "binds.go:70", after := #[{ on := 3, ground := Ground.data }, { on := 4, ground := Ground.data }], guard := none }) rfl (fun K hK => ?bRn6q0) AllReadyH.nil)
    refine step_delete _ rfl (.tmp 27) (.tmp 28) rfl ?hm1 ?hx1 (own_same (w := Y) HTy.out.own rfl) HK.out ?_
    case hm1 => simp [Act.eval]
    case hx1 => simp [Act.eval]
    intro w5 ho5
    have HSz : Hid (w5.cell? ⟨d, 0, none⟩ = some (.map (some b)) ∧ w5.cell? ⟨Q3, 0, none⟩ = some (.string t) ∧ w5.cell? ⟨Q3, 1, none⟩ = some (.int .i64 c) ∧ w5.cell? ⟨Q3, 2, none⟩ = some (.int .i64 m)) := hold4 HTb.out HBy.out.drew ho5.out.2 HQ3.out
    refine hK.out _ _ ?kRn6o5 (fun hHeld6 => ?_)
    case kRn6o5 => ((try dsimp only); first | exact ⟨(HSx.out _ HY.out.drew).1, (HSx.out _ HY.out.drew).2.1, (HSx.out _ HY.out.drew).2.2.1, (HSx.out _ HY.out.drew).2.2.2.1⟩ | exact HSz.out)
    clear hK K
    try simp only [Act.put]
    refine wpAnyH_done (by kernel_rfl) ?_ _
    go_wp2_with fail
    go_ret
    exact ⟨rfl, HTb.out.turned HBy.out.drew ho5.out.1 ho5.out.2 (del_short HTb.out.short)⟩
end Go.Proofs.YtbonnjilbocldaaDoor
