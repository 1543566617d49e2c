/-
  Binds: Find.
  Binds: the map turned, in a region.
-/
import Derived.Test.YtbonnjilbocldaaGreatDoorHF
namespace Go.Proofs.YtbonnjilbocldaaGreatDoor
open Go.RowKit
set_option linter.unusedVariables false
set_option maxRecDepth 100000

def meanD (s : ByteArray) (r : Bool) : DataW Unit := .agg [.lit (.string s.data.toList), .lit (.bool r)]
theorem meanD_inj {s s' : ByteArray} {r r' : Bool} (h : meanD s r = meanD s' r') : s = s' ∧ r = r' := by
  unfold meanD at h
  simp only [DataW.agg.injEq, List.cons.injEq, DataW.lit.injEq, Lit.string.injEq, Lit.bool.injEq, and_true] at h
  refine ⟨?_, h.2⟩
  apply ByteArray.ext
  exact Array.ext' h.1
def zeroD : DataW Unit := meanD ⟨#[]⟩ false
/-- Tables in memory: what they read as, and how long a line may be. -/
structure Tb (w : World) (d b n : Nat) (D : DataW Unit) : Prop where
  blk : w.heap[d]? = some (.cells #[.map (some b)] 66 (0, 0))
  own : w.ownsMap Tryz.prog 76 meanR b n D
  short : ∀ k s r, D.atKey k zeroD = meanD s r → s.size ≤ 8192
theorem Tb.lt {w : World} {d b n : Nat} {D : DataW Unit} (h : Tb w d b n D) : d < w.heap.size ∧ b < w.heap.size := ⟨lt_block h.blk, h.own.lt⟩
theorem own_same {w Y : World} {b n : Nat} {D : DataW Unit} (h : w.ownsMap Tryz.prog 76 meanR b n D) (hY : Y.heap[b]? = w.heap[b]?) : Y.ownsMap Tryz.prog 76 meanR b n D := by
  obtain ⟨es, clock, hb, r⟩ := h
  exact ⟨es, clock, hY.trans hb, r⟩
theorem Tb.more {w Y : World} {d b n : Nat} {D : DataW Unit} (h : Tb w d b n D) (hb : Below w.heap.size w Y) : Tb Y d b n D :=
  ⟨(hb.block d h.lt.1).trans h.blk, own_same h.own (hb.block b h.lt.2), h.short⟩
theorem Tb.look {w : World} {d b n : Nat} {D : DataW Unit} (h : Tb w d b n D) {t : ByteArray} {c m : Int} (ht : t.size ≤ 140737488355328) (hc : (Lit.int .i64 c).wf = true) (hm : (Lit.int .i64 m).wf = true) :
    ∃ s r, D.atKey (slotK t.data.toList c m) zeroD = meanD s r ∧ ∀ Y : World, Y.heap[b]? = w.heap[b]? → (Instr.lookup 64 (.map (some b)) (.agg #[.string t, .int .i64 c, .int .i64 m]) true).run Tryz.prog Y = .ok (.tuple #[.agg #[.string s, .bool r], .bool (Maps.has D (slotK t.data.toList c m))]) Y := by
  have hkey := slot_key (t := t) (by unfold maxLen; omega) hc hm
  have each : ∀ Y : World, Y.heap[b]? = w.heap[b]? → ∃ s r, D.atKey (slotK t.data.toList c m) zeroD = meanD s r ∧ (Instr.lookup 64 (.map (some b)) (.agg #[.string t, .int .i64 c, .int .i64 m]) true).run Tryz.prog Y = .ok (.tuple #[.agg #[.string s, .bool r], .bool (Maps.has D (slotK t.data.toList c m))]) Y := fun Y hY => by
    obtain ⟨v, ps, hrun, hv⟩ := (own_same h.own hY).look_ok slotKeyed underRows (meanZ Y) (meanR_mk ⟨#[]⟩ false) hkey
    obtain ⟨s, r, rfl, hz⟩ := meanR_inv hv
    exact ⟨s, r, congrArg Prod.fst hz, hrun⟩
  obtain ⟨s, r, h1, h2⟩ := each w rfl
  refine ⟨s, r, h1, fun Y hY => ?_⟩
  obtain ⟨s', r', h1', h2'⟩ := each Y hY
  obtain ⟨rfl, rfl⟩ := meanD_inj (h1.symm.trans h1')
  exact h2'
theorem gen_exitB {E : Exit → Act → World → Prop} {x : Exit} {a : Act} {w : World} (R : World → Prop) (h : R w) (hG : ∀ Y, R Y → E x a Y) : E x a w := hG w h
def foundV (has : Bool) (t : ByteArray) (c m : Int) (r : Bool) (s : ByteArray) : Value := if has then bindV t c m r s else bindV ⟨#[]⟩ 0 0 false ⟨#[]⟩
set_option maxHeartbeats 8000000 in
theorem find_any {w : World} {d b n : Nat} {D : DataW Unit} (h : Tb w d b n D) (t : ByteArray) (c m : Int) (ht : t.size ≤ 140737488355328) (hc : (Lit.int .i64 c).wf = true) (hm : (Lit.int .i64 m).wf = true) :
    Calls Tryz.prog 14 #[.pointer (some ⟨d, 0, none⟩), .string t, .agg #[.int .i64 c, .int .i64 m]] w fun e w' => (∃ s r, D.atKey (slotK t.data.toList c m) zeroD = meanD s r ∧ e = .returned (.tuple #[foundV (Maps.has D (slotK t.data.toList c m)) t c m r s, .bool (Maps.has D (slotK t.data.toList c m))])) ∧ Below w.heap.size w w' := by
  obtain ⟨s, r, hat, hlk⟩ := h.look ht hc hm
  have hsz := h.short _ _ _ hat
  obtain ⟨has, hhas⟩ : ∃ has, Maps.has D (slotK t.data.toList c m) = has := ⟨_, rfl⟩
  rw [hhas] at hlk ⊢
  have HAt := hidK hat
  obtain ⟨W1, hW1⟩ : ∃ W, w.alloc (.cells #[.int .i64 c, .int .i64 m] 23) = W := ⟨_, rfl⟩
  obtain ⟨W2, hW2⟩ : ∃ W, W1.alloc (.cells #[.string ⟨#[]⟩, .int .i64 0, .int .i64 0, .bool false, .string ⟨#[]⟩] 39) = W := ⟨_, rfl⟩
  obtain ⟨W3, hW3⟩ : ∃ W, W2.alloc (.cells #[.string t, .int .i64 c, .int .i64 m] 76) = W := ⟨_, rfl⟩
  obtain ⟨Q1, hQ1⟩ : ∃ Q, w.heap.size = Q := ⟨_, rfl⟩
  obtain ⟨Q2, hQ2⟩ : ∃ Q, W1.heap.size = Q := ⟨_, rfl⟩
  obtain ⟨Q3, hQ3⟩ : ∃ Q, W2.heap.size = Q := ⟨_, rfl⟩
  have s1 : W1.heap.size = w.heap.size + 1 := by rw [← hW1]; simp
  have s2 : W2.heap.size = W1.heap.size + 1 := by rw [← hW2]; simp
  have s3 : W3.heap.size = W2.heap.size + 1 := by rw [← hW3]; simp
  have b1 : Below w.heap.size w W1 := by rw [← hW1]; exact (Below.refl _ _).alloc (Nat.le_refl _) _
  have b2 : Below W1.heap.size W1 W2 := by rw [← hW2]; exact (Below.refl _ _).alloc (Nat.le_refl _) _
  have b3 : Below W2.heap.size W2 W3 := by rw [← hW3]; exact (Below.refl _ _).alloc (Nat.le_refl _) _
  have a1 : W1.heap[Q1]? = some (.cells #[.int .i64 c, .int .i64 m] 23 (0, 0)) := by rw [← hW1, ← hQ1]; exact heap_alloc_new w _
  have a2 : W2.heap[Q2]? = some (.cells #[.string ⟨#[]⟩, .int .i64 0, .int .i64 0, .bool false, .string ⟨#[]⟩] 39 (0, 0)) := by rw [← hW2, ← hQ2]; exact heap_alloc_new W1 _
  have a3 : W3.heap[Q3]? = some (.cells #[.string t, .int .i64 c, .int .i64 m] 76 (0, 0)) := by rw [← hW3, ← hQ3]; exact heap_alloc_new W2 _
  have hA := (b3.block Q2 (lt_block a2)).trans a2
  have hw3 := below_step (below_step b1 b2) b3
  have c1 : W2.cell? ⟨Q1, 0, none⟩ = some (.int .i64 c) := cell_at ((b2.block Q1 (lt_block a1)).trans a1) 0
  have c2 : W2.cell? ⟨Q1, 1, none⟩ = some (.int .i64 m) := cell_at ((b2.block Q1 (lt_block a1)).trans a1) 1
  have HSx : Hid (∀ Y, Below W3.heap.size W3 Y → Y.cell? ⟨d, 0, none⟩ = some (.map (some b)) ∧ Y.cell? ⟨Q3, 0, none⟩ = some (.string t) ∧ Y.cell? ⟨Q3, 1, none⟩ = some (.int .i64 c) ∧ Y.cell? ⟨Q3, 2, none⟩ = some (.int .i64 m) ∧ (Instr.lookup 64 (.map (some b)) (.agg #[.string t, .int .i64 c, .int .i64 m]) true).run Tryz.prog Y = .ok (.tuple #[.agg #[.string s, .bool r], .bool has]) Y) := fun Y hY => by
    have hy := below_step hw3 hY
    have e1 := (hy.block d h.lt.1).trans h.blk
    have e2 := (hY.block Q3 (lt_block a3)).trans a3
    exact ⟨cell_at e1 0, cell_at e2 0, cell_at e2 1, cell_at e2 2, hlk Y (hy.block b h.lt.2)⟩
  have HTo : Hid (∀ Y, Calls Tryz.prog 37 #[.agg #[.string t, .int .i64 c, .int .i64 m], .agg #[.string s, .bool r]] Y fun e w' => e = .returned (.agg #[.string t, .int .i64 c, .int .i64 m, .bool r, .string s]) ∧ Below Y.heap.size Y w') := fun Y => told_any t s c m r Y ht (by omega)
  have HBx := hidK (Below.refl W3.heap.size W3)
  have HW := hidK (And.intro hw3 (And.intro hA (And.intro hQ1 (And.intro hQ2 (And.intro hQ3 (And.intro s1 (And.intro s2 s3)))))))
  clear hlk hat hsz hhas s1 s2 s3 b1 b2 b3 a1 a2 a3 hA hw3 ht hc hm h
  go_enter Tryz.func14, Tryz.ntmps14
  go_wp2_with fail
  refine wp_region_held_drew (S := (fun X => X.cell? ⟨d, 0, none⟩ = some (.map (some b)) ∧ X.cell? ⟨Q3, 0, none⟩ = some (.string t) ∧ X.cell? ⟨Q3, 1, none⟩ = some (.int .i64 c) ∧ X.cell? ⟨Q3, 2, none⟩ = some (.int .i64 m) ∧ (Instr.lookup 64 (.map (some b)) (.agg #[.string t, .int .i64 c, .int .i64 m]) true).run Tryz.prog X = .ok (.tuple #[.agg #[.string s, .bool r], .bool has]) X)) (by kernel_rfl) ?sP (fun hHeld => ?_)
  case sP => ((try dsimp only); exact HSx.out _ (by first | exact HBx.out | exact HBx.out.drew | exact HBx.out.alloc HBx.out.size _ | exact (HBx.out.setCell HBx.out.size _).setCell HBx.out.size _))
  have HBn := hidK HBx.out.drew
  clear HBx
  have HBx := hidK HBn.out
  clear HBn
  refine wpAnyH_take (i := 0) (oi := { dst := some 15, op := Op.move (Operand.tmp 0), type := 29, pos := "binds.go:77", after := #[], guard := none }) (v := ?vP0n1) rfl (by kernel_rfl) (by kernel_rfl) (by kernel_rfl) (fun _ _ _ h => h) (Or.inl ⟨by rfl, ?yP0n1⟩) (by assumption) ?rP0n1
  case yP0n1 => (intro w hSw; (try dsimp only at hSw); first | (go_simp; done) | (go_simp; with_reducible rfl))
  try simp only [Act.put, List.setIfInBounds_toArray, List.set_cons_zero, List.set_cons_succ]
  refine wpAnyH_take (i := 1) (oi := { dst := some 16, op := Op.nilCheck (Operand.tmp 15), type := 0, pos := "binds.go:77", after := #[{ on := 0, ground := Ground.data }], guard := none }) (v := ?vP1n2) rfl (by kernel_rfl) (by kernel_rfl) (by kernel_rfl) (fun _ _ _ h => h) (Or.inl ⟨by rfl, ?yP1n2⟩) (by assumption) ?rP1n2
  case yP1n2 => (intro w hSw; (try dsimp only at hSw); first | (go_simp; done) | (go_simp; with_reducible rfl))
  try simp only [Act.put, List.setIfInBounds_toArray, List.set_cons_zero, List.set_cons_succ]
  refine wpAnyH_take (i := 2) (oi := { dst := some 17, op := Op.fieldAddr 66 (Operand.tmp 16) 0, type := 0, pos := "binds.go:77", after := #[{ on := 1, ground := Ground.data }], guard := none }) (v := ?vP2n3) rfl (by kernel_rfl) (by kernel_rfl) (by kernel_rfl) (fun _ _ _ h => h) (Or.inl ⟨by rfl, ?yP2n3⟩) (by assumption) ?rP2n3
  case yP2n3 => (intro w hSw; (try dsimp only at hSw); first | (go_simp; done) | (go_simp; with_reducible rfl))
  try simp only [Act.put, List.setIfInBounds_toArray, List.set_cons_zero, List.set_cons_succ]
  refine wpAnyH_take (i := 3) (oi := { dst := some 18, op := Op.load 64 (Operand.tmp 17), type := 64, pos := "binds.go:77", after := #[{ on := 2, ground := Ground.data }], guard := none }) (v := ?vP3n4) rfl (by kernel_rfl) (by kernel_rfl) (by kernel_rfl) (fun _ _ _ h => h) (Or.inl ⟨by rfl, ?yP3n4⟩) (by assumption) ?rP3n4
  case yP3n4 => (intro w hSw; (try dsimp only at hSw); first | (go_simp; done) | (go_simp; with_reducible rfl))
  try simp only [Act.put, List.setIfInBounds_toArray, List.set_cons_zero, List.set_cons_succ]
  refine wpAnyH_take (i := 4) (oi := { dst := some 19, op := Op.load 76 (Operand.tmp 8), type := 76, pos := "binds.go:77", after := #[], guard := none }) (v := ?vP4n5) rfl (by kernel_rfl) (by kernel_rfl) (by kernel_rfl) (fun _ _ _ h => h) (Or.inl ⟨by rfl, ?yP4n5⟩) (by assumption) ?rP4n5
  case yP4n5 => (intro w hSw; (try dsimp only at hSw); first | (go_simp; done) | (go_simp; with_reducible rfl))
  try simp only [Act.put, List.setIfInBounds_toArray, List.set_cons_zero, List.set_cons_succ]
  refine wpAnyH_take (i := 5) (oi := { dst := some 20, op := Op.lookup 64 (Operand.tmp 18) (Operand.tmp 19) true, type := 79, pos := "binds.go:77", after := #[{ on := 3, ground := Ground.data }, { on := 4, ground := Ground.data }], guard := none }) (v := ?vP5n6) rfl (by kernel_rfl) (by kernel_rfl) (by kernel_rfl) (fun _ _ _ h => h) (Or.inl ⟨by rfl, ?yP5n6⟩) (by assumption) ?rP5n6
  case yP5n6 => (intro w hSw; (try dsimp only at hSw); first | (go_simp; done) | (go_simp; with_reducible rfl))
  try simp only [Act.put, List.setIfInBounds_toArray, List.set_cons_zero, List.set_cons_succ]
  refine wpAnyH_take (i := 6) (oi := { dst := some 14, op := Op.move (Operand.tmp 20), type := 79, pos := "binds.go:77", after := #[{ on := 5, ground := Ground.data }], guard := none }) (v := ?vP6n7) rfl (by kernel_rfl) (by kernel_rfl) (by kernel_rfl) (fun _ _ _ h => h) (Or.inl ⟨by rfl, ?yP6n7⟩) (by assumption) ?rP6n7
  case yP6n7 => (intro w hSw; (try dsimp only at hSw); first | (go_simp; done) | (go_simp; with_reducible rfl))
  try simp only [Act.put, List.setIfInBounds_toArray, List.set_cons_zero, List.set_cons_succ]
  refine wpAnyH_take (i := 7) (oi := { dst := some 21, op := Op.extract (Operand.tmp 14) 0, type := 78, pos := "binds.go:77", after := #[{ on := 6, ground := Ground.data }], guard := none }) (v := ?vP7n8) rfl (by kernel_rfl) (by kernel_rfl) (by kernel_rfl) (fun _ _ _ h => h) (Or.inl ⟨by rfl, ?yP7n8⟩) (by assumption) ?rP7n8
  case yP7n8 => (intro w hSw; (try dsimp only at hSw); first | (go_simp; done) | (go_simp; with_reducible rfl))
  try simp only [Act.put, List.setIfInBounds_toArray, List.set_cons_zero, List.set_cons_succ]
  refine wpAnyH_take (i := 8) (oi := { dst := some 22, op := Op.extract (Operand.tmp 14) 1, type := 4, pos := "binds.go:77", after := #[{ on := 6, ground := Ground.data }, { on := 10, ground := Ground.gcOnly Departure.lateStores }], guard := none }) (v := ?vP8n9) rfl (by kernel_rfl) (by kernel_rfl) (by kernel_rfl) (fun _ _ _ h => h) (Or.inl ⟨by rfl, ?yP8n9⟩) (by assumption) ?rP8n9
  case yP8n9 => (intro w hSw; (try dsimp only at hSw); first | (go_simp; done) | (go_simp; with_reducible rfl))
  try simp only [Act.put, List.setIfInBounds_toArray, List.set_cons_zero, List.set_cons_succ]
  refine wpAnyH_ready (rs := [9]) (by kernel_rfl) (by simp) (AllReadyH.cons (o := { dst := some 9, op := Op.alloc 78, type := 0, pos := "binds.go:77", after := #[], guard := none }) rfl (fun K hK => ?bPn10q0) AllReadyH.nil)
  go_simp
  refine hK.out _ _ ?kPn10o9 (fun hHeld10 => ?_)
  case kPn10o9 => ((try dsimp only); exact HSx.out _ (by first | exact HBx.out | exact HBx.out.drew | exact HBx.out.alloc HBx.out.size _ | exact (HBx.out.setCell HBx.out.size _).setCell HBx.out.size _))
  clear hK K
  skip
  try simp only [Act.put, List.setIfInBounds_toArray, List.set_cons_zero, List.set_cons_succ]
  refine wpAnyH_ready (rs := [10]) (by kernel_rfl) (by simp) (AllReadyH.cons (o := { dst := none, op := Op.store 78 (Operand.tmp 9) (Operand.tmp 21), type := 0, pos := "binds.go:77", after := #[{ on := 9, ground := Ground.data }, { on := 7, ground := Ground.data }, { on := 0, ground := Ground.phase }, { on := 1, ground := Ground.phase }, { on := 2, ground := Ground.phase }, { on := 3, ground := Ground.phase }, { on := 4, ground := Ground.phase }, { on := 5, ground := Ground.phase }, { on := 6, ground := Ground.phase }, { on := 7, ground := Ground.phase }, { on := 8, ground := Ground.textOnly Departure.lateStores }, { on := 9, ground := Ground.phase }], guard := none }) rfl (fun K hK => ?bPn11q0) AllReadyH.nil)
  go_simp
  refine hK.out _ _ ?kPn11o10 (fun hHeld11 => ?_)
  case kPn11o10 => ((try dsimp only); exact HSx.out _ (by first | exact HBx.out | exact HBx.out.drew | exact HBx.out.alloc HBx.out.size _ | exact (HBx.out.setCell HBx.out.size _).setCell HBx.out.size _))
  clear hK K
  skip
  try simp only [Act.put, List.setIfInBounds_toArray, List.set_cons_zero, List.set_cons_succ]
  refine wpAnyH_take (i := 11) (oi := { dst := some 10, op := Op.assign (Operand.tmp 22), type := 4, pos := "binds.go:77", after := #[{ on := 8, ground := Ground.data }, { on := 10, ground := Ground.chain }, { on := 0, ground := Ground.phase }, { on := 1, ground := Ground.phase }, { on := 2, ground := Ground.phase }, { on := 3, ground := Ground.phase }, { on := 4, ground := Ground.phase }, { on := 5, ground := Ground.phase }, { on := 6, ground := Ground.phase }, { on := 7, ground := Ground.phase }, { on := 8, ground := Ground.phase }, { on := 9, ground := Ground.phase }, { on := 10, ground := Ground.phase }], guard := none }) (v := ?vP11n12) rfl (by kernel_rfl) (by kernel_rfl) (by kernel_rfl) (fun _ _ _ h => h) (Or.inl ⟨by rfl, ?yP11n12⟩) (by assumption) ?rP11n12
  case yP11n12 => (intro w hSw; (try dsimp only at hSw); first | (go_simp; done) | (go_simp; with_reducible rfl))
  try simp only [Act.put, List.setIfInBounds_toArray, List.set_cons_zero, List.set_cons_succ]
  refine wpAnyH_done (by kernel_rfl) ?_ _
  refine gen_exitB (fun Y => Below W3.heap.size W3 Y ∧ Y.heap[W3.heap.size]? = some (.cells #[.string s, .bool r] 78 (0, 0))) ?g1 ?_
  case g1 => first | exact ⟨HBx.out.alloc HBx.out.size _, heap_alloc_new W3.drew _⟩ | exact ⟨((HBx.out.alloc HBx.out.size _).setCell (Nat.le_refl _) _).setCell (Nat.le_refl _) _, put_at (put_at (heap_alloc_new W3.drew _) 0 _) 1 _⟩
  rintro Y ⟨hy1, hy2⟩
  have hq := HW.out
  have hA4 := (hy1.block Q2 (by have := lt_block hq.2.1; omega)).trans hq.2.1
  obtain ⟨-, g1, g2, g3, -⟩ := HSx.out Y hy1
  obtain ⟨Q4, hQ4⟩ : ∃ Q, W3.heap.size = Q := ⟨_, rfl⟩
  rw [hQ4] at hy2 ⊢
  have m0 : Y.cell? ⟨Q4, 0, none⟩ = some (.string s) := cell_at hy2 0
  have m1 : Y.cell? ⟨Q4, 1, none⟩ = some (.bool r) := cell_at hy2 1
  have HY := hidK (And.intro (below_step hq.1 hy1) hA4)
  have HQl : Hid (w.heap.size ≤ Q2 ∧ Q2 < Y.heap.size) := ⟨by omega, lt_block hA4⟩
  cases has with
  | false =>
    have x0 := cell_at hA4 0
    have x1 := cell_at hA4 1
    have x2 := cell_at hA4 2
    have x3 := cell_at hA4 3
    have x4 := cell_at hA4 4
    have y0 := free_at hA4 0
    have y1 := free_at hA4 1
    have y2 := free_at hA4 2
    have y3 := free_at hA4 3
    have y4 := free_at hA4 4
    clear hy1 hy2 hq hA4
    go_wp2_with fail
    refine ret_cell2 rfl rfl (five_set HY.out.2 _ _ _ _ _) Tryz.underlying39 rfl infoBinding rfl ⟨⟨s, r, HAt.out, rfl⟩, ?_⟩
    exact (((((HY.out.1.setCell HQl.out.1 _).setCell HQl.out.1 _).setCell HQl.out.1 _).setCell HQl.out.1 _).setCell HQl.out.1 _)
  | true =>
    clear hy1 hy2 hq hA4
    go_wp2_with fail
    refine (HTo.out _).mono ?_
    rintro e Z ⟨rfl, hb⟩
    have hA5 := (hb.block Q2 HQl.out.2).trans HY.out.2
    have HZ := hidK (And.intro (below_step HY.out.1 hb) hA5)
    have x0 := cell_at hA5 0
    have x1 := cell_at hA5 1
    have x2 := cell_at hA5 2
    have x3 := cell_at hA5 3
    have x4 := cell_at hA5 4
    have y0 := free_at hA5 0
    have y1 := free_at hA5 1
    have y2 := free_at hA5 2
    have y3 := free_at hA5 3
    have y4 := free_at hA5 4
    clear hb hA5
    go_wp2_with fail
    refine ret_cell2 rfl rfl (five_set HZ.out.2 _ _ _ _ _) Tryz.underlying39 rfl infoBinding rfl ⟨⟨s, r, HAt.out, rfl⟩, ?_⟩
    exact (((((HZ.out.1.setCell HQl.out.1 _).setCell HQl.out.1 _).setCell HQl.out.1 _).setCell HQl.out.1 _).setCell HQl.out.1 _)
end Go.Proofs.YtbonnjilbocldaaGreatDoor

namespace Go.Proofs.YtbonnjilbocldaaGreatDoor
open Go.RowKit
set_option linter.unusedVariables false
set_option maxRecDepth 100000

theorem step_delete {ops : Array Oper} {o : Oper} {a : Act} {K : Act → World → Prop} {Q : Exit → Act → World → Prop} {E : Prop} (w : World) (hgd : o.guard = none) (m x : Operand)
    (ho : o.op = .call { callee := .builtin .delete, args := #[m, x], argTypes := #[64, 76] }) {b n : Nat} {D : DataW Unit} {key : Value} {kl : Lit}
    (hm : a.eval m = .map (some b)) (hx : a.eval x = key) (hown : w.ownsMap Tryz.prog 76 meanR b n D) (hkey : keyOf Tryz.prog 76 key = some kl)
    (h : ∀ w', Hid (w'.ownsMap Tryz.prog 76 meanR b n (D.del kl) ∧ w.grownBy w' (some b)) → K (a.put o.dst (.tuple #[])) w') : if Region.wanted o (yielded ops a.tmps) = true then Oper.wp Tryz.prog o a w K Q else E := by
  have hw : Region.wanted o (yielded ops a.tmps) = true := by simp [Region.wanted, hgd]
  rw [if_pos hw]
  obtain ⟨w', hrun, h1, h2⟩ := hown.drop slotKeyed underRows hkey o.type
  unfold Oper.wp
  simp [execOp, ho, resolve, invoke, builtin, hm, hx, hrun, Result.andThen]
  exact h w' ⟨h1, h2.grown⟩
theorem step_update {ops : Array Oper} {o : Oper} {a : Act} {K : Act → World → Prop} {Q : Exit → Act → World → Prop} {E : Prop} (w : World) (hgd : o.guard = none) (m x v : Operand)
    (ho : o.op = .mapUpdate 64 m x v) {b n : Nat} {D d : DataW Unit} {key val : Value} {kl : Lit} {ps : List MemPlace}
    (hm : a.eval m = .map (some b)) (hx : a.eval x = key) (hv : a.eval v = val) (hown : w.ownsMap Tryz.prog 76 meanR b n D) (hn : n < maxLen) (hkey : keyOf Tryz.prog 76 key = some kl) (hval : meanR val = some (d, ps))
    (h : ∀ w', Hid (w'.ownsMap Tryz.prog 76 meanR b (n + 1) (D.put kl d) ∧ w.grownBy w' (some b)) → K (a.put o.dst undef) w') : if Region.wanted o (yielded ops a.tmps) = true then Oper.wp Tryz.prog o a w K Q else E := by
  have hw : Region.wanted o (yielded ops a.tmps) = true := by simp [Region.wanted, hgd]
  rw [if_pos hw]
  obtain ⟨w', hrun, h1, h2⟩ := hown.store slotKeyed underRows hn hkey hval
  unfold Oper.wp
  simp [execOp, ho, hm, hx, hv, hrun, Result.andThen]
  exact h w' ⟨h1, h2.grown⟩
theorem del_short {D : DataW Unit} {k : Lit} (h : ∀ q s r, D.atKey q zeroD = meanD s r → s.size ≤ 8192) : ∀ q s r, (D.del k).atKey q zeroD = meanD s r → s.size ≤ 8192 := fun q s r hq => by
  by_cases e : q = k
  · rw [e, Maps.atKey_del_same] at hq
    obtain ⟨rfl, _⟩ := meanD_inj hq.symm
    exact Nat.zero_le _
  · rw [Maps.atKey_del_other e] at hq
    exact h q s r hq
theorem put_short {D : DataW Unit} {k : Lit} {s0 : ByteArray} {r0 : Bool} (hD : Maps.IsMap D) (hk : WideAt.IsKeyLit k) (h0 : s0.size ≤ 8192) (h : ∀ q s r, D.atKey q zeroD = meanD s r → s.size ≤ 8192) : ∀ q s r, (D.put k (meanD s0 r0)).atKey q zeroD = meanD s r → s.size ≤ 8192 := fun q s r hq => by
  by_cases e : q = k
  · rw [e, Maps.atKey_put_same hD hk] at hq
    obtain ⟨rfl, _⟩ := meanD_inj hq.symm
    exact h0
  · rw [Maps.atKey_put_other e] at hq
    exact h q s r hq
/-- What a call that turns the map leaves. -/
structure Tn (w w' : World) (d b n : Nat) (D : DataW Unit) : Prop where
  tb : Tb w' d b n D
  but : But [b] w w'
theorem Tb.ne {w : World} {d b n : Nat} {D : DataW Unit} (h : Tb w d b n D) : d ≠ b := fun e => by
  obtain ⟨es, clock, hb, _⟩ := h.own
  have := h.blk
  rw [e, hb] at this
  cases this
/-- The map's block has turned, nothing else. -/
theorem Tb.turned {w Y w5 : World} {d b n n' : Nat} {D D' : DataW Unit} (h : Tb w d b n D) (hy : Below w.heap.size w Y) (ho : w5.ownsMap Tryz.prog 76 meanR b n' D') (hg : Y.grownBy w5 (some b)) (hs : ∀ q s r, D'.atKey q zeroD = meanD s r → s.size ≤ 8192) : Tn w w5 d b n' D' := by
  have hlt := h.lt
  have hsz := hy.size
  refine ⟨⟨?_, ho, hs⟩, ⟨hg.os.trans hy.os, hg.tape.trans hy.tape, hg.output.trans hy.output, Nat.le_trans hy.size hg.size, fun k hk hb => ?_⟩⟩
  · rw [hg.block d (by omega) (fun e => h.ne (Option.some.inj e)), hy.block d hlt.1]
    exact h.blk
  · rw [hg.block k (by omega) (fun e => hb (by simp [Option.some.inj e])), hy.block k hk]
/-- What Unbind tells and leaves. -/
def unbP (has : Bool) (w : World) (d b n : Nat) (D : DataW Unit) (kl : Lit) (e : Ending) (w' : World) : Prop := if has then e = .returned (.int .i64 0) ∧ Tn w w' d b n (D.del kl) else e = .returned (.int .i64 220) ∧ Below w.heap.size w w'
end Go.Proofs.YtbonnjilbocldaaGreatDoor
