/-
  Binds: a key at rest.
-/
import Derived.Test.YtbonnjilbocldaaGreatDoorBOpe
namespace Go.Proofs.YtbonnjilbocldaaGreatDoor
open Go.RowKit
set_option linter.unusedVariables false
set_option maxRecDepth 100000

def rootS : ByteArray := ⟨#[114, 111, 111, 116]⟩
theorem ret_cell3 {P : Program} {fn : Func} {p u v : Tmp} {ty : TypeId} (h : fn.results = #[.cell p ty, .tmp u, .tmp v]) {a : Act} {w : World} {R : Ending → World → Prop} {g : Nat} {t : TypeId} {cs : Array Value} {fr : Nat × Nat} {d : TypeDesc}
    (hp : a.tmps.getD p undef = .pointer (some ⟨g, 0, none⟩)) (hg : w.heap[g]? = some (.cells cs t fr)) (hu : P.underlying ty = some d) (hd : (match d with | .struct _ | .array _ _ => true | _ => false) = true) (hi : (P.info? ty).map (·.size) = some cs.size)
    (hdf : a.defers = []) (hR : R (.returned (.tuple #[.agg cs, a.tmps.getD u undef, a.tmps.getD v undef])) w) : bodyPost P fn R .ret a w := by
  refine bodyPost_ret ?_ hdf hR
  have h1 : (asAddr (.pointer (some ⟨g, 0, none⟩))).run P w = .ok ⟨g, 0, none⟩ w := rfl
  have hp2 : a.tmps[p]?.getD undef = .pointer (some ⟨g, 0, none⟩) := by simpa using hp
  simp only [results, h]
  simp [Sem.run_bind, Result.andThen]
  rw [hp2, h1]
  dsimp only
  rw [run_loadVar_row w g t ty cs fr d hg hu hd hi]
/-- What a key does at rest. -/
def resP (w : World) (D : DataW Unit) (p q c m : Int) (e : Ending) (w' : World) : Prop :=
  Below w.heap.size w w' ∧ ∃ s r, D.atKey (slotK rootS.data.toList c m) zeroD = meanD s r ∧
    e = .returned (.tuple (if c = p ∧ m = q then #[walkV prefixS 0, .string ⟨#[]⟩, .bool false] else if Maps.has D (slotK rootS.data.toList c m) then #[restV, .string s, .bool false] else #[restV, .string ⟨#[]⟩, .bool true]))
set_option maxHeartbeats 8000000 in
theorem pressAtRest_any {w : World} {d b n : Nat} {D : DataW Unit} (h : Tb w d b n D) (p q c m : Int) (hc : (Lit.int .i64 c).wf = true) (hm : (Lit.int .i64 m).wf = true) :
    Calls Tryz.prog 44 #[.pointer (some ⟨d, 0, none⟩), .agg #[.int .i64 p, .int .i64 q], .agg #[.int .i64 c, .int .i64 m]] w fun e w' => resP w D p q c m e w' := by
  obtain ⟨s, r, hat, hlk⟩ := h.look (t := rootS) (by decide) hc hm
  have hsz := h.short _ _ _ hat
  have HAt := hidK hat
  have HPo : Hid (∀ e w', Below w.heap.size w w' → e = .returned (.tuple (if c = p ∧ m = q then #[walkV prefixS 0, .string ⟨#[]⟩, .bool false] else if Maps.has D (slotK rootS.data.toList c m) then #[restV, .string s, .bool false] else #[restV, .string ⟨#[]⟩, .bool true])) → resP w D p q c m e w') := fun e w' h1 h2 => ⟨h1, s, r, HAt.out, h2⟩
  obtain ⟨has, hhas⟩ : ∃ has, Maps.has D (slotK rootS.data.toList c m) = has := ⟨_, rfl⟩
  rw [hhas] at hlk HPo
  have HTb := hidK h
  obtain ⟨W1, hW1⟩ : ∃ W, w.alloc (.cells #[.int .i64 p, .int .i64 q] 23) = W := ⟨_, rfl⟩
  obtain ⟨W2, hW2⟩ : ∃ W, W1.alloc (.cells #[.int .i64 c, .int .i64 m] 23) = W := ⟨_, rfl⟩
  obtain ⟨W3, hW3⟩ : ∃ W, W2.alloc (.cells #[.string ⟨#[]⟩, .int .i64 0] 36) = W := ⟨_, rfl⟩
  obtain ⟨K1, hK1⟩ : ∃ Q, w.heap.size = Q := ⟨_, rfl⟩
  obtain ⟨K2, hK2⟩ : ∃ Q, W1.heap.size = Q := ⟨_, rfl⟩
  obtain ⟨Z, hZ⟩ : ∃ Q, W2.heap.size = Q := ⟨_, rfl⟩
  have b1 : Below w.heap.size w W1 := by rw [← hW1]; exact (Below.refl _ _).alloc (Nat.le_refl _) _
  have b2 : Below W1.heap.size W1 W2 := by rw [← hW2]; exact (Below.refl _ _).alloc (Nat.le_refl _) _
  have b3 : Below W2.heap.size W2 W3 := by rw [← hW3]; exact (Below.refl _ _).alloc (Nat.le_refl _) _
  have a1 : W1.heap[K1]? = some (.cells #[.int .i64 p, .int .i64 q] 23 (0, 0)) := by rw [← hW1, ← hK1]; exact heap_alloc_new w _
  have a2 : W2.heap[K2]? = some (.cells #[.int .i64 c, .int .i64 m] 23 (0, 0)) := by rw [← hW2, ← hK2]; exact heap_alloc_new W1 _
  have a3 : W3.heap[Z]? = some (.cells #[.string ⟨#[]⟩, .int .i64 0] 36 (0, 0)) := by rw [← hW3, ← hZ]; exact heap_alloc_new W2 _
  have e1 := (b3.block K1 (by have := lt_block a1; have := b2.size; omega)).trans ((b2.block K1 (lt_block a1)).trans a1)
  have e2 := (b3.block K2 (lt_block a2)).trans a2
  have hw3 := below_step (below_step b1 b2) b3
  have c1 : W3.cell? ⟨K1, 0, none⟩ = some (.int .i64 p) := cell_at e1 0
  have c2 : W3.cell? ⟨K1, 1, none⟩ = some (.int .i64 q) := cell_at e1 1
  have c3 : W3.cell? ⟨K2, 0, none⟩ = some (.int .i64 c) := cell_at e2 0
  have c4 : W3.cell? ⟨K2, 1, none⟩ = some (.int .i64 m) := cell_at e2 1
  have z0 := cell_at a3 0
  have z1 := cell_at a3 1
  have f0 := free_at a3 0
  have f1 := free_at a3 1
  have HSx : Hid (∀ X, Below W3.heap.size W3 X → X.cell? ⟨d, 0, none⟩ = some (.map (some b)) ∧ X.cell? ⟨K2, 0, none⟩ = some (.int .i64 c) ∧ X.cell? ⟨K2, 1, none⟩ = some (.int .i64 m) ∧ (Instr.lookup 64 (.map (some b)) (.agg #[.string { data := #[114, 111, 111, 116] }, .int .i64 c, .int .i64 m]) true).run Tryz.prog X = .ok (.tuple #[.agg #[.string s, .bool r], .bool has]) X) := fun Y hY => by
    have hy := below_step hw3 hY
    have g1 := (hy.block d h.lt.1).trans h.blk
    have g2 := (hY.block K2 (lt_block e2)).trans e2
    exact ⟨cell_at g1 0, cell_at g2 0, cell_at g2 1, hlk Y (hy.block b h.lt.2)⟩
  have HC2 : Hid (∀ Y, Calls Tryz.prog 36 #[.string s] Y fun r w' => r = .returned (.string s) ∧ Below Y.heap.size Y w') := fun Y => clone_any s Y (by omega)
  have HBx := hidK (Below.refl W3.heap.size W3)
  have HW := hidK (And.intro hw3 a3)
  have HZl : Hid (w.heap.size ≤ Z) := by show _ ≤ _; have := b1.size; have := b2.size; omega
  clear hlk hat hhas b1 b2 b3 a1 a2 a3 e1 e2 hw3 hc hm h hsz
  by_cases hk : c = p ∧ m = q
  · obtain ⟨rfl, rfl⟩ := hk
    go_enter Tryz.func44, Tryz.ntmps44
    go_wp2_with fail
    refine ret_cell3 rfl rfl (two_set HW.out.2 _ _) Tryz.underlying36 rfl infoWalk rfl (HPo.out _ _ ((HW.out.1.setCell HZl.out _).setCell HZl.out _) ?_)
    rw [if_pos (by simp)]
    rfl
  · have HK := hidK hk
    have hkq : c = p → ¬ m = q := fun e1 e2 => hk ⟨e1, e2⟩
    clear hk
    by_cases hcp : c = p
    · subst hcp
      have hmq : ¬ m = q := hkq rfl
      clear hkq
      go_enter Tryz.func44, Tryz.ntmps44
      go_wp2_with fail
      refine wp_region_held_drew (S := (fun X => X.cell? ⟨d, 0, none⟩ = some (.map (some b)) ∧ X.cell? ⟨K2, 0, none⟩ = some (.int .i64 c) ∧ X.cell? ⟨K2, 1, none⟩ = some (.int .i64 m) ∧ (Instr.lookup 64 (.map (some b)) (.agg #[.string { data := #[114, 111, 111, 116] }, .int .i64 c, .int .i64 m]) true).run Tryz.prog X = .ok (.tuple #[.agg #[.string s, .bool r], .bool has]) X)) (by kernel_rfl) ?sP (fun hHeld => ?_)
      case sP => ((try dsimp only); exact HSx.out _ (by first | exact HBx.out | exact HBx.out.drew | exact HBx.out.alloc HBx.out.size _ | exact (HBx.out.setCell HBx.out.size _).setCell HBx.out.size _))
      have HBn := hidK HBx.out.drew
      clear HBx
      have HBx := hidK HBn.out
      clear HBn
      refine wpAnyH_take (i := 0) (oi := { dst := some 16, op := Op.move (Operand.tmp 0), type := 29, pos := "press.go:66", after := #[], guard := none }) (v := ?vP0n1) rfl (by kernel_rfl) (by kernel_rfl) (by kernel_rfl) (fun _ _ _ h => h) (Or.inl ⟨by rfl, ?yP0n1⟩) (by assumption) ?rP0n1
      case yP0n1 => (intro w hSw; (try dsimp only at hSw); first | (go_simp; done) | (go_simp; with_reducible rfl))
      try simp only [Act.put, List.setIfInBounds_toArray, List.set_cons_zero, List.set_cons_succ]
      refine wpAnyH_take (i := 1) (oi := { dst := some 17, op := Op.nilCheck (Operand.tmp 16), type := 0, pos := "press.go:66", after := #[{ on := 0, ground := Ground.data }], guard := none }) (v := ?vP1n2) rfl (by kernel_rfl) (by kernel_rfl) (by kernel_rfl) (fun _ _ _ h => h) (Or.inl ⟨by rfl, ?yP1n2⟩) (by assumption) ?rP1n2
      case yP1n2 => (intro w hSw; (try dsimp only at hSw); first | (go_simp; done) | (go_simp; with_reducible rfl))
      try simp only [Act.put, List.setIfInBounds_toArray, List.set_cons_zero, List.set_cons_succ]
      refine wpAnyH_take (i := 2) (oi := { dst := some 18, op := Op.fieldAddr 66 (Operand.tmp 17) 0, type := 0, pos := "press.go:66", after := #[{ on := 1, ground := Ground.data }], guard := none }) (v := ?vP2n3) rfl (by kernel_rfl) (by kernel_rfl) (by kernel_rfl) (fun _ _ _ h => h) (Or.inl ⟨by rfl, ?yP2n3⟩) (by assumption) ?rP2n3
      case yP2n3 => (intro w hSw; (try dsimp only at hSw); first | (go_simp; done) | (go_simp; with_reducible rfl))
      try simp only [Act.put, List.setIfInBounds_toArray, List.set_cons_zero, List.set_cons_succ]
      refine wpAnyH_take (i := 3) (oi := { dst := some 19, op := Op.load 64 (Operand.tmp 18), type := 64, pos := "press.go:66", after := #[{ on := 2, ground := Ground.data }], guard := none }) (v := ?vP3n4) rfl (by kernel_rfl) (by kernel_rfl) (by kernel_rfl) (fun _ _ _ h => h) (Or.inl ⟨by rfl, ?yP3n4⟩) (by assumption) ?rP3n4
      case yP3n4 => (intro w hSw; (try dsimp only at hSw); first | (go_simp; done) | (go_simp; with_reducible rfl))
      try simp only [Act.put, List.setIfInBounds_toArray, List.set_cons_zero, List.set_cons_succ]
      refine wpAnyH_take (i := 4) (oi := { dst := some 20, op := Op.load 23 (Operand.tmp 5), type := 23, pos := "press.go:66", after := #[], guard := none }) (v := ?vP4n5) rfl (by kernel_rfl) (by kernel_rfl) (by kernel_rfl) (fun _ _ _ h => h) (Or.inl ⟨by rfl, ?yP4n5⟩) (by assumption) ?rP4n5
      case yP4n5 => (intro w hSw; (try dsimp only at hSw); first | (go_simp; done) | (go_simp; with_reducible rfl))
      try simp only [Act.put, List.setIfInBounds_toArray, List.set_cons_zero, List.set_cons_succ]
      refine wpAnyH_take (i := 5) (oi := { dst := some 21, op := Op.build 76 #[(0, Operand.const (Value.string { data := #[114, 111, 111, 116] })), (1, Operand.tmp 20)], type := 76, pos := "press.go:66", after := #[{ on := 4, ground := Ground.data }], guard := none }) (v := ?vP5n6) rfl (by kernel_rfl) (by kernel_rfl) (by kernel_rfl) (fun _ _ _ h => h) (Or.inl ⟨by rfl, ?yP5n6⟩) (by assumption) ?rP5n6
      case yP5n6 => (intro w hSw; (try dsimp only at hSw); first | (go_simp; done) | (go_simp; with_reducible rfl))
      try simp only [Act.put, List.setIfInBounds_toArray, List.set_cons_zero, List.set_cons_succ]
      refine wpAnyH_take (i := 6) (oi := { dst := some 22, op := Op.lookup 64 (Operand.tmp 19) (Operand.tmp 21) true, type := 79, pos := "press.go:66", after := #[{ on := 3, ground := Ground.data }, { on := 5, ground := Ground.data }], guard := none }) (v := ?vP6n7) rfl (by kernel_rfl) (by kernel_rfl) (by kernel_rfl) (fun _ _ _ h => h) (Or.inl ⟨by rfl, ?yP6n7⟩) (by assumption) ?rP6n7
      case yP6n7 => (intro w hSw; (try dsimp only at hSw); first | (go_simp; done) | (go_simp; with_reducible rfl))
      try simp only [Act.put, List.setIfInBounds_toArray, List.set_cons_zero, List.set_cons_succ]
      refine wpAnyH_take (i := 7) (oi := { dst := some 15, op := Op.move (Operand.tmp 22), type := 79, pos := "press.go:66", after := #[{ on := 6, ground := Ground.data }], guard := none }) (v := ?vP7n8) rfl (by kernel_rfl) (by kernel_rfl) (by kernel_rfl) (fun _ _ _ h => h) (Or.inl ⟨by rfl, ?yP7n8⟩) (by assumption) ?rP7n8
      case yP7n8 => (intro w hSw; (try dsimp only at hSw); first | (go_simp; done) | (go_simp; with_reducible rfl))
      try simp only [Act.put, List.setIfInBounds_toArray, List.set_cons_zero, List.set_cons_succ]
      refine wpAnyH_take (i := 8) (oi := { dst := some 23, op := Op.extract (Operand.tmp 15) 0, type := 78, pos := "press.go:66", after := #[{ on := 7, ground := Ground.data }], guard := none }) (v := ?vP8n9) rfl (by kernel_rfl) (by kernel_rfl) (by kernel_rfl) (fun _ _ _ h => h) (Or.inl ⟨by rfl, ?yP8n9⟩) (by assumption) ?rP8n9
      case yP8n9 => (intro w hSw; (try dsimp only at hSw); first | (go_simp; done) | (go_simp; with_reducible rfl))
      try simp only [Act.put, List.setIfInBounds_toArray, List.set_cons_zero, List.set_cons_succ]
      refine wpAnyH_take (i := 9) (oi := { dst := some 24, op := Op.extract (Operand.tmp 15) 1, type := 4, pos := "press.go:66", after := #[{ on := 7, ground := Ground.data }, { on := 11, ground := Ground.gcOnly Departure.lateStores }], guard := none }) (v := ?vP9n10) rfl (by kernel_rfl) (by kernel_rfl) (by kernel_rfl) (fun _ _ _ h => h) (Or.inl ⟨by rfl, ?yP9n10⟩) (by assumption) ?rP9n10
      case yP9n10 => (intro w hSw; (try dsimp only at hSw); first | (go_simp; done) | (go_simp; with_reducible rfl))
      try simp only [Act.put, List.setIfInBounds_toArray, List.set_cons_zero, List.set_cons_succ]
      refine wpAnyH_ready (rs := [10]) (by kernel_rfl) (by simp) (AllReadyH.cons (o := { dst := some 9, op := Op.alloc 78, type := 0, pos := "press.go:66", after := #[], guard := none }) rfl (fun K hK => ?bPn11q0) AllReadyH.nil)
      go_simp
      refine hK.out _ _ ?kPn11o10 (fun hHeld11 => ?_)
      case kPn11o10 => ((try dsimp only); exact HSx.out _ (by first | exact HBx.out | exact HBx.out.drew | exact HBx.out.alloc HBx.out.size _ | exact (HBx.out.setCell HBx.out.size _).setCell HBx.out.size _))
      clear hK K
      skip
      try simp only [Act.put, List.setIfInBounds_toArray, List.set_cons_zero, List.set_cons_succ]
      refine wpAnyH_ready (rs := [11]) (by kernel_rfl) (by simp) (AllReadyH.cons (o := { dst := none, op := Op.store 78 (Operand.tmp 9) (Operand.tmp 23), type := 0, pos := "press.go:66", after := #[{ on := 10, ground := Ground.data }, { on := 8, ground := Ground.data }, { on := 0, ground := Ground.phase }, { on := 1, ground := Ground.phase }, { on := 2, ground := Ground.phase }, { on := 3, ground := Ground.phase }, { on := 4, ground := Ground.phase }, { on := 5, ground := Ground.phase }, { on := 6, ground := Ground.phase }, { on := 7, ground := Ground.phase }, { on := 8, ground := Ground.phase }, { on := 9, ground := Ground.textOnly Departure.lateStores }, { on := 10, ground := Ground.phase }], guard := none }) rfl (fun K hK => ?bPn12q0) AllReadyH.nil)
      go_simp
      refine hK.out _ _ ?kPn12o11 (fun hHeld12 => ?_)
      case kPn12o11 => ((try dsimp only); exact HSx.out _ (by first | exact HBx.out | exact HBx.out.drew | exact HBx.out.alloc HBx.out.size _ | exact (HBx.out.setCell HBx.out.size _).setCell HBx.out.size _))
      clear hK K
      skip
      try simp only [Act.put, List.setIfInBounds_toArray, List.set_cons_zero, List.set_cons_succ]
      refine wpAnyH_take (i := 12) (oi := { dst := some 10, op := Op.assign (Operand.tmp 24), type := 4, pos := "press.go:66", after := #[{ on := 9, ground := Ground.data }, { on := 11, ground := Ground.chain }, { on := 0, ground := Ground.phase }, { on := 1, ground := Ground.phase }, { on := 2, ground := Ground.phase }, { on := 3, ground := Ground.phase }, { on := 4, ground := Ground.phase }, { on := 5, ground := Ground.phase }, { on := 6, ground := Ground.phase }, { on := 7, ground := Ground.phase }, { on := 8, ground := Ground.phase }, { on := 9, ground := Ground.phase }, { on := 10, ground := Ground.phase }, { on := 11, ground := Ground.phase }], guard := none }) (v := ?vP12n13) rfl (by kernel_rfl) (by kernel_rfl) (by kernel_rfl) (fun _ _ _ h => h) (Or.inl ⟨by rfl, ?yP12n13⟩) (by assumption) ?rP12n13
      case yP12n13 => (intro w hSw; (try dsimp only at hSw); first | (go_simp; done) | (go_simp; with_reducible rfl))
      try simp only [Act.put, List.setIfInBounds_toArray, List.set_cons_zero, List.set_cons_succ]
      refine wpAnyH_done (by kernel_rfl) ?_ _
      refine gen_exitB (fun Y => Below W3.heap.size W3 Y ∧ Y.heap[W3.heap.size]? = some (.cells #[.string s, .bool r] 78 (0, 0))) ?g1 ?_
      case g1 => first | exact ⟨HBx.out.alloc HBx.out.size _, heap_alloc_new W3.drew _⟩ | exact ⟨((HBx.out.alloc HBx.out.size _).setCell (Nat.le_refl _) _).setCell (Nat.le_refl _) _, put_at (put_at (heap_alloc_new W3.drew _) 0 _) 1 _⟩
      rintro Y ⟨hy1, hy2⟩
      have hz := (hy1.block Z (lt_block HW.out.2)).trans HW.out.2
      have hyw := below_step HW.out.1 hy1
      obtain ⟨Q4, hQ4⟩ : ∃ Q, W3.heap.size = Q := ⟨_, rfl⟩
      rw [hQ4] at hy2 ⊢
      have m0 : Y.cell? ⟨Q4, 0, none⟩ = some (.string s) := cell_at hy2 0
      have m1 : Y.cell? ⟨Q4, 1, none⟩ = some (.bool r) := cell_at hy2 1
      have HY := hidK (And.intro hyw hz)
      cases has with
      | false =>
        have x0 := cell_at hz 0
        have x1 := cell_at hz 1
        have g0 := free_at hz 0
        have g1 := free_at hz 1
        clear hy1 hy2 hz hyw z0 z1 f0 f1
        go_wp2_with fail
        refine ret_cell3 rfl rfl (two_set HY.out.2 _ _) Tryz.underlying36 rfl infoWalk rfl (HPo.out _ _ ((HY.out.1.setCell HZl.out _).setCell HZl.out _) ?_)
        rw [if_neg HK.out]
        rfl
      | true =>
        clear hy1 hy2 hz hyw z0 z1 f0 f1
        go_wp2_with fail
        refine (HC2.out _).mono ?_
        rintro e V ⟨rfl, hb⟩
        have hz := (hb.block Z (lt_block HY.out.2)).trans HY.out.2
        have HV := hidK (And.intro (below_step HY.out.1 hb) hz)
        have x0 := cell_at hz 0
        have x1 := cell_at hz 1
        have g0 := free_at hz 0
        have g1 := free_at hz 1
        clear hb hz
        go_wp2_with fail
        refine ret_cell3 rfl rfl (two_set HV.out.2 _ _) Tryz.underlying36 rfl infoWalk rfl (HPo.out _ _ ((HV.out.1.setCell HZl.out _).setCell HZl.out _) ?_)
        rw [if_neg HK.out]
        rfl
    · clear hkq
      go_enter Tryz.func44, Tryz.ntmps44
      go_wp2_with fail
      refine wp_region_held_drew (S := (fun X => X.cell? ⟨d, 0, none⟩ = some (.map (some b)) ∧ X.cell? ⟨K2, 0, none⟩ = some (.int .i64 c) ∧ X.cell? ⟨K2, 1, none⟩ = some (.int .i64 m) ∧ (Instr.lookup 64 (.map (some b)) (.agg #[.string { data := #[114, 111, 111, 116] }, .int .i64 c, .int .i64 m]) true).run Tryz.prog X = .ok (.tuple #[.agg #[.string s, .bool r], .bool has]) X)) (by kernel_rfl) ?sR (fun hHeld => ?_)
      case sR => ((try dsimp only); exact HSx.out _ (by first | exact HBx.out | exact HBx.out.drew | exact HBx.out.alloc HBx.out.size _ | exact (HBx.out.setCell HBx.out.size _).setCell HBx.out.size _))
      have HBn := hidK HBx.out.drew
      clear HBx
      have HBx := hidK HBn.out
      clear HBn
      refine wpAnyH_take (i := 0) (oi := { dst := some 16, op := Op.move (Operand.tmp 0), type := 29, pos := "press.go:66", after := #[], guard := none }) (v := ?vR0n1) rfl (by kernel_rfl) (by kernel_rfl) (by kernel_rfl) (fun _ _ _ h => h) (Or.inl ⟨by rfl, ?yR0n1⟩) (by assumption) ?rR0n1
      case yR0n1 => (intro w hSw; (try dsimp only at hSw); first | (go_simp; done) | (go_simp; with_reducible rfl))
      try simp only [Act.put, List.setIfInBounds_toArray, List.set_cons_zero, List.set_cons_succ]
      refine wpAnyH_take (i := 1) (oi := { dst := some 17, op := Op.nilCheck (Operand.tmp 16), type := 0, pos := "press.go:66", after := #[{ on := 0, ground := Ground.data }], guard := none }) (v := ?vR1n2) rfl (by kernel_rfl) (by kernel_rfl) (by kernel_rfl) (fun _ _ _ h => h) (Or.inl ⟨by rfl, ?yR1n2⟩) (by assumption) ?rR1n2
      case yR1n2 => (intro w hSw; (try dsimp only at hSw); first | (go_simp; done) | (go_simp; with_reducible rfl))
      try simp only [Act.put, List.setIfInBounds_toArray, List.set_cons_zero, List.set_cons_succ]
      refine wpAnyH_take (i := 2) (oi := { dst := some 18, op := Op.fieldAddr 66 (Operand.tmp 17) 0, type := 0, pos := "press.go:66", after := #[{ on := 1, ground := Ground.data }], guard := none }) (v := ?vR2n3) rfl (by kernel_rfl) (by kernel_rfl) (by kernel_rfl) (fun _ _ _ h => h) (Or.inl ⟨by rfl, ?yR2n3⟩) (by assumption) ?rR2n3
      case yR2n3 => (intro w hSw; (try dsimp only at hSw); first | (go_simp; done) | (go_simp; with_reducible rfl))
      try simp only [Act.put, List.setIfInBounds_toArray, List.set_cons_zero, List.set_cons_succ]
      refine wpAnyH_take (i := 3) (oi := { dst := some 19, op := Op.load 64 (Operand.tmp 18), type := 64, pos := "press.go:66", after := #[{ on := 2, ground := Ground.data }], guard := none }) (v := ?vR3n4) rfl (by kernel_rfl) (by kernel_rfl) (by kernel_rfl) (fun _ _ _ h => h) (Or.inl ⟨by rfl, ?yR3n4⟩) (by assumption) ?rR3n4
      case yR3n4 => (intro w hSw; (try dsimp only at hSw); first | (go_simp; done) | (go_simp; with_reducible rfl))
      try simp only [Act.put, List.setIfInBounds_toArray, List.set_cons_zero, List.set_cons_succ]
      refine wpAnyH_take (i := 4) (oi := { dst := some 20, op := Op.load 23 (Operand.tmp 5), type := 23, pos := "press.go:66", after := #[], guard := none }) (v := ?vR4n5) rfl (by kernel_rfl) (by kernel_rfl) (by kernel_rfl) (fun _ _ _ h => h) (Or.inl ⟨by rfl, ?yR4n5⟩) (by assumption) ?rR4n5
      case yR4n5 => (intro w hSw; (try dsimp only at hSw); first | (go_simp; done) | (go_simp; with_reducible rfl))
      try simp only [Act.put, List.setIfInBounds_toArray, List.set_cons_zero, List.set_cons_succ]
      refine wpAnyH_take (i := 5) (oi := { dst := some 21, op := Op.build 76 #[(0, Operand.const (Value.string { data := #[114, 111, 111, 116] })), (1, Operand.tmp 20)], type := 76, pos := "press.go:66", after := #[{ on := 4, ground := Ground.data }], guard := none }) (v := ?vR5n6) rfl (by kernel_rfl) (by kernel_rfl) (by kernel_rfl) (fun _ _ _ h => h) (Or.inl ⟨by rfl, ?yR5n6⟩) (by assumption) ?rR5n6
      case yR5n6 => (intro w hSw; (try dsimp only at hSw); first | (go_simp; done) | (go_simp; with_reducible rfl))
      try simp only [Act.put, List.setIfInBounds_toArray, List.set_cons_zero, List.set_cons_succ]
      refine wpAnyH_take (i := 6) (oi := { dst := some 22, op := Op.lookup 64 (Operand.tmp 19) (Operand.tmp 21) true, type := 79, pos := "press.go:66", after := #[{ on := 3, ground := Ground.data }, { on := 5, ground := Ground.data }], guard := none }) (v := ?vR6n7) rfl (by kernel_rfl) (by kernel_rfl) (by kernel_rfl) (fun _ _ _ h => h) (Or.inl ⟨by rfl, ?yR6n7⟩) (by assumption) ?rR6n7
      case yR6n7 => (intro w hSw; (try dsimp only at hSw); first | (go_simp; done) | (go_simp; with_reducible rfl))
      try simp only [Act.put, List.setIfInBounds_toArray, List.set_cons_zero, List.set_cons_succ]
      refine wpAnyH_take (i := 7) (oi := { dst := some 15, op := Op.move (Operand.tmp 22), type := 79, pos := "press.go:66", after := #[{ on := 6, ground := Ground.data }], guard := none }) (v := ?vR7n8) rfl (by kernel_rfl) (by kernel_rfl) (by kernel_rfl) (fun _ _ _ h => h) (Or.inl ⟨by rfl, ?yR7n8⟩) (by assumption) ?rR7n8
      case yR7n8 => (intro w hSw; (try dsimp only at hSw); first | (go_simp; done) | (go_simp; with_reducible rfl))
      try simp only [Act.put, List.setIfInBounds_toArray, List.set_cons_zero, List.set_cons_succ]
      refine wpAnyH_take (i := 8) (oi := { dst := some 23, op := Op.extract (Operand.tmp 15) 0, type := 78, pos := "press.go:66", after := #[{ on := 7, ground := Ground.data }], guard := none }) (v := ?vR8n9) rfl (by kernel_rfl) (by kernel_rfl) (by kernel_rfl) (fun _ _ _ h => h) (Or.inl ⟨by rfl, ?yR8n9⟩) (by assumption) ?rR8n9
      case yR8n9 => (intro w hSw; (try dsimp only at hSw); first | (go_simp; done) | (go_simp; with_reducible rfl))
      try simp only [Act.put, List.setIfInBounds_toArray, List.set_cons_zero, List.set_cons_succ]
      refine wpAnyH_take (i := 9) (oi := { dst := some 24, op := Op.extract (Operand.tmp 15) 1, type := 4, pos := "press.go:66", after := #[{ on := 7, ground := Ground.data }, { on := 11, ground := Ground.gcOnly Departure.lateStores }], guard := none }) (v := ?vR9n10) rfl (by kernel_rfl) (by kernel_rfl) (by kernel_rfl) (fun _ _ _ h => h) (Or.inl ⟨by rfl, ?yR9n10⟩) (by assumption) ?rR9n10
      case yR9n10 => (intro w hSw; (try dsimp only at hSw); first | (go_simp; done) | (go_simp; with_reducible rfl))
      try simp only [Act.put, List.setIfInBounds_toArray, List.set_cons_zero, List.set_cons_succ]
      refine wpAnyH_ready (rs := [10]) (by kernel_rfl) (by simp) (AllReadyH.cons (o := { dst := some 9, op := Op.alloc 78, type := 0, pos := "press.go:66", after := #[], guard := none }) rfl (fun K hK => ?bRn11q0) AllReadyH.nil)
      go_simp
      refine hK.out _ _ ?kRn11o10 (fun hHeld11 => ?_)
      case kRn11o10 => ((try dsimp only); exact HSx.out _ (by first | exact HBx.out | exact HBx.out.drew | exact HBx.out.alloc HBx.out.size _ | exact (HBx.out.setCell HBx.out.size _).setCell HBx.out.size _))
      clear hK K
      skip
      try simp only [Act.put, List.setIfInBounds_toArray, List.set_cons_zero, List.set_cons_succ]
      refine wpAnyH_ready (rs := [11]) (by kernel_rfl) (by simp) (AllReadyH.cons (o := { dst := none, op := Op.store 78 (Operand.tmp 9) (Operand.tmp 23), type := 0, pos := "press.go:66", after := #[{ on := 10, ground := Ground.data }, { on := 8, ground := Ground.data }, { on := 0, ground := Ground.phase }, { on := 1, ground := Ground.phase }, { on := 2, ground := Ground.phase }, { on := 3, ground := Ground.phase }, { on := 4, ground := Ground.phase }, { on := 5, ground := Ground.phase }, { on := 6, ground := Ground.phase }, { on := 7, ground := Ground.phase }, { on := 8, ground := Ground.phase }, { on := 9, ground := Ground.textOnly Departure.lateStores }, { on := 10, ground := Ground.phase }], guard := none }) rfl (fun K hK => ?bRn12q0) AllReadyH.nil)
      go_simp
      refine hK.out _ _ ?kRn12o11 (fun hHeld12 => ?_)
      case kRn12o11 => ((try dsimp only); exact HSx.out _ (by first | exact HBx.out | exact HBx.out.drew | exact HBx.out.alloc HBx.out.size _ | exact (HBx.out.setCell HBx.out.size _).setCell HBx.out.size _))
      clear hK K
      skip
      try simp only [Act.put, List.setIfInBounds_toArray, List.set_cons_zero, List.set_cons_succ]
      refine wpAnyH_take (i := 12) (oi := { dst := some 10, op := Op.assign (Operand.tmp 24), type := 4, pos := "press.go:66", after := #[{ on := 9, ground := Ground.data }, { on := 11, ground := Ground.chain }, { on := 0, ground := Ground.phase }, { on := 1, ground := Ground.phase }, { on := 2, ground := Ground.phase }, { on := 3, ground := Ground.phase }, { on := 4, ground := Ground.phase }, { on := 5, ground := Ground.phase }, { on := 6, ground := Ground.phase }, { on := 7, ground := Ground.phase }, { on := 8, ground := Ground.phase }, { on := 9, ground := Ground.phase }, { on := 10, ground := Ground.phase }, { on := 11, ground := Ground.phase }], guard := none }) (v := ?vR12n13) rfl (by kernel_rfl) (by kernel_rfl) (by kernel_rfl) (fun _ _ _ h => h) (Or.inl ⟨by rfl, ?yR12n13⟩) (by assumption) ?rR12n13
      case yR12n13 => (intro w hSw; (try dsimp only at hSw); first | (go_simp; done) | (go_simp; with_reducible rfl))
      try simp only [Act.put, List.setIfInBounds_toArray, List.set_cons_zero, List.set_cons_succ]
      refine wpAnyH_done (by kernel_rfl) ?_ _
      refine gen_exitB (fun Y => Below W3.heap.size W3 Y ∧ Y.heap[W3.heap.size]? = some (.cells #[.string s, .bool r] 78 (0, 0))) ?g2 ?_
      case g2 => first | exact ⟨HBx.out.alloc HBx.out.size _, heap_alloc_new W3.drew _⟩ | exact ⟨((HBx.out.alloc HBx.out.size _).setCell (Nat.le_refl _) _).setCell (Nat.le_refl _) _, put_at (put_at (heap_alloc_new W3.drew _) 0 _) 1 _⟩
      rintro Y ⟨hy1, hy2⟩
      have hz := (hy1.block Z (lt_block HW.out.2)).trans HW.out.2
      have hyw := below_step HW.out.1 hy1
      obtain ⟨Q4, hQ4⟩ : ∃ Q, W3.heap.size = Q := ⟨_, rfl⟩
      rw [hQ4] at hy2 ⊢
      have m0 : Y.cell? ⟨Q4, 0, none⟩ = some (.string s) := cell_at hy2 0
      have m1 : Y.cell? ⟨Q4, 1, none⟩ = some (.bool r) := cell_at hy2 1
      have HY := hidK (And.intro hyw hz)
      cases has with
      | false =>
        have x0 := cell_at hz 0
        have x1 := cell_at hz 1
        have g0 := free_at hz 0
        have g1 := free_at hz 1
        clear hy1 hy2 hz hyw z0 z1 f0 f1
        go_wp2_with fail
        refine ret_cell3 rfl rfl (two_set HY.out.2 _ _) Tryz.underlying36 rfl infoWalk rfl (HPo.out _ _ ((HY.out.1.setCell HZl.out _).setCell HZl.out _) ?_)
        rw [if_neg HK.out]
        rfl
      | true =>
        clear hy1 hy2 hz hyw z0 z1 f0 f1
        go_wp2_with fail
        refine (HC2.out _).mono ?_
        rintro e V ⟨rfl, hb⟩
        have hz := (hb.block Z (lt_block HY.out.2)).trans HY.out.2
        have HV := hidK (And.intro (below_step HY.out.1 hb) hz)
        have x0 := cell_at hz 0
        have x1 := cell_at hz 1
        have g0 := free_at hz 0
        have g1 := free_at hz 1
        clear hb hz
        go_wp2_with fail
        refine ret_cell3 rfl rfl (two_set HV.out.2 _ _) Tryz.underlying36 rfl infoWalk rfl (HPo.out _ _ ((HV.out.1.setCell HZl.out _).setCell HZl.out _) ?_)
        rw [if_neg HK.out]
        rfl
end Go.Proofs.YtbonnjilbocldaaGreatDoor
