/-
  Binds: a key behind a table.
-/
import Derived.Test.YtbonnjilbocldaaGreatDoorBGoe
namespace Go.Proofs.YtbonnjilbocldaaGreatDoor
open Go.RowKit
set_option linter.unusedVariables false
set_option maxRecDepth 100000

def sendS : ByteArray := ⟨#[115, 101, 110, 100, 45, 112, 114, 101, 102, 105, 120]⟩
/-- What a key does behind a table: where one stands, the line. -/
def inV (has : Bool) (t : ByteArray) (p q c m tick rep : Int) (s : ByteArray) (r : Bool) : Array Value :=
  if has then (if r = true ∧ t = prefixS then #[openV tick rep, .string s] else #[restV, .string s])
  else if t = prefixS ∧ c = p ∧ m = q then #[restV, .string sendS] else #[restV, .string ⟨#[]⟩]
def inP (w : World) (D : DataW Unit) (t : ByteArray) (p q c m tick rep : Int) (e : Ending) (w' : World) : Prop :=
  Below w.heap.size w w' ∧ ∃ s r, D.atKey (slotK t.data.toList c m) zeroD = meanD s r ∧ e = .returned (.tuple (inV (Maps.has D (slotK t.data.toList c m)) t p q c m tick rep s r))
theorem open_two (tick rep : Int) : ∃ a u, openV tick rep = .agg #[.string a, .int .i64 u] := by
  unfold openV
  split
  · exact ⟨_, _, rfl⟩
  · split
    · exact ⟨_, _, rfl⟩
    · exact ⟨_, _, rfl⟩
theorem pre_no {t : ByteArray} (h : ¬ t = prefixS) : (t.toList == [112, 114, 101, 102, 105, 120]) = false := by
  cases e : (t.toList == [112, 114, 101, 102, 105, 120])
  · rfl
  · refine absurd ?_ h
    have e2 : t.toList = [112, 114, 101, 102, 105, 120] := by simpa using e
    apply ByteArray.ext
    apply Array.ext'
    have e3 : t.toList = t.data.toList := by
      have h2 := str_toList t.data.toList
      have h3 : str t.data.toList = t := by first | rfl | (apply ByteArray.ext; simp [str])
      rw [h3] at h2
      exact h2
    rw [← e3, e2]
    rfl
set_option maxHeartbeats 8000000 in
theorem pressIn_any {w : World} {d b n : Nat} {D : DataW Unit} (h : Tb w d b n D) (t : ByteArray) (p q c m tick rep : Int) (ht : t.size ≤ 140737488355328) (hc : (Lit.int .i64 c).wf = true) (hm : (Lit.int .i64 m).wf = true) (hti : (Lit.int .i64 tick).wf = true) (hre : (Lit.int .i64 rep).wf = true) :
    Calls Tryz.prog 43 #[.pointer (some ⟨d, 0, none⟩), .string t, .agg #[.int .i64 p, .int .i64 q], .agg #[.int .i64 c, .int .i64 m], .int .i64 tick, .int .i64 rep] w fun e w' => inP w D t p q c m tick rep e w' := by
  obtain ⟨s, r, hat, hlk⟩ := h.look ht hc hm
  have hsz := h.short _ _ _ hat
  have HPo : Hid (∀ e w', Below w.heap.size w w' → e = .returned (.tuple (inV (Maps.has D (slotK t.data.toList c m)) t p q c m tick rep s r)) → inP w D t p q c m tick rep e w') := fun e w' h1 h2 => ⟨h1, s, r, hat, h2⟩
  obtain ⟨has, hhas⟩ : ∃ has, Maps.has D (slotK t.data.toList c m) = has := ⟨_, rfl⟩
  rw [hhas] at hlk HPo
  obtain ⟨W1, hW1⟩ : ∃ W, w.alloc (.cells #[.int .i64 p, .int .i64 q] 23) = W := ⟨_, rfl⟩
  obtain ⟨W2, hW2⟩ : ∃ W, W1.alloc (.cells #[.int .i64 c, .int .i64 m] 23) = W := ⟨_, rfl⟩
  obtain ⟨W3, hW3⟩ : ∃ W, W2.alloc (.cells #[.string ⟨#[]⟩, .int .i64 0] 36) = W := ⟨_, rfl⟩
  obtain ⟨K1, hK1⟩ : ∃ Q, w.heap.size = Q := ⟨_, rfl⟩
  obtain ⟨K2, hK2⟩ : ∃ Q, W1.heap.size = Q := ⟨_, rfl⟩
  obtain ⟨Z, hZ⟩ : ∃ Q, W2.heap.size = Q := ⟨_, rfl⟩
  have b1 : Below w.heap.size w W1 := by rw [← hW1]; exact (Below.refl _ _).alloc (Nat.le_refl _) _
  have b2 : Below W1.heap.size W1 W2 := by rw [← hW2]; exact (Below.refl _ _).alloc (Nat.le_refl _) _
  have b3 : Below W2.heap.size W2 W3 := by rw [← hW3]; exact (Below.refl _ _).alloc (Nat.le_refl _) _
  have a1 : W1.heap[K1]? = some (.cells #[.int .i64 p, .int .i64 q] 23 (0, 0)) := by rw [← hW1, ← hK1]; exact heap_alloc_new w _
  have a2 : W2.heap[K2]? = some (.cells #[.int .i64 c, .int .i64 m] 23 (0, 0)) := by rw [← hW2, ← hK2]; exact heap_alloc_new W1 _
  have a3 : W3.heap[Z]? = some (.cells #[.string ⟨#[]⟩, .int .i64 0] 36 (0, 0)) := by rw [← hW3, ← hZ]; exact heap_alloc_new W2 _
  have e1 := (b3.block K1 (by have := lt_block a1; have := b2.size; omega)).trans ((b2.block K1 (lt_block a1)).trans a1)
  have e2 := (b3.block K2 (lt_block a2)).trans a2
  have hw3 := below_step (below_step b1 b2) b3
  have HSx : Hid (∀ X, Below W3.heap.size W3 X → X.cell? ⟨d, 0, none⟩ = some (.map (some b)) ∧ X.cell? ⟨K2, 0, none⟩ = some (.int .i64 c) ∧ X.cell? ⟨K2, 1, none⟩ = some (.int .i64 m) ∧ (Instr.lookup 64 (.map (some b)) (.agg #[.string t, .int .i64 c, .int .i64 m]) true).run Tryz.prog X = .ok (.tuple #[.agg #[.string s, .bool r], .bool has]) X) := fun Y hY => by
    have hy := below_step hw3 hY
    have g1 := (hy.block d h.lt.1).trans h.blk
    have g2 := (hY.block K2 (lt_block e2)).trans e2
    exact ⟨cell_at g1 0, cell_at g2 0, cell_at g2 1, hlk Y (hy.block b h.lt.2)⟩
  have HKs : Hid (∀ X, Below W3.heap.size W3 X → X.cell? ⟨K1, 0, none⟩ = some (.int .i64 p) ∧ X.cell? ⟨K1, 1, none⟩ = some (.int .i64 q) ∧ X.cell? ⟨K2, 0, none⟩ = some (.int .i64 c) ∧ X.cell? ⟨K2, 1, none⟩ = some (.int .i64 m)) := fun Y hY => by
    have g1 := (hY.block K1 (lt_block e1)).trans e1
    have g2 := (hY.block K2 (lt_block e2)).trans e2
    exact ⟨cell_at g1 0, cell_at g1 1, cell_at g2 0, cell_at g2 1⟩
  have HC2 : Hid (∀ Y, Calls Tryz.prog 36 #[.string s] Y fun r w' => r = .returned (.string s) ∧ Below Y.heap.size Y w') := fun Y => clone_any s Y (by omega)
  obtain ⟨oa, ou, hop⟩ := open_two tick rep
  have HOp : Hid (∀ Y, Calls Tryz.prog 66 #[.int .i64 tick, .int .i64 rep] Y fun e w' => e = .returned (.agg #[.string oa, .int .i64 ou]) ∧ Below Y.heap.size Y w') := fun Y => by rw [← hop]; exact open_any tick rep hti hre Y
  have HOv := hidK hop
  have HBx := hidK (Below.refl W3.heap.size W3)
  have HW := hidK (And.intro hw3 a3)
  have HZl : Hid (w.heap.size ≤ Z) := by show _ ≤ _; have := b1.size; have := b2.size; omega
  clear hlk hat hhas b1 b2 b3 a1 a2 a3 e1 e2 hw3 hc hm h hsz hti hre hop ht
  go_enter Tryz.func43, Tryz.ntmps43
  go_wp2_with fail
  refine wp_region_held_drew (S := (fun X => X.cell? ⟨d, 0, none⟩ = some (.map (some b)) ∧ X.cell? ⟨K2, 0, none⟩ = some (.int .i64 c) ∧ X.cell? ⟨K2, 1, none⟩ = some (.int .i64 m) ∧ (Instr.lookup 64 (.map (some b)) (.agg #[.string t, .int .i64 c, .int .i64 m]) true).run Tryz.prog X = .ok (.tuple #[.agg #[.string s, .bool r], .bool has]) X)) (by kernel_rfl) ?sP (fun hHeld => ?_)
  case sP => ((try dsimp only); exact HSx.out _ (by first | exact HBx.out | exact HBx.out.drew | exact HBx.out.alloc HBx.out.size _ | exact (HBx.out.setCell HBx.out.size _).setCell HBx.out.size _))
  have HBn := hidK HBx.out.drew
  clear HBx
  have HBx := hidK HBn.out
  clear HBn
  refine wpAnyH_take (i := 0) (oi := { dst := some 17, op := Op.move (Operand.tmp 0), type := 29, pos := "press.go:39", after := #[], guard := none }) (v := ?vP0n1) rfl (by kernel_rfl) (by kernel_rfl) (by kernel_rfl) (fun _ _ _ h => h) (Or.inl ⟨by rfl, ?yP0n1⟩) (by assumption) ?rP0n1
  case yP0n1 => (intro w hSw; (try dsimp only at hSw); first | (go_simp; done) | (go_simp; with_reducible rfl))
  try simp only [Act.put, List.setIfInBounds_toArray, List.set_cons_zero, List.set_cons_succ]
  refine wpAnyH_take (i := 1) (oi := { dst := some 18, op := Op.nilCheck (Operand.tmp 17), type := 0, pos := "press.go:39", after := #[{ on := 0, ground := Ground.data }], guard := none }) (v := ?vP1n2) rfl (by kernel_rfl) (by kernel_rfl) (by kernel_rfl) (fun _ _ _ h => h) (Or.inl ⟨by rfl, ?yP1n2⟩) (by assumption) ?rP1n2
  case yP1n2 => (intro w hSw; (try dsimp only at hSw); first | (go_simp; done) | (go_simp; with_reducible rfl))
  try simp only [Act.put, List.setIfInBounds_toArray, List.set_cons_zero, List.set_cons_succ]
  refine wpAnyH_take (i := 2) (oi := { dst := some 19, op := Op.fieldAddr 66 (Operand.tmp 18) 0, type := 0, pos := "press.go:39", after := #[{ on := 1, ground := Ground.data }], guard := none }) (v := ?vP2n3) rfl (by kernel_rfl) (by kernel_rfl) (by kernel_rfl) (fun _ _ _ h => h) (Or.inl ⟨by rfl, ?yP2n3⟩) (by assumption) ?rP2n3
  case yP2n3 => (intro w hSw; (try dsimp only at hSw); first | (go_simp; done) | (go_simp; with_reducible rfl))
  try simp only [Act.put, List.setIfInBounds_toArray, List.set_cons_zero, List.set_cons_succ]
  refine wpAnyH_take (i := 3) (oi := { dst := some 20, op := Op.load 64 (Operand.tmp 19), type := 64, pos := "press.go:39", after := #[{ on := 2, ground := Ground.data }], guard := none }) (v := ?vP3n4) rfl (by kernel_rfl) (by kernel_rfl) (by kernel_rfl) (fun _ _ _ h => h) (Or.inl ⟨by rfl, ?yP3n4⟩) (by assumption) ?rP3n4
  case yP3n4 => (intro w hSw; (try dsimp only at hSw); first | (go_simp; done) | (go_simp; with_reducible rfl))
  try simp only [Act.put, List.setIfInBounds_toArray, List.set_cons_zero, List.set_cons_succ]
  refine wpAnyH_take (i := 4) (oi := { dst := some 21, op := Op.move (Operand.tmp 1), type := 9, pos := "press.go:39", after := #[], guard := none }) (v := ?vP4n5) rfl (by kernel_rfl) (by kernel_rfl) (by kernel_rfl) (fun _ _ _ h => h) (Or.inl ⟨by rfl, ?yP4n5⟩) (by assumption) ?rP4n5
  case yP4n5 => (intro w hSw; (try dsimp only at hSw); first | (go_simp; done) | (go_simp; with_reducible rfl))
  try simp only [Act.put, List.setIfInBounds_toArray, List.set_cons_zero, List.set_cons_succ]
  refine wpAnyH_take (i := 5) (oi := { dst := some 22, op := Op.load 23 (Operand.tmp 9), type := 23, pos := "press.go:39", after := #[], guard := none }) (v := ?vP5n6) rfl (by kernel_rfl) (by kernel_rfl) (by kernel_rfl) (fun _ _ _ h => h) (Or.inl ⟨by rfl, ?yP5n6⟩) (by assumption) ?rP5n6
  case yP5n6 => (intro w hSw; (try dsimp only at hSw); first | (go_simp; done) | (go_simp; with_reducible rfl))
  try simp only [Act.put, List.setIfInBounds_toArray, List.set_cons_zero, List.set_cons_succ]
  refine wpAnyH_take (i := 6) (oi := { dst := some 23, op := Op.build 76 #[(0, Operand.tmp 21), (1, Operand.tmp 22)], type := 76, pos := "press.go:39", after := #[{ on := 4, ground := Ground.data }, { on := 5, ground := Ground.data }], guard := none }) (v := ?vP6n7) rfl (by kernel_rfl) (by kernel_rfl) (by kernel_rfl) (fun _ _ _ h => h) (Or.inl ⟨by rfl, ?yP6n7⟩) (by assumption) ?rP6n7
  case yP6n7 => (intro w hSw; (try dsimp only at hSw); first | (go_simp; done) | (go_simp; with_reducible rfl))
  try simp only [Act.put, List.setIfInBounds_toArray, List.set_cons_zero, List.set_cons_succ]
  refine wpAnyH_take (i := 7) (oi := { dst := some 24, op := Op.lookup 64 (Operand.tmp 20) (Operand.tmp 23) true, type := 79, pos := "press.go:39", after := #[{ on := 3, ground := Ground.data }, { on := 6, ground := Ground.data }], guard := none }) (v := ?vP7n8) rfl (by kernel_rfl) (by kernel_rfl) (by kernel_rfl) (fun _ _ _ h => h) (Or.inl ⟨by rfl, ?yP7n8⟩) (by assumption) ?rP7n8
  case yP7n8 => (intro w hSw; (try dsimp only at hSw); first | (go_simp; done) | (go_simp; with_reducible rfl))
  try simp only [Act.put, List.setIfInBounds_toArray, List.set_cons_zero, List.set_cons_succ]
  refine wpAnyH_take (i := 8) (oi := { dst := some 16, op := Op.move (Operand.tmp 24), type := 79, pos := "press.go:39", after := #[{ on := 7, ground := Ground.data }], guard := none }) (v := ?vP8n9) rfl (by kernel_rfl) (by kernel_rfl) (by kernel_rfl) (fun _ _ _ h => h) (Or.inl ⟨by rfl, ?yP8n9⟩) (by assumption) ?rP8n9
  case yP8n9 => (intro w hSw; (try dsimp only at hSw); first | (go_simp; done) | (go_simp; with_reducible rfl))
  try simp only [Act.put, List.setIfInBounds_toArray, List.set_cons_zero, List.set_cons_succ]
  refine wpAnyH_take (i := 9) (oi := { dst := some 25, op := Op.extract (Operand.tmp 16) 0, type := 78, pos := "press.go:39", after := #[{ on := 8, ground := Ground.data }], guard := none }) (v := ?vP9n10) rfl (by kernel_rfl) (by kernel_rfl) (by kernel_rfl) (fun _ _ _ h => h) (Or.inl ⟨by rfl, ?yP9n10⟩) (by assumption) ?rP9n10
  case yP9n10 => (intro w hSw; (try dsimp only at hSw); first | (go_simp; done) | (go_simp; with_reducible rfl))
  try simp only [Act.put, List.setIfInBounds_toArray, List.set_cons_zero, List.set_cons_succ]
  refine wpAnyH_take (i := 10) (oi := { dst := some 26, op := Op.extract (Operand.tmp 16) 1, type := 4, pos := "press.go:39", after := #[{ on := 8, ground := Ground.data }, { on := 12, ground := Ground.gcOnly Departure.lateStores }], guard := none }) (v := ?vP10n11) rfl (by kernel_rfl) (by kernel_rfl) (by kernel_rfl) (fun _ _ _ h => h) (Or.inl ⟨by rfl, ?yP10n11⟩) (by assumption) ?rP10n11
  case yP10n11 => (intro w hSw; (try dsimp only at hSw); first | (go_simp; done) | (go_simp; with_reducible rfl))
  try simp only [Act.put, List.setIfInBounds_toArray, List.set_cons_zero, List.set_cons_succ]
  refine wpAnyH_ready (rs := [11]) (by kernel_rfl) (by simp) (AllReadyH.cons (o := { dst := some 14, op := Op.alloc 78, type := 0, pos := "press.go:39", after := #[], guard := none }) rfl (fun K hK => ?bPn12q0) AllReadyH.nil)
  go_simp
  refine hK.out _ _ ?kPn12o11 (fun hHeld12 => ?_)
  case kPn12o11 => ((try dsimp only); exact HSx.out _ (by first | exact HBx.out | exact HBx.out.drew | exact HBx.out.alloc HBx.out.size _ | exact (HBx.out.setCell HBx.out.size _).setCell HBx.out.size _))
  clear hK K
  skip
  try simp only [Act.put, List.setIfInBounds_toArray, List.set_cons_zero, List.set_cons_succ]
  refine wpAnyH_ready (rs := [12]) (by kernel_rfl) (by simp) (AllReadyH.cons (o := { dst := none, op := Op.store 78 (Operand.tmp 14) (Operand.tmp 25), type := 0, pos := "press.go:39", after := #[{ on := 11, ground := Ground.data }, { on := 9, ground := Ground.data }, { on := 0, ground := Ground.phase }, { on := 1, ground := Ground.phase }, { on := 2, ground := Ground.phase }, { on := 3, ground := Ground.phase }, { on := 4, ground := Ground.phase }, { on := 5, ground := Ground.phase }, { on := 6, ground := Ground.phase }, { on := 7, ground := Ground.phase }, { on := 8, ground := Ground.phase }, { on := 9, ground := Ground.phase }, { on := 10, ground := Ground.textOnly Departure.lateStores }, { on := 11, ground := Ground.phase }], guard := none }) rfl (fun K hK => ?bPn13q0) AllReadyH.nil)
  go_simp
  refine hK.out _ _ ?kPn13o12 (fun hHeld13 => ?_)
  case kPn13o12 => ((try dsimp only); exact HSx.out _ (by first | exact HBx.out | exact HBx.out.drew | exact HBx.out.alloc HBx.out.size _ | exact (HBx.out.setCell HBx.out.size _).setCell HBx.out.size _))
  clear hK K
  skip
  try simp only [Act.put, List.setIfInBounds_toArray, List.set_cons_zero, List.set_cons_succ]
  refine wpAnyH_take (i := 13) (oi := { dst := some 15, op := Op.assign (Operand.tmp 26), type := 4, pos := "press.go:39", after := #[{ on := 10, ground := Ground.data }, { on := 12, ground := Ground.chain }, { on := 0, ground := Ground.phase }, { on := 1, ground := Ground.phase }, { on := 2, ground := Ground.phase }, { on := 3, ground := Ground.phase }, { on := 4, ground := Ground.phase }, { on := 5, ground := Ground.phase }, { on := 6, ground := Ground.phase }, { on := 7, ground := Ground.phase }, { on := 8, ground := Ground.phase }, { on := 9, ground := Ground.phase }, { on := 10, ground := Ground.phase }, { on := 11, ground := Ground.phase }, { on := 12, ground := Ground.phase }], guard := none }) (v := ?vP13n14) rfl (by kernel_rfl) (by kernel_rfl) (by kernel_rfl) (fun _ _ _ h => h) (Or.inl ⟨by rfl, ?yP13n14⟩) (by assumption) ?rP13n14
  case yP13n14 => (intro w hSw; (try dsimp only at hSw); first | (go_simp; done) | (go_simp; with_reducible rfl))
  try simp only [Act.put, List.setIfInBounds_toArray, List.set_cons_zero, List.set_cons_succ]
  refine wpAnyH_done (by kernel_rfl) ?_ _
  refine gen_exitB (fun Y => Below W3.heap.size W3 Y ∧ Y.heap[W3.heap.size]? = some (.cells #[.string s, .bool r] 78 (0, 0))) ?g1 ?_
  case g1 => first | exact ⟨HBx.out.alloc HBx.out.size _, heap_alloc_new W3.drew _⟩ | exact ⟨((HBx.out.alloc HBx.out.size _).setCell (Nat.le_refl _) _).setCell (Nat.le_refl _) _, put_at (put_at (heap_alloc_new W3.drew _) 0 _) 1 _⟩
  rintro Y ⟨hy1, hy2⟩
  have hz := (hy1.block Z (lt_block HW.out.2)).trans HW.out.2
  have hyw := below_step HW.out.1 hy1
  obtain ⟨k0, k1, k2, k3⟩ := HKs.out Y hy1
  obtain ⟨Q4, hQ4⟩ : ∃ Q, W3.heap.size = Q := ⟨_, rfl⟩
  rw [hQ4] at hy2 ⊢
  have m0 : Y.cell? ⟨Q4, 0, none⟩ = some (.string s) := cell_at hy2 0
  have m1 : Y.cell? ⟨Q4, 1, none⟩ = some (.bool r) := cell_at hy2 1
  have HY := hidK (And.intro hyw hz)
  have HQ4 := hidK hy2
  clear hy1 hy2 hz hyw HBx HSx HKs
  cases has with
  | false =>
    by_cases htp : t = prefixS
    · subst htp
      unfold prefixS
      by_cases hcp : c = p ∧ m = q
      · obtain ⟨rfl, rfl⟩ := hcp
        have x0 := cell_at HY.out.2 0
        have x1 := cell_at HY.out.2 1
        have g0 := free_at HY.out.2 0
        have g1 := free_at HY.out.2 1
        go_wp2_with fail
        refine ret_cell2 rfl rfl (two_set HY.out.2 _ _) Tryz.underlying36 rfl infoWalk rfl (HPo.out _ _ ((HY.out.1.setCell HZl.out _).setCell HZl.out _) ?_)
        unfold inV
        simp [prefixS, sendS, restV, walkV]
      · have HK := hidK hcp
        have hkq : c = p → ¬ m = q := fun e1 e2 => hcp ⟨e1, e2⟩
        have x0 := cell_at HY.out.2 0
        have x1 := cell_at HY.out.2 1
        have g0 := free_at HY.out.2 0
        have g1 := free_at HY.out.2 1
        clear hcp
        by_cases hc1 : c = p
        · subst hc1
          have hmq := hkq rfl
          have HM := hidK hmq
          clear hkq
          go_wp2_with fail
          refine ret_cell2 rfl rfl (two_set HY.out.2 _ _) Tryz.underlying36 rfl infoWalk rfl (HPo.out _ _ ((HY.out.1.setCell HZl.out _).setCell HZl.out _) ?_)
          unfold inV
          rw [if_neg (by decide), if_neg (fun q => HM.out q.2.2)]
          rfl
        · clear hkq
          go_wp2_with fail
          refine ret_cell2 rfl rfl (two_set HY.out.2 _ _) Tryz.underlying36 rfl infoWalk rfl (HPo.out _ _ ((HY.out.1.setCell HZl.out _).setCell HZl.out _) ?_)
          unfold inV
          rw [if_neg (by decide), if_neg (fun q => HK.out q.2)]
          rfl
    · have tb := pre_no htp
      have HT := hidK htp
      have x0 := cell_at HY.out.2 0
      have x1 := cell_at HY.out.2 1
      have g0 := free_at HY.out.2 0
      have g1 := free_at HY.out.2 1
      clear htp
      go_wp2_with fail
      refine ret_cell2 rfl rfl (two_set HY.out.2 _ _) Tryz.underlying36 rfl infoWalk rfl (HPo.out _ _ ((HY.out.1.setCell HZl.out _).setCell HZl.out _) ?_)
      unfold inV
      rw [if_neg (by decide), if_neg (fun q => HT.out q.1)]
      rfl
  | true =>
    cases r with
    | false =>
      go_wp2_with fail
      refine (HC2.out _).mono ?_
      rintro e V ⟨rfl, hb⟩
      have HV := hidK (And.intro (below_step HY.out.1 hb) ((hb.block Z (lt_block HY.out.2)).trans HY.out.2))
      have x0 := cell_at HV.out.2 0
      have x1 := cell_at HV.out.2 1
      have g0 := free_at HV.out.2 0
      have g1 := free_at HV.out.2 1
      clear hb
      go_wp2_with fail
      refine ret_cell2 rfl rfl (two_set HV.out.2 _ _) Tryz.underlying36 rfl infoWalk rfl (HPo.out _ _ ((HV.out.1.setCell HZl.out _).setCell HZl.out _) ?_)
      unfold inV
      rw [if_pos rfl, if_neg (fun q => absurd q.1 (by decide))]
      rfl
    | true =>
      by_cases htp : t = prefixS
      · subst htp
        unfold prefixS
        have HSy : Hid (∀ X, Below Y.heap.size Y X → X.cell? ⟨Q4, 0, none⟩ = some (.string s)) := fun X hX => cell_at ((hX.block Q4 (lt_block HQ4.out)).trans HQ4.out) 0
        have HBx := hidK (Below.refl Y.heap.size Y)
        go_wp2_with fail
        refine wp_region_held_drew (S := (fun X => X.cell? ⟨Q4, 0, none⟩ = some (.string s))) (by kernel_rfl) ?sR (fun hHeld => ?_)
        case sR => ((try dsimp only); first | exact HSy.out _ (by first | exact HBx.out | exact HBx.out.drew) | exact HSz.out _ _)
        have HBn := hidK HBx.out.drew
        clear HBx
        have HBx := hidK HBn.out
        clear HBn
        refine wpAnyH_take (i := 0) (oi := { dst := some 37, op := Op.move (Operand.tmp 4), type := 3, pos := "press.go:42", after := #[], guard := none }) (v := ?vR0n1) rfl (by kernel_rfl) (by kernel_rfl) (by kernel_rfl) (fun _ _ _ h => h) (Or.inl ⟨by rfl, ?yR0n1⟩) (by assumption) ?rR0n1
        case yR0n1 => (intro w hSw; (try dsimp only at hSw); first | (go_simp; done) | (go_simp; with_reducible rfl))
        try simp only [Act.put, List.setIfInBounds_toArray, List.set_cons_zero, List.set_cons_succ]
        refine wpAnyH_take (i := 1) (oi := { dst := some 38, op := Op.move (Operand.tmp 5), type := 3, pos := "press.go:42", after := #[], guard := none }) (v := ?vR1n2) rfl (by kernel_rfl) (by kernel_rfl) (by kernel_rfl) (fun _ _ _ h => h) (Or.inl ⟨by rfl, ?yR1n2⟩) (by assumption) ?rR1n2
        case yR1n2 => (intro w hSw; (try dsimp only at hSw); first | (go_simp; done) | (go_simp; with_reducible rfl))
        try simp only [Act.put, List.setIfInBounds_toArray, List.set_cons_zero, List.set_cons_succ]
        refine wpAnyH_take (i := 3) (oi := { dst := some 40, op := Op.fieldAddr 78 (Operand.tmp 14) 0, type := 0, pos := "press.go:42", after := #[], guard := none }) (v := ?vR3n3) rfl (by kernel_rfl) (by kernel_rfl) (by kernel_rfl) (fun _ _ _ h => h) (Or.inl ⟨by rfl, ?yR3n3⟩) (by assumption) ?rR3n3
        case yR3n3 => (intro w hSw; (try dsimp only at hSw); first | (go_simp; done) | (go_simp; with_reducible rfl))
        try simp only [Act.put, List.setIfInBounds_toArray, List.set_cons_zero, List.set_cons_succ]
        refine wpAnyH_take (i := 4) (oi := { dst := some 41, op := Op.load 9 (Operand.tmp 40), type := 9, pos := "press.go:42", after := #[{ on := 3, ground := Ground.data }], guard := none }) (v := ?vR4n4) rfl (by kernel_rfl) (by kernel_rfl) (by kernel_rfl) (fun _ _ _ h => h) (Or.inl ⟨by rfl, ?yR4n4⟩) (by assumption) ?rR4n4
        case yR4n4 => (intro w hSw; (try dsimp only at hSw); first | (go_simp; done) | (go_simp; with_reducible rfl))
        try simp only [Act.put, List.setIfInBounds_toArray, List.set_cons_zero, List.set_cons_succ]
        refine wpAnyH_ready (rs := [2]) (by kernel_rfl) (by simp) (AllReadyH.cons (o := { dst := some 39, op := Op.call { callee := Callee.value (Operand.func 66), args := #[Operand.tmp 37, Operand.tmp 38], argTypes := #[3, 3] }, type := 36, pos := "press.go:42", after := #[{ on := 0, ground := Ground.data }, { on := 1, ground := Ground.data }], guard := none }) rfl (fun K hK => ?bRn5q0) AllReadyH.nil)
        go_simp
        go_wp2_with (refine (HOp.out _).mono ?_; rintro e Y1 ⟨rfl, hb⟩; have HBn := hidK (below_step HBx.out hb); clear hb HBx; have HBx := hidK HBn.out; clear HBn)
        refine hK.out _ _ ?kRn5o2 (fun hHeld5 => ?_)
        case kRn5o2 => ((try dsimp only); first | exact HSy.out _ (by first | exact HBx.out | exact HBx.out.drew) | exact HSz.out _ _)
        clear hK K
        try simp only [Act.put, List.setIfInBounds_toArray, List.set_cons_zero, List.set_cons_succ]
        refine wpAnyH_ready (rs := [5]) (by kernel_rfl) (by simp) (AllReadyH.cons (o := { dst := some 42, op := Op.call { callee := Callee.value (Operand.func 36), args := #[Operand.tmp 41], argTypes := #[9] }, type := 9, pos := "press.go:42", after := #[{ on := 4, ground := Ground.data }, { on := 2, ground := Ground.chain }], guard := none }) rfl (fun K hK => ?bRn6q0) AllReadyH.nil)
        go_simp
        go_wp2_with (refine (HC2.out _).mono ?_; rintro e Y2 ⟨rfl, hb⟩; have HBn := hidK (below_step HBx.out hb); clear hb HBx; have HBx := hidK HBn.out; clear HBn; have HV := hidK (And.intro (below_step HY.out.1 HBx.out) ((HBx.out.block Z (lt_block HY.out.2)).trans HY.out.2)); have x0 := cell_at HV.out.2 0; have x1 := cell_at HV.out.2 1; have g0 := free_at HV.out.2 0; have g1 := free_at HV.out.2 1; have HSz : Hid (∀ u0 u1, ((Y2.setCell ⟨Z, 0, none⟩ u0).setCell ⟨Z, 1, none⟩ u1).cell? ⟨Q4, 0, none⟩ = some (.string s)) := fun u0 u1 => cell_at (put_other (put_other ((HBx.out.block Q4 (lt_block HQ4.out)).trans HQ4.out) (fun e => (by have h1 := HQ4.out; rw [e, HY.out.2] at h1; cases h1)) _ _) (fun e => (by have h1 := HQ4.out; rw [e, HY.out.2] at h1; cases h1)) _ _) 0)
        refine hK.out _ _ ?kRn6o5 (fun hHeld6 => ?_)
        case kRn6o5 => ((try dsimp only); first | exact HSy.out _ (by first | exact HBx.out | exact HBx.out.drew) | exact HSz.out _ _)
        clear hK K
        try simp only [Act.put, List.setIfInBounds_toArray, List.set_cons_zero, List.set_cons_succ]
        refine wpAnyH_ready (rs := [6]) (by kernel_rfl) (by simp) (AllReadyH.cons (o := { dst := none, op := Op.store 36 (Operand.tmp 12) (Operand.tmp 39), type := 0, pos := "press.go:42", after := #[{ on := 2, ground := Ground.data }, { on := 5, ground := Ground.chain }, { on := 0, ground := Ground.phase }, { on := 1, ground := Ground.phase }, { on := 2, ground := Ground.phase }, { on := 3, ground := Ground.textOnly Departure.lateStores }, { on := 4, ground := Ground.textOnly Departure.lateStores }, { on := 5, ground := Ground.textOnly Departure.lateStoresUnsure }], guard := none }) rfl (fun K hK => ?bRn7q0) AllReadyH.nil)
        go_simp
        refine hK.out _ _ ?kRn7o6 (fun hHeld7 => ?_)
        case kRn7o6 => ((try dsimp only); first | exact HSy.out _ (by first | exact HBx.out | exact HBx.out.drew) | exact HSz.out _ _)
        clear hK K
        skip
        try simp only [Act.put, List.setIfInBounds_toArray, List.set_cons_zero, List.set_cons_succ]
        refine wpAnyH_take (i := 7) (oi := { dst := some 13, op := Op.assign (Operand.tmp 42), type := 9, pos := "press.go:42", after := #[{ on := 5, ground := Ground.data }, { on := 6, ground := Ground.chain }, { on := 0, ground := Ground.phase }, { on := 1, ground := Ground.phase }, { on := 2, ground := Ground.phase }, { on := 3, ground := Ground.phase }, { on := 4, ground := Ground.phase }, { on := 5, ground := Ground.phase }, { on := 6, ground := Ground.phase }], guard := none }) (v := ?vR7n8) rfl (by kernel_rfl) (by kernel_rfl) (by kernel_rfl) (fun _ _ _ h => h) (Or.inl ⟨by rfl, ?yR7n8⟩) (by assumption) ?rR7n8
        case yR7n8 => (intro w hSw; (try dsimp only at hSw); first | (go_simp; done) | (go_simp; with_reducible rfl))
        try simp only [Act.put, List.setIfInBounds_toArray, List.set_cons_zero, List.set_cons_succ]
        refine wpAnyH_done (by kernel_rfl) ?_ _
        go_wp2_with fail
        refine ret_cell2 rfl rfl (two_set HV.out.2 _ _) Tryz.underlying36 rfl infoWalk rfl (HPo.out _ _ ((HV.out.1.setCell HZl.out _).setCell HZl.out _) ?_)
        unfold inV
        rw [if_pos rfl, if_pos ⟨rfl, rfl⟩, HOv.out]
        rfl
      · have tb := pre_no htp
        have HT := hidK htp
        clear htp
        go_wp2_with fail
        refine (HC2.out _).mono ?_
        rintro e V ⟨rfl, hb⟩
        have HV := hidK (And.intro (below_step HY.out.1 hb) ((hb.block Z (lt_block HY.out.2)).trans HY.out.2))
        have x0 := cell_at HV.out.2 0
        have x1 := cell_at HV.out.2 1
        have g0 := free_at HV.out.2 0
        have g1 := free_at HV.out.2 1
        clear hb
        go_wp2_with fail
        refine ret_cell2 rfl rfl (two_set HV.out.2 _ _) Tryz.underlying36 rfl infoWalk rfl (HPo.out _ _ ((HV.out.1.setCell HZl.out _).setCell HZl.out _) ?_)
        unfold inV
        rw [if_pos rfl, if_neg (fun q => HT.out q.2)]
        rfl
end Go.Proofs.YtbonnjilbocldaaGreatDoor
