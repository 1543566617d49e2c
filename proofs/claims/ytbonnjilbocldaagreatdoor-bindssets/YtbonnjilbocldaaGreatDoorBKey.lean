/-
  Binds: bindings compared by their keys.
-/
import Derived.Test.YtbonnjilbocldaaGreatDoorBEnt
import Derived.Test.YtbonnjilbocldaaGreatDoorShelfS
import Derived.Test.YtbonnjilbocldaaGreatDoorShelfG
import Derived.Sort.Grow
namespace Go.Proofs.YtbonnjilbocldaaGreatDoor
open Go.RowKit Go.Sort
set_option linter.unusedVariables false
set_option maxRecDepth 100000

def orI (a b : Int) : Int := if a = 0 then b else a
structure OrAt (k : Nat) (a b : Int) : Prop where
  x : 1 ≤ k → a = 0
  y : 2 ≤ k → b = 0
set_option maxHeartbeats 2000000 in
theorem or_any (a b : Int) (g : Nat) (W : World) (hg : W.heap[g]? = some (.cells #[.int .i64 a, .int .i64 b] 3 (0, 0))) : Calls Tryz.prog 62 #[.slice (some ⟨g, 0, none⟩) 2 2] W fun e w' => e = .returned (.int .i64 (orI a b)) ∧ W = w' := by
  obtain ⟨R, hR⟩ : ∃ R, orI a b = R := ⟨_, rfl⟩
  rw [hR]
  have HR : Hid (orI a b = R) := hR
  have c0 : W.cell? ⟨g, 0, none⟩ = some (.int .i64 a) := cell_at hg 0
  have c1 : W.cell? ⟨g, 1, none⟩ = some (.int .i64 b) := cell_at hg 1
  clear hR hg
  go_enter Tryz.func62, Tryz.ntmps62
  go_wp2_with fail
  go_loopw [8] (fun kv wr => ∃ k : Nat, k ≤ 2 ∧ kv = .int .i64 k ∧ W = wr ∧ Hid (∃ a' b', a' = a ∧ b' = b ∧ OrAt k a' b')) (fun kv _ => 2 - (intOf kv).toNat)
  case atStart => exact ⟨0, Nat.zero_le _, rfl, rfl, ⟨a, b, rfl, rfl, fun h => by omega, fun h => by omega⟩⟩
  case round =>
    obtain ⟨k, hk, rfl, rfl, HS0⟩ := hrel
    have HS : Hid (OrAt k a b) := by
      obtain ⟨a', b', ea, eb, h9⟩ := HS0.out
      show OrAt k a b
      rw [← ea, ← eb]
      exact h9
    clear HS0
    rcases (by omega : k = 0 ∨ k = 1 ∨ k = 2) with rfl | rfl | rfl
    · by_cases ha : a = 0
      · have HS2 : Hid (∃ a' b', a' = a ∧ b' = b ∧ OrAt 1 a' b') := ⟨a, b, rfl, rfl, fun _ => ha, fun h => by omega⟩
        subst ha
        go_wp2_with fail
        go_roundw
        case rel => exact ⟨1, by omega, by first | rfl | go_num, by first | rfl | trivial, HS2⟩
        case measure => simp [intOf]
      · have ha2 : (a == 0) = false := by simpa using ha
        have HR2 : Hid (a = R) := by show _ = _; rw [← HR.out]; unfold orI; rw [if_neg ha]
        go_wp2_with fail
        go_ret
        exact ⟨by rw [← HR2.out]; rfl, rfl⟩
    · by_cases hb : b = 0
      · have HS2 : Hid (∃ a' b', a' = a ∧ b' = b ∧ OrAt 2 a' b') := ⟨a, b, rfl, rfl, fun _ => HS.out.x (by omega), fun _ => hb⟩
        subst hb
        go_wp2_with fail
        go_roundw
        case rel => exact ⟨2, by omega, by first | rfl | go_num, by first | rfl | trivial, HS2⟩
        case measure => simp [intOf]
      · have hb2 : (b == 0) = false := by simpa using hb
        have HR2 : Hid (b = R) := by show _ = _; rw [← HR.out]; unfold orI; rw [if_pos (HS.out.x (by omega))]
        go_wp2_with fail
        go_ret
        exact ⟨by rw [← HR2.out]; rfl, rfl⟩
    · have HR2 : Hid (0 = R) := by show _ = _; rw [← HR.out]; unfold orI; rw [if_pos (HS.out.x (by omega)), HS.out.y (by omega)]
      go_wp2_with fail
      go_ret
      exact ⟨by rw [← HR2.out]; rfl, rfl⟩
/-- How two bindings compare. -/
def cmpE (x y : Ent) : Int := orI (Lib.compareInt x.c y.c) (Lib.compareInt x.m y.m)
theorem cmp_cases (a b : Int) : (a < b → Lib.compareInt a b = -1) ∧ (a = b → Lib.compareInt a b = 0) ∧ (b < a → Lib.compareInt a b = 1) := by
  unfold Lib.compareInt
  refine ⟨fun h => ?_, fun h => ?_, fun h => ?_⟩
  · rw [if_pos h]
  · rw [if_neg (by omega), if_neg (by omega)]
  · rw [if_neg (by omega), if_pos (by omega)]
theorem cmpE_lt (x y : Ent) : ltOf cmpE x y = true ↔ keyLt x y := by
  unfold ltOf cmpE orI keyLt
  rw [decide_eq_true_iff]
  obtain ⟨a1, a2, a3⟩ := cmp_cases x.c y.c
  obtain ⟨b1, b2, b3⟩ := cmp_cases x.m y.m
  rcases (by omega : x.c < y.c ∨ x.c = y.c ∨ y.c < x.c) with h | h | h
  · rw [a1 h, if_neg (by decide)]; omega
  · rw [a2 h, if_pos rfl]
    rcases (by omega : x.m < y.m ∨ x.m = y.m ∨ y.m < x.m) with k | k | k
    · rw [b1 k]; omega
    · rw [b2 k]; omega
    · rw [b3 k]; omega
  · rw [a3 h, if_neg (by decide)]; omega
theorem cmpE_swo : SWO (ltOf cmpE) where
  irrefl x := by
    cases h : ltOf cmpE x x
    · rfl
    · exact absurd ((cmpE_lt x x).1 h) (keyLt_irrefl x)
  trans x y z h1 h2 := (cmpE_lt x z).2 (keyLt_trans x y z ((cmpE_lt x y).1 h1) ((cmpE_lt y z).1 h2))
  ntrans x y z h1 h2 := by
    cases h : ltOf cmpE x z
    · rfl
    · exfalso
      have h3 := (cmpE_lt x z).1 h
      have n1 : ¬ keyLt x y := fun q => by rw [(cmpE_lt x y).2 q] at h1; cases h1
      have n2 : ¬ keyLt y z := fun q => by rw [(cmpE_lt y z).2 q] at h2; cases h2
      unfold keyLt at h3 n1 n2
      omega
def encE (e : Ent) : List Value := [.string e.t, .int .i64 e.c, .int .i64 e.m, .bool e.rp, .string e.ln]
set_option maxHeartbeats 4000000 in
theorem byKey_any (x y : Ent) (w : World) : Calls Tryz.prog 39 #[.agg (encE x).toArray, .agg (encE y).toArray] w fun e w' => e = .returned (.int .i64 (cmpE x y)) ∧ ∃ q os', w' = grow (w.drewN q) os' := by
  obtain ⟨xt, xc, xm, xr, xl⟩ := x
  obtain ⟨yt, yc, ym, yr, yl⟩ := y
  obtain ⟨P, hP⟩ : ∃ P, Lib.compareInt xc yc = P := ⟨_, rfl⟩
  obtain ⟨Q, hQ⟩ : ∃ Q, Lib.compareInt xm ym = Q := ⟨_, rfl⟩
  have HRes : Hid (cmpE ⟨xt, xc, xm, xr, xl⟩ ⟨yt, yc, ym, yr, yl⟩ = orI P Q) := by show _ = _; unfold cmpE; simp only [hP, hQ]
  have HP : Hid (∀ W, Calls Tryz.prog 63 #[.int .i64 xc, .int .i64 yc] W fun e w' => e = .returned (.int .i64 P) ∧ W = w') := fun W => (Tryz.cmp_Compare_int xc yc W).mono fun e w' ⟨h1, h2⟩ => ⟨by rw [← hP]; exact h1, h2.symm⟩
  have HQ : Hid (∀ W, Calls Tryz.prog 63 #[.int .i64 xm, .int .i64 ym] W fun e w' => e = .returned (.int .i64 Q) ∧ W = w') := fun W => (Tryz.cmp_Compare_int xm ym W).mono fun e w' ⟨h1, h2⟩ => ⟨by rw [← hQ]; exact h1, h2.symm⟩
  rw [HRes.out]
  unfold encE
  obtain ⟨W1, hW1⟩ : ∃ W, w.alloc (.cells #[.string xt, .int .i64 xc, .int .i64 xm, .bool xr, .string xl] 39) = W := ⟨_, rfl⟩
  obtain ⟨W2, hW2⟩ : ∃ W, W1.alloc (.cells #[.string yt, .int .i64 yc, .int .i64 ym, .bool yr, .string yl] 39) = W := ⟨_, rfl⟩
  obtain ⟨Q1, hQ1⟩ : ∃ Q, w.heap.size = Q := ⟨_, rfl⟩
  obtain ⟨Q2, hQ2⟩ : ∃ Q, W1.heap.size = Q := ⟨_, rfl⟩
  obtain ⟨Q3, hQ3⟩ : ∃ Q, W2.heap.size = Q := ⟨_, rfl⟩
  have a1 : W1.heap[Q1]? = some (.cells #[.string xt, .int .i64 xc, .int .i64 xm, .bool xr, .string xl] 39 (0, 0)) := by rw [← hW1, ← hQ1]; exact heap_alloc_new w _
  have b1 : W2.heap[Q1]? = some (.cells #[.string xt, .int .i64 xc, .int .i64 xm, .bool xr, .string xl] 39 (0, 0)) := by rw [← hW2]; exact alloc_at a1 _
  have b2 : W2.heap[Q2]? = some (.cells #[.string yt, .int .i64 yc, .int .i64 ym, .bool yr, .string yl] 39 (0, 0)) := by rw [← hW2, ← hQ2]; exact heap_alloc_new W1 _
  have HSx : Hid (∀ Y, Below Q3 W2 Y → Y.cell? ⟨Q1, 1, none⟩ = some (.int .i64 xc) ∧ Y.cell? ⟨Q1, 2, none⟩ = some (.int .i64 xm) ∧ Y.cell? ⟨Q2, 1, none⟩ = some (.int .i64 yc) ∧ Y.cell? ⟨Q2, 2, none⟩ = some (.int .i64 ym)) := fun Y hY => by
    rw [← hQ3] at hY
    have c1 := (hY.block Q1 (lt_block b1)).trans b1
    have c2 := (hY.block Q2 (lt_block b2)).trans b2
    exact ⟨cell_at c1 1, cell_at c1 2, cell_at c2 1, cell_at c2 2⟩
  have HBx := hidK (Below.refl Q3 W2)
  have HSq : Hid (∀ Y, Below Q3 W2 Y → Q3 ≤ Y.heap.size) := fun Y hY => by rw [← hQ3]; exact hY.size
  have HOr : Hid (∀ Y g, Y.heap[g]? = some (.cells #[.int .i64 P, .int .i64 Q] 3 (0, 0)) → Calls Tryz.prog 62 #[.slice (some ⟨g, 0, none⟩) 2 2] Y fun e w' => e = .returned (.int .i64 (orI P Q)) ∧ Y = w') := fun Y g hg => or_any P Q g Y hg
  have HNq : Hid ((W2.drew.alloc (.cells #[.int .i64 P, .int .i64 Q] 3)).heap[Q3]? = some (.cells #[.int .i64 P, .int .i64 Q] 3 (0, 0))) := by show _ = _; rw [← hQ3]; exact heap_alloc_new W2.drew _
  have HFin : Hid (∀ n o, ∃ q os', ((W2.drewN n).alloc o) = grow (w.drewN q) os') := fun n o => ⟨n, (#[.cells #[.string xt, .int .i64 xc, .int .i64 xm, .bool xr, .string xl] 39] ++ #[.cells #[.string yt, .int .i64 yc, .int .i64 ym, .bool yr, .string yl] 39]) ++ #[o], by
    rw [← hW2, ← hW1, alloc_eq_grow, alloc_eq_grow, alloc_eq_grow]
    show grow (grow (grow (w.drewN n) #[_]) #[_]) #[o] = _
    rw [grow_grow, grow_grow, Array.append_assoc]⟩
  obtain ⟨RR, hRR⟩ : ∃ RR, orI P Q = RR := ⟨_, rfl⟩
  rw [hRR] at HOr ⊢
  have HZ := hidK (And.intro hQ1 (And.intro hQ2 hQ3))
  clear a1 b1 b2 hRR hP hQ
  go_enter Tryz.func39, Tryz.ntmps39
  go_wp2_with fail
  refine wp_region_held_drew (S := (fun X => X.cell? ⟨Q1, 1, none⟩ = some (.int .i64 xc) ∧ X.cell? ⟨Q1, 2, none⟩ = some (.int .i64 xm) ∧ X.cell? ⟨Q2, 1, none⟩ = some (.int .i64 yc) ∧ X.cell? ⟨Q2, 2, none⟩ = some (.int .i64 ym))) (by kernel_rfl) ?sP (fun hHeld => ?_)
  case sP => ((try dsimp only); exact HSx.out _ (by first | exact HBx.out | exact HBx.out.drew | exact HBx.out.alloc (HSq.out _ HBx.out) _))
  have HBn := hidK HBx.out.drew
  clear HBx
  have HBx := hidK HBn.out
  clear HBn
  refine wpAnyH_take (i := 0) (oi := { dst := some 5, op := Op.fieldAddr 39 (Operand.tmp 2) 1, type := 0, pos := "binds.go:107", after := #[], guard := none }) (v := ?vP0n1) rfl (by kernel_rfl) (by kernel_rfl) (by kernel_rfl) (fun _ _ _ h => h) (Or.inl ⟨by rfl, ?yP0n1⟩) (by assumption) ?rP0n1
  case yP0n1 => (intro w hSw; (try dsimp only at hSw); first | (go_simp; done) | (go_simp; with_reducible rfl))
  try simp only [Act.put, List.setIfInBounds_toArray, List.set_cons_zero, List.set_cons_succ]
  refine wpAnyH_take (i := 1) (oi := { dst := some 6, op := Op.fieldAddr 23 (Operand.tmp 5) 0, type := 0, pos := "binds.go:107", after := #[{ on := 0, ground := Ground.data }], guard := none }) (v := ?vP1n2) rfl (by kernel_rfl) (by kernel_rfl) (by kernel_rfl) (fun _ _ _ h => h) (Or.inl ⟨by rfl, ?yP1n2⟩) (by assumption) ?rP1n2
  case yP1n2 => (intro w hSw; (try dsimp only at hSw); first | (go_simp; done) | (go_simp; with_reducible rfl))
  try simp only [Act.put, List.setIfInBounds_toArray, List.set_cons_zero, List.set_cons_succ]
  refine wpAnyH_take (i := 2) (oi := { dst := some 7, op := Op.load 3 (Operand.tmp 6), type := 3, pos := "binds.go:107", after := #[{ on := 1, ground := Ground.data }], guard := none }) (v := ?vP2n3) rfl (by kernel_rfl) (by kernel_rfl) (by kernel_rfl) (fun _ _ _ h => h) (Or.inl ⟨by rfl, ?yP2n3⟩) (by assumption) ?rP2n3
  case yP2n3 => (intro w hSw; (try dsimp only at hSw); first | (go_simp; done) | (go_simp; with_reducible rfl))
  try simp only [Act.put, List.setIfInBounds_toArray, List.set_cons_zero, List.set_cons_succ]
  refine wpAnyH_take (i := 3) (oi := { dst := some 8, op := Op.fieldAddr 39 (Operand.tmp 3) 1, type := 0, pos := "binds.go:107", after := #[], guard := none }) (v := ?vP3n4) rfl (by kernel_rfl) (by kernel_rfl) (by kernel_rfl) (fun _ _ _ h => h) (Or.inl ⟨by rfl, ?yP3n4⟩) (by assumption) ?rP3n4
  case yP3n4 => (intro w hSw; (try dsimp only at hSw); first | (go_simp; done) | (go_simp; with_reducible rfl))
  try simp only [Act.put, List.setIfInBounds_toArray, List.set_cons_zero, List.set_cons_succ]
  refine wpAnyH_take (i := 4) (oi := { dst := some 9, op := Op.fieldAddr 23 (Operand.tmp 8) 0, type := 0, pos := "binds.go:107", after := #[{ on := 3, ground := Ground.data }], guard := none }) (v := ?vP4n5) rfl (by kernel_rfl) (by kernel_rfl) (by kernel_rfl) (fun _ _ _ h => h) (Or.inl ⟨by rfl, ?yP4n5⟩) (by assumption) ?rP4n5
  case yP4n5 => (intro w hSw; (try dsimp only at hSw); first | (go_simp; done) | (go_simp; with_reducible rfl))
  try simp only [Act.put, List.setIfInBounds_toArray, List.set_cons_zero, List.set_cons_succ]
  refine wpAnyH_take (i := 5) (oi := { dst := some 10, op := Op.load 3 (Operand.tmp 9), type := 3, pos := "binds.go:107", after := #[{ on := 4, ground := Ground.data }], guard := none }) (v := ?vP5n6) rfl (by kernel_rfl) (by kernel_rfl) (by kernel_rfl) (fun _ _ _ h => h) (Or.inl ⟨by rfl, ?yP5n6⟩) (by assumption) ?rP5n6
  case yP5n6 => (intro w hSw; (try dsimp only at hSw); first | (go_simp; done) | (go_simp; with_reducible rfl))
  try simp only [Act.put, List.setIfInBounds_toArray, List.set_cons_zero, List.set_cons_succ]
  refine wpAnyH_take (i := 7) (oi := { dst := some 12, op := Op.fieldAddr 39 (Operand.tmp 2) 1, type := 0, pos := "binds.go:107", after := #[], guard := none }) (v := ?vP7n7) rfl (by kernel_rfl) (by kernel_rfl) (by kernel_rfl) (fun _ _ _ h => h) (Or.inl ⟨by rfl, ?yP7n7⟩) (by assumption) ?rP7n7
  case yP7n7 => (intro w hSw; (try dsimp only at hSw); first | (go_simp; done) | (go_simp; with_reducible rfl))
  try simp only [Act.put, List.setIfInBounds_toArray, List.set_cons_zero, List.set_cons_succ]
  refine wpAnyH_take (i := 8) (oi := { dst := some 13, op := Op.fieldAddr 23 (Operand.tmp 12) 1, type := 0, pos := "binds.go:107", after := #[{ on := 7, ground := Ground.data }], guard := none }) (v := ?vP8n8) rfl (by kernel_rfl) (by kernel_rfl) (by kernel_rfl) (fun _ _ _ h => h) (Or.inl ⟨by rfl, ?yP8n8⟩) (by assumption) ?rP8n8
  case yP8n8 => (intro w hSw; (try dsimp only at hSw); first | (go_simp; done) | (go_simp; with_reducible rfl))
  try simp only [Act.put, List.setIfInBounds_toArray, List.set_cons_zero, List.set_cons_succ]
  refine wpAnyH_take (i := 9) (oi := { dst := some 14, op := Op.load 3 (Operand.tmp 13), type := 3, pos := "binds.go:107", after := #[{ on := 8, ground := Ground.data }], guard := none }) (v := ?vP9n9) rfl (by kernel_rfl) (by kernel_rfl) (by kernel_rfl) (fun _ _ _ h => h) (Or.inl ⟨by rfl, ?yP9n9⟩) (by assumption) ?rP9n9
  case yP9n9 => (intro w hSw; (try dsimp only at hSw); first | (go_simp; done) | (go_simp; with_reducible rfl))
  try simp only [Act.put, List.setIfInBounds_toArray, List.set_cons_zero, List.set_cons_succ]
  refine wpAnyH_take (i := 10) (oi := { dst := some 15, op := Op.fieldAddr 39 (Operand.tmp 3) 1, type := 0, pos := "binds.go:107", after := #[], guard := none }) (v := ?vP10n10) rfl (by kernel_rfl) (by kernel_rfl) (by kernel_rfl) (fun _ _ _ h => h) (Or.inl ⟨by rfl, ?yP10n10⟩) (by assumption) ?rP10n10
  case yP10n10 => (intro w hSw; (try dsimp only at hSw); first | (go_simp; done) | (go_simp; with_reducible rfl))
  try simp only [Act.put, List.setIfInBounds_toArray, List.set_cons_zero, List.set_cons_succ]
  refine wpAnyH_take (i := 11) (oi := { dst := some 16, op := Op.fieldAddr 23 (Operand.tmp 15) 1, type := 0, pos := "binds.go:107", after := #[{ on := 10, ground := Ground.data }], guard := none }) (v := ?vP11n11) rfl (by kernel_rfl) (by kernel_rfl) (by kernel_rfl) (fun _ _ _ h => h) (Or.inl ⟨by rfl, ?yP11n11⟩) (by assumption) ?rP11n11
  case yP11n11 => (intro w hSw; (try dsimp only at hSw); first | (go_simp; done) | (go_simp; with_reducible rfl))
  try simp only [Act.put, List.setIfInBounds_toArray, List.set_cons_zero, List.set_cons_succ]
  refine wpAnyH_take (i := 12) (oi := { dst := some 17, op := Op.load 3 (Operand.tmp 16), type := 3, pos := "binds.go:107", after := #[{ on := 11, ground := Ground.data }], guard := none }) (v := ?vP12n12) rfl (by kernel_rfl) (by kernel_rfl) (by kernel_rfl) (fun _ _ _ h => h) (Or.inl ⟨by rfl, ?yP12n12⟩) (by assumption) ?rP12n12
  case yP12n12 => (intro w hSw; (try dsimp only at hSw); first | (go_simp; done) | (go_simp; with_reducible rfl))
  try simp only [Act.put, List.setIfInBounds_toArray, List.set_cons_zero, List.set_cons_succ]
  refine wpAnyH_ready (rs := [6]) (by kernel_rfl) (by simp) (AllReadyH.cons (o := { dst := some 11, op := Op.call { callee := Callee.value (Operand.func 63), args := #[Operand.tmp 7, Operand.tmp 10], argTypes := #[3, 3] }, type := 3, pos := "binds.go:107", after := #[{ on := 2, ground := Ground.data }, { on := 5, ground := Ground.data }], guard := none }) rfl (fun K hK => ?bPn13q0) AllReadyH.nil)
  go_simp
  go_wp2_with (refine (HP.out _).mono ?_; rintro e Y1 ⟨rfl, rfl⟩)
  refine hK.out _ _ ?kPn13o6 (fun hHeld13 => ?_)
  case kPn13o6 => ((try dsimp only); exact HSx.out _ (by first | exact HBx.out | exact HBx.out.drew | exact HBx.out.alloc (HSq.out _ HBx.out) _))
  clear hK K
  try simp only [Act.put, List.setIfInBounds_toArray, List.set_cons_zero, List.set_cons_succ]
  refine wpAnyH_ready (rs := [13]) (by kernel_rfl) (by simp) (AllReadyH.cons (o := { dst := some 18, op := Op.call { callee := Callee.value (Operand.func 63), args := #[Operand.tmp 14, Operand.tmp 17], argTypes := #[3, 3] }, type := 3, pos := "binds.go:107", after := #[{ on := 9, ground := Ground.data }, { on := 12, ground := Ground.data }, { on := 6, ground := Ground.chain }], guard := none }) rfl (fun K hK => ?bPn14q0) AllReadyH.nil)
  go_simp
  go_wp2_with (refine (HQ.out _).mono ?_; rintro e Y2 ⟨rfl, rfl⟩)
  refine hK.out _ _ ?kPn14o13 (fun hHeld14 => ?_)
  case kPn14o13 => ((try dsimp only); exact HSx.out _ (by first | exact HBx.out | exact HBx.out.drew | exact HBx.out.alloc (HSq.out _ HBx.out) _))
  clear hK K
  try simp only [Act.put, List.setIfInBounds_toArray, List.set_cons_zero, List.set_cons_succ]
  refine wpAnyH_ready (rs := [14]) (by kernel_rfl) (by simp) (AllReadyH.cons (o := { dst := some 19, op := Op.buildSlice 134 2 #[(0, Operand.tmp 11), (1, Operand.tmp 18)], type := 134, pos := "binds.go:107", after := #[{ on := 6, ground := Ground.data }, { on := 13, ground := Ground.data }], guard := none }) rfl (fun K hK => ?bPn15q0) AllReadyH.nil)
  go_simp
  refine hK.out _ _ ?kPn15o14 (fun hHeld15 => ?_)
  case kPn15o14 => ((try dsimp only); exact HSx.out _ (by first | exact HBx.out | exact HBx.out.drew | exact HBx.out.alloc (HSq.out _ HBx.out) _))
  clear hK K
  skip
  try simp only [Act.put, List.setIfInBounds_toArray, List.set_cons_zero, List.set_cons_succ]
  refine wpAnyH_ready (rs := [15]) (by kernel_rfl) (by simp) (AllReadyH.cons (o := { dst := some 20, op := Op.call { callee := Callee.value (Operand.func 62), args := #[Operand.tmp 19], argTypes := #[134] }, type := 3, pos := "binds.go:107", after := #[{ on := 14, ground := Ground.data }, { on := 13, ground := Ground.chain }], guard := none }) rfl (fun K hK => ?bPn16q0) AllReadyH.nil)
  go_simp
  go_wp2_with (refine (HOr.out _ Q3 HNq.out).mono ?_; rintro e Y3 ⟨rfl, rfl⟩)
  refine hK.out _ _ ?kPn16o15 (fun hHeld16 => ?_)
  case kPn16o15 => ((try dsimp only); exact HSx.out _ (by first | exact HBx.out | exact HBx.out.drew | exact HBx.out.alloc (HSq.out _ HBx.out) _))
  clear hK K
  try simp only [Act.put, List.setIfInBounds_toArray, List.set_cons_zero, List.set_cons_succ]
  refine wpAnyH_take (i := 16) (oi := { dst := some 4, op := Op.assign (Operand.tmp 20), type := 3, pos := "binds.go:107", after := #[{ on := 15, ground := Ground.data }, { on := 15, ground := Ground.chain }, { on := 0, ground := Ground.phase }, { on := 1, ground := Ground.phase }, { on := 2, ground := Ground.phase }, { on := 3, ground := Ground.phase }, { on := 4, ground := Ground.phase }, { on := 5, ground := Ground.phase }, { on := 6, ground := Ground.phase }, { on := 7, ground := Ground.phase }, { on := 8, ground := Ground.phase }, { on := 9, ground := Ground.phase }, { on := 10, ground := Ground.phase }, { on := 11, ground := Ground.phase }, { on := 12, ground := Ground.phase }, { on := 13, ground := Ground.phase }, { on := 14, ground := Ground.phase }, { on := 15, ground := Ground.phase }], guard := none }) (v := ?vP16n17) rfl (by kernel_rfl) (by kernel_rfl) (by kernel_rfl) (fun _ _ _ h => h) (Or.inl ⟨by rfl, ?yP16n17⟩) (by assumption) ?rP16n17
  case yP16n17 => (intro w hSw; (try dsimp only at hSw); first | (go_simp; done) | (go_simp; with_reducible rfl))
  try simp only [Act.put, List.setIfInBounds_toArray, List.set_cons_zero, List.set_cons_succ]
  refine wpAnyH_done (by kernel_rfl) ?_ _
  go_wp2_with fail
  all_goals (
    go_ret
    exact ⟨rfl, HFin.out 1 _⟩)
end Go.Proofs.YtbonnjilbocldaaGreatDoor
