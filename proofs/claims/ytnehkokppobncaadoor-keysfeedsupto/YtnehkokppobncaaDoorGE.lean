/-
  Keys: a key's bytes.
  Keys: Bytes, whole.
  Keys: the key of one byte, and its modifiers.
-/
import Derived.Test.YtnehkokppobncaaDoorGD
import Derived.RegionTactic
import Derived.BigRegion
namespace Go.Proofs.YtnehkokppobncaaDoor
open Go.RowKit
set_option linter.unusedVariables false
set_option maxRecDepth 100000

theorem str_catK (a b : List UInt8) : str a ++ str b = str (a ++ b) := by
  apply ByteArray.ext
  rw [ByteArray.data_append]
  simp [str]
theorem ctl_bits {c : Int} (h0 : 0 ≤ c) (h1 : c < 128) : bits .and .i64 c 31 = c % 32 := by
  obtain ⟨n, rfl⟩ := Int.eq_ofNat_of_zero_le h0
  have hn : n < 128 := by omega
  have hall : ∀ n : Fin 128, bits .and .i64 (n.val : Int) 31 = (n.val : Int) % 32 := by decide
  exact hall ⟨n, hn⟩
set_option maxHeartbeats 1000000 in
theorem controlByte_any (c : Int) (h0 : 0 ≤ c) (h1 : c < 128) (w : World) : Calls Tryd.prog 21 #[.int .i64 c] w fun r w' => r = .returned (.int .i64 (c % 32)) ∧ w = w' := by
  have hb := ctl_bits h0 h1
  go_enter Tryd.func21, Tryd.ntmps21
  go_wp2_with fail
  go_ret
  exact ⟨rfl, rfl⟩
theorem enc_digit {m : Int} (h1 : 1 ≤ m) (h7 : m ≤ 7) : Utf8.encode (49 + m) = str [UInt8.ofNat (49 + m.toNat)] := by
  rcases (by omega : m = 1 ∨ m = 2 ∨ m = 3 ∨ m = 4 ∨ m = 5 ∨ m = 6 ∨ m = 7) with e | e | e | e | e | e | e <;> subst e <;> rfl
theorem sp_small : ∀ s ∈ spT, s.name.length ≤ 9 ∧ s.head.length ≤ 9 ∧ s.letter.length ≤ 9 ∧ s.number.length ≤ 9 := by decide
end Go.Proofs.YtnehkokppobncaaDoor

namespace Go.Proofs.YtnehkokppobncaaDoor
open Go.RowKit
set_option linter.unusedVariables false
set_option maxRecDepth 100000

/-- The key's own block. -/
structure Kb (w W : World) (K : Nat) (c m : Int) : Prop where
  below : Below w.heap.size w W
  key : W.heap[K]? = some (.cells #[.int .i64 c, .int .i64 m] 36 (0, 0))
theorem Kb.new (w : World) (c m : Int) : Kb w (w.alloc (.cells #[.int .i64 c, .int .i64 m] 36)) w.heap.size c m := ⟨(Below.refl _ _).alloc (Nat.le_refl _) _, heap_alloc_new w _⟩
theorem Kb.more {w W W' : World} {K : Nat} {c m : Int} (h : Kb w W K c m) (hb : Below W.heap.size W W') : Kb w W' K c m := ⟨below_step h.below hb, (hb.block K (lt_block h.key)).trans h.key⟩
theorem Kb.c0 {w W : World} {K : Nat} {c m : Int} (h : Kb w W K c m) : W.cell? ⟨K, 0, none⟩ = some (.int .i64 c) := cell_at h.key 0
theorem Kb.c1 {w W : World} {K : Nat} {c m : Int} (h : Kb w W K c m) : W.cell? ⟨K, 1, none⟩ = some (.int .i64 m) := cell_at h.key 1
theorem spx_at : ∀ k : Fin 22, ∀ W : World, (Instr.indexAt 69 (.pointer (some ⟨1, 0, none⟩)) (.int .i64 (k.val : Int))).run Tryd.prog W = .ok (.pointer (some ⟨1, k.val * 4, none⟩)) W := by
  intro k
  match k with
  | ⟨0, _⟩ => exact fun W => by kernel_rfl
  | ⟨1, _⟩ => exact fun W => by kernel_rfl
  | ⟨2, _⟩ => exact fun W => by kernel_rfl
  | ⟨3, _⟩ => exact fun W => by kernel_rfl
  | ⟨4, _⟩ => exact fun W => by kernel_rfl
  | ⟨5, _⟩ => exact fun W => by kernel_rfl
  | ⟨6, _⟩ => exact fun W => by kernel_rfl
  | ⟨7, _⟩ => exact fun W => by kernel_rfl
  | ⟨8, _⟩ => exact fun W => by kernel_rfl
  | ⟨9, _⟩ => exact fun W => by kernel_rfl
  | ⟨10, _⟩ => exact fun W => by kernel_rfl
  | ⟨11, _⟩ => exact fun W => by kernel_rfl
  | ⟨12, _⟩ => exact fun W => by kernel_rfl
  | ⟨13, _⟩ => exact fun W => by kernel_rfl
  | ⟨14, _⟩ => exact fun W => by kernel_rfl
  | ⟨15, _⟩ => exact fun W => by kernel_rfl
  | ⟨16, _⟩ => exact fun W => by kernel_rfl
  | ⟨17, _⟩ => exact fun W => by kernel_rfl
  | ⟨18, _⟩ => exact fun W => by kernel_rfl
  | ⟨19, _⟩ => exact fun W => by kernel_rfl
  | ⟨20, _⟩ => exact fun W => by kernel_rfl
  | ⟨21, _⟩ => exact fun W => by kernel_rfl
  | ⟨k + 22, h⟩ => exact absurd h (by omega)
end Go.Proofs.YtnehkokppobncaaDoor

namespace Go.Proofs.YtnehkokppobncaaDoor
open Go.RowKit
set_option linter.unusedVariables false
set_option maxRecDepth 100000

theorem ret_cell1 {P : Program} {fn : Func} {p : Tmp} {ty : TypeId} (h : fn.results = #[.cell p ty]) {a : Act} {w : World} {R : Ending → World → Prop} {g : Nat} {t : TypeId} {cs : Array Value} {fr : Nat × Nat} {d : TypeDesc}
    (hp : a.tmps.getD p undef = .pointer (some ⟨g, 0, none⟩)) (hg : w.heap[g]? = some (.cells cs t fr)) (hu : P.underlying ty = some d) (hd : (match d with | .struct _ | .array _ _ => true | _ => false) = true) (hi : (P.info? ty).map (·.size) = some cs.size)
    (hdf : a.defers = []) (hR : R (.returned (.agg cs)) w) : bodyPost P fn R .ret a w := by
  refine bodyPost_ret ?_ hdf hR
  simp only [results, h]
  have h1 : (asAddr (.pointer (some ⟨g, 0, none⟩))).run P w = .ok ⟨g, 0, none⟩ w := rfl
  simp [Sem.run_bind, Result.andThen]
  have hp2 : a.tmps[p]?.getD undef = .pointer (some ⟨g, 0, none⟩) := by simpa using hp
  rw [hp2, h1]
  exact run_loadVar_row w g t ty cs fr d hg hu hd hi
theorem infoKey : (Tryd.prog.info? 36).map (·.size) = some 2 := by kernel_rfl
theorem Kb.f {w W : World} {K : Nat} {c m : Int} (h : Kb w W K c m) (i : Nat) : W.frozen? ⟨K, i, none⟩ = false := free_at h.key i
theorem Kb.put {w W : World} {K : Nat} {c m : Int} (h : Kb w W K c m) (hK : w.heap.size ≤ K) (a b : Int) : Kb w ((W.setCell ⟨K, 0, none⟩ (.int .i64 a)).setCell ⟨K, 1, none⟩ (.int .i64 b)) K a b :=
  ⟨(h.below.setCell (p := ⟨K, 0, none⟩) hK _).setCell (p := ⟨K, 1, none⟩) hK _, put_at (put_at h.key 0 _) 1 _⟩
/-- A key is told. -/
theorem key_end {fn : Func} {p : Tmp} (h : fn.results = #[.cell p 36]) {a : Act} {w W : World} {R : Ending → World → Prop} {Z : Nat} {c m a' b' : Int} (hk : Kb w W Z c m) (hZ : w.heap.size ≤ Z)
    (hp : a.tmps.getD p undef = .pointer (some ⟨Z, 0, none⟩)) (hdf : a.defers = []) (hR : ∀ X, Below w.heap.size w X → X = (W.setCell ⟨Z, 0, none⟩ (.int .i64 a')).setCell ⟨Z, 1, none⟩ (.int .i64 b') → R (.returned (.agg #[.int .i64 a', .int .i64 b'])) X) :
    bodyPost Tryd.prog fn R .ret a ((W.setCell ⟨Z, 0, none⟩ (.int .i64 a')).setCell ⟨Z, 1, none⟩ (.int .i64 b')) :=
  ret_cell1 h hp (hk.put hZ a' b').key Tryd.underlying36 rfl infoKey hdf (hR _ (hk.put hZ a' b').below rfl)
/-- The block of a key that will be told. -/
theorem key_new (w : World) : ∃ W Z, w.alloc (.cells #[.int .i64 0, .int .i64 0] 36) = W ∧ w.heap.size = Z ∧ Hid (Kb w W Z 0 0) ∧ Hid (w.heap.size ≤ Z) ∧ W.cell? ⟨Z, 0, none⟩ = some (.int .i64 0) ∧ W.cell? ⟨Z, 1, none⟩ = some (.int .i64 0) ∧ W.frozen? ⟨Z, 0, none⟩ = false ∧ W.frozen? ⟨Z, 1, none⟩ = false :=
  ⟨_, _, rfl, rfl, Kb.new w 0 0, Nat.le_refl _, (Kb.new w 0 0).c0, (Kb.new w 0 0).c1, (Kb.new w 0 0).f 0, (Kb.new w 0 0).f 1⟩
set_option maxHeartbeats 2000000 in
theorem withMods_any (c m n z : Int) (hz : bits .or .i64 m n = z) (w : World) : Calls Tryd.prog 13 #[.agg #[.int .i64 c, .int .i64 m], .int .i64 n] w fun r w' => r = .returned (.agg #[.int .i64 c, .int .i64 z]) ∧ Below w.heap.size w w' := by
  obtain ⟨V, hV⟩ : ∃ V, (w.alloc (.cells #[.int .i64 c, .int .i64 m] 36)).alloc (.cells #[.int .i64 0, .int .i64 0] 36) = V := ⟨_, rfl⟩
  obtain ⟨K, hK⟩ : ∃ K, w.heap.size = K := ⟨_, rfl⟩
  have hb0 : Below w.heap.size w V := by rw [← hV]; exact ((Below.refl _ _).alloc (Nat.le_refl _) _).alloc (by simp) _
  have h1 : V.heap[K]? = some (.cells #[.int .i64 c, .int .i64 m] 36 (0, 0)) := by rw [← hV, ← hK]; exact alloc_at (heap_alloc_new w _) _
  have h2 : V.heap[K + 1]? = some (.cells #[.int .i64 0, .int .i64 0] 36 (0, 0)) := by
    rw [← hV, ← hK]
    have := heap_alloc_new (w.alloc (.cells #[.int .i64 c, .int .i64 m] 36)) (.cells #[.int .i64 0, .int .i64 0] 36)
    simpa using this
  obtain ⟨X, hX⟩ : ∃ X, V.setCell ⟨K, 1, none⟩ (.int .i64 z) = X := ⟨_, rfl⟩
  have hbX : Below w.heap.size w X := by rw [← hX]; exact hb0.setCell (p := ⟨K, 1, none⟩) (by simp only; omega) _
  have x1 : X.heap[K]? = some (.cells #[.int .i64 c, .int .i64 z] 36 (0, 0)) := by rw [← hX]; exact put_at h1 1 _
  have x2 : X.heap[K + 1]? = some (.cells #[.int .i64 0, .int .i64 0] 36 (0, 0)) := by rw [← hX]; exact put_other h2 (by omega) _ _
  have v0 : V.cell? ⟨K, 0, none⟩ = some (.int .i64 c) := cell_at h1 0
  have v1 : V.cell? ⟨K, 1, none⟩ = some (.int .i64 m) := cell_at h1 1
  have v2 : V.frozen? ⟨K, 1, none⟩ = false := free_at h1 1
  have y0 : X.cell? ⟨K, 0, none⟩ = some (.int .i64 c) := cell_at x1 0
  have y1 : X.cell? ⟨K, 1, none⟩ = some (.int .i64 z) := cell_at x1 1
  have z0 : X.cell? ⟨K + 1, 0, none⟩ = some (.int .i64 0) := cell_at x2 0
  have z1 : X.cell? ⟨K + 1, 1, none⟩ = some (.int .i64 0) := cell_at x2 1
  have f0 : X.frozen? ⟨K + 1, 0, none⟩ = false := free_at x2 0
  have f1 : X.frozen? ⟨K + 1, 1, none⟩ = false := free_at x2 1
  have HZ : Hid (Kb w X (K + 1) 0 0 ∧ w.heap.size ≤ K + 1) := ⟨⟨hbX, x2⟩, by omega⟩
  have hV2 := hV
  clear hb0 h1 h2 hbX x1 x2
  go_enter Tryd.func13, Tryd.ntmps13
  go_wp2_with fail
  refine key_end rfl HZ.out.1 HZ.out.2 rfl rfl ?_
  intro X' hX' _
  exact ⟨rfl, by first | exact hX' | (rw [← hK]; exact hX')⟩
set_option maxHeartbeats 4000000 in
theorem lone_any (b : Nat) (hb : b < 128) (w : World) : Calls Tryd.prog 14 #[.int .u8 (b : Int)] w fun r w' => r = .returned (.agg #[.int .i64 (loneF b).1, .int .i64 (loneF b).2]) ∧ Below w.heap.size w w' := by
  have C32 : Hid (∀ W, Calls Tryd.prog 21 #[.int .i64 32] W fun r w' => r = .returned (.int .i64 0) ∧ W = w') := controlByte_any 32 (by decide) (by decide)
  have C122 : Hid (∀ W, Calls Tryd.prog 21 #[.int .i64 122] W fun r w' => r = .returned (.int .i64 26) ∧ W = w') := controlByte_any 122 (by decide) (by decide)
  have C97 : Hid (∀ W, Calls Tryd.prog 21 #[.int .i64 97] W fun r w' => r = .returned (.int .i64 1) ∧ W = w') := controlByte_any 97 (by decide) (by decide)
  have C92 : Hid (∀ W, Calls Tryd.prog 21 #[.int .i64 92] W fun r w' => r = .returned (.int .i64 28) ∧ W = w') := controlByte_any 92 (by decide) (by decide)
  obtain ⟨x, y, hx, hy⟩ : ∃ x y, (loneF b).1 = x ∧ (loneF b).2 = y := ⟨_, _, rfl, rfl⟩
  rw [hx, hy]
  obtain ⟨W, Z, hW, hZ, HZ, HW, k0, k1, f0, f1⟩ := key_new w
  by_cases h1 : 32 ≤ b
  · have i1 : (32 : Int) ≤ (b : Int) := by omega
    have HE : Hid (loneF b = ((b : Int), 0)) := by show _ = _; unfold loneF; rw [if_pos (.inl h1)]
    rw [show loneF b = ((b : Int), 0) from HE.out] at hx hy
    obtain rfl : (b : Int) = x := hx
    obtain rfl : 0 = y := hy
    clear h1
    go_enter Tryd.func14, Tryd.ntmps14
    go_wp2_with fail
    refine key_end rfl HZ.out HW.out rfl rfl ?_
    intro X' hX' _
    exact ⟨rfl, by first | exact hX' | (rw [← hZ]; exact hX')⟩
  by_cases h2 : b = 9
  · subst h2
    have HE : Hid (loneF 9 = ((9 : Int), 0)) := by show _ = _; unfold loneF; rfl
    rw [show loneF 9 = ((9 : Int), 0) from HE.out] at hx hy
    obtain rfl : (9 : Int) = x := hx
    obtain rfl : 0 = y := hy
    go_enter Tryd.func14, Tryd.ntmps14
    go_wp2_with fail
    refine key_end rfl HZ.out HW.out rfl rfl ?_
    intro X' hX' _
    exact ⟨rfl, by first | exact hX' | (rw [← hZ]; exact hX')⟩
  by_cases h3 : b = 13
  · subst h3
    have HE : Hid (loneF 13 = ((13 : Int), 0)) := by show _ = _; unfold loneF; rfl
    rw [show loneF 13 = ((13 : Int), 0) from HE.out] at hx hy
    obtain rfl : (13 : Int) = x := hx
    obtain rfl : 0 = y := hy
    go_enter Tryd.func14, Tryd.ntmps14
    go_wp2_with fail
    refine key_end rfl HZ.out HW.out rfl rfl ?_
    intro X' hX' _
    exact ⟨rfl, by first | exact hX' | (rw [← hZ]; exact hX')⟩
  by_cases h4 : b = 27
  · subst h4
    have HE : Hid (loneF 27 = ((27 : Int), 0)) := by show _ = _; unfold loneF; rfl
    rw [show loneF 27 = ((27 : Int), 0) from HE.out] at hx hy
    obtain rfl : (27 : Int) = x := hx
    obtain rfl : 0 = y := hy
    go_enter Tryd.func14, Tryd.ntmps14
    go_wp2_with fail
    refine key_end rfl HZ.out HW.out rfl rfl ?_
    intro X' hX' _
    exact ⟨rfl, by first | exact hX' | (rw [← hZ]; exact hX')⟩
  by_cases h5 : b = 0
  · subst h5
    have HE : Hid (loneF 0 = ((32 : Int), 4)) := by show _ = _; unfold loneF; rfl
    rw [show loneF 0 = ((32 : Int), 4) from HE.out] at hx hy
    obtain rfl : (32 : Int) = x := hx
    obtain rfl : 4 = y := hy
    go_enter Tryd.func14, Tryd.ntmps14
    go_wp2_with first | (go_at_call 21; refine (C32.out _).mono ?_; rintro e w1 ⟨rfl, rfl⟩) | (go_at_call 21; refine (C122.out _).mono ?_; rintro e w1 ⟨rfl, rfl⟩) | (go_at_call 21; refine (C97.out _).mono ?_; rintro e w1 ⟨rfl, rfl⟩) | (go_at_call 21; refine (C92.out _).mono ?_; rintro e w1 ⟨rfl, rfl⟩)
    refine key_end rfl HZ.out HW.out rfl rfl ?_
    intro X' hX' _
    exact ⟨rfl, by first | exact hX' | (rw [← hZ]; exact hX')⟩
  by_cases h6 : b ≤ 26
  · have HE : Hid (loneF b = ((b : Int) + 96, 4)) := by show _ = _; unfold loneF; rw [if_neg (by omega), if_neg h5, if_pos h6]
    rw [show loneF b = ((b : Int) + 96, 4) from HE.out] at hx hy
    obtain rfl : (b : Int) + 96 = x := hx
    obtain rfl : 4 = y := hy
    have i1 : ¬ (32 : Int) ≤ (b : Int) := by omega
    have i2 : ((b : Int) == 9) = false := by simp; omega
    have i3 : ((b : Int) == 13) = false := by simp; omega
    have i4 : ((b : Int) == 27) = false := by simp; omega
    have i5 : ((b : Int) == 0) = false := by simp; omega
    have i6 : (b : Int) ≤ 26 := by omega
    have i7 : (b : Int) - 1 + 97 = (b : Int) + 96 := by omega
    clear h1 h2 h3 h4 h5 h6 HE
    go_enter Tryd.func14, Tryd.ntmps14
    go_wp2_with first | (go_at_call 21; refine (C32.out _).mono ?_; rintro e w1 ⟨rfl, rfl⟩) | (go_at_call 21; refine (C122.out _).mono ?_; rintro e w1 ⟨rfl, rfl⟩) | (go_at_call 21; refine (C97.out _).mono ?_; rintro e w1 ⟨rfl, rfl⟩) | (go_at_call 21; refine (C92.out _).mono ?_; rintro e w1 ⟨rfl, rfl⟩)
    refine key_end rfl HZ.out HW.out rfl rfl ?_
    intro X' hX' _
    exact ⟨rfl, by first | exact hX' | (rw [← hZ]; exact hX')⟩
  · have HE : Hid (loneF b = ((b : Int) + 64, 4)) := by show _ = _; unfold loneF; rw [if_neg (by omega), if_neg h5, if_neg h6]
    rw [show loneF b = ((b : Int) + 64, 4) from HE.out] at hx hy
    obtain rfl : (b : Int) + 64 = x := hx
    obtain rfl : 4 = y := hy
    have i1 : ¬ (32 : Int) ≤ (b : Int) := by omega
    have i2 : ((b : Int) == 9) = false := by simp; omega
    have i3 : ((b : Int) == 13) = false := by simp; omega
    have i4 : ((b : Int) == 27) = false := by simp; omega
    have i5 : ((b : Int) == 0) = false := by simp; omega
    have i6 : ¬ (b : Int) ≤ 26 := by omega
    have i7 : (b : Int) - 28 + 92 = (b : Int) + 64 := by omega
    clear h1 h2 h3 h4 h5 h6 HE
    go_enter Tryd.func14, Tryd.ntmps14
    go_wp2_with first | (go_at_call 21; refine (C32.out _).mono ?_; rintro e w1 ⟨rfl, rfl⟩) | (go_at_call 21; refine (C122.out _).mono ?_; rintro e w1 ⟨rfl, rfl⟩) | (go_at_call 21; refine (C97.out _).mono ?_; rintro e w1 ⟨rfl, rfl⟩) | (go_at_call 21; refine (C92.out _).mono ?_; rintro e w1 ⟨rfl, rfl⟩)
    refine key_end rfl HZ.out HW.out rfl rfl ?_
    intro X' hX' _
    exact ⟨rfl, by first | exact hX' | (rw [← hZ]; exact hX')⟩
end Go.Proofs.YtnehkokppobncaaDoor
