/-
  Keys: a key's bytes.
  Keys: Bytes, whole.
  Keys: the key of one byte, and its modifiers.
-/
import Derived.Test.YtgdkpmfdpfjdjaaGreatDoorKNm
import Derived.RegionTactic
import Derived.BigRegion
namespace Go.Proofs.YtgdkpmfdpfjdjaaGreatDoor
open Go.RowKit
set_option linter.unusedVariables false
set_option maxRecDepth 100000

theorem str_catK (a b : List UInt8) : str a ++ str b = str (a ++ b) := by
  apply ByteArray.ext
  rw [ByteArray.data_append]
  simp [str]
theorem ctl_bits {c : Int} (h0 : 0 ≤ c) (h1 : c < 128) : bits .and .i64 c 31 = c % 32 := by
  obtain ⟨n, rfl⟩ := Int.eq_ofNat_of_zero_le h0
  have hn : n < 128 := by omega
  have hall : ∀ n : Fin 128, bits .and .i64 (n.val : Int) 31 = (n.val : Int) % 32 := by decide
  exact hall ⟨n, hn⟩
theorem enc_digit {m : Int} (h1 : 1 ≤ m) (h7 : m ≤ 7) : Utf8.encode (49 + m) = str [UInt8.ofNat (49 + m.toNat)] := by
  rcases (by omega : m = 1 ∨ m = 2 ∨ m = 3 ∨ m = 4 ∨ m = 5 ∨ m = 6 ∨ m = 7) with e | e | e | e | e | e | e <;> subst e <;> rfl
theorem sp_small : ∀ s ∈ spT, s.name.length ≤ 9 ∧ s.head.length ≤ 9 ∧ s.letter.length ≤ 9 ∧ s.number.length ≤ 9 := by decide
end Go.Proofs.YtgdkpmfdpfjdjaaGreatDoor

namespace Go.Proofs.YtgdkpmfdpfjdjaaGreatDoor
open Go.RowKit
set_option linter.unusedVariables false
set_option maxRecDepth 100000

/-- The key's own block. -/
structure Kb (w W : World) (K : Nat) (c m : Int) : Prop where
  below : Below w.heap.size w W
  key : W.heap[K]? = some (.cells #[.int .i64 c, .int .i64 m] 115 (0, 0))
theorem Kb.new (w : World) (c m : Int) : Kb w (w.alloc (.cells #[.int .i64 c, .int .i64 m] 115)) w.heap.size c m := ⟨(Below.refl _ _).alloc (Nat.le_refl _) _, heap_alloc_new w _⟩
theorem Kb.more {w W W' : World} {K : Nat} {c m : Int} (h : Kb w W K c m) (hb : Below W.heap.size W W') : Kb w W' K c m := ⟨below_step h.below hb, (hb.block K (lt_block h.key)).trans h.key⟩
theorem Kb.c0 {w W : World} {K : Nat} {c m : Int} (h : Kb w W K c m) : W.cell? ⟨K, 0, none⟩ = some (.int .i64 c) := cell_at h.key 0
theorem Kb.c1 {w W : World} {K : Nat} {c m : Int} (h : Kb w W K c m) : W.cell? ⟨K, 1, none⟩ = some (.int .i64 m) := cell_at h.key 1
theorem spx_at : ∀ k : Fin 22, ∀ W : World, (Instr.indexAt 166 (.pointer (some ⟨1, 0, none⟩)) (.int .i64 (k.val : Int))).run Tryz.prog W = .ok (.pointer (some ⟨1, k.val * 4, none⟩)) W := by
  intro k
  match k with
  | ⟨0, _⟩ => exact fun W => by kernel_rfl
  | ⟨1, _⟩ => exact fun W => by kernel_rfl
  | ⟨2, _⟩ => exact fun W => by kernel_rfl
  | ⟨3, _⟩ => exact fun W => by kernel_rfl
  | ⟨4, _⟩ => exact fun W => by kernel_rfl
  | ⟨5, _⟩ => exact fun W => by kernel_rfl
  | ⟨6, _⟩ => exact fun W => by kernel_rfl
  | ⟨7, _⟩ => exact fun W => by kernel_rfl
  | ⟨8, _⟩ => exact fun W => by kernel_rfl
  | ⟨9, _⟩ => exact fun W => by kernel_rfl
  | ⟨10, _⟩ => exact fun W => by kernel_rfl
  | ⟨11, _⟩ => exact fun W => by kernel_rfl
  | ⟨12, _⟩ => exact fun W => by kernel_rfl
  | ⟨13, _⟩ => exact fun W => by kernel_rfl
  | ⟨14, _⟩ => exact fun W => by kernel_rfl
  | ⟨15, _⟩ => exact fun W => by kernel_rfl
  | ⟨16, _⟩ => exact fun W => by kernel_rfl
  | ⟨17, _⟩ => exact fun W => by kernel_rfl
  | ⟨18, _⟩ => exact fun W => by kernel_rfl
  | ⟨19, _⟩ => exact fun W => by kernel_rfl
  | ⟨20, _⟩ => exact fun W => by kernel_rfl
  | ⟨21, _⟩ => exact fun W => by kernel_rfl
  | ⟨k + 22, h⟩ => exact absurd h (by omega)
end Go.Proofs.YtgdkpmfdpfjdjaaGreatDoor

namespace Go.Proofs.YtgdkpmfdpfjdjaaGreatDoor
open Go.RowKit
set_option linter.unusedVariables false
set_option maxRecDepth 100000

theorem ret_cell1 {P : Program} {fn : Func} {p : Tmp} {ty : TypeId} (h : fn.results = #[.cell p ty]) {a : Act} {w : World} {R : Ending → World → Prop} {g : Nat} {t : TypeId} {cs : Array Value} {fr : Nat × Nat} {d : TypeDesc}
    (hp : a.tmps.getD p undef = .pointer (some ⟨g, 0, none⟩)) (hg : w.heap[g]? = some (.cells cs t fr)) (hu : P.underlying ty = some d) (hd : (match d with | .struct _ | .array _ _ => true | _ => false) = true) (hi : (P.info? ty).map (·.size) = some cs.size)
    (hdf : a.defers = []) (hR : R (.returned (.agg cs)) w) : bodyPost P fn R .ret a w := by
  refine bodyPost_ret ?_ hdf hR
  simp only [results, h]
  have h1 : (asAddr (.pointer (some ⟨g, 0, none⟩))).run P w = .ok ⟨g, 0, none⟩ w := rfl
  simp [Sem.run_bind, Result.andThen]
  have hp2 : a.tmps[p]?.getD undef = .pointer (some ⟨g, 0, none⟩) := by simpa using hp
  rw [hp2, h1]
  exact run_loadVar_row w g t ty cs fr d hg hu hd hi
theorem infoKey : (Tryz.prog.info? 115).map (·.size) = some 2 := by kernel_rfl
theorem Kb.f {w W : World} {K : Nat} {c m : Int} (h : Kb w W K c m) (i : Nat) : W.frozen? ⟨K, i, none⟩ = false := free_at h.key i
theorem Kb.put {w W : World} {K : Nat} {c m : Int} (h : Kb w W K c m) (hK : w.heap.size ≤ K) (a b : Int) : Kb w ((W.setCell ⟨K, 0, none⟩ (.int .i64 a)).setCell ⟨K, 1, none⟩ (.int .i64 b)) K a b :=
  ⟨(h.below.setCell (p := ⟨K, 0, none⟩) hK _).setCell (p := ⟨K, 1, none⟩) hK _, put_at (put_at h.key 0 _) 1 _⟩
/-- A key is told. -/
theorem key_end {fn : Func} {p : Tmp} (h : fn.results = #[.cell p 115]) {a : Act} {w W : World} {R : Ending → World → Prop} {Z : Nat} {c m a' b' : Int} (hk : Kb w W Z c m) (hZ : w.heap.size ≤ Z)
    (hp : a.tmps.getD p undef = .pointer (some ⟨Z, 0, none⟩)) (hdf : a.defers = []) (hR : ∀ X, Below w.heap.size w X → X = (W.setCell ⟨Z, 0, none⟩ (.int .i64 a')).setCell ⟨Z, 1, none⟩ (.int .i64 b') → R (.returned (.agg #[.int .i64 a', .int .i64 b'])) X) :
    bodyPost Tryz.prog fn R .ret a ((W.setCell ⟨Z, 0, none⟩ (.int .i64 a')).setCell ⟨Z, 1, none⟩ (.int .i64 b')) :=
  ret_cell1 h hp (hk.put hZ a' b').key Tryz.underlying115 rfl infoKey hdf (hR _ (hk.put hZ a' b').below rfl)
/-- The block of a key that will be told. -/
theorem key_new (w : World) : ∃ W Z, w.alloc (.cells #[.int .i64 0, .int .i64 0] 115) = W ∧ w.heap.size = Z ∧ Hid (Kb w W Z 0 0) ∧ Hid (w.heap.size ≤ Z) ∧ W.cell? ⟨Z, 0, none⟩ = some (.int .i64 0) ∧ W.cell? ⟨Z, 1, none⟩ = some (.int .i64 0) ∧ W.frozen? ⟨Z, 0, none⟩ = false ∧ W.frozen? ⟨Z, 1, none⟩ = false :=
  ⟨_, _, rfl, rfl, Kb.new w 0 0, Nat.le_refl _, (Kb.new w 0 0).c0, (Kb.new w 0 0).c1, (Kb.new w 0 0).f 0, (Kb.new w 0 0).f 1⟩
end Go.Proofs.YtgdkpmfdpfjdjaaGreatDoor
