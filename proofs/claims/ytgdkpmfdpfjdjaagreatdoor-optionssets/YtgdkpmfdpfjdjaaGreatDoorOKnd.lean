/-
  Options: the kinds of a value, as the program makes them: closures, and what they have captured.
-/
import Derived.Test.YtgdkpmfdpfjdjaaGreatDoorKBld
namespace Go.Proofs.YtgdkpmfdpfjdjaaGreatDoor
open Go.RowKit
set_option linter.unusedVariables false
set_option maxRecDepth 100000

/-- A number from lo to hi: two boxes that the closure has captured. -/
def NumK (w : World) (B : Nat) (lo hi : Int) (v : Value) : Prop := ∃ b c, v = .agg #[.func (.func 61) #[] #[.pointer (some ⟨b, 0, none⟩), .pointer (some ⟨c, 0, none⟩)], .bool false, .bool false] ∧ B ≤ b ∧ B ≤ c ∧ w.heap[b]? = some (.cells #[.int .i64 lo] 3 (0, 0)) ∧ w.heap[c]? = some (.cells #[.int .i64 hi] 3 (0, 0))
/-- A word of several: the box of a list. -/
def ChoK (w : World) (B : Nat) (lv : Value) (tn : Bool) (v : Value) : Prop := ∃ b, v = .agg #[.func (.func 65) #[] #[.pointer (some ⟨b, 0, none⟩)], .bool false, .bool tn] ∧ B ≤ b ∧ w.heap[b]? = some (.cells #[lv] 22 (0, 0))
theorem makeFunc_run (fn : Fn) (first cap : Array Value) (w : World) : (Instr.makeFunc fn first cap).run Tryz.prog w = .ok (.func fn first cap) w := rfl
theorem run_store_func (w : World) (a : Addr) (fn : Fn) (x y : Array Value) (m : Mode) : (store a (.func fn x y) m).run Tryz.prog w = stored Tryz.prog w a (.func fn x y) m := run_store Tryz.prog w a (.func fn x y) m rfl
theorem three_at {w : World} {g : Nat} {a b c x y z : Value} {T : TypeId} (h : w.heap[g]? = some (.cells #[a, b, c] T (0, 0))) : (((w.setCell ⟨g, 0, none⟩ x).setCell ⟨g, 1, none⟩ y).setCell ⟨g, 2, none⟩ z).heap[g]? = some (.cells #[x, y, z] T (0, 0)) := put_at (put_at (put_at h 0 _) 1 _) 2 _
theorem infoKind : (Tryz.prog.info? 49).map (·.size) = some 3 := by kernel_rfl
theorem ret_kind {P : Program} {fn : Func} {p : Tmp} {ty : TypeId} (h : fn.results = #[.cell p ty]) {a : Act} {w : World} {R : Ending → World → Prop} {g : Nat} {t : TypeId} {cs : Array Value} {fr : Nat × Nat} {d : TypeDesc}
    (hp : a.tmps.getD p undef = .pointer (some ⟨g, 0, none⟩)) (hg : w.heap[g]? = some (.cells cs t fr)) (hu : P.underlying ty = some d) (hd : (match d with | .struct _ | .array _ _ => true | _ => false) = true) (hi : (P.info? ty).map (·.size) = some cs.size)
    (hdf : a.defers = []) (hR : R (.returned (.agg cs)) w) : bodyPost P fn R .ret a w := by
  refine bodyPost_ret ?_ hdf hR
  have h1 : (asAddr (.pointer (some ⟨g, 0, none⟩))).run P w = .ok ⟨g, 0, none⟩ w := rfl
  have hp2 : a.tmps[p]?.getD undef = .pointer (some ⟨g, 0, none⟩) := by simpa using hp
  simp only [results, h]
  simp [Sem.run_bind, Result.andThen]
  rw [hp2, h1]
  dsimp only
  rw [run_loadVar_row w g t ty cs fr d hg hu hd hi]
set_option maxHeartbeats 4000000 in
theorem numberO_any {w : World} (lo hi : Int) : Calls Tryz.prog 42 #[.int .i64 lo, .int .i64 hi] w fun r w' => ∃ v, r = .returned v ∧ NumK w' w.heap.size lo hi v ∧ Below w.heap.size w w' := by
  have hmf := makeFunc_run
  have hrs := run_store_func
  obtain ⟨q, hq⟩ : ∃ q, w.heap.size = q := ⟨_, rfl⟩
  obtain ⟨W1, hW1⟩ : ∃ W, w.alloc (.cells #[.int .i64 lo] 3) = W := ⟨_, rfl⟩
  obtain ⟨W2, hW2⟩ : ∃ W, W1.alloc (.cells #[.int .i64 hi] 3) = W := ⟨_, rfl⟩
  obtain ⟨W3, hW3⟩ : ∃ W, W2.alloc (.cells #[.nilFunc, .bool false, .bool false] 49) = W := ⟨_, rfl⟩
  have s1 : W1.heap.size = q + 1 := by rw [← hW1, ← hq]; simp
  have s2 : W2.heap.size = q + 1 + 1 := by rw [← hW2, ← s1]; simp
  have a1 : W3.heap[q]? = some (.cells #[.int .i64 lo] 3 (0, 0)) := by rw [← hW3, ← hW2, ← hW1, ← hq]; exact alloc_at (alloc_at (heap_alloc_new _ _) _) _
  have a2 : W3.heap[q + 1]? = some (.cells #[.int .i64 hi] 3 (0, 0)) := by rw [← hW3, ← hW2, ← s1]; exact alloc_at (heap_alloc_new _ _) _
  have a3 : W3.heap[q + 1 + 1]? = some (.cells #[.nilFunc, .bool false, .bool false] 49 (0, 0)) := by rw [← hW3, ← s2]; exact heap_alloc_new _ _
  have hb : Below w.heap.size w W3 := by
    rw [← hW3, ← hW2, ← hW1]
    exact (((Below.refl _ _).alloc (Nat.le_refl _) _).alloc (by simp) _).alloc (by simp; omega) _
  have A1 := hidK a1
  have A2 := hidK a2
  have A3 := hidK a3
  have HB := hidK hb
  have HQ := hidK hq
  have c0 := cell_at a3 0
  have c1 := cell_at a3 1
  have c2 := cell_at a3 2
  have f0 := free_at a3 0
  have f1 := free_at a3 1
  have f2 := free_at a3 2
  clear a1 a2 a3 hb
  go_enter Tryz.func42, Tryz.ntmps42
  go_wp2
  refine ret_kind rfl rfl (three_at A3.out) Tryz.underlying49 rfl infoKind rfl ⟨_, rfl, ⟨q, q + 1, rfl, by rw [HQ.out]; exact Nat.le_refl _, by rw [HQ.out]; exact Nat.le_succ _, ?_, ?_⟩, ?_⟩
  · exact put_other (put_other (put_other A1.out (by simp; omega) _ _) (by simp; omega) _ _) (by simp; omega) _ _
  · exact put_other (put_other (put_other A2.out (by simp) _ _) (by simp) _ _) (by simp) _ _
  · have hl : w.heap.size ≤ q + 1 + 1 := by have := HQ.out; omega
    exact ((HB.out.setCell hl _).setCell hl _).setCell hl _
set_option maxHeartbeats 4000000 in
theorem choice_any {w : World} (la : Option Addr) (ln lc : Nat) : Calls Tryz.prog 44 #[.slice la ln lc] w fun r w' => ∃ v, r = .returned v ∧ ChoK w' w.heap.size (.slice la ln lc) false v ∧ Below w.heap.size w w' := by
  have hmf := makeFunc_run
  have hrs := run_store_func
  obtain ⟨q, hq⟩ : ∃ q, w.heap.size = q := ⟨_, rfl⟩
  obtain ⟨W1, hW1⟩ : ∃ W, w.alloc (.cells #[.slice la ln lc] 22) = W := ⟨_, rfl⟩
  obtain ⟨W3, hW3⟩ : ∃ W, W1.alloc (.cells #[.nilFunc, .bool false, .bool false] 49) = W := ⟨_, rfl⟩
  have s1 : W1.heap.size = q + 1 := by rw [← hW1, ← hq]; simp
  have a1 : W3.heap[q]? = some (.cells #[.slice la ln lc] 22 (0, 0)) := by rw [← hW3, ← hW1, ← hq]; exact alloc_at (heap_alloc_new _ _) _
  have a3 : W3.heap[q + 1]? = some (.cells #[.nilFunc, .bool false, .bool false] 49 (0, 0)) := by rw [← hW3, ← s1]; exact heap_alloc_new _ _
  have hb : Below w.heap.size w W3 := by
    rw [← hW3, ← hW1]
    exact ((Below.refl _ _).alloc (Nat.le_refl _) _).alloc (by simp) _
  have A1 := hidK a1
  have A3 := hidK a3
  have HB := hidK hb
  have HQ := hidK hq
  have c0 := cell_at a3 0
  have c1 := cell_at a3 1
  have c2 := cell_at a3 2
  have f0 := free_at a3 0
  have f1 := free_at a3 1
  have f2 := free_at a3 2
  clear a1 a3 hb
  go_enter Tryz.func44, Tryz.ntmps44
  go_wp2
  refine ret_kind rfl rfl (three_at A3.out) Tryz.underlying49 rfl infoKind rfl ?_
  refine ⟨_, rfl, ⟨q, rfl, ?_, ?_⟩, ?_⟩
  · have := HQ.out; omega
  · exact put_other (put_other (put_other A1.out (by simp) _ _) (by simp) _ _) (by simp) _ _
  · have hl : w.heap.size ≤ q + 1 := by have := HQ.out; omega
    exact ((HB.out.setCell hl _).setCell hl _).setCell hl _
set_option maxHeartbeats 4000000 in
theorem text_any {w : World} : Calls Tryz.prog 43 #[] w fun r w' => r = .returned (.agg #[.func (.func 64) #[] #[], .bool true, .bool false]) ∧ Below w.heap.size w w' := by
  have hrs := run_store_func
  obtain ⟨q, hq⟩ : ∃ q, w.heap.size = q := ⟨_, rfl⟩
  obtain ⟨W3, hW3⟩ : ∃ W, w.alloc (.cells #[.nilFunc, .bool false, .bool false] 49) = W := ⟨_, rfl⟩
  have a3 : W3.heap[q]? = some (.cells #[.nilFunc, .bool false, .bool false] 49 (0, 0)) := by rw [← hW3, ← hq]; exact heap_alloc_new _ _
  have hb : Below w.heap.size w W3 := by rw [← hW3]; exact (Below.refl _ _).alloc (Nat.le_refl _) _
  have A3 := hidK a3
  have HB := hidK hb
  have HQ := hidK hq
  have c0 := cell_at a3 0
  have c1 := cell_at a3 1
  have c2 := cell_at a3 2
  have f0 := free_at a3 0
  have f1 := free_at a3 1
  have f2 := free_at a3 2
  clear a3 hb
  go_enter Tryz.func43, Tryz.ntmps43
  go_wp2
  refine ret_kind rfl rfl (three_at A3.out) Tryz.underlying49 rfl infoKind rfl ⟨rfl, ?_⟩
  have hl : w.heap.size ≤ q := by have := HQ.out; omega
  exact ((HB.out.setCell hl _).setCell hl _).setCell hl _
set_option maxHeartbeats 4000000 in
theorem key_any {w : World} : Calls Tryz.prog 46 #[] w fun r w' => r = .returned (.agg #[.func (.func 67) #[] #[], .bool false, .bool false]) ∧ Below w.heap.size w w' := by
  have hrs := run_store_func
  obtain ⟨q, hq⟩ : ∃ q, w.heap.size = q := ⟨_, rfl⟩
  obtain ⟨W3, hW3⟩ : ∃ W, w.alloc (.cells #[.nilFunc, .bool false, .bool false] 49) = W := ⟨_, rfl⟩
  have a3 : W3.heap[q]? = some (.cells #[.nilFunc, .bool false, .bool false] 49 (0, 0)) := by rw [← hW3, ← hq]; exact heap_alloc_new _ _
  have hb : Below w.heap.size w W3 := by rw [← hW3]; exact (Below.refl _ _).alloc (Nat.le_refl _) _
  have A3 := hidK a3
  have HB := hidK hb
  have HQ := hidK hq
  have c0 := cell_at a3 0
  have c1 := cell_at a3 1
  have c2 := cell_at a3 2
  have f0 := free_at a3 0
  have f1 := free_at a3 1
  have f2 := free_at a3 2
  clear a3 hb
  go_enter Tryz.func46, Tryz.ntmps46
  go_wp2
  refine ret_kind rfl rfl (three_at A3.out) Tryz.underlying49 rfl infoKind rfl ⟨rfl, ?_⟩
  have hl : w.heap.size ≤ q := by have := HQ.out; omega
  exact ((HB.out.setCell hl _).setCell hl _).setCell hl _
end Go.Proofs.YtgdkpmfdpfjdjaaGreatDoor
