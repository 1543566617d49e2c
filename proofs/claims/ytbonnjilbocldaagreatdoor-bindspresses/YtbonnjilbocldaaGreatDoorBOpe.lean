/-
  Binds: where one stands behind a key that repeats.
-/
import Derived.Test.YtbonnjilbocldaaGreatDoorIP
namespace Go.Proofs.YtbonnjilbocldaaGreatDoor
open Go.RowKit
set_option linter.unusedVariables false
set_option maxRecDepth 100000

theorem int_wf64 {n : Int} (h : (Lit.int .i64 n).wf = true) : -9223372036854775808 ≤ n ∧ n ≤ 9223372036854775807 := by
  simp only [Lit.wf, Bool.and_eq_true, decide_eq_true_eq] at h
  have h1 : IntKind.i64.min = -9223372036854775808 := by decide
  have h2 : IntKind.i64.max = 9223372036854775807 := by decide
  omega
theorem wrap64_id {n : Int} (h0 : -9223372036854775808 ≤ n) (h1 : n ≤ 9223372036854775807) : IntKind.i64.wrap n = n := by
  have := IntKind.wrap_i64 n
  omega
def prefixS : ByteArray := ⟨#[112, 114, 101, 102, 105, 120]⟩
/-- A Walk's value. -/
def walkV (t : ByteArray) (u : Int) : Value := .agg #[.string t, .int .i64 u]
def restV : Value := walkV ⟨#[]⟩ 0
def openV (tick rep : Int) : Value := if rep < 1 then restV else if 9223372036854775807 - rep < tick then walkV prefixS 9223372036854775807 else walkV prefixS (tick + rep)
theorem infoWalk : (Tryz.prog.info? 36).map (·.size) = some 2 := by kernel_rfl
theorem two_set {W : World} {g : Nat} {T : TypeId} {c0 c1 : Value} (h : W.heap[g]? = some (.cells #[c0, c1] T (0, 0))) (v0 v1 : Value) :
    ((W.setCell ⟨g, 0, none⟩ v0).setCell ⟨g, 1, none⟩ v1).heap[g]? = some (.cells #[v0, v1] T (0, 0)) := put_at (put_at h 0 v0) 1 v1
/-- The block of a Walk that will be told. -/
theorem walk_new (w : World) : ∃ W Z, w.alloc (.cells #[.string ⟨#[]⟩, .int .i64 0] 36) = W ∧ w.heap.size = Z ∧ Hid (Below w.heap.size w W ∧ W.heap[Z]? = some (.cells #[.string ⟨#[]⟩, .int .i64 0] 36 (0, 0))) ∧ W.cell? ⟨Z, 0, none⟩ = some (.string ⟨#[]⟩) ∧ W.cell? ⟨Z, 1, none⟩ = some (.int .i64 0) ∧ W.frozen? ⟨Z, 0, none⟩ = false ∧ W.frozen? ⟨Z, 1, none⟩ = false :=
  ⟨_, _, rfl, rfl, ⟨(Below.refl _ _).alloc (Nat.le_refl _) _, heap_alloc_new w _⟩, cell_at (heap_alloc_new w _) 0, cell_at (heap_alloc_new w _) 1, free_at (heap_alloc_new w _) 0, free_at (heap_alloc_new w _) 1⟩
set_option maxHeartbeats 2000000 in
theorem open_any (tick rep : Int) (ht : (Lit.int .i64 tick).wf = true) (hr : (Lit.int .i64 rep).wf = true) (w : World) : Calls Tryz.prog 66 #[.int .i64 tick, .int .i64 rep] w fun e w' => e = .returned (openV tick rep) ∧ Below w.heap.size w w' := by
  obtain ⟨V, Z, hV, hZ, HV, z0, z1, f0, f1⟩ := walk_new w
  have ht2 := int_wf64 ht
  have hr2 := int_wf64 hr
  have HB : Hid (∀ v0 v1, Below w.heap.size w ((V.setCell ⟨Z, 0, none⟩ v0).setCell ⟨Z, 1, none⟩ v1) ∧ Below Z w ((V.setCell ⟨Z, 0, none⟩ v0).setCell ⟨Z, 1, none⟩ v1)) := fun v0 v1 => by
    have h := (HV.out.1.setCell (p := ⟨Z, 0, none⟩) (by simp only; omega) v0).setCell (p := ⟨Z, 1, none⟩) (by simp only; omega) v1
    refine ⟨h, ?_⟩
    rw [← hZ]
    rw [← hZ] at h
    exact h
  unfold openV
  by_cases h1 : rep < 1
  · rw [if_pos h1]
    go_enter Tryz.func66, Tryz.ntmps66
    go_wp2_with fail
    exact ret_cell1 rfl rfl (two_set HV.out.2 _ _) Tryz.underlying36 rfl infoWalk rfl ⟨rfl, by first | exact (HB.out _ _).1 | exact (HB.out _ _).2⟩
  · rw [if_neg h1]
    have w1 : IntKind.i64.wrap (9223372036854775807 - rep) = 9223372036854775807 - rep   := wrap64_id (by omega) (by omega)
    by_cases h2 : 9223372036854775807 - rep < tick
    · rw [if_pos h2]
      go_enter Tryz.func66, Tryz.ntmps66
      go_wp2_with fail
      exact ret_cell1 rfl rfl (two_set HV.out.2 _ _) Tryz.underlying36 rfl infoWalk rfl ⟨rfl, by first | exact (HB.out _ _).1 | exact (HB.out _ _).2⟩
    · rw [if_neg h2]
      have w2 : IntKind.i64.wrap (tick + rep) = tick + rep   := wrap64_id (by omega) (by omega)
      go_enter Tryz.func66, Tryz.ntmps66
      go_wp2_with fail
      exact ret_cell1 rfl rfl (two_set HV.out.2 _ _) Tryz.underlying36 rfl infoWalk rfl ⟨rfl, by first | exact (HB.out _ _).1 | exact (HB.out _ _).2⟩
end Go.Proofs.YtbonnjilbocldaaGreatDoor
