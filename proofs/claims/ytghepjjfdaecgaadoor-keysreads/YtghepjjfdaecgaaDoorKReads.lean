/-
  Keys: the law of Read.
-/
import Derived.Test.YtghepjjfdaecgaaDoorKRdS
import Derived.Test.YtghepjjfdaecgaaDoorKSure
namespace Go.Proofs.YtghepjjfdaecgaaDoor
open Go.RowKit
set_option linter.unusedVariables false
set_option maxRecDepth 100000

theorem rdV_some (l : List UInt8) : ∃ x y e : Int, rdV l = .tuple #[.agg #[.int .i64 x, .int .i64 y], .int .i64 e] := by
  unfold rdV
  cases readF l with
  | none => exact ⟨0, 0, 210, rfl⟩
  | some k => exact ⟨k.1, k.2, 0, rfl⟩
set_option maxHeartbeats 8000000 in
theorem keysReads_walk (t : List UInt8) (ht : t.length ≤ 140737488355328) (w : World) (hT : Tabs w) : Calls Tryd.prog 7 #[.string (str t)] w fun r w' => r = .returned (.bool true) ∧ Below w.heap.size w w' := by
  obtain ⟨x, y, e0, hrd⟩ := rdV_some t
  obtain ⟨T, hTT⟩ : ∃ T, str t = T := ⟨_, rfl⟩
  have A1 : Hid (Calls Tryd.prog 18 #[.string T] w fun r w' => r = .returned (.tuple #[.agg #[.int .i64 x, .int .i64 y], .int .i64 e0]) ∧ Below w.heap.size w w') := by
    have h := read_any t ht hT
    rw [hTT, hrd] at h
    exact h
  have A2 : Hid (∀ X, Calls Tryd.prog 22 #[.string T] X fun r w' => r = .returned (.tuple #[.agg #[.int .i64 x, .int .i64 y], .int .i64 e0]) ∧ Below X.heap.size X w') := fun X => by
    have h := rread_any t ht X
    rw [hTT, hrd] at h
    exact h
  have A5 : Hid (∀ X, Below w.heap.size w X → Calls Tryd.prog 14 #[] X fun r w' => r = .returned (.bool true) ∧ Below X.heap.size X w') := fun X hX => sure_any (hT.below hX)
  rw [hTT]
  clear hrd hTT hT ht
  go_enter Tryd.func7, Tryd.ntmps7
  go_wp2_with fail
  refine A1.out.mono ?_
  rintro e w1 ⟨rfl, hb1⟩
  obtain ⟨V1, hV1⟩ : ∃ V, w1.alloc (.cells #[.int .i64 x, .int .i64 y] 30) = V := ⟨_, rfl⟩
  obtain ⟨Q1, hQ1⟩ : ∃ Q, w1.heap.size = Q := ⟨_, rfl⟩
  have hq1 : V1.heap[Q1]? = some (.cells #[.int .i64 x, .int .i64 y] 30 (0, 0)) := by rw [← hV1, ← hQ1]; exact heap_alloc_new w1 _
  have HB1 : Hid (Below w.heap.size w V1) := by rw [← hV1]; exact below_step hb1 ((Below.refl _ _).alloc (Nat.le_refl _) _)
  have HQ1 := hidK hq1
  clear hq1 hb1 A1
  go_wp2_with fail
  refine (A2.out _).mono ?_
  rintro e w2 ⟨rfl, hb2⟩
  have hq2 := (hb2.block Q1 (lt_block HQ1.out)).trans HQ1.out
  have hB2 := below_step HB1.out hb2
  obtain ⟨V2, hV2⟩ : ∃ V, w2.alloc (.cells #[.int .i64 x, .int .i64 y] 30) = V := ⟨_, rfl⟩
  obtain ⟨Q2, hQ2⟩ : ∃ Q, w2.heap.size = Q := ⟨_, rfl⟩
  have hq3 : V2.heap[Q2]? = some (.cells #[.int .i64 x, .int .i64 y] 30 (0, 0)) := by rw [← hV2, ← hQ2]; exact heap_alloc_new w2 _
  have hq4 : V2.heap[Q1]? = some (.cells #[.int .i64 x, .int .i64 y] 30 (0, 0)) := by rw [← hV2]; exact alloc_at hq2 _
  have HB2 : Hid (Below w.heap.size w V2) := by rw [← hV2]; exact below_step hB2 ((Below.refl _ _).alloc (Nat.le_refl _) _)
  have c1 : V2.cell? ⟨Q1, 0, none⟩ = some (.int .i64 x) := cell_at hq4 0
  have c2 : V2.cell? ⟨Q1, 1, none⟩ = some (.int .i64 y) := cell_at hq4 1
  have c3 : V2.cell? ⟨Q2, 0, none⟩ = some (.int .i64 x) := cell_at hq3 0
  have c4 : V2.cell? ⟨Q2, 1, none⟩ = some (.int .i64 y) := cell_at hq3 1
  clear hq2 hB2 hq3 hq4 hb2 A2 HB1 HQ1
  go_wp2_with fail
  refine (A5.out _ HB2.out).mono ?_
  rintro e w3 ⟨rfl, hb3⟩
  have HB3 := hidK (below_step HB2.out hb3)
  clear hb3
  go_wp2_with fail
  go_ret
  exact ⟨rfl, HB3.out⟩
end Go.Proofs.YtghepjjfdaecgaaDoor
