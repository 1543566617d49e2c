/-
  Layouts: one call, of the program alone (mkcall.py).
-/
import Derived.Test.YtnepemlagnnngaaCSz
import Derived.Test.YtnepemlagnnngaaCFu
import Derived.Test.YtnepemlagnnngaaCCz
import Derived.Test.YtnepemlagnnngaaCFi
import Derived.Test.YtnepemlagnnngaaCPv
import Derived.Test.YtnepemlagnnngaaCBw
import Derived.Test.YtnepemlagnnngaaCAg
import Derived.Test.YtnepemlagnnngaaCOo
namespace Go.Proofs.Ytnepemlagnnngaa
open Go.RowKit
set_option linter.unusedVariables false
set_option maxRecDepth 100000

theorem two_below (w : World) (o1 o2 : Obj) : Below w.heap.size w ((w.alloc o1).alloc o2) := ((Below.refl _ _).alloc (Nat.le_refl _) _).alloc (by simp) _
theorem hiddenK {p : Prop} (h : p) : Hid p := h

set_option maxHeartbeats 1000000 in
theorem call_0 (v : Value) (o : OpV) (w : World) (er : Int) (r : List CellV) (hk : o.k = 0) (hC : ∀ X, Below w.heap.size w X → Calls Try.prog 8 #[v, .int .i64 o.pane, .int .i64 o.kind, .int .i64 o.size, .bool o.bf, .int .i64 o.id] X (Ans2 er r X)) : Calls Try.prog 16 #[v, .agg o.vals] w (Ans2 er r w) := by
  obtain ⟨ok, pane, kind, size, bf, id, a, b⟩ := o
  change ok = 0 at hk
  subst hk
  have HC := hiddenK hC
  clear hC
  unfold OpV.vals
  dsimp only at HC ⊢
  go_enter Try.func16, Try.ntmps16
  go_wp2_with fail
  refine (HC.out _ (two_below w _ _)).mono ?_
  rintro e w1 ⟨u, rfl, hu, hb⟩
  have HB : Hid (Below w.heap.size w w1) := below_step (two_below w _ _) hb
  have HU : Hid (CeOwns w1 w.heap.size u r) := hu.lower (two_below w _ _).size
  clear hu hb HC
  go_wp2
  go_ret2
  exact ⟨u, rfl, HU.out, HB.out⟩

set_option maxHeartbeats 1000000 in
theorem call_1 (v : Value) (o : OpV) (w : World) (er : Int) (r : List CellV) (hk : o.k = 1) (hC : ∀ X, Below w.heap.size w X → Calls Try.prog 47 #[v, .int .i64 o.kind, .int .i64 o.size, .bool o.bf, .int .i64 o.id] X (Ans2 er r X)) : Calls Try.prog 16 #[v, .agg o.vals] w (Ans2 er r w) := by
  obtain ⟨ok, pane, kind, size, bf, id, a, b⟩ := o
  change ok = 1 at hk
  subst hk
  have HC := hiddenK hC
  clear hC
  unfold OpV.vals
  dsimp only at HC ⊢
  go_enter Try.func16, Try.ntmps16
  go_wp2_with fail
  refine (HC.out _ (two_below w _ _)).mono ?_
  rintro e w1 ⟨u, rfl, hu, hb⟩
  have HB : Hid (Below w.heap.size w w1) := below_step (two_below w _ _) hb
  have HU : Hid (CeOwns w1 w.heap.size u r) := hu.lower (two_below w _ _).size
  clear hu hb HC
  go_wp2
  go_ret2
  exact ⟨u, rfl, HU.out, HB.out⟩

set_option maxHeartbeats 1000000 in
theorem call_2 (v : Value) (o : OpV) (w : World) (er : Int) (r : List CellV) (hk : o.k = 2) (hC : ∀ X, Below w.heap.size w X → Calls Try.prog 22 #[v, .int .i64 o.pane] X (Ans2 er r X)) : Calls Try.prog 16 #[v, .agg o.vals] w (Ans2 er r w) := by
  obtain ⟨ok, pane, kind, size, bf, id, a, b⟩ := o
  change ok = 2 at hk
  subst hk
  have HC := hiddenK hC
  clear hC
  unfold OpV.vals
  dsimp only at HC ⊢
  go_enter Try.func16, Try.ntmps16
  go_wp2_with fail
  refine (HC.out _ (two_below w _ _)).mono ?_
  rintro e w1 ⟨u, rfl, hu, hb⟩
  have HB : Hid (Below w.heap.size w w1) := below_step (two_below w _ _) hb
  have HU : Hid (CeOwns w1 w.heap.size u r) := hu.lower (two_below w _ _).size
  clear hu hb HC
  go_wp2
  go_ret2
  exact ⟨u, rfl, HU.out, HB.out⟩

set_option maxHeartbeats 1000000 in
theorem call_3 (v : Value) (o : OpV) (w : World) (er : Int) (r : List CellV) (hk : o.k = 3) (hC : ∀ X, Below w.heap.size w X → Calls Try.prog 48 #[v, .int .i64 o.a, .int .i64 o.b] X (Ans2 er r X)) : Calls Try.prog 16 #[v, .agg o.vals] w (Ans2 er r w) := by
  obtain ⟨ok, pane, kind, size, bf, id, a, b⟩ := o
  change ok = 3 at hk
  subst hk
  have HC := hiddenK hC
  clear hC
  unfold OpV.vals
  dsimp only at HC ⊢
  go_enter Try.func16, Try.ntmps16
  go_wp2_with fail
  refine (HC.out _ (two_below w _ _)).mono ?_
  rintro e w1 ⟨u, rfl, hu, hb⟩
  have HB : Hid (Below w.heap.size w w1) := below_step (two_below w _ _) hb
  have HU : Hid (CeOwns w1 w.heap.size u r) := hu.lower (two_below w _ _).size
  clear hu hb HC
  go_wp2
  go_ret2
  exact ⟨u, rfl, HU.out, HB.out⟩

set_option maxHeartbeats 1000000 in
theorem call_4 (v : Value) (o : OpV) (w : World) (mv : Int) (er : Int) (r : List CellV) (hk : o.k = 4) (hC : ∀ X, Below w.heap.size w X → Calls Try.prog 49 #[v, .int .i64 o.pane, .int .i64 o.kind, .int .i64 o.size] X (Ans3 mv er r X)) : Calls Try.prog 16 #[v, .agg o.vals] w (Ans2 er r w) := by
  obtain ⟨ok, pane, kind, size, bf, id, a, b⟩ := o
  change ok = 4 at hk
  subst hk
  have HC := hiddenK hC
  clear hC
  unfold OpV.vals
  dsimp only at HC ⊢
  go_enter Try.func16, Try.ntmps16
  go_wp2_with fail
  refine (HC.out _ (two_below w _ _)).mono ?_
  rintro e w1 ⟨u, rfl, hu, hb⟩
  have HB : Hid (Below w.heap.size w w1) := below_step (two_below w _ _) hb
  have HU : Hid (CeOwns w1 w.heap.size u r) := hu.lower (two_below w _ _).size
  clear hu hb HC
  go_wp2
  go_ret2
  exact ⟨u, rfl, HU.out, HB.out⟩

set_option maxHeartbeats 1000000 in
theorem call_5 (v : Value) (o : OpV) (w : World) (er : Int) (r : List CellV) (hk : o.k = 5) (hC : ∀ X, Below w.heap.size w X → Calls Try.prog 50 #[v, .int .i64 o.pane, .int .i64 o.kind, .int .i64 o.size] X (Ans2 er r X)) : Calls Try.prog 16 #[v, .agg o.vals] w (Ans2 er r w) := by
  obtain ⟨ok, pane, kind, size, bf, id, a, b⟩ := o
  change ok = 5 at hk
  subst hk
  have HC := hiddenK hC
  clear hC
  unfold OpV.vals
  dsimp only at HC ⊢
  go_enter Try.func16, Try.ntmps16
  go_wp2_with fail
  refine (HC.out _ (two_below w _ _)).mono ?_
  rintro e w1 ⟨u, rfl, hu, hb⟩
  have HB : Hid (Below w.heap.size w w1) := below_step (two_below w _ _) hb
  have HU : Hid (CeOwns w1 w.heap.size u r) := hu.lower (two_below w _ _).size
  clear hu hb HC
  go_wp2
  go_ret2
  exact ⟨u, rfl, HU.out, HB.out⟩

set_option maxHeartbeats 1000000 in
theorem call_6 (v : Value) (o : OpV) (w : World) (er : Int) (r : List CellV) (hk : o.k = 6) (hC : ∀ X, Below w.heap.size w X → Calls Try.prog 23 #[v, .int .i64 o.pane, .int .i64 o.a] X (Ans2 er r X)) : Calls Try.prog 16 #[v, .agg o.vals] w (Ans2 er r w) := by
  obtain ⟨ok, pane, kind, size, bf, id, a, b⟩ := o
  change ok = 6 at hk
  subst hk
  have HC := hiddenK hC
  clear hC
  unfold OpV.vals
  dsimp only at HC ⊢
  go_enter Try.func16, Try.ntmps16
  go_wp2_with fail
  refine (HC.out _ (two_below w _ _)).mono ?_
  rintro e w1 ⟨u, rfl, hu, hb⟩
  have HB : Hid (Below w.heap.size w w1) := below_step (two_below w _ _) hb
  have HU : Hid (CeOwns w1 w.heap.size u r) := hu.lower (two_below w _ _).size
  clear hu hb HC
  go_wp2
  go_ret2
  exact ⟨u, rfl, HU.out, HB.out⟩

set_option maxHeartbeats 1000000 in
theorem call_7 (v : Value) (o : OpV) (w : World) (er : Int) (r : List CellV) (hk : ∀ n : Int, 0 ≤ n → n ≤ 6 → o.k ≠ n) (hC : ∀ X, Below w.heap.size w X → Calls Try.prog 51 #[v, .int .i64 o.a, .int .i64 o.b] X (Ans2 er r X)) : Calls Try.prog 16 #[v, .agg o.vals] w (Ans2 er r w) := by
  obtain ⟨ok, pane, kind, size, bf, id, a, b⟩ := o
  change ∀ n : Int, 0 ≤ n → n ≤ 6 → ok ≠ n at hk
  have k0 : (ok == 0) = false := by simpa using hk 0 (by decide) (by decide)
  have k1 : (ok == 1) = false := by simpa using hk 1 (by decide) (by decide)
  have k2 : (ok == 2) = false := by simpa using hk 2 (by decide) (by decide)
  have k3 : (ok == 3) = false := by simpa using hk 3 (by decide) (by decide)
  have k4 : (ok == 4) = false := by simpa using hk 4 (by decide) (by decide)
  have k5 : (ok == 5) = false := by simpa using hk 5 (by decide) (by decide)
  have k6 : (ok == 6) = false := by simpa using hk 6 (by decide) (by decide)
  clear hk
  have HC := hiddenK hC
  clear hC
  unfold OpV.vals
  dsimp only at HC ⊢
  go_enter Try.func16, Try.ntmps16
  go_wp2_with fail
  refine (HC.out _ (two_below w _ _)).mono ?_
  rintro e w1 ⟨u, rfl, hu, hb⟩
  have HB : Hid (Below w.heap.size w w1) := below_step (two_below w _ _) hb
  have HU : Hid (CeOwns w1 w.heap.size u r) := hu.lower (two_below w _ _).size
  clear hu hb HC
  go_wp2
  go_ret2
  exact ⟨u, rfl, HU.out, HB.out⟩

end Go.Proofs.Ytnepemlagnnngaa
