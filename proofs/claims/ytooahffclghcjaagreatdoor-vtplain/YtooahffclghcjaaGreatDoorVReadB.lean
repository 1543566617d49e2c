/-
  ESC [ 31 m is read: the order.
-/
import Derived.Test.YtooahffclghcjaaGreatDoorVRead
import Derived.Deep.WholeRow
import Derived.Laws.ResultCell
import Derived.Laws.IdiomStrings
import Derived.Test.YtooahffclghcjaaGreatDoorVReset
namespace Go.Proofs.YtooahffclghcjaaGreatDoor
open Go.RowKit
set_option linter.unusedVariables false
set_option maxRecDepth 100000
attribute [-go_sem] Instr.loadAt
attribute [local go_sem low] open_loadAt
attribute [-go_sem] Instr.storeAt
theorem open_storeAtV {P : Program} (t : TypeId) (p v : Value) (w : World) : (Instr.storeAt t p v).run P w = (do storeVar t (← Instr.sureAddr p) v : Sem Unit).run P w := rfl
attribute [local go_sem low] open_storeAtV

theorem store_new {P : Program} (w : World) (t : TypeId) (c c' : Array Value) (hi : (P.info? t).map (·.size) = some c'.size) (ho : c.size = c'.size) (h1 : c'.toList.all (fun u => u.oneCell') = true) : (Instr.storeAt t (.pointer (some ⟨w.heap.size, 0, none⟩)) (.agg c')).run P (w.alloc (.cells c t)) = .ok () (w.alloc (.cells c' t)) := by
  have h := run_storeVar_new (P := P) w t c c' hi ho (by rw [Array.all_eq_true_iff_forall_mem]; intro x hx; exact List.all_eq_true.1 h1 x (by simpa using hx))
  simp only [Instr.storeAt, Instr.sureAddr, Sem.run_bind, Sem.run_pure, Result.andThen_ok, h]
/-- Two results, the first of them a struct that lies in a block. -/
theorem ret_cell2 {P : Program} {fn : Func} {p u : Tmp} {ty : TypeId} (h : fn.results = #[.cell p ty, .tmp u]) {a : Act} {w : World} {R : Ending → World → Prop} {g : Nat} {t : TypeId} {cs : Array Value} {fr : Nat × Nat} {d : TypeDesc}
    (hp : a.tmps.getD p undef = .pointer (some ⟨g, 0, none⟩)) (hg : w.heap[g]? = some (.cells cs t fr)) (hu : P.underlying ty = some d) (hd : (match d with | .struct _ | .array _ _ => true | _ => false) = true) (hi : (P.info? ty).map (·.size) = some cs.size)
    (hdf : a.defers = []) (hR : R (.returned (.tuple #[.agg cs, a.tmps.getD u undef])) w) : bodyPost P fn R .ret a w := by
  refine bodyPost_ret ?_ hdf hR
  rw [results_cell_tmp h, hp]
  have h1 : (asAddr (.pointer (some ⟨g, 0, none⟩))).run P w = .ok ⟨g, 0, none⟩ w := rfl
  rw [h1]
  simp only [Result.andThen]
  rw [run_loadVar_row w g t ty cs fr d hg hu hd hi]
def ord0 : Array Value := #[.int .u8 0, .int .i64 0, .int .i64 0, .int .i64 0, .int .i64 0, .int .i64 0, .int .i64 0, .int .i64 0, .int .i64 0, .int .i64 0, .int .i64 0, .int .i64 0, .int .i64 0, .int .i64 0, .int .i64 0, .int .i64 0, .int .i64 0, .int .i64 0, .string ⟨#[]⟩, .int .u8 0]
theorem ord_loadC {W : World} {B : Nat} {n0 cnt : Int} (h : W.heap[B]? = some (.cells (ordC n0 cnt) 120 (0, 0))) : (Instr.loadAt 120 (.pointer (some ⟨B, 0, none⟩))).run Tryz.prog W = .ok (.agg (ordC n0 cnt)) W :=
  run_loadAt_mid W B 0 _ (ordC n0 cnt).toList _ (fun j v hv => by rw [Nat.zero_add, cell_atT h, ← hv, Array.getElem?_toList]) Tryz.underlying120 rfl infoOrd
theorem ord_storeC {W : World} {B : Nat} {cur : Array Value} (n0 cnt : Int) (h : W.heap[B]? = some (.cells cur 120 (0, 0))) (hz : cur.size = 20) : (Instr.storeAt 120 (.pointer (some ⟨B, 0, none⟩)) (.agg (ordC n0 cnt))).run Tryz.prog W = .ok () (W.setCells B 0 (ordC n0 cnt).toList) ∧ (W.setCells B 0 (ordC n0 cnt).toList).heap[B]? = some (.cells (ordC n0 cnt) 120 (0, 0)) := by
  refine ⟨run_storeAt_mid W B 0 _ _ (fun j hj => ?_) infoOrd (by rw [Array.all_eq_true_iff_forall_mem]; intro x hx; exact List.all_eq_true.1 (rfl : (ordC n0 cnt).toList.all (fun u => u.oneCell') = true) x (by simpa using hx)), ?_⟩
  · have hj2 : j < 20 := hj
    rw [Nat.zero_add, cell_atT h, free_atT h]
    exact ⟨by rw [Array.getElem?_eq_getElem (by omega)]; rfl, rfl⟩
  · rw [setCells_all B _ (ordC n0 cnt).toList 0 W _ h (by rw [hz]; rfl), List.take_zero, List.nil_append]
theorem trim_31 (w : World) : Calls Tryz.prog 80 #[.string ⟨#[51, 49]⟩, .string ⟨#[48, 49, 50, 51, 52, 53, 54, 55, 56, 57, 58, 59]⟩] w fun e w' => e = .returned (.string ⟨#[]⟩) ∧ Below w.heap.size w w' := by
  have h := Any.strings_TrimLeft_laid Tryz.lays161 (by kernel_rfl) ⟨#[51, 49]⟩ ⟨#[48, 49, 50, 51, 52, 53, 54, 55, 56, 57, 58, 59]⟩ w (by decide) (ascii_of_all (by decide))
  exact h
theorem any_31 (w : World) : Calls Tryz.prog 82 #[.string ⟨#[]⟩, .string ⟨#[60, 61, 62, 63, 48, 49, 50, 51, 52, 53, 54, 55, 56, 57, 58, 59]⟩] w fun e w' => e = .returned (.bool false) ∧ Below w.heap.size w w' := by
  have h := Tryz.strings_ContainsAny_laid ⟨#[]⟩ ⟨#[60, 61, 62, 63, 48, 49, 50, 51, 52, 53, 54, 55, 56, 57, 58, 59]⟩ w (by decide) (by decide) (by intro j b hb; simp at hb) (ascii_of_all (by decide))
  exact h
theorem index_31 (w : World) : Calls Tryz.prog 79 #[.string ⟨#[60, 61, 62, 63]⟩, .int .u8 51] w fun e w' => e = .returned (.int .i64 (-1)) ∧ w = w' := (Tryz.strings_IndexByte ⟨#[60, 61, 62, 63]⟩ 51 w).mono fun e w' h => ⟨h.1, h.2.symm⟩
set_option maxHeartbeats 4000000 in
theorem readOrder_31 {w : World} {g o cap : Nat} (hc : w.cell? ⟨g, o, none⟩ = some (.int .u8 51)) (hc2 : w.cell? ⟨g, o + 1, none⟩ = some (.int .u8 49)) : Calls Tryz.prog 65 #[.slice (some ⟨g, o, none⟩) 2 cap, .int .u8 109] w fun r w' => r = .returned (.tuple #[.agg (ordC 31 1), .bool true]) ∧ Below w.heap.size w w' := by
  have hgl : g < w.heap.size := World.block_lt_of_cell? w _ hc
  have hst1 := store_new (P := Tryz.prog) (w.alloc (.cells ord0 120)) 120 ord0 (ordC 0 0) infoOrd rfl rfl
  obtain ⟨X, hX⟩ : ∃ X, (w.alloc (.cells ord0 120)).alloc (.cells (ordC 0 0) 120) = X := ⟨_, rfl⟩
  have HBX : Hid (Below w.heap.size w X) := by rw [← hX]; exact ((Below.refl _ _).alloc (Nat.le_refl _) _).alloc (by simp) _
  obtain ⟨B, hB⟩ : ∃ B, w.heap.size = B := ⟨_, rfl⟩
  have HBe := hidK hB
  have H0 : Hid (X.heap[B]? = some (.cells ord0 120 (0, 0))) := by rw [← hX, ← hB]; exact alloc_at (heap_alloc_new w _) _
  have H1 : Hid (X.heap[B + 1]? = some (.cells (ordC 0 0) 120 (0, 0))) := by
    have h := heap_alloc_new (w.alloc (.cells ord0 120)) (.cells (ordC 0 0) 120)
    rw [World.size_alloc, hX, hB] at h
    exact h
  have hcv : (convert 51 9 (.slice (some ⟨g, o, none⟩) 2 cap)).run Tryz.prog X = .ok (.string ⟨#[51, 49]⟩) X := by
    refine run_convert_bytes_back (P := Tryz.prog) X 51 9 5 ⟨g, o, none⟩ cap [51, 49] Tryz.underlying51 Tryz.underlying5 Tryz.underlying9 (fun j hj => ?_)
    rw [Addr.add_mid]
    have hk : ∀ i, X.cell? ⟨g, i, none⟩ = w.cell? ⟨g, i, none⟩ := fun i => HBX.out.cell (p := ⟨g, i, none⟩) hgl
    match j, hj with
    | 0, _ => rw [hk]; exact hc
    | 1, _ => rw [hk]; exact hc2
  unfold ord0 ordC at hX hst1
  simp only [World.size_alloc] at hst1
  have HX := hidK hX
  have HIx : Hid (∀ W, Calls Tryz.prog 79 #[.string ⟨#[60, 61, 62, 63]⟩, .int .u8 51] W fun e w' => e = .returned (.int .i64 (-1)) ∧ W = w') := index_31
  have HTr : Hid (∀ W, Calls Tryz.prog 80 #[.string ⟨#[51, 49]⟩, .string ⟨#[48, 49, 50, 51, 52, 53, 54, 55, 56, 57, 58, 59]⟩] W fun e w' => e = .returned (.string ⟨#[]⟩) ∧ Below W.heap.size W w') := trim_31
  have HAn : Hid (∀ W, Calls Tryz.prog 82 #[.string ⟨#[]⟩, .string ⟨#[60, 61, 62, 63, 48, 49, 50, 51, 52, 53, 54, 55, 56, 57, 58, 59]⟩] W fun e w' => e = .returned (.bool false) ∧ Below W.heap.size W w') := any_31
  clear hX hB hc hc2 hgl
  go_enter Tryz.func65, Tryz.ntmps65
  go_wp2_with fail
  rw [HX.out, hcv, HBe.out]
  clear hst1
  go_wp2_with (go_at_call 79; refine (HIx.out _).mono ?_; rintro e w0 ⟨rfl, rfl⟩)
  clear hcv
  refine (HTr.out _).mono ?_
  rintro e X1 ⟨rfl, hb1⟩
  have HB1 := hidK hb1
  have hO1 : X1.heap[B + 1]? = some (.cells (ordC 0 0) 120 (0, 0)) := (hb1.block _ (lt_of_block H1.out)).trans H1.out
  have HO1 := hidK hO1
  have c18 : X1.cell? ⟨B + 1, 18, none⟩ = some (.string ⟨#[]⟩) := cell_atT hO1 18
  have f18 := free_atT hO1 18
  clear hb1 hO1
  go_wp2_with fail
  refine (readNumbers_31 (B := B + 1) ?_).mono ?_
  · exact put_at HO1.out 18 _
  rintro e X2 ⟨rfl, hO2, hb2⟩
  have HB2 : Hid (But [B + 1] X1 X2) := (But.one 18 _).trans hb2
  have HO2 := hidK hO2
  clear c18 f18
  have c18 : X2.cell? ⟨B + 1, 18, none⟩ = some (.string ⟨#[]⟩) := cell_atT hO2 18
  clear hO2 hb2
  go_wp2_with fail
  refine (HAn.out _).mono ?_
  rintro e X3 ⟨rfl, hb3⟩
  have HB3 := hidK hb3
  have hO3 : X3.heap[B + 1]? = some (.cells (ordC 31 1) 120 (0, 0)) := (hb3.block _ (lt_of_block HO2.out)).trans HO2.out
  have hl1 := lt_of_block H0.out
  have hl2 : B < X1.heap.size := Nat.lt_of_lt_of_le hl1 HB1.out.size
  have hZ3 : X3.heap[B]? = some (.cells ord0 120 (0, 0)) := (hb3.block B (Nat.lt_of_lt_of_le hl2 HB2.out.size)).trans ((HB2.out.block B hl2 (by simp)).trans ((HB1.out.block B hl1).trans H0.out))
  have hld := ord_loadC hO3
  obtain ⟨hst, hE⟩ := ord_storeC 31 1 hZ3 rfl
  have HE := hidK hE
  clear hb3 hO3 hl1 hl2 hE c18
  obtain ⟨X4, hX4⟩ : ∃ X4, X3.setCells B 0 (ordC 31 1).toList = X4 := ⟨_, rfl⟩
  rw [hX4] at hst HE
  have HB4 : Hid (But [B] X3 X4) := by rw [← hX4]; exact But.overs _ 0 (But.refl _ _)
  clear hX4
  go_wp2_with fail
  refine ret_cell2 rfl rfl HE.out Tryz.underlying120 rfl infoOrd rfl ⟨rfl, ?_⟩
  have hB := HBe.out
  have k1 := HBX.out.trans (HB1.out.mono HBX.out.size)
  have k2 := HB2.out.under k1 k1.size (by simp; omega)
  have k3 := k2.trans (HB3.out.mono k2.size)
  exact HB4.out.under k3 k3.size (by simp; omega)
end Go.Proofs.YtooahffclghcjaaGreatDoor
