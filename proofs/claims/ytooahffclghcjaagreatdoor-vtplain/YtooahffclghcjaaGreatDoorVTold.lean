/-
  A glyph as it is handed out.
-/
import Derived.Test.YtooahffclghcjaaGreatDoorMB
import Derived.Laws.Runes
namespace Go.Proofs.YtooahffclghcjaaGreatDoor
open Go.RowKit
set_option linter.unusedVariables false
set_option maxRecDepth 100000

/-- A blank, or a letter that is none. -/
def OkG (x : Gl) : Prop := (x.l = 32 ∧ x.n = 1) ∨ (x.l ≠ 32 ∧ x.l ≠ 0)
def txtG (x : Gl) : ByteArray := if x.l = 32 then ⟨#[32]⟩ else Utf8.encode x.l
def tgV (x : Gl) : List Value := [.string (txtG x), .int .i64 x.n, .int .i64 x.fo, .int .i64 x.ba, .int .i64 x.ma]
theorem ret_cell1 {P : Program} {fn : Func} {p : Tmp} {ty : TypeId} (h : fn.results = #[.cell p ty]) {a : Act} {w : World} {R : Ending → World → Prop} {g : Nat} {t : TypeId} {cs : Array Value} {fr : Nat × Nat} {d : TypeDesc}
    (hp : a.tmps.getD p undef = .pointer (some ⟨g, 0, none⟩)) (hg : w.heap[g]? = some (.cells cs t fr)) (hu : P.underlying ty = some d) (hd : (match d with | .struct _ | .array _ _ => true | _ => false) = true) (hi : (P.info? ty).map (·.size) = some cs.size)
    (hdf : a.defers = []) (hR : R (.returned (.agg cs)) w) : bodyPost P fn R .ret a w := by
  refine bodyPost_ret ?_ hdf hR
  simp only [results, h]
  have h1 : (asAddr (.pointer (some ⟨g, 0, none⟩))).run P w = .ok ⟨g, 0, none⟩ w := rfl
  simp [Sem.run_bind, Result.andThen]
  have hp2 : a.tmps[p]?.getD undef = .pointer (some ⟨g, 0, none⟩) := by simpa using hp
  rw [hp2, h1]
  exact run_loadVar_row w g t ty cs fr d hg hu hd hi
theorem infoGy : (Tryz.prog.info? 76).map (·.size) = some 5 := by kernel_rfl
set_option maxHeartbeats 2000000 in
theorem told_any (x : Gl) (hx : OkG x) (w : World) : Calls Tryz.prog 31 #[.agg #[.int .i32 x.l, .int .i64 x.n, .int .i64 x.fo, .int .i64 x.ba, .int .i64 x.ma]] w fun r w' => r = .returned (.agg (tgV x).toArray) ∧ Below w.heap.size w w' := by
  obtain ⟨W, hW⟩ : ∃ W, ((w.alloc (.cells #[.int .i32 x.l, .int .i64 x.n, .int .i64 x.fo, .int .i64 x.ba, .int .i64 x.ma] 85)).alloc (.cells #[.string ⟨#[]⟩, .int .i64 0, .int .i64 0, .int .i64 0, .int .i64 0] 76)).alloc (.cells #[.string ⟨#[]⟩, .int .i64 x.n, .int .i64 x.fo, .int .i64 x.ba, .int .i64 x.ma] 76) = W := ⟨_, rfl⟩
  have HW := hidK hW
  have HBW : Hid (Below w.heap.size w W) := by rw [← hW]; exact (((Below.refl _ _).alloc (Nat.le_refl _) _).alloc (by simp) _).alloc (by simp; omega) _
  obtain ⟨B, hB⟩ : ∃ B, w.heap.size = B := ⟨_, rfl⟩
  have HB := hidK hB
  have h0 : W.heap[B]? = some (.cells #[.int .i32 x.l, .int .i64 x.n, .int .i64 x.fo, .int .i64 x.ba, .int .i64 x.ma] 85 (0, 0)) := by rw [← hW, ← hB]; exact alloc_at (alloc_at (heap_alloc_new w _) _) _
  have h1 : W.heap[B + 1]? = some (.cells #[.string ⟨#[]⟩, .int .i64 0, .int .i64 0, .int .i64 0, .int .i64 0] 76 (0, 0)) := by
    have h := heap_alloc_new (w.alloc (.cells #[.int .i32 x.l, .int .i64 x.n, .int .i64 x.fo, .int .i64 x.ba, .int .i64 x.ma] 85)) (.cells #[.string ⟨#[]⟩, .int .i64 0, .int .i64 0, .int .i64 0, .int .i64 0] 76)
    rw [World.size_alloc] at h
    rw [← hW, ← hB]
    exact alloc_at h _
  have h2 : W.heap[B + 2]? = some (.cells #[.string ⟨#[]⟩, .int .i64 x.n, .int .i64 x.fo, .int .i64 x.ba, .int .i64 x.ma] 76 (0, 0)) := by
    have h := heap_alloc_new ((w.alloc (.cells #[.int .i32 x.l, .int .i64 x.n, .int .i64 x.fo, .int .i64 x.ba, .int .i64 x.ma] 85)).alloc (.cells #[.string ⟨#[]⟩, .int .i64 0, .int .i64 0, .int .i64 0, .int .i64 0] 76)) (.cells #[.string ⟨#[]⟩, .int .i64 x.n, .int .i64 x.fo, .int .i64 x.ba, .int .i64 x.ma] 76)
    rw [World.size_alloc, World.size_alloc] at h
    rw [← hW, ← hB]
    exact h
  have HAll : Hid (∀ W', Below W.heap.size W W' → W'.heap[B]? = some (.cells #[.int .i32 x.l, .int .i64 x.n, .int .i64 x.fo, .int .i64 x.ba, .int .i64 x.ma] 85 (0, 0)) ∧ W'.heap[B + 1]? = some (.cells #[.string ⟨#[]⟩, .int .i64 0, .int .i64 0, .int .i64 0, .int .i64 0] 76 (0, 0)) ∧ W'.heap[B + 2]? = some (.cells #[.string ⟨#[]⟩, .int .i64 x.n, .int .i64 x.fo, .int .i64 x.ba, .int .i64 x.ma] 76 (0, 0))) := fun W' h => ⟨(h.block _ (lt_of_block h0)).trans h0, (h.block _ (lt_of_block h1)).trans h1, (h.block _ (lt_of_block h2)).trans h2⟩
  have HFin : Hid (∀ W', Below W.heap.size W W' → ∀ t : ByteArray, t = txtG x → ∀ W'', W'' = ((((((W'.setCell ⟨B + 2, 0, none⟩ (.string t)).setCell ⟨B + 1, 0, none⟩ (.string t)).setCell ⟨B + 1, 1, none⟩ (.int .i64 x.n)).setCell ⟨B + 1, 2, none⟩ (.int .i64 x.fo)).setCell ⟨B + 1, 3, none⟩ (.int .i64 x.ba)).setCell ⟨B + 1, 4, none⟩ (.int .i64 x.ma)) → W''.heap[B + 1]? = some (.cells (tgV x).toArray 76 (0, 0)) ∧ Below w.heap.size w W'') := fun W' h t ht W'' e => by
    subst e ht
    obtain ⟨_, k1, _⟩ := HAll.out W' h
    refine ⟨put_at (put_at (put_at (put_at (put_at (put_other k1 (by omega) 0 _) 0 _) 1 _) 2 _) 3 _) 4 _, ?_⟩
    have hb := HBW.out.trans (h.mono HBW.out.size)
    have hB2 := HB.out
    exact ((((((hb.setCell (p := ⟨B + 2, 0, none⟩) (by simp only; omega) _).setCell (p := ⟨B + 1, 0, none⟩) (by simp only; omega) _).setCell (p := ⟨B + 1, 1, none⟩) (by simp only; omega) _).setCell (p := ⟨B + 1, 2, none⟩) (by simp only; omega) _).setCell (p := ⟨B + 1, 3, none⟩) (by simp only; omega) _).setCell (p := ⟨B + 1, 4, none⟩) (by simp only; omega) _)
  clear hW hB h0 h1 h2
  rcases hx with ⟨hl, hn⟩ | ⟨hl, hz⟩
  · have HBl : Hid (∀ W, Calls Tryz.prog 50 #[.agg #[.int .i32 x.l, .int .i64 x.n, .int .i64 x.fo, .int .i64 x.ba, .int .i64 x.ma]] W fun r w' => r = .returned (.bool true) ∧ Below W.heap.size W w') := isBlank_yes x hl hn
    have ht : txtG x = ⟨#[32]⟩ := by unfold txtG; rw [if_pos hl]
    have HT := hidK ht
    clear hl hn ht
    go_enter Tryz.func31, Tryz.ntmps31
    go_wp2_with fail
    rw [HW.out, HB.out]
    refine (HBl.out _).mono ?_
    rintro e w1 ⟨rfl, hb⟩
    have HB1 := hidK hb
    obtain ⟨k0, k1, k2⟩ := HAll.out w1 hb
    have a0 := cell_atT k1 0
    have a1 := cell_atT k1 1
    have a2 := cell_atT k1 2
    have a3 := cell_atT k1 3
    have a4 := cell_atT k1 4
    have b0 := cell_atT k2 0
    have b1 := cell_atT k2 1
    have b2 := cell_atT k2 2
    have b3 := cell_atT k2 3
    have b4 := cell_atT k2 4
    simp at a0 a1 a2 a3 a4 b0 b1 b2 b3 b4
    have f0 := free_atT k1 0
    have f1 := free_atT k1 1
    have f2 := free_atT k1 2
    have f3 := free_atT k1 3
    have f4 := free_atT k1 4
    have g0 := free_atT k2 0
    clear hb k0 k1 k2
    go_wp2_with fail
    obtain ⟨q1, q2⟩ := HFin.out w1 HB1.out ⟨#[32]⟩ HT.out.symm _ rfl
    refine ret_cell1 rfl rfl q1 Tryz.underlying76 rfl infoGy rfl ⟨rfl, q2⟩
  · have HBl : Hid (∀ W, Calls Tryz.prog 50 #[.agg #[.int .i32 x.l, .int .i64 x.n, .int .i64 x.fo, .int .i64 x.ba, .int .i64 x.ma]] W fun r w' => r = .returned (.bool false) ∧ Below W.heap.size W w') := isBlank_no x hl
    have HRi : Hid (∀ W, Calls Tryz.prog 43 #[.agg #[.int .i32 x.l, .int .i64 x.n, .int .i64 x.fo, .int .i64 x.ba, .int .i64 x.ma]] W fun r w' => r = .returned (.bool false) ∧ Below W.heap.size W w') := isRight_no x hz
    have ht : txtG x = Utf8.encode x.l := by unfold txtG; rw [if_neg hl]
    have HT := hidK ht
    clear hl hz ht
    go_enter Tryz.func31, Tryz.ntmps31
    go_wp2_with fail
    rw [HW.out, HB.out]
    refine (HBl.out _).mono ?_
    rintro e w0 ⟨rfl, hb⟩
    have HB0 := hidK hb
    obtain ⟨k0, k1, k2⟩ := HAll.out w0 hb
    obtain ⟨x0, x1, x2, x3, x4⟩ := box_cells k0
    clear hb k0 k1 k2
    go_wp2_with fail
    refine (HRi.out _).mono ?_
    rintro e w1 ⟨rfl, hb⟩
    have HB1 : Hid (Below W.heap.size W w1) := HB0.out.trans (hb.mono HB0.out.size)
    obtain ⟨k0, k1, k2⟩ := HAll.out w1 HB1.out
    clear x0 x1 x2 x3 x4
    obtain ⟨x0, x1, x2, x3, x4⟩ := box_cells k0
    have a0 := cell_atT k1 0
    have a1 := cell_atT k1 1
    have a2 := cell_atT k1 2
    have a3 := cell_atT k1 3
    have a4 := cell_atT k1 4
    have b0 := cell_atT k2 0
    have b1 := cell_atT k2 1
    have b2 := cell_atT k2 2
    have b3 := cell_atT k2 3
    have b4 := cell_atT k2 4
    simp at a0 a1 a2 a3 a4 b0 b1 b2 b3 b4
    have f0 := free_atT k1 0
    have f1 := free_atT k1 1
    have f2 := free_atT k1 2
    have f3 := free_atT k1 3
    have f4 := free_atT k1 4
    have g0 := free_atT k2 0
    clear hb k0 k1 k2
    go_wp2_with fail
    obtain ⟨q1, q2⟩ := HFin.out w1 HB1.out (Utf8.encode x.l) HT.out.symm _ rfl
    refine ret_cell1 rfl rfl q1 Tryz.underlying76 rfl infoGy rfl ⟨rfl, q2⟩
end Go.Proofs.YtooahffclghcjaaGreatDoor
