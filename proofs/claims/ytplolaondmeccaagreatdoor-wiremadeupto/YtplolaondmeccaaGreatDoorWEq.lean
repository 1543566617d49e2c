/-
  Two events compared.
-/
import Derived.Test.YtplolaondmeccaaGreatDoorWBase
import Derived.WalkKit
import Derived.Laws.StructEq
namespace Go.Proofs.YtplolaondmeccaaGreatDoor
open Go.RowKit
set_option linter.unusedVariables false

/-- Are two events one? -/
def evEq (a b : Ev) : Bool :=
  (a.kind == b.kind) && ((a.session == b.session) && ((a.window == b.window) && ((a.pane == b.pane) && ((a.index == b.index) && ((a.offset == b.offset) && ((a.tick == b.tick) && ((a.number == b.number) && ((a.flag == b.flag) &&
  ((a.name.toList == b.name.toList) && ((a.text.toList == b.text.toList) && ((a.layout.toList == b.layout.toList) && ((a.visible.toList == b.visible.toList) && (a.zoom == b.zoom)))))))))))))

theorem eqF_cons {P : Program} {w : World} (d : Nat) (xs ys : Array Value) {nm : String} {t : TypeId} {o : Nat} {em : Bool} {tag pk : String} {bo : Nat} (fs : List Field) (a b : Value) (r : Bool) (hn : nm ≠ "_") (ha : (part t xs o).run P w = .ok a w) (hb : (part t ys o).run P w = .ok b w)
    (he : (Op.equalIn d t a b).run P w = .ok r w) (s : Bool) (hs : (Op.eqFields d xs ys fs).run P w = .ok s w) : (Op.eqFields d xs ys (⟨nm, t, o, em, tag, pk, bo⟩ :: fs)).run P w = .ok (r && s) w := by
  unfold Op.eqFields
  rw [if_pos hn]
  simp only [Sem.run_bind, ha, hb, he, Result.andThen_ok]
  cases r
  · rfl
  · exact hs

theorem part_plain {P : Program} {w : World} (t : TypeId) (cs : Array Value) (o : Nat) (v : Value) (h : (isAgg t).run P w = .ok false w) (hv : cs[o]? = some v) : (part t cs o).run P w = .ok v w := by
  unfold part
  simp [Sem.run_bind, h, hv]

theorem vals_kind (a : Ev) : a.vals[0]? = some (.int .i64 a.kind) := rfl
theorem vals_session (a : Ev) : a.vals[1]? = some (.int .i64 a.session) := rfl
theorem vals_window (a : Ev) : a.vals[2]? = some (.int .i64 a.window) := rfl
theorem vals_pane (a : Ev) : a.vals[3]? = some (.int .i64 a.pane) := rfl
theorem vals_index (a : Ev) : a.vals[4]? = some (.int .i64 a.index) := rfl
theorem vals_offset (a : Ev) : a.vals[5]? = some (.int .i64 a.offset) := rfl
theorem vals_tick (a : Ev) : a.vals[6]? = some (.int .i64 a.tick) := rfl
theorem vals_number (a : Ev) : a.vals[7]? = some (.int .i64 a.number) := rfl
theorem vals_flag (a : Ev) : a.vals[8]? = some (.int .i64 a.flag) := rfl
theorem vals_name (a : Ev) : a.vals[9]? = some (.string a.name) := rfl
theorem vals_text (a : Ev) : a.vals[10]? = some (.string a.text) := rfl
theorem vals_layout (a : Ev) : a.vals[11]? = some (.string a.layout) := rfl
theorem vals_visible (a : Ev) : a.vals[12]? = some (.string a.visible) := rfl
theorem vals_zoom (a : Ev) : a.vals[13]? = some (.bool a.zoom) := rfl

set_option maxRecDepth 20000 in
theorem eqEv_d (d : Nat) (a b : Ev) (w : World) : (Op.eqFields (d + 1) a.vals b.vals [⟨"Kind", 3, 0, false, "", "", 0⟩, ⟨"Session", 3, 1, false, "", "", 8⟩, ⟨"Window", 3, 2, false, "", "", 16⟩, ⟨"Pane", 3, 3, false, "", "", 24⟩, ⟨"Index", 3, 4, false, "", "", 32⟩, ⟨"Offset", 3, 5, false, "", "", 40⟩, ⟨"Tick", 3, 6, false, "", "", 48⟩, ⟨"Number", 3, 7, false, "", "", 56⟩, ⟨"Flag", 3, 8, false, "", "", 64⟩, ⟨"Name", 9, 9, false, "", "", 72⟩, ⟨"Text", 9, 10, false, "", "", 88⟩, ⟨"Layout", 9, 11, false, "", "", 104⟩, ⟨"Visible", 9, 12, false, "", "", 120⟩, ⟨"Zoom", 4, 13, false, "", "", 136⟩]).run Tryz.prog w = .ok (evEq a b) w := by
  have u3 := Tryz.underlying3
  have u4 := Tryz.underlying4
  have u9 := Tryz.underlying9
  have a3 := Tryz.isAgg3
  have a4 := Tryz.isAgg4
  have a9 := Tryz.isAgg9
  have hz : evEq a b = ((a.kind == b.kind) && ((a.session == b.session) && ((a.window == b.window) && ((a.pane == b.pane) && ((a.index == b.index) && ((a.offset == b.offset) && ((a.tick == b.tick) && ((a.number == b.number) && ((a.flag == b.flag) &&
    ((a.name.toList == b.name.toList) && ((a.text.toList == b.text.toList) && ((a.layout.toList == b.layout.toList) && ((a.visible.toList == b.visible.toList) && ((a.zoom == b.zoom) && true)))))))))))))) := by rw [Bool.and_true]; rfl
  rw [hz]
  obtain ⟨xs, hx⟩ : ∃ x, a.vals = x := ⟨_, rfl⟩
  obtain ⟨ys, hy⟩ : ∃ x, b.vals = x := ⟨_, rfl⟩
  have x0 := vals_kind a
  have y0 := vals_kind b
  rw [hx] at x0
  rw [hy] at y0
  have n0 : "Kind" ≠ "_" := by decide
  have x1 := vals_session a
  have y1 := vals_session b
  rw [hx] at x1
  rw [hy] at y1
  have n1 : "Session" ≠ "_" := by decide
  have x2 := vals_window a
  have y2 := vals_window b
  rw [hx] at x2
  rw [hy] at y2
  have n2 : "Window" ≠ "_" := by decide
  have x3 := vals_pane a
  have y3 := vals_pane b
  rw [hx] at x3
  rw [hy] at y3
  have n3 : "Pane" ≠ "_" := by decide
  have x4 := vals_index a
  have y4 := vals_index b
  rw [hx] at x4
  rw [hy] at y4
  have n4 : "Index" ≠ "_" := by decide
  have x5 := vals_offset a
  have y5 := vals_offset b
  rw [hx] at x5
  rw [hy] at y5
  have n5 : "Offset" ≠ "_" := by decide
  have x6 := vals_tick a
  have y6 := vals_tick b
  rw [hx] at x6
  rw [hy] at y6
  have n6 : "Tick" ≠ "_" := by decide
  have x7 := vals_number a
  have y7 := vals_number b
  rw [hx] at x7
  rw [hy] at y7
  have n7 : "Number" ≠ "_" := by decide
  have x8 := vals_flag a
  have y8 := vals_flag b
  rw [hx] at x8
  rw [hy] at y8
  have n8 : "Flag" ≠ "_" := by decide
  have x9 := vals_name a
  have y9 := vals_name b
  rw [hx] at x9
  rw [hy] at y9
  have n9 : "Name" ≠ "_" := by decide
  have x10 := vals_text a
  have y10 := vals_text b
  rw [hx] at x10
  rw [hy] at y10
  have n10 : "Text" ≠ "_" := by decide
  have x11 := vals_layout a
  have y11 := vals_layout b
  rw [hx] at x11
  rw [hy] at y11
  have n11 : "Layout" ≠ "_" := by decide
  have x12 := vals_visible a
  have y12 := vals_visible b
  rw [hx] at x12
  rw [hy] at y12
  have n12 : "Visible" ≠ "_" := by decide
  have x13 := vals_zoom a
  have y13 := vals_zoom b
  rw [hx] at x13
  rw [hy] at y13
  have n13 : "Zoom" ≠ "_" := by decide
  rw [hx, hy]
  clear hx hy hz
  refine eqF_cons (d + 1) xs ys _ (.int .i64 a.kind) (.int .i64 b.kind) _ n0 (part_plain 3 xs 0 _ (a3 w) x0) (part_plain 3 ys 0 _ (a3 w) y0) (run_equalIn_int w d 3 .i64 .i64 _ _ u3) _ ?_
  refine eqF_cons (d + 1) xs ys _ (.int .i64 a.session) (.int .i64 b.session) _ n1 (part_plain 3 xs 1 _ (a3 w) x1) (part_plain 3 ys 1 _ (a3 w) y1) (run_equalIn_int w d 3 .i64 .i64 _ _ u3) _ ?_
  refine eqF_cons (d + 1) xs ys _ (.int .i64 a.window) (.int .i64 b.window) _ n2 (part_plain 3 xs 2 _ (a3 w) x2) (part_plain 3 ys 2 _ (a3 w) y2) (run_equalIn_int w d 3 .i64 .i64 _ _ u3) _ ?_
  refine eqF_cons (d + 1) xs ys _ (.int .i64 a.pane) (.int .i64 b.pane) _ n3 (part_plain 3 xs 3 _ (a3 w) x3) (part_plain 3 ys 3 _ (a3 w) y3) (run_equalIn_int w d 3 .i64 .i64 _ _ u3) _ ?_
  refine eqF_cons (d + 1) xs ys _ (.int .i64 a.index) (.int .i64 b.index) _ n4 (part_plain 3 xs 4 _ (a3 w) x4) (part_plain 3 ys 4 _ (a3 w) y4) (run_equalIn_int w d 3 .i64 .i64 _ _ u3) _ ?_
  refine eqF_cons (d + 1) xs ys _ (.int .i64 a.offset) (.int .i64 b.offset) _ n5 (part_plain 3 xs 5 _ (a3 w) x5) (part_plain 3 ys 5 _ (a3 w) y5) (run_equalIn_int w d 3 .i64 .i64 _ _ u3) _ ?_
  refine eqF_cons (d + 1) xs ys _ (.int .i64 a.tick) (.int .i64 b.tick) _ n6 (part_plain 3 xs 6 _ (a3 w) x6) (part_plain 3 ys 6 _ (a3 w) y6) (run_equalIn_int w d 3 .i64 .i64 _ _ u3) _ ?_
  refine eqF_cons (d + 1) xs ys _ (.int .i64 a.number) (.int .i64 b.number) _ n7 (part_plain 3 xs 7 _ (a3 w) x7) (part_plain 3 ys 7 _ (a3 w) y7) (run_equalIn_int w d 3 .i64 .i64 _ _ u3) _ ?_
  refine eqF_cons (d + 1) xs ys _ (.int .i64 a.flag) (.int .i64 b.flag) _ n8 (part_plain 3 xs 8 _ (a3 w) x8) (part_plain 3 ys 8 _ (a3 w) y8) (run_equalIn_int w d 3 .i64 .i64 _ _ u3) _ ?_
  refine eqF_cons (d + 1) xs ys _ (.string a.name) (.string b.name) _ n9 (part_plain 9 xs 9 _ (a9 w) x9) (part_plain 9 ys 9 _ (a9 w) y9) (run_equalIn_string w d 9 _ _ u9) _ ?_
  refine eqF_cons (d + 1) xs ys _ (.string a.text) (.string b.text) _ n10 (part_plain 9 xs 10 _ (a9 w) x10) (part_plain 9 ys 10 _ (a9 w) y10) (run_equalIn_string w d 9 _ _ u9) _ ?_
  refine eqF_cons (d + 1) xs ys _ (.string a.layout) (.string b.layout) _ n11 (part_plain 9 xs 11 _ (a9 w) x11) (part_plain 9 ys 11 _ (a9 w) y11) (run_equalIn_string w d 9 _ _ u9) _ ?_
  refine eqF_cons (d + 1) xs ys _ (.string a.visible) (.string b.visible) _ n12 (part_plain 9 xs 12 _ (a9 w) x12) (part_plain 9 ys 12 _ (a9 w) y12) (run_equalIn_string w d 9 _ _ u9) _ ?_
  refine eqF_cons (d + 1) xs ys _ (.bool a.zoom) (.bool b.zoom) _ n13 (part_plain 4 xs 13 _ (a4 w) x13) (part_plain 4 ys 13 _ (a4 w) y13) (run_equalIn_bool' w d 4 _ _ u4) true ?_
  rfl

theorem eqEv (a b : Ev) (w : World) : (Op.equalIn 10000 27 (.agg a.vals) (.agg b.vals)).run Tryz.prog w = .ok (evEq a b) w := by
  have hu : Tryz.prog.underlying 27 = some (.struct (Tryz.prog.fieldsOf 27)) := by kernel_rfl
  have hp : Tryz.prog.stoodInHeld 27 = false := by kernel_rfl
  have hl : (Tryz.prog.fieldsOf 27).toList = [⟨"Kind", 3, 0, false, "", "", 0⟩, ⟨"Session", 3, 1, false, "", "", 8⟩, ⟨"Window", 3, 2, false, "", "", 16⟩, ⟨"Pane", 3, 3, false, "", "", 24⟩, ⟨"Index", 3, 4, false, "", "", 32⟩, ⟨"Offset", 3, 5, false, "", "", 40⟩, ⟨"Tick", 3, 6, false, "", "", 48⟩, ⟨"Number", 3, 7, false, "", "", 56⟩, ⟨"Flag", 3, 8, false, "", "", 64⟩, ⟨"Name", 9, 9, false, "", "", 72⟩, ⟨"Text", 9, 10, false, "", "", 88⟩, ⟨"Layout", 9, 11, false, "", "", 104⟩, ⟨"Visible", 9, 12, false, "", "", 120⟩, ⟨"Zoom", 4, 13, false, "", "", 136⟩] := by kernel_rfl
  obtain ⟨d, hd⟩ : ∃ d, (10000 : Nat) = d + 1 + 1 := ⟨9998, rfl⟩
  rw [hd, run_equalIn_struct w (d + 1) 27 _ _ hu hp, hl]
  exact eqEv_d d a b w

theorem ba_eq {x y : ByteArray} (h : (x.toList == y.toList) = true) : x = y := by
  have h1 := eq_of_beq h
  rw [Lib.toList_data, Lib.toList_data] at h1
  have h2 := congrArg str h1
  rwa [data_str, data_str] at h2

theorem evEq_iff (a b : Ev) : evEq a b = true ↔ a = b := by
  constructor
  · intro h
    unfold evEq at h
    simp only [Bool.and_eq_true] at h
    obtain ⟨h0, h1, h2, h3, h4, h5, h6, h7, h8, h9, h10, h11, h12, h13⟩ := h
    obtain ⟨a0, a1, a2, a3, a4, a5, a6, a7, a8, a9, a10, a11, a12, a13⟩ := a
    obtain ⟨b0, b1, b2, b3, b4, b5, b6, b7, b8, b9, b10, b11, b12, b13⟩ := b
    have e0 := eq_of_beq h0
    have e1 := eq_of_beq h1
    have e2 := eq_of_beq h2
    have e3 := eq_of_beq h3
    have e4 := eq_of_beq h4
    have e5 := eq_of_beq h5
    have e6 := eq_of_beq h6
    have e7 := eq_of_beq h7
    have e8 := eq_of_beq h8
    have e9 := ba_eq h9
    have e10 := ba_eq h10
    have e11 := ba_eq h11
    have e12 := ba_eq h12
    have e13 := eq_of_beq h13
    simp only at e0 e1 e2 e3 e4 e5 e6 e7 e8 e9 e10 e11 e12 e13
    subst e0 e1 e2 e3 e4 e5 e6 e7 e8 e9 e10 e11 e12 e13
    rfl
  · rintro rfl
    unfold evEq
    simp

end Go.Proofs.YtplolaondmeccaaGreatDoor
