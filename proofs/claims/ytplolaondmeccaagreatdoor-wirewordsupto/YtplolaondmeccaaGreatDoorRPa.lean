/-
  The document's part: one thing of an event, as it is written.
  The document's part: names, plans, the zoom, texts.
  The document's part: a value behind a colon; data.
  The document's part: data.
-/
import Derived.Test.YtplolaondmeccaaGreatDoorWRAC
import Derived.Test.YtplolaondmeccaaGreatDoorWRowD
import Derived.WalkKit
import Derived.RegionTactic
import Derived.Deep.RegionWith
import Derived.Deep.DrawnRows
import Derived.Deep.QuietTactic
import Derived.BigQuiet
import Derived.Deep.RegionHeld3
namespace Go.Proofs.YtplolaondmeccaaGreatDoor
open Go.RowKit
set_option linter.unusedVariables false
set_option maxRecDepth 20000

def PartPost (o : Option (List UInt8)) (w : World) (e : Ending) (w' : World) : Prop :=
  (match o with
    | some t => e = .returned (.tuple #[.string (str t), .bool true])
    | none => ∃ s, e = .returned (.tuple #[.string s, .bool false])) ∧ Below w.heap.size w w'
theorem putL_full {n : Int} (h : 0 ≤ n ∧ n ≤ 4611686018427387904) : putL n ≠ [] := by
  rw [putL_in h]
  exact dec_ne _
theorem count_in (n m : Int) (h : 0 ≤ n ∧ n ≤ m) (hm : m ≤ 4611686018427387904) (W : World) :
    Calls Tryz.prog 166 #[.int .i64 n, .int .i64 m] W fun e w' => e = .returned (.string (str (putL n))) ∧ Below W.heap.size W w' := by
  have := count_any n m W (by omega) (by omega)
  rwa [if_neg (by omega)] at this
theorem count_out (n m : Int) (h : ¬ (0 ≤ n ∧ n ≤ m)) (h0 : -9223372036854775808 ≤ n) (h1 : n ≤ 9223372036854775807) (W : World) :
    Calls Tryz.prog 166 #[.int .i64 n, .int .i64 m] W fun e w' => e = .returned (.string ⟨#[]⟩) ∧ Below W.heap.size W w' := by
  have := count_any n m W h0 h1
  have e : (if m < n then [] else putL n) = [] := by
    by_cases hm : m < n
    · rw [if_pos hm]
    · rw [if_neg hm]
      exact putL_out (by omega)
  rw [e] at this
  exact this
theorem id_in (c : UInt8) (n : Int) (h : 1 ≤ n ∧ n ≤ 4611686018427387904) (W : World) :
    Calls Tryz.prog 167 #[.int .u8 c.toNat, .int .i64 n] W fun e w' => e = .returned (.string (str (putI c n))) ∧ Below W.heap.size W w' := refPutId_any c n W (by omega) (by omega)
theorem id_out (c : UInt8) (n : Int) (h : ¬ (1 ≤ n ∧ n ≤ 4611686018427387904)) (h0 : -9223372036854775808 ≤ n) (h1 : n ≤ 9223372036854775807) (W : World) :
    Calls Tryz.prog 167 #[.int .u8 c.toNat, .int .i64 n] W fun e w' => e = .returned (.string ⟨#[]⟩) ∧ Below W.heap.size W w' := by
  have := refPutId_any c n W h0 h1
  rw [putI_out h] at this
  exact this

theorem part_t (ev : Ev) (hf : ev.Fits) (w : World) : Calls Tryz.prog 150 #[.agg ev.vals, .int .u8 116] w (PartPost (Ch.T .qt ev) w) := by
  have hr : -9223372036854775808 ≤ ev.tick ∧ ev.tick ≤ 9223372036854775807 := hf.num .tick
  by_cases h : 0 ≤ ev.tick ∧ ev.tick ≤ 4611686018427387904
  · have HT : Ch.T .qt ev = some (putL ev.tick) := if_pos h
    rw [HT]
    have HCn : Hid (∀ W, Calls Tryz.prog 166 #[.int .i64 ev.tick, .int .i64 4611686018427387904] W fun e w' => e = .returned (.string (str (putL ev.tick))) ∧ Below W.heap.size W w') := count_in _ _ h (by decide)
    obtain ⟨z1, z2⟩ := str_ne (putL_full ⟨h.1, by omega⟩)
    clear HT h hr hf
    unfold Ev.vals
    go_enter Tryz.func150, Tryz.ntmps150
    go_wp2_with (go_at_call 166; refine (HCn.out _).mono ?_; rintro e w1 ⟨rfl, hb1⟩; have HB : Hid (Below w.heap.size w w1) := below_step (below1 _ _) hb1; clear hb1)
    all_goals go_ret2
    all_goals exact ⟨rfl, HB.out⟩
  · have HT : Ch.T .qt ev = none := if_neg h
    rw [HT]
    have HCn : Hid (∀ W, Calls Tryz.prog 166 #[.int .i64 ev.tick, .int .i64 4611686018427387904] W fun e w' => e = .returned (.string ⟨#[]⟩) ∧ Below W.heap.size W w') := count_out _ _ h hr.1 hr.2
    clear HT h hr hf
    unfold Ev.vals
    go_enter Tryz.func150, Tryz.ntmps150
    go_wp2_with (go_at_call 166; refine (HCn.out _).mono ?_; rintro e w1 ⟨rfl, hb1⟩; have HB : Hid (Below w.heap.size w w1) := below_step (below1 _ _) hb1; clear hb1)
    all_goals go_ret2
    all_goals exact ⟨⟨_, rfl⟩, HB.out⟩

theorem part_n (ev : Ev) (hf : ev.Fits) (w : World) : Calls Tryz.prog 150 #[.agg ev.vals, .int .u8 110] w (PartPost (Ch.T .qn ev) w) := by
  have hr : -9223372036854775808 ≤ ev.number ∧ ev.number ≤ 9223372036854775807 := hf.num .number
  by_cases h : 0 ≤ ev.number ∧ ev.number ≤ 4611686018427387904
  · have HT : Ch.T .qn ev = some (putL ev.number) := if_pos h
    rw [HT]
    have HCn : Hid (∀ W, Calls Tryz.prog 166 #[.int .i64 ev.number, .int .i64 4611686018427387904] W fun e w' => e = .returned (.string (str (putL ev.number))) ∧ Below W.heap.size W w') := count_in _ _ h (by decide)
    obtain ⟨z1, z2⟩ := str_ne (putL_full ⟨h.1, by omega⟩)
    clear HT h hr hf
    unfold Ev.vals
    go_enter Tryz.func150, Tryz.ntmps150
    go_wp2_with (go_at_call 166; refine (HCn.out _).mono ?_; rintro e w1 ⟨rfl, hb1⟩; have HB : Hid (Below w.heap.size w w1) := below_step (below1 _ _) hb1; clear hb1)
    all_goals go_ret2
    all_goals exact ⟨rfl, HB.out⟩
  · have HT : Ch.T .qn ev = none := if_neg h
    rw [HT]
    have HCn : Hid (∀ W, Calls Tryz.prog 166 #[.int .i64 ev.number, .int .i64 4611686018427387904] W fun e w' => e = .returned (.string ⟨#[]⟩) ∧ Below W.heap.size W w') := count_out _ _ h hr.1 hr.2
    clear HT h hr hf
    unfold Ev.vals
    go_enter Tryz.func150, Tryz.ntmps150
    go_wp2_with (go_at_call 166; refine (HCn.out _).mono ?_; rintro e w1 ⟨rfl, hb1⟩; have HB : Hid (Below w.heap.size w w1) := below_step (below1 _ _) hb1; clear hb1)
    all_goals go_ret2
    all_goals exact ⟨⟨_, rfl⟩, HB.out⟩

theorem part_f (ev : Ev) (hf : ev.Fits) (w : World) : Calls Tryz.prog 150 #[.agg ev.vals, .int .u8 102] w (PartPost (Ch.T .qf ev) w) := by
  have hr : -9223372036854775808 ≤ ev.flag ∧ ev.flag ≤ 9223372036854775807 := hf.num .flag
  by_cases h : 0 ≤ ev.flag ∧ ev.flag ≤ 1
  · have HT : Ch.T .qf ev = some (putL ev.flag) := if_pos h
    rw [HT]
    have HCn : Hid (∀ W, Calls Tryz.prog 166 #[.int .i64 ev.flag, .int .i64 1] W fun e w' => e = .returned (.string (str (putL ev.flag))) ∧ Below W.heap.size W w') := count_in _ _ h (by decide)
    obtain ⟨z1, z2⟩ := str_ne (putL_full ⟨h.1, by omega⟩)
    clear HT h hr hf
    unfold Ev.vals
    go_enter Tryz.func150, Tryz.ntmps150
    go_wp2_with (go_at_call 166; refine (HCn.out _).mono ?_; rintro e w1 ⟨rfl, hb1⟩; have HB : Hid (Below w.heap.size w w1) := below_step (below1 _ _) hb1; clear hb1)
    all_goals go_ret2
    all_goals exact ⟨rfl, HB.out⟩
  · have HT : Ch.T .qf ev = none := if_neg h
    rw [HT]
    have HCn : Hid (∀ W, Calls Tryz.prog 166 #[.int .i64 ev.flag, .int .i64 1] W fun e w' => e = .returned (.string ⟨#[]⟩) ∧ Below W.heap.size W w') := count_out _ _ h hr.1 hr.2
    clear HT h hr hf
    unfold Ev.vals
    go_enter Tryz.func150, Tryz.ntmps150
    go_wp2_with (go_at_call 166; refine (HCn.out _).mono ?_; rintro e w1 ⟨rfl, hb1⟩; have HB : Hid (Below w.heap.size w w1) := below_step (below1 _ _) hb1; clear hb1)
    all_goals go_ret2
    all_goals exact ⟨⟨_, rfl⟩, HB.out⟩

theorem part_o (ev : Ev) (hf : ev.Fits) (w : World) : Calls Tryz.prog 150 #[.agg ev.vals, .int .u8 111] w (PartPost (Ch.T .qo ev) w) := by
  have hr : -9223372036854775808 ≤ ev.offset ∧ ev.offset ≤ 9223372036854775807 := hf.num .offset
  by_cases h : 0 ≤ ev.offset ∧ ev.offset ≤ 4611686018427387904
  · have HT : Ch.T .qo ev = some (putL ev.offset) := if_pos h
    rw [HT]
    have HCn : Hid (∀ W, Calls Tryz.prog 166 #[.int .i64 ev.offset, .int .i64 4611686018427387904] W fun e w' => e = .returned (.string (str (putL ev.offset))) ∧ Below W.heap.size W w') := count_in _ _ h (by decide)
    obtain ⟨z1, z2⟩ := str_ne (putL_full ⟨h.1, by omega⟩)
    clear HT h hr hf
    unfold Ev.vals
    go_enter Tryz.func150, Tryz.ntmps150
    go_wp2_with (go_at_call 166; refine (HCn.out _).mono ?_; rintro e w1 ⟨rfl, hb1⟩; have HB : Hid (Below w.heap.size w w1) := below_step (below1 _ _) hb1; clear hb1)
    all_goals go_ret2
    all_goals exact ⟨rfl, HB.out⟩
  · have HT : Ch.T .qo ev = none := if_neg h
    rw [HT]
    have HCn : Hid (∀ W, Calls Tryz.prog 166 #[.int .i64 ev.offset, .int .i64 4611686018427387904] W fun e w' => e = .returned (.string ⟨#[]⟩) ∧ Below W.heap.size W w') := count_out _ _ h hr.1 hr.2
    clear HT h hr hf
    unfold Ev.vals
    go_enter Tryz.func150, Tryz.ntmps150
    go_wp2_with (go_at_call 166; refine (HCn.out _).mono ?_; rintro e w1 ⟨rfl, hb1⟩; have HB : Hid (Below w.heap.size w w1) := below_step (below1 _ _) hb1; clear hb1)
    all_goals go_ret2
    all_goals exact ⟨⟨_, rfl⟩, HB.out⟩

theorem part_i (ev : Ev) (hf : ev.Fits) (w : World) : Calls Tryz.prog 150 #[.agg ev.vals, .int .u8 105] w (PartPost (Ch.T .qi ev) w) := by
  have hr : -9223372036854775808 ≤ ev.index ∧ ev.index ≤ 9223372036854775807 := hf.num .index
  by_cases h : 0 ≤ ev.index ∧ ev.index ≤ 9999
  · have HT : Ch.T .qi ev = some (putL ev.index) := if_pos h
    rw [HT]
    have HCn : Hid (∀ W, Calls Tryz.prog 166 #[.int .i64 ev.index, .int .i64 9999] W fun e w' => e = .returned (.string (str (putL ev.index))) ∧ Below W.heap.size W w') := count_in _ _ h (by decide)
    obtain ⟨z1, z2⟩ := str_ne (putL_full ⟨h.1, by omega⟩)
    clear HT h hr hf
    unfold Ev.vals
    go_enter Tryz.func150, Tryz.ntmps150
    go_wp2_with (go_at_call 166; refine (HCn.out _).mono ?_; rintro e w1 ⟨rfl, hb1⟩; have HB : Hid (Below w.heap.size w w1) := below_step (below1 _ _) hb1; clear hb1)
    all_goals go_ret2
    all_goals exact ⟨rfl, HB.out⟩
  · have HT : Ch.T .qi ev = none := if_neg h
    rw [HT]
    have HCn : Hid (∀ W, Calls Tryz.prog 166 #[.int .i64 ev.index, .int .i64 9999] W fun e w' => e = .returned (.string ⟨#[]⟩) ∧ Below W.heap.size W w') := count_out _ _ h hr.1 hr.2
    clear HT h hr hf
    unfold Ev.vals
    go_enter Tryz.func150, Tryz.ntmps150
    go_wp2_with (go_at_call 166; refine (HCn.out _).mono ?_; rintro e w1 ⟨rfl, hb1⟩; have HB : Hid (Below w.heap.size w w1) := below_step (below1 _ _) hb1; clear hb1)
    all_goals go_ret2
    all_goals exact ⟨⟨_, rfl⟩, HB.out⟩

theorem part_s (ev : Ev) (hf : ev.Fits) (w : World) : Calls Tryz.prog 150 #[.agg ev.vals, .int .u8 115] w (PartPost (Ch.T .qs ev) w) := by
  have hr : -9223372036854775808 ≤ ev.session ∧ ev.session ≤ 9223372036854775807 := hf.num .session
  by_cases h : 1 ≤ ev.session ∧ ev.session ≤ 4611686018427387904
  · have HT : Ch.T .qs ev = some (putI 36 ev.session) := if_pos h
    rw [HT]
    have HCn : Hid (∀ W, Calls Tryz.prog 167 #[.int .u8 36, .int .i64 ev.session] W fun e w' => e = .returned (.string (str (putI 36 ev.session))) ∧ Below W.heap.size W w') := id_in 36 _ h
    obtain ⟨z1, z2⟩ := str_ne (show putI 36 ev.session ≠ [] by rw [putI_in h]; exact fun h => by cases h)
    clear HT h hr hf
    unfold Ev.vals
    go_enter Tryz.func150, Tryz.ntmps150
    go_wp2_with (go_at_call 167; refine (HCn.out _).mono ?_; rintro e w1 ⟨rfl, hb1⟩; have HB : Hid (Below w.heap.size w w1) := below_step (below1 _ _) hb1; clear hb1)
    all_goals go_ret2
    all_goals exact ⟨rfl, HB.out⟩
  · have HT : Ch.T .qs ev = none := if_neg h
    rw [HT]
    have HCn : Hid (∀ W, Calls Tryz.prog 167 #[.int .u8 36, .int .i64 ev.session] W fun e w' => e = .returned (.string ⟨#[]⟩) ∧ Below W.heap.size W w') := id_out 36 _ h hr.1 hr.2
    clear HT h hr hf
    unfold Ev.vals
    go_enter Tryz.func150, Tryz.ntmps150
    go_wp2_with (go_at_call 167; refine (HCn.out _).mono ?_; rintro e w1 ⟨rfl, hb1⟩; have HB : Hid (Below w.heap.size w w1) := below_step (below1 _ _) hb1; clear hb1)
    all_goals go_ret2
    all_goals exact ⟨⟨_, rfl⟩, HB.out⟩

theorem part_w (ev : Ev) (hf : ev.Fits) (w : World) : Calls Tryz.prog 150 #[.agg ev.vals, .int .u8 119] w (PartPost (Ch.T .qw ev) w) := by
  have hr : -9223372036854775808 ≤ ev.window ∧ ev.window ≤ 9223372036854775807 := hf.num .window
  by_cases h : 1 ≤ ev.window ∧ ev.window ≤ 4611686018427387904
  · have HT : Ch.T .qw ev = some (putI 64 ev.window) := if_pos h
    rw [HT]
    have HCn : Hid (∀ W, Calls Tryz.prog 167 #[.int .u8 64, .int .i64 ev.window] W fun e w' => e = .returned (.string (str (putI 64 ev.window))) ∧ Below W.heap.size W w') := id_in 64 _ h
    obtain ⟨z1, z2⟩ := str_ne (show putI 64 ev.window ≠ [] by rw [putI_in h]; exact fun h => by cases h)
    clear HT h hr hf
    unfold Ev.vals
    go_enter Tryz.func150, Tryz.ntmps150
    go_wp2_with (go_at_call 167; refine (HCn.out _).mono ?_; rintro e w1 ⟨rfl, hb1⟩; have HB : Hid (Below w.heap.size w w1) := below_step (below1 _ _) hb1; clear hb1)
    all_goals go_ret2
    all_goals exact ⟨rfl, HB.out⟩
  · have HT : Ch.T .qw ev = none := if_neg h
    rw [HT]
    have HCn : Hid (∀ W, Calls Tryz.prog 167 #[.int .u8 64, .int .i64 ev.window] W fun e w' => e = .returned (.string ⟨#[]⟩) ∧ Below W.heap.size W w') := id_out 64 _ h hr.1 hr.2
    clear HT h hr hf
    unfold Ev.vals
    go_enter Tryz.func150, Tryz.ntmps150
    go_wp2_with (go_at_call 167; refine (HCn.out _).mono ?_; rintro e w1 ⟨rfl, hb1⟩; have HB : Hid (Below w.heap.size w w1) := below_step (below1 _ _) hb1; clear hb1)
    all_goals go_ret2
    all_goals exact ⟨⟨_, rfl⟩, HB.out⟩

theorem part_p (ev : Ev) (hf : ev.Fits) (w : World) : Calls Tryz.prog 150 #[.agg ev.vals, .int .u8 112] w (PartPost (Ch.T .qp ev) w) := by
  have hr : -9223372036854775808 ≤ ev.pane ∧ ev.pane ≤ 9223372036854775807 := hf.num .pane
  by_cases h : 1 ≤ ev.pane ∧ ev.pane ≤ 4611686018427387904
  · have HT : Ch.T .qp ev = some (putI 37 ev.pane) := if_pos h
    rw [HT]
    have HCn : Hid (∀ W, Calls Tryz.prog 167 #[.int .u8 37, .int .i64 ev.pane] W fun e w' => e = .returned (.string (str (putI 37 ev.pane))) ∧ Below W.heap.size W w') := id_in 37 _ h
    obtain ⟨z1, z2⟩ := str_ne (show putI 37 ev.pane ≠ [] by rw [putI_in h]; exact fun h => by cases h)
    clear HT h hr hf
    unfold Ev.vals
    go_enter Tryz.func150, Tryz.ntmps150
    go_wp2_with (go_at_call 167; refine (HCn.out _).mono ?_; rintro e w1 ⟨rfl, hb1⟩; have HB : Hid (Below w.heap.size w w1) := below_step (below1 _ _) hb1; clear hb1)
    all_goals go_ret2
    all_goals exact ⟨rfl, HB.out⟩
  · have HT : Ch.T .qp ev = none := if_neg h
    rw [HT]
    have HCn : Hid (∀ W, Calls Tryz.prog 167 #[.int .u8 37, .int .i64 ev.pane] W fun e w' => e = .returned (.string ⟨#[]⟩) ∧ Below W.heap.size W w') := id_out 37 _ h hr.1 hr.2
    clear HT h hr hf
    unfold Ev.vals
    go_enter Tryz.func150, Tryz.ntmps150
    go_wp2_with (go_at_call 167; refine (HCn.out _).mono ?_; rintro e w1 ⟨rfl, hb1⟩; have HB : Hid (Below w.heap.size w w1) := below_step (below1 _ _) hb1; clear hb1)
    all_goals go_ret2
    all_goals exact ⟨⟨_, rfl⟩, HB.out⟩

end Go.Proofs.YtplolaondmeccaaGreatDoor

namespace Go.Proofs.YtplolaondmeccaaGreatDoor
open Go.RowKit
set_option linter.unusedVariables false
set_option maxRecDepth 20000

theorem part_yes {t : List UInt8} {w w' : World} (b : Bool) (E : ByteArray) (hE : str t = E) (hb : b = true) (h : Below w.heap.size w w') : PartPost (some t) w (.returned (.tuple #[.string E, .bool b])) w' := ⟨by subst hE hb; rfl, h⟩
theorem part_no {w w' : World} (b : Bool) (E : ByteArray) (hb : b = false) (h : Below w.heap.size w w') : PartPost none w (.returned (.tuple #[.string E, .bool b])) w' := ⟨⟨E, by subst hb; rfl⟩, h⟩
theorem bdN {B : Nat} {a w : World} (h : Below B a w) (n : Nat) : Below B a (w.drewN n) := ⟨h.os, h.tape, h.output, h.size, h.block⟩

theorem part_qN (ev : Ev) (hf : ev.Fits) (w : World) : Calls Tryz.prog 150 #[.agg ev.vals, .int .u8 78] w (PartPost (Ch.T .qN ev) w) := by
  have HCn : Hid (∀ W, Calls Tryz.prog 152 #[.string ev.name] W fun e w' => e = .returned (.bool (nameB ev.name)) ∧ w' = W) := fun W => (refIsName_any _ W (Nat.le_trans hf.name (by decide))).mono fun e w' h => ⟨h.1, h.2.symm⟩
  have HT : Ch.T .qN ev = if nameB ev.name then some ev.name.data.toList else none := rfl
  rw [HT]
  cases h : nameB ev.name
  all_goals
    rw [h] at HCn
    clear HT h hf
    unfold Ev.vals
    go_enter Tryz.func150, Tryz.ntmps150
    go_wp2_with fail
    go_quiet ((go_at_call 152; exact Calls.quiet_of_same (HCn.out _)))
    go_wp2
    all_goals go_ret2
    all_goals first | exact ⟨rfl, bdN (below1 _ _) _⟩ | exact ⟨⟨_, rfl⟩, bdN (below1 _ _) _⟩

theorem part_qW (ev : Ev) (hf : ev.Fits) (w : World) : Calls Tryz.prog 150 #[.agg ev.vals, .int .u8 87] w (PartPost (Ch.T .qW ev) w) := by
  have HCn : Hid (∀ W, Calls Tryz.prog 117 #[.string ev.name] W fun e w' => e = .returned (.bool ((nameB ev.name && !has ev.name 32))) ∧ w' = W) := fun W => (refIsWord_any _ W (Nat.le_trans hf.name (by decide))).mono fun e w' h => ⟨h.1, h.2.symm⟩
  have HT : Ch.T .qW ev = if (nameB ev.name && !has ev.name 32) then some ev.name.data.toList else none := rfl
  rw [HT]
  cases h : (nameB ev.name && !has ev.name 32)
  all_goals
    rw [h] at HCn
    clear HT h hf
    unfold Ev.vals
    go_enter Tryz.func150, Tryz.ntmps150
    go_wp2_with fail
    go_quiet ((go_at_call 117; exact Calls.quiet_of_same (HCn.out _)))
    go_wp2
    all_goals go_ret2
    all_goals first | exact ⟨rfl, bdN (below1 _ _) _⟩ | exact ⟨⟨_, rfl⟩, bdN (below1 _ _) _⟩

theorem part_qP (ev : Ev) (hf : ev.Fits) (w : World) : Calls Tryz.prog 150 #[.agg ev.vals, .int .u8 80] w (PartPost (Ch.T .qP ev) w) := by
  have HCn : Hid (∀ W, Calls Tryz.prog 118 #[.string ev.layout] W fun e w' => e = .returned (.bool (planOk ev.layout.data.toList)) ∧ w' = W) := fun W => (planText_any _ (Nat.le_trans hf.layout (by decide)) W).mono fun e w' h => ⟨h.1, h.2.symm⟩
  have HT : Ch.T .qP ev = if planOk ev.layout.data.toList then some ev.layout.data.toList else none := rfl
  rw [HT]
  cases h : planOk ev.layout.data.toList
  all_goals
    rw [h] at HCn
    clear HT h hf
    unfold Ev.vals
    go_enter Tryz.func150, Tryz.ntmps150
    go_wp2_with fail
    go_quiet ((go_at_call 118; exact Calls.quiet_of_same (HCn.out _)))
    go_wp2
    all_goals go_ret2
    all_goals first | exact ⟨rfl, bdN (below1 _ _) _⟩ | exact ⟨⟨_, rfl⟩, bdN (below1 _ _) _⟩

theorem part_qV (ev : Ev) (hf : ev.Fits) (w : World) : Calls Tryz.prog 150 #[.agg ev.vals, .int .u8 86] w (PartPost (Ch.T .qV ev) w) := by
  have HCn : Hid (∀ W, Calls Tryz.prog 118 #[.string ev.visible] W fun e w' => e = .returned (.bool (planOk ev.visible.data.toList)) ∧ w' = W) := fun W => (planText_any _ (Nat.le_trans hf.visible (by decide)) W).mono fun e w' h => ⟨h.1, h.2.symm⟩
  have HT : Ch.T .qV ev = if planOk ev.visible.data.toList then some ev.visible.data.toList else none := rfl
  rw [HT]
  cases h : planOk ev.visible.data.toList
  all_goals
    rw [h] at HCn
    clear HT h hf
    unfold Ev.vals
    go_enter Tryz.func150, Tryz.ntmps150
    go_wp2_with fail
    go_quiet ((go_at_call 118; exact Calls.quiet_of_same (HCn.out _)))
    go_wp2
    all_goals go_ret2
    all_goals first | exact ⟨rfl, bdN (below1 _ _) _⟩ | exact ⟨⟨_, rfl⟩, bdN (below1 _ _) _⟩

theorem part_qz (ev : Ev) (hf : ev.Fits) (w : World) : Calls Tryz.prog 150 #[.agg ev.vals, .int .u8 122] w (PartPost (Ch.T .qz ev) w) := by
  have HT : Ch.T .qz ev = some (if ev.zoom then [90] else [45]) := rfl
  rw [HT]
  obtain ⟨k, a1, a2, a3, a4, a5, a6, a7, a8, a9, a10, a11, a12, z⟩ := ev
  cases z
  all_goals
    clear HT hf
    unfold Ev.vals
    go_enter Tryz.func150, Tryz.ntmps150
    go_wp2
    all_goals go_ret2
    all_goals exact ⟨rfl, below1 _ _⟩

set_option maxHeartbeats 2000000 in
theorem part_qm (ev : Ev) (hf : ev.Fits) (w : World) : Calls Tryz.prog 150 #[.agg ev.vals, .int .u8 109] w (PartPost (Ch.T .qm ev) w) := by
  have hs := hf.text
  unfold slim at hs
  have hes : (str (esc ev.text.data.toList)).size ≤ 8388608 := by have := (esc_length ev.text.data.toList).2; rw [size_data] at this; rw [str_size]; omega
  have HCn : Hid (∀ W, Calls Tryz.prog 115 #[.string ev.text] W fun e w' => e = .returned (.string (str (esc ev.text.data.toList))) ∧ Below W.heap.size W w') := fun W => refEscape_any _ W (by omega) (by rw [str_size] at hes; omega)
  have HV : Hid (EvAt (w.alloc (.cells ev.vals 27)) w.heap.size ev) := EvAt.new w ev
  obtain ⟨E, hE⟩ : ∃ E, str (esc ev.text.data.toList) = E := ⟨_, rfl⟩
  have HEE : Hid (str (esc ev.text.data.toList) = E) := hE
  rw [hE] at HCn hes
  clear hE
  by_cases h : 0 ≤ ev.text.size ∧ ev.text.size ≤ 1024
  · have HT : Ch.T .qm ev = some (esc ev.text.data.toList) := if_pos h
    rw [HT]
    clear HT hf
    unfold Ev.vals at HV ⊢
    go_enter Tryz.func150, Tryz.ntmps150
    go_wp2_with fail
    go_region_held3 (fun W' => W'.cell? ⟨w.heap.size, 10, none⟩ = some (.string ev.text)) (go_keep) ((go_at_call 115; refine (HCn.out _).mono ?_; rintro e w1 ⟨rfl, hb1⟩; have hq : w1.cell? ⟨w.heap.size, 10, none⟩ = some (.string ev.text) := (HV.out.drew.below hb1 HV.out.lt).cell 10; have HB : Hid (Below w.heap.size w w1) := (below1 _ _).drew.trans (hb1.mono (by simp)); clear hb1))
    all_goals go_wp2
    all_goals go_ret2
    all_goals exact part_yes _ _ HEE.out (by simp; omega) HB.out
  · have HT : Ch.T .qm ev = none := if_neg h
    rw [HT]
    clear HT hf
    unfold Ev.vals at HV ⊢
    go_enter Tryz.func150, Tryz.ntmps150
    go_wp2_with fail
    go_region_held3 (fun W' => W'.cell? ⟨w.heap.size, 10, none⟩ = some (.string ev.text)) (go_keep) ((go_at_call 115; refine (HCn.out _).mono ?_; rintro e w1 ⟨rfl, hb1⟩; have hq : w1.cell? ⟨w.heap.size, 10, none⟩ = some (.string ev.text) := (HV.out.drew.below hb1 HV.out.lt).cell 10; have HB : Hid (Below w.heap.size w w1) := (below1 _ _).drew.trans (hb1.mono (by simp)); clear hb1))
    all_goals go_wp2
    all_goals go_ret2
    all_goals exact part_no _ _ (by simp; omega) HB.out

set_option maxHeartbeats 2000000 in
theorem part_qx (ev : Ev) (hf : ev.Fits) (w : World) : Calls Tryz.prog 150 #[.agg ev.vals, .int .u8 120] w (PartPost (Ch.T .qx ev) w) := by
  have hs := hf.text
  unfold slim at hs
  have hes : (str (esc ev.text.data.toList)).size ≤ 8388608 := by have := (esc_length ev.text.data.toList).2; rw [size_data] at this; rw [str_size]; omega
  have HCn : Hid (∀ W, Calls Tryz.prog 115 #[.string ev.text] W fun e w' => e = .returned (.string (str (esc ev.text.data.toList))) ∧ Below W.heap.size W w') := fun W => refEscape_any _ W (by omega) (by rw [str_size] at hes; omega)
  have HV : Hid (EvAt (w.alloc (.cells ev.vals 27)) w.heap.size ev) := EvAt.new w ev
  obtain ⟨E, hE⟩ : ∃ E, str (esc ev.text.data.toList) = E := ⟨_, rfl⟩
  have HEE : Hid (str (esc ev.text.data.toList) = E) := hE
  rw [hE] at HCn hes
  clear hE
  by_cases h : 0 ≤ ev.text.size ∧ ev.text.size ≤ 1024
  · have HT : Ch.T .qx ev = some (esc ev.text.data.toList) := if_pos h
    rw [HT]
    clear HT hf
    unfold Ev.vals at HV ⊢
    go_enter Tryz.func150, Tryz.ntmps150
    go_wp2_with fail
    go_region_held3 (fun W' => W'.cell? ⟨w.heap.size, 10, none⟩ = some (.string ev.text)) (go_keep) ((go_at_call 115; refine (HCn.out _).mono ?_; rintro e w1 ⟨rfl, hb1⟩; have hq : w1.cell? ⟨w.heap.size, 10, none⟩ = some (.string ev.text) := (HV.out.drew.below hb1 HV.out.lt).cell 10; have HB : Hid (Below w.heap.size w w1) := (below1 _ _).drew.trans (hb1.mono (by simp)); clear hb1))
    all_goals go_wp2
    all_goals go_ret2
    all_goals exact part_yes _ _ HEE.out (by simp; omega) HB.out
  · have HT : Ch.T .qx ev = none := if_neg h
    rw [HT]
    clear HT hf
    unfold Ev.vals at HV ⊢
    go_enter Tryz.func150, Tryz.ntmps150
    go_wp2_with fail
    go_region_held3 (fun W' => W'.cell? ⟨w.heap.size, 10, none⟩ = some (.string ev.text)) (go_keep) ((go_at_call 115; refine (HCn.out _).mono ?_; rintro e w1 ⟨rfl, hb1⟩; have hq : w1.cell? ⟨w.heap.size, 10, none⟩ = some (.string ev.text) := (HV.out.drew.below hb1 HV.out.lt).cell 10; have HB : Hid (Below w.heap.size w w1) := (below1 _ _).drew.trans (hb1.mono (by simp)); clear hb1))
    all_goals go_wp2
    all_goals go_ret2
    all_goals exact part_no _ _ (by simp; omega) HB.out

end Go.Proofs.YtplolaondmeccaaGreatDoor

namespace Go.Proofs.YtplolaondmeccaaGreatDoor
open Go.RowKit
set_option linter.unusedVariables false
set_option maxRecDepth 20000

set_option maxHeartbeats 2000000 in
theorem part_qv (ev : Ev) (hf : ev.Fits) (w : World) : Calls Tryz.prog 150 #[.agg ev.vals, .int .u8 118] w (PartPost (Ch.T .qv ev) w) := by
  have hs := hf.text
  unfold slim at hs
  have hes : (str (esc ev.text.data.toList)).size ≤ 8388608 := by have := (esc_length ev.text.data.toList).2; rw [size_data] at this; rw [str_size]; omega
  have HCn : Hid (∀ W, Calls Tryz.prog 115 #[.string ev.text] W fun e w' => e = .returned (.string (str (esc ev.text.data.toList))) ∧ Below W.heap.size W w') := fun W => refEscape_any _ W (by omega) (by rw [str_size] at hes; omega)
  have HV : Hid (EvAt (w.alloc (.cells ev.vals 27)) w.heap.size ev) := EvAt.new w ev
  have HEE : Hid (str (58 :: 32 :: esc ev.text.data.toList) = (⟨#[58, 32]⟩ : ByteArray) ++ str (esc ev.text.data.toList)) := (str_cat [58, 32] _).symm
  obtain ⟨E, hE⟩ : ∃ E, str (esc ev.text.data.toList) = E := ⟨_, rfl⟩
  rw [hE] at HCn hes HEE
  clear hE
  have hz2 : (⟨#[58, 32]⟩ : ByteArray).size = 2 := rfl
  by_cases h : 0 ≤ ev.text.size ∧ ev.text.size ≤ 1024
  · have HT : Ch.T .qv ev = some (58 :: 32 :: esc ev.text.data.toList) := by
      show Option.map _ (if 0 ≤ ev.text.size ∧ ev.text.size ≤ 1024 then _ else _) = _
      rw [if_pos h]
      rfl
    rw [HT]
    clear HT hf
    unfold Ev.vals at HV ⊢
    go_enter Tryz.func150, Tryz.ntmps150
    go_wp2_with fail
    go_region_with ((go_at_call 115; refine (HCn.out _).mono ?_; rintro e w1 ⟨rfl, hb1⟩; have hq : w1.cell? ⟨w.heap.size, 10, none⟩ = some (.string ev.text) := (HV.out.drew.below hb1 HV.out.lt).cell 10; have HB : Hid (Below w.heap.size w w1) := (below1 _ _).drew.trans (hb1.mono (by simp)); clear hb1))
    all_goals go_wp2
    all_goals go_ret2
    all_goals exact part_yes _ _ HEE.out (by simp; omega) HB.out
  · have HT : Ch.T .qv ev = none := by
      show Option.map _ (if 0 ≤ ev.text.size ∧ ev.text.size ≤ 1024 then _ else _) = _
      rw [if_neg h]
      rfl
    rw [HT]
    clear HT hf
    unfold Ev.vals at HV ⊢
    go_enter Tryz.func150, Tryz.ntmps150
    go_wp2_with fail
    go_region_with ((go_at_call 115; refine (HCn.out _).mono ?_; rintro e w1 ⟨rfl, hb1⟩; have hq : w1.cell? ⟨w.heap.size, 10, none⟩ = some (.string ev.text) := (HV.out.drew.below hb1 HV.out.lt).cell 10; have HB : Hid (Below w.heap.size w w1) := (below1 _ _).drew.trans (hb1.mono (by simp)); clear hb1))
    all_goals go_wp2
    all_goals go_ret2
    all_goals exact part_no _ _ (by simp; omega) HB.out

end Go.Proofs.YtplolaondmeccaaGreatDoor

namespace Go.Proofs.YtplolaondmeccaaGreatDoor
open Go.RowKit
set_option linter.unusedVariables false
set_option maxRecDepth 20000

set_option maxHeartbeats 2000000 in
theorem part_qd (ev : Ev) (hf : ev.Fits) (w : World) : Calls Tryz.prog 150 #[.agg ev.vals, .int .u8 100] w (PartPost (Ch.T .qd ev) w) := by
  have hs := hf.text
  unfold slim at hs
  have hes : (str (esc ev.text.data.toList)).size ≤ 8388608 := by have := (esc_length ev.text.data.toList).2; rw [size_data] at this; rw [str_size]; omega
  have HCn : Hid (∀ W, Calls Tryz.prog 115 #[.string ev.text] W fun e w' => e = .returned (.string (str (esc ev.text.data.toList))) ∧ Below W.heap.size W w') := fun W => refEscape_any _ W (by omega) (by rw [str_size] at hes; omega)
  have HV : Hid (EvAt (w.alloc (.cells ev.vals 27)) w.heap.size ev) := EvAt.new w ev
  obtain ⟨E, hE⟩ : ∃ E, str (esc ev.text.data.toList) = E := ⟨_, rfl⟩
  have HEE : Hid (str (esc ev.text.data.toList) = E) := hE
  rw [hE] at HCn hes
  clear hE
  by_cases h1 : 1 ≤ (ev.text.size : Int)
  · by_cases h2 : (ev.text.size : Int) ≤ 256
    · have HT : Ch.T .qd ev = some (esc ev.text.data.toList) := if_pos ⟨by omega, by omega⟩
      rw [HT]
      clear HT hf
      unfold Ev.vals at HV ⊢
      go_enter Tryz.func150, Tryz.ntmps150
      go_wp2_with fail
      go_region_held3 (fun W' => W'.cell? ⟨w.heap.size, 10, none⟩ = some (.string ev.text)) (go_keep) ((go_at_call 115; refine (HCn.out _).mono ?_; rintro e w1 ⟨rfl, hb1⟩; have hq : w1.cell? ⟨w.heap.size, 10, none⟩ = some (.string ev.text) := (HV.out.drew.below hb1 HV.out.lt).cell 10; have HB : Hid (Below w.heap.size w w1) := (below1 _ _).drew.trans (hb1.mono (by simp)); clear hb1))
      all_goals go_wp2
      all_goals go_ret2
      all_goals exact part_yes _ _ HEE.out (by simp) HB.out
    · have HT : Ch.T .qd ev = none := if_neg (fun h => h2 (by omega))
      rw [HT]
      clear HT hf
      unfold Ev.vals at HV ⊢
      go_enter Tryz.func150, Tryz.ntmps150
      go_wp2_with fail
      go_region_held3 (fun W' => W'.cell? ⟨w.heap.size, 10, none⟩ = some (.string ev.text)) (go_keep) ((go_at_call 115; refine (HCn.out _).mono ?_; rintro e w1 ⟨rfl, hb1⟩; have hq : w1.cell? ⟨w.heap.size, 10, none⟩ = some (.string ev.text) := (HV.out.drew.below hb1 HV.out.lt).cell 10; have HB : Hid (Below w.heap.size w w1) := (below1 _ _).drew.trans (hb1.mono (by simp)); clear hb1))
      all_goals go_wp2
      all_goals go_ret2
      all_goals exact part_no _ _ (by simp; omega) HB.out
  · have HT : Ch.T .qd ev = none := if_neg (fun h => h1 (by omega))
    have hte : ev.text = ⟨#[]⟩ := empty_text (by omega)
    rw [HT]
    obtain ⟨kd, a1, a2, a3, a4, a5, a6, a7, a8, a9, tx, a11, a12, zm⟩ := ev
    have hte' : tx = ⟨#[]⟩ := hte
    subst hte'
    clear hte h1 hs hes HEE
    clear HT hf
    unfold Ev.vals at HV ⊢
    go_enter Tryz.func150, Tryz.ntmps150
    go_wp2_with fail
    refine wp_region_noPanic ?_
    refine wp_region_held_drew (S := (fun W' => W'.cell? ⟨w.heap.size, 10, none⟩ = some (.string ⟨#[]⟩))) (by kernel_rfl) ?_ (fun hHeld => ?_)
    · go_keep
    refine wpAnyH_take (i := 0) (v := ?v0) (by simp only [List.getElem?_toArray, List.getElem?_cons_zero]; rfl) (by kernel_rfl) (by kernel_rfl) (by kernel_rfl) (fun _ _ _ h => h) (Or.inl ⟨by rfl, ?hy0⟩) (by assumption) ?rest0
    case hy0 =>
      intro w hSw
      try dsimp only at hSw
      go_simp
      try with_reducible rfl
    try simp only [Act.put, List.setIfInBounds_toArray, List.set_cons_zero, List.set_cons_succ]
    refine wpAnyH_take (i := 1) (v := ?v1) (by simp only [List.getElem?_toArray, List.getElem?_cons_succ, List.getElem?_cons_zero]; rfl) (by kernel_rfl) (by kernel_rfl) (by kernel_rfl) (fun _ _ _ h => h) (Or.inl ⟨by rfl, ?hy1⟩) (by assumption) ?rest1
    case hy1 =>
      intro w hSw
      try dsimp only at hSw
      go_simp
      try with_reducible rfl
    try simp only [Act.put, List.setIfInBounds_toArray, List.set_cons_zero, List.set_cons_succ]
    refine wpAnyH_take (i := 3) (v := ?v3) (by simp only [List.getElem?_toArray, List.getElem?_cons_succ, List.getElem?_cons_zero]; rfl) (by kernel_rfl) (by kernel_rfl) (by kernel_rfl) (fun _ _ _ h => h) (Or.inl ⟨by rfl, ?hy3⟩) (by assumption) ?rest3
    case hy3 =>
      intro w hSw
      try dsimp only at hSw
      go_simp
      try with_reducible rfl
    try simp only [Act.put, List.setIfInBounds_toArray, List.set_cons_zero, List.set_cons_succ]
    refine wpAnyH_take (i := 4) (v := ?v4) (by simp only [List.getElem?_toArray, List.getElem?_cons_succ, List.getElem?_cons_zero]; rfl) (by kernel_rfl) (by kernel_rfl) (by kernel_rfl) (fun _ _ _ h => h) (Or.inl ⟨by rfl, ?hy4⟩) (by assumption) ?rest4
    case hy4 =>
      intro w hSw
      try dsimp only at hSw
      go_simp
      try with_reducible rfl
    try simp only [Act.put, List.setIfInBounds_toArray, List.set_cons_zero, List.set_cons_succ]
    refine wpAnyH_take (i := 5) (v := ?v5) (by simp only [List.getElem?_toArray, List.getElem?_cons_succ, List.getElem?_cons_zero]; rfl) (by kernel_rfl) (by kernel_rfl) (by kernel_rfl) (fun _ _ _ h => h) (Or.inl ⟨by rfl, ?hy5⟩) (by assumption) ?rest5
    case hy5 =>
      intro w hSw
      try dsimp only at hSw
      go_simp
      try with_reducible rfl
    try simp only [Act.put, List.setIfInBounds_toArray, List.set_cons_zero, List.set_cons_succ]
    refine wpAnyH_take (i := 6) (v := ?v6) (by simp only [List.getElem?_toArray, List.getElem?_cons_succ, List.getElem?_cons_zero]; rfl) (by kernel_rfl) (by kernel_rfl) (by kernel_rfl) (fun _ _ _ h => h) (Or.inl ⟨by rfl, ?hy6⟩) (by assumption) ?rest6
    case hy6 =>
      intro w hSw
      try dsimp only at hSw
      go_simp
      try with_reducible rfl
    try simp only [Act.put, List.setIfInBounds_toArray, List.set_cons_zero, List.set_cons_succ]
    refine wpAnyH_ready (rs := [2]) (by kernel_rfl) (by simp) ?_
    refine AllReadyH.cons (by simp only [List.getElem?_toArray, List.getElem?_cons_succ, List.getElem?_cons_zero]; rfl) (fun K hK => ?_) AllReadyH.nil
    go_simp
    (go_at_call 115; refine (HCn.out _).mono ?_; rintro e w1 ⟨rfl, hb1⟩; have hq : w1.cell? ⟨w.heap.size, 10, none⟩ = some (.string ⟨#[]⟩) := (HV.out.drew.below hb1 HV.out.lt).cell 10; have HB : Hid (Below w.heap.size w w1) := (below1 _ _).drew.trans (hb1.mono (by simp)); clear hb1)
    go_wp2_with fail
    refine hK.out _ _ ?_ (fun hHeld2 => ?_)
    · go_keep
    clear hK K hHeld
    try simp only [Act.put, List.setIfInBounds_toArray, List.set_cons_zero, List.set_cons_succ]
    refine wpAnyH_take (i := 7) (v := ?v7) (by simp only [List.getElem?_toArray, List.getElem?_cons_succ, List.getElem?_cons_zero]; rfl) (by kernel_rfl) (by kernel_rfl) (by kernel_rfl) (fun _ _ _ h => h) (Or.inl ⟨by rfl, ?hy7⟩) (by assumption) ?rest7
    case hy7 =>
      intro w hSw
      try dsimp only at hSw
      go_simp
      try with_reducible rfl
    try simp only [Act.put, List.setIfInBounds_toArray, List.set_cons_zero, List.set_cons_succ]
    refine wpAnyH_take (i := 8) (v := undef) (by simp only [List.getElem?_toArray, List.getElem?_cons_succ, List.getElem?_cons_zero]; rfl) (by kernel_rfl) (by kernel_rfl) (by kernel_rfl) (fun _ _ _ h => h) (Or.inr ⟨by rfl, rfl⟩) (by assumption) ?_
    try simp only [Act.put, List.setIfInBounds_toArray, List.set_cons_zero, List.set_cons_succ]
    refine wpAnyH_take (i := 9) (v := undef) (by simp only [List.getElem?_toArray, List.getElem?_cons_succ, List.getElem?_cons_zero]; rfl) (by kernel_rfl) (by kernel_rfl) (by kernel_rfl) (fun _ _ _ h => h) (Or.inr ⟨by rfl, rfl⟩) (by assumption) ?_
    try simp only [Act.put, List.setIfInBounds_toArray, List.set_cons_zero, List.set_cons_succ]
    refine wpAnyH_take (i := 10) (v := undef) (by simp only [List.getElem?_toArray, List.getElem?_cons_succ, List.getElem?_cons_zero]; rfl) (by kernel_rfl) (by kernel_rfl) (by kernel_rfl) (fun _ _ _ h => h) (Or.inr ⟨by rfl, rfl⟩) (by assumption) ?_
    try simp only [Act.put, List.setIfInBounds_toArray, List.set_cons_zero, List.set_cons_succ]
    refine wpAnyH_take (i := 11) (v := undef) (by simp only [List.getElem?_toArray, List.getElem?_cons_succ, List.getElem?_cons_zero]; rfl) (by kernel_rfl) (by kernel_rfl) (by kernel_rfl) (fun _ _ _ h => h) (Or.inr ⟨by rfl, rfl⟩) (by assumption) ?_
    try simp only [Act.put, List.setIfInBounds_toArray, List.set_cons_zero, List.set_cons_succ]
    refine wpAnyH_take (i := 12) (v := ?v12) (by simp only [List.getElem?_toArray, List.getElem?_cons_succ, List.getElem?_cons_zero]; rfl) (by kernel_rfl) (by kernel_rfl) (by kernel_rfl) (fun _ _ _ h => h) (Or.inl ⟨by rfl, ?hy12⟩) (by assumption) ?rest12
    case hy12 =>
      intro w hSw
      try dsimp only at hSw
      go_simp
      try with_reducible rfl
    try simp only [Act.put, List.setIfInBounds_toArray, List.set_cons_zero, List.set_cons_succ]
    refine wpAnyH_take (i := 13) (v := ?v13) (by simp only [List.getElem?_toArray, List.getElem?_cons_succ, List.getElem?_cons_zero]; rfl) (by kernel_rfl) (by kernel_rfl) (by kernel_rfl) (fun _ _ _ h => h) (Or.inl ⟨by rfl, ?hy13⟩) (by assumption) ?rest13
    case hy13 =>
      intro w hSw
      try dsimp only at hSw
      go_simp
      try with_reducible rfl
    try simp only [Act.put, List.setIfInBounds_toArray, List.set_cons_zero, List.set_cons_succ]
    refine wpAnyH_take (i := 14) (v := ?v14) (by simp only [List.getElem?_toArray, List.getElem?_cons_succ, List.getElem?_cons_zero]; rfl) (by kernel_rfl) (by kernel_rfl) (by kernel_rfl) (fun _ _ _ h => h) (Or.inl ⟨by rfl, ?hy14⟩) (by assumption) ?rest14
    case hy14 =>
      intro w hSw
      try dsimp only at hSw
      go_simp
      try with_reducible rfl
    try simp only [Act.put, List.setIfInBounds_toArray, List.set_cons_zero, List.set_cons_succ]
    refine wpAnyH_done (by kernel_rfl) ?_ _
    refine NoPanic.normal ?_
    all_goals go_wp2
    all_goals go_ret2
    all_goals exact part_no _ _ rfl HB.out

end Go.Proofs.YtplolaondmeccaaGreatDoor
