/-
  The document's part: one thing of an event, as it is written.
-/
import Derived.Test.YtlgkdnmhoboinaaGreatDoorRPartA
import Derived.Test.YtlgkdnmhoboinaaGreatDoorWRowD
import Derived.WalkKit
import Derived.RegionTactic
import Derived.Deep.RegionWith
import Derived.Deep.DrawnRows
import Derived.Deep.QuietTactic
import Derived.BigQuiet
namespace Go.Proofs.YtlgkdnmhoboinaaGreatDoor
open Go.RowKit
set_option linter.unusedVariables false
set_option maxRecDepth 20000

def PartPost (o : Option (List UInt8)) (w : World) (e : Ending) (w' : World) : Prop :=
  (match o with
    | some t => e = .returned (.tuple #[.string (str t), .bool true])
    | none => ∃ s, e = .returned (.tuple #[.string s, .bool false])) ∧ Below w.heap.size w w'
theorem putL_full {n : Int} (h : 0 ≤ n ∧ n ≤ 4611686018427387904) : putL n ≠ [] := by
  rw [putL_in h]
  exact dec_ne _
theorem count_in (n m : Int) (h : 0 ≤ n ∧ n ≤ m) (hm : m ≤ 4611686018427387904) (W : World) :
    Calls Tryz.prog 77 #[.int .i64 n, .int .i64 m] W fun e w' => e = .returned (.string (str (putL n))) ∧ Below W.heap.size W w' := by
  have := count_any n m W (by omega) (by omega)
  rwa [if_neg (by omega)] at this
theorem count_out (n m : Int) (h : ¬ (0 ≤ n ∧ n ≤ m)) (h0 : -9223372036854775808 ≤ n) (h1 : n ≤ 9223372036854775807) (W : World) :
    Calls Tryz.prog 77 #[.int .i64 n, .int .i64 m] W fun e w' => e = .returned (.string ⟨#[]⟩) ∧ Below W.heap.size W w' := by
  have := count_any n m W h0 h1
  have e : (if m < n then [] else putL n) = [] := by
    by_cases hm : m < n
    · rw [if_pos hm]
    · rw [if_neg hm]
      exact putL_out (by omega)
  rw [e] at this
  exact this
theorem id_in (c : UInt8) (n : Int) (h : 1 ≤ n ∧ n ≤ 4611686018427387904) (W : World) :
    Calls Tryz.prog 78 #[.int .u8 c.toNat, .int .i64 n] W fun e w' => e = .returned (.string (str (putI c n))) ∧ Below W.heap.size W w' := refPutId_any c n W (by omega) (by omega)
theorem id_out (c : UInt8) (n : Int) (h : ¬ (1 ≤ n ∧ n ≤ 4611686018427387904)) (h0 : -9223372036854775808 ≤ n) (h1 : n ≤ 9223372036854775807) (W : World) :
    Calls Tryz.prog 78 #[.int .u8 c.toNat, .int .i64 n] W fun e w' => e = .returned (.string ⟨#[]⟩) ∧ Below W.heap.size W w' := by
  have := refPutId_any c n W h0 h1
  rw [putI_out h] at this
  exact this

theorem part_t (ev : Ev) (hf : ev.Fits) (w : World) : Calls Tryz.prog 49 #[.agg ev.vals, .int .u8 116] w (PartPost (Ch.T .qt ev) w) := by
  have hr : -9223372036854775808 ≤ ev.tick ∧ ev.tick ≤ 9223372036854775807 := hf.num .tick
  by_cases h : 0 ≤ ev.tick ∧ ev.tick ≤ 4611686018427387904
  · have HT : Ch.T .qt ev = some (putL ev.tick) := if_pos h
    rw [HT]
    have HCn : Hid (∀ W, Calls Tryz.prog 77 #[.int .i64 ev.tick, .int .i64 4611686018427387904] W fun e w' => e = .returned (.string (str (putL ev.tick))) ∧ Below W.heap.size W w') := count_in _ _ h (by decide)
    obtain ⟨z1, z2⟩ := str_ne (putL_full ⟨h.1, by omega⟩)
    clear HT h hr hf
    unfold Ev.vals
    go_enter Tryz.func49, Tryz.ntmps49
    go_wp2_with (go_at_call 77; refine (HCn.out _).mono ?_; rintro e w1 ⟨rfl, hb1⟩; have HB : Hid (Below w.heap.size w w1) := below_step (below1 _ _) hb1; clear hb1)
    all_goals go_ret2
    all_goals exact ⟨rfl, HB.out⟩
  · have HT : Ch.T .qt ev = none := if_neg h
    rw [HT]
    have HCn : Hid (∀ W, Calls Tryz.prog 77 #[.int .i64 ev.tick, .int .i64 4611686018427387904] W fun e w' => e = .returned (.string ⟨#[]⟩) ∧ Below W.heap.size W w') := count_out _ _ h hr.1 hr.2
    clear HT h hr hf
    unfold Ev.vals
    go_enter Tryz.func49, Tryz.ntmps49
    go_wp2_with (go_at_call 77; refine (HCn.out _).mono ?_; rintro e w1 ⟨rfl, hb1⟩; have HB : Hid (Below w.heap.size w w1) := below_step (below1 _ _) hb1; clear hb1)
    all_goals go_ret2
    all_goals exact ⟨⟨_, rfl⟩, HB.out⟩

theorem part_n (ev : Ev) (hf : ev.Fits) (w : World) : Calls Tryz.prog 49 #[.agg ev.vals, .int .u8 110] w (PartPost (Ch.T .qn ev) w) := by
  have hr : -9223372036854775808 ≤ ev.number ∧ ev.number ≤ 9223372036854775807 := hf.num .number
  by_cases h : 0 ≤ ev.number ∧ ev.number ≤ 4611686018427387904
  · have HT : Ch.T .qn ev = some (putL ev.number) := if_pos h
    rw [HT]
    have HCn : Hid (∀ W, Calls Tryz.prog 77 #[.int .i64 ev.number, .int .i64 4611686018427387904] W fun e w' => e = .returned (.string (str (putL ev.number))) ∧ Below W.heap.size W w') := count_in _ _ h (by decide)
    obtain ⟨z1, z2⟩ := str_ne (putL_full ⟨h.1, by omega⟩)
    clear HT h hr hf
    unfold Ev.vals
    go_enter Tryz.func49, Tryz.ntmps49
    go_wp2_with (go_at_call 77; refine (HCn.out _).mono ?_; rintro e w1 ⟨rfl, hb1⟩; have HB : Hid (Below w.heap.size w w1) := below_step (below1 _ _) hb1; clear hb1)
    all_goals go_ret2
    all_goals exact ⟨rfl, HB.out⟩
  · have HT : Ch.T .qn ev = none := if_neg h
    rw [HT]
    have HCn : Hid (∀ W, Calls Tryz.prog 77 #[.int .i64 ev.number, .int .i64 4611686018427387904] W fun e w' => e = .returned (.string ⟨#[]⟩) ∧ Below W.heap.size W w') := count_out _ _ h hr.1 hr.2
    clear HT h hr hf
    unfold Ev.vals
    go_enter Tryz.func49, Tryz.ntmps49
    go_wp2_with (go_at_call 77; refine (HCn.out _).mono ?_; rintro e w1 ⟨rfl, hb1⟩; have HB : Hid (Below w.heap.size w w1) := below_step (below1 _ _) hb1; clear hb1)
    all_goals go_ret2
    all_goals exact ⟨⟨_, rfl⟩, HB.out⟩

theorem part_f (ev : Ev) (hf : ev.Fits) (w : World) : Calls Tryz.prog 49 #[.agg ev.vals, .int .u8 102] w (PartPost (Ch.T .qf ev) w) := by
  have hr : -9223372036854775808 ≤ ev.flag ∧ ev.flag ≤ 9223372036854775807 := hf.num .flag
  by_cases h : 0 ≤ ev.flag ∧ ev.flag ≤ 1
  · have HT : Ch.T .qf ev = some (putL ev.flag) := if_pos h
    rw [HT]
    have HCn : Hid (∀ W, Calls Tryz.prog 77 #[.int .i64 ev.flag, .int .i64 1] W fun e w' => e = .returned (.string (str (putL ev.flag))) ∧ Below W.heap.size W w') := count_in _ _ h (by decide)
    obtain ⟨z1, z2⟩ := str_ne (putL_full ⟨h.1, by omega⟩)
    clear HT h hr hf
    unfold Ev.vals
    go_enter Tryz.func49, Tryz.ntmps49
    go_wp2_with (go_at_call 77; refine (HCn.out _).mono ?_; rintro e w1 ⟨rfl, hb1⟩; have HB : Hid (Below w.heap.size w w1) := below_step (below1 _ _) hb1; clear hb1)
    all_goals go_ret2
    all_goals exact ⟨rfl, HB.out⟩
  · have HT : Ch.T .qf ev = none := if_neg h
    rw [HT]
    have HCn : Hid (∀ W, Calls Tryz.prog 77 #[.int .i64 ev.flag, .int .i64 1] W fun e w' => e = .returned (.string ⟨#[]⟩) ∧ Below W.heap.size W w') := count_out _ _ h hr.1 hr.2
    clear HT h hr hf
    unfold Ev.vals
    go_enter Tryz.func49, Tryz.ntmps49
    go_wp2_with (go_at_call 77; refine (HCn.out _).mono ?_; rintro e w1 ⟨rfl, hb1⟩; have HB : Hid (Below w.heap.size w w1) := below_step (below1 _ _) hb1; clear hb1)
    all_goals go_ret2
    all_goals exact ⟨⟨_, rfl⟩, HB.out⟩

theorem part_o (ev : Ev) (hf : ev.Fits) (w : World) : Calls Tryz.prog 49 #[.agg ev.vals, .int .u8 111] w (PartPost (Ch.T .qo ev) w) := by
  have hr : -9223372036854775808 ≤ ev.offset ∧ ev.offset ≤ 9223372036854775807 := hf.num .offset
  by_cases h : 0 ≤ ev.offset ∧ ev.offset ≤ 4611686018427387904
  · have HT : Ch.T .qo ev = some (putL ev.offset) := if_pos h
    rw [HT]
    have HCn : Hid (∀ W, Calls Tryz.prog 77 #[.int .i64 ev.offset, .int .i64 4611686018427387904] W fun e w' => e = .returned (.string (str (putL ev.offset))) ∧ Below W.heap.size W w') := count_in _ _ h (by decide)
    obtain ⟨z1, z2⟩ := str_ne (putL_full ⟨h.1, by omega⟩)
    clear HT h hr hf
    unfold Ev.vals
    go_enter Tryz.func49, Tryz.ntmps49
    go_wp2_with (go_at_call 77; refine (HCn.out _).mono ?_; rintro e w1 ⟨rfl, hb1⟩; have HB : Hid (Below w.heap.size w w1) := below_step (below1 _ _) hb1; clear hb1)
    all_goals go_ret2
    all_goals exact ⟨rfl, HB.out⟩
  · have HT : Ch.T .qo ev = none := if_neg h
    rw [HT]
    have HCn : Hid (∀ W, Calls Tryz.prog 77 #[.int .i64 ev.offset, .int .i64 4611686018427387904] W fun e w' => e = .returned (.string ⟨#[]⟩) ∧ Below W.heap.size W w') := count_out _ _ h hr.1 hr.2
    clear HT h hr hf
    unfold Ev.vals
    go_enter Tryz.func49, Tryz.ntmps49
    go_wp2_with (go_at_call 77; refine (HCn.out _).mono ?_; rintro e w1 ⟨rfl, hb1⟩; have HB : Hid (Below w.heap.size w w1) := below_step (below1 _ _) hb1; clear hb1)
    all_goals go_ret2
    all_goals exact ⟨⟨_, rfl⟩, HB.out⟩

theorem part_i (ev : Ev) (hf : ev.Fits) (w : World) : Calls Tryz.prog 49 #[.agg ev.vals, .int .u8 105] w (PartPost (Ch.T .qi ev) w) := by
  have hr : -9223372036854775808 ≤ ev.index ∧ ev.index ≤ 9223372036854775807 := hf.num .index
  by_cases h : 0 ≤ ev.index ∧ ev.index ≤ 9999
  · have HT : Ch.T .qi ev = some (putL ev.index) := if_pos h
    rw [HT]
    have HCn : Hid (∀ W, Calls Tryz.prog 77 #[.int .i64 ev.index, .int .i64 9999] W fun e w' => e = .returned (.string (str (putL ev.index))) ∧ Below W.heap.size W w') := count_in _ _ h (by decide)
    obtain ⟨z1, z2⟩ := str_ne (putL_full ⟨h.1, by omega⟩)
    clear HT h hr hf
    unfold Ev.vals
    go_enter Tryz.func49, Tryz.ntmps49
    go_wp2_with (go_at_call 77; refine (HCn.out _).mono ?_; rintro e w1 ⟨rfl, hb1⟩; have HB : Hid (Below w.heap.size w w1) := below_step (below1 _ _) hb1; clear hb1)
    all_goals go_ret2
    all_goals exact ⟨rfl, HB.out⟩
  · have HT : Ch.T .qi ev = none := if_neg h
    rw [HT]
    have HCn : Hid (∀ W, Calls Tryz.prog 77 #[.int .i64 ev.index, .int .i64 9999] W fun e w' => e = .returned (.string ⟨#[]⟩) ∧ Below W.heap.size W w') := count_out _ _ h hr.1 hr.2
    clear HT h hr hf
    unfold Ev.vals
    go_enter Tryz.func49, Tryz.ntmps49
    go_wp2_with (go_at_call 77; refine (HCn.out _).mono ?_; rintro e w1 ⟨rfl, hb1⟩; have HB : Hid (Below w.heap.size w w1) := below_step (below1 _ _) hb1; clear hb1)
    all_goals go_ret2
    all_goals exact ⟨⟨_, rfl⟩, HB.out⟩

theorem part_s (ev : Ev) (hf : ev.Fits) (w : World) : Calls Tryz.prog 49 #[.agg ev.vals, .int .u8 115] w (PartPost (Ch.T .qs ev) w) := by
  have hr : -9223372036854775808 ≤ ev.session ∧ ev.session ≤ 9223372036854775807 := hf.num .session
  by_cases h : 1 ≤ ev.session ∧ ev.session ≤ 4611686018427387904
  · have HT : Ch.T .qs ev = some (putI 36 ev.session) := if_pos h
    rw [HT]
    have HCn : Hid (∀ W, Calls Tryz.prog 78 #[.int .u8 36, .int .i64 ev.session] W fun e w' => e = .returned (.string (str (putI 36 ev.session))) ∧ Below W.heap.size W w') := id_in 36 _ h
    obtain ⟨z1, z2⟩ := str_ne (show putI 36 ev.session ≠ [] by rw [putI_in h]; exact fun h => by cases h)
    clear HT h hr hf
    unfold Ev.vals
    go_enter Tryz.func49, Tryz.ntmps49
    go_wp2_with (go_at_call 78; refine (HCn.out _).mono ?_; rintro e w1 ⟨rfl, hb1⟩; have HB : Hid (Below w.heap.size w w1) := below_step (below1 _ _) hb1; clear hb1)
    all_goals go_ret2
    all_goals exact ⟨rfl, HB.out⟩
  · have HT : Ch.T .qs ev = none := if_neg h
    rw [HT]
    have HCn : Hid (∀ W, Calls Tryz.prog 78 #[.int .u8 36, .int .i64 ev.session] W fun e w' => e = .returned (.string ⟨#[]⟩) ∧ Below W.heap.size W w') := id_out 36 _ h hr.1 hr.2
    clear HT h hr hf
    unfold Ev.vals
    go_enter Tryz.func49, Tryz.ntmps49
    go_wp2_with (go_at_call 78; refine (HCn.out _).mono ?_; rintro e w1 ⟨rfl, hb1⟩; have HB : Hid (Below w.heap.size w w1) := below_step (below1 _ _) hb1; clear hb1)
    all_goals go_ret2
    all_goals exact ⟨⟨_, rfl⟩, HB.out⟩

theorem part_w (ev : Ev) (hf : ev.Fits) (w : World) : Calls Tryz.prog 49 #[.agg ev.vals, .int .u8 119] w (PartPost (Ch.T .qw ev) w) := by
  have hr : -9223372036854775808 ≤ ev.window ∧ ev.window ≤ 9223372036854775807 := hf.num .window
  by_cases h : 1 ≤ ev.window ∧ ev.window ≤ 4611686018427387904
  · have HT : Ch.T .qw ev = some (putI 64 ev.window) := if_pos h
    rw [HT]
    have HCn : Hid (∀ W, Calls Tryz.prog 78 #[.int .u8 64, .int .i64 ev.window] W fun e w' => e = .returned (.string (str (putI 64 ev.window))) ∧ Below W.heap.size W w') := id_in 64 _ h
    obtain ⟨z1, z2⟩ := str_ne (show putI 64 ev.window ≠ [] by rw [putI_in h]; exact fun h => by cases h)
    clear HT h hr hf
    unfold Ev.vals
    go_enter Tryz.func49, Tryz.ntmps49
    go_wp2_with (go_at_call 78; refine (HCn.out _).mono ?_; rintro e w1 ⟨rfl, hb1⟩; have HB : Hid (Below w.heap.size w w1) := below_step (below1 _ _) hb1; clear hb1)
    all_goals go_ret2
    all_goals exact ⟨rfl, HB.out⟩
  · have HT : Ch.T .qw ev = none := if_neg h
    rw [HT]
    have HCn : Hid (∀ W, Calls Tryz.prog 78 #[.int .u8 64, .int .i64 ev.window] W fun e w' => e = .returned (.string ⟨#[]⟩) ∧ Below W.heap.size W w') := id_out 64 _ h hr.1 hr.2
    clear HT h hr hf
    unfold Ev.vals
    go_enter Tryz.func49, Tryz.ntmps49
    go_wp2_with (go_at_call 78; refine (HCn.out _).mono ?_; rintro e w1 ⟨rfl, hb1⟩; have HB : Hid (Below w.heap.size w w1) := below_step (below1 _ _) hb1; clear hb1)
    all_goals go_ret2
    all_goals exact ⟨⟨_, rfl⟩, HB.out⟩

theorem part_p (ev : Ev) (hf : ev.Fits) (w : World) : Calls Tryz.prog 49 #[.agg ev.vals, .int .u8 112] w (PartPost (Ch.T .qp ev) w) := by
  have hr : -9223372036854775808 ≤ ev.pane ∧ ev.pane ≤ 9223372036854775807 := hf.num .pane
  by_cases h : 1 ≤ ev.pane ∧ ev.pane ≤ 4611686018427387904
  · have HT : Ch.T .qp ev = some (putI 37 ev.pane) := if_pos h
    rw [HT]
    have HCn : Hid (∀ W, Calls Tryz.prog 78 #[.int .u8 37, .int .i64 ev.pane] W fun e w' => e = .returned (.string (str (putI 37 ev.pane))) ∧ Below W.heap.size W w') := id_in 37 _ h
    obtain ⟨z1, z2⟩ := str_ne (show putI 37 ev.pane ≠ [] by rw [putI_in h]; exact fun h => by cases h)
    clear HT h hr hf
    unfold Ev.vals
    go_enter Tryz.func49, Tryz.ntmps49
    go_wp2_with (go_at_call 78; refine (HCn.out _).mono ?_; rintro e w1 ⟨rfl, hb1⟩; have HB : Hid (Below w.heap.size w w1) := below_step (below1 _ _) hb1; clear hb1)
    all_goals go_ret2
    all_goals exact ⟨rfl, HB.out⟩
  · have HT : Ch.T .qp ev = none := if_neg h
    rw [HT]
    have HCn : Hid (∀ W, Calls Tryz.prog 78 #[.int .u8 37, .int .i64 ev.pane] W fun e w' => e = .returned (.string ⟨#[]⟩) ∧ Below W.heap.size W w') := id_out 37 _ h hr.1 hr.2
    clear HT h hr hf
    unfold Ev.vals
    go_enter Tryz.func49, Tryz.ntmps49
    go_wp2_with (go_at_call 78; refine (HCn.out _).mono ?_; rintro e w1 ⟨rfl, hb1⟩; have HB : Hid (Below w.heap.size w w1) := below_step (below1 _ _) hb1; clear hb1)
    all_goals go_ret2
    all_goals exact ⟨⟨_, rfl⟩, HB.out⟩

end Go.Proofs.YtlgkdnmhoboinaaGreatDoor
