/-
  The document's Decode, for every line; its Class; the walks of WireDecodes and WireClasses.
-/
import Derived.Test.YtlgkdnmhoboinaaGreatDoorRDe
import Derived.Test.YtlgkdnmhoboinaaGreatDoorWSure
import Derived.Deep.RegionWith
import Derived.RegionTactic
import Derived.Deep.DrawnRows
namespace Go.Proofs.YtlgkdnmhoboinaaGreatDoor
open Go.RowKit
set_option linter.unusedVariables false
set_option maxRecDepth 20000

theorem refDecode_any (s : ByteArray) (hs : s.size ≤ 1048576) (w : World) :
    Calls Tryz.prog 16 #[.string s] w fun e w' => e = .returned (.agg (decS s.data.toList).vals) ∧ Below w.heap.size w w' := by
  by_cases h0 : s.size = 0
  · exact refDec_body s hs (.inl h0) w
  · by_cases h1 : s[0]'(by omega) = 37
    · exact refDec_sign s hs (by omega) h1 w
    · exact refDec_body s hs (.inr ⟨by omega, h1⟩) w

set_option maxHeartbeats 1000000 in
theorem wireDecodes_walk (a0 : ByteArray) (hsh : a0.size ≤ 1048576) (w : World) (hE : Env w) :
    Calls Tryz.prog 5 #[.string a0] w fun e w' => e = .returned (.bool true) ∧ Below w.heap.size w w' := by
  obtain ⟨ev, hev⟩ : ∃ x, decS a0.data.toList = x := ⟨_, rfl⟩
  have HA : Hid (∀ W, Env W → Calls Tryz.prog 15 #[.string a0] W fun e w' => e = .returned (.agg #[.int .i64 ev.kind, .int .i64 ev.session, .int .i64 ev.window, .int .i64 ev.pane, .int .i64 ev.index, .int .i64 ev.offset, .int .i64 ev.tick, .int .i64 ev.number, .int .i64 ev.flag, .string ev.name, .string ev.text, .string ev.layout, .string ev.visible, .bool ev.zoom]) ∧ Below W.heap.size W w') := fun W hW => by
    have := decode_any a0 (Nat.le_trans hsh (by decide)) W hW
    rw [hev] at this
    exact this
  have HR : Hid (∀ W, Calls Tryz.prog 16 #[.string a0] W fun e w' => e = .returned (.agg #[.int .i64 ev.kind, .int .i64 ev.session, .int .i64 ev.window, .int .i64 ev.pane, .int .i64 ev.index, .int .i64 ev.offset, .int .i64 ev.tick, .int .i64 ev.number, .int .i64 ev.flag, .string ev.name, .string ev.text, .string ev.layout, .string ev.visible, .bool ev.zoom]) ∧ Below W.heap.size W w') := fun W => by
    have := refDecode_any a0 hsh W
    rw [hev] at this
    exact this
  have hEq : ∀ W : World, (Op.equalIn 10000 28 (.agg #[.int .i64 ev.kind, .int .i64 ev.session, .int .i64 ev.window, .int .i64 ev.pane, .int .i64 ev.index, .int .i64 ev.offset, .int .i64 ev.tick, .int .i64 ev.number, .int .i64 ev.flag, .string ev.name, .string ev.text, .string ev.layout, .string ev.visible, .bool ev.zoom]) (.agg #[.int .i64 ev.kind, .int .i64 ev.session, .int .i64 ev.window, .int .i64 ev.pane, .int .i64 ev.index, .int .i64 ev.offset, .int .i64 ev.tick, .int .i64 ev.number, .int .i64 ev.flag, .string ev.name, .string ev.text, .string ev.layout, .string ev.visible, .bool ev.zoom])).run Tryz.prog W = .ok true W := fun W => by
    have := eqEv ev ev W
    rw [(evEq_iff ev ev).2 rfl] at this
    exact this
  have HE : Hid (∀ W, Below w.heap.size w W → Env W) := fun W h => hE.below h
  clear hE hev
  go_enter Tryz.func5, Tryz.ntmps5
  go_wp2_with fail
  refine (HA.out _ (HE.out _ (Below.refl _ _))).mono ?_
  rintro e w1 ⟨rfl, hb1⟩
  have HB1 : Hid (Below w.heap.size w w1) := hb1
  clear hb1 HA
  go_wp2_with fail
  refine (HR.out _).mono ?_
  rintro e w2 ⟨rfl, hb2⟩
  have HB2 : Hid (Below w.heap.size w w2) := below_step HB1.out hb2
  clear hb2 HR
  go_wp2_with fail
  refine (sure_any _ (HE.out _ HB2.out)).mono ?_
  rintro e w3 ⟨rfl, hb3⟩
  have HB3 : Hid (Below w.heap.size w w3) := below_step HB2.out hb3
  clear hb3
  go_wp2
  go_ret
  exact ⟨rfl, HB3.out⟩

/-- The document's Class. -/
theorem refClass_any (s : ByteArray) (hs : s.size ≤ 1048576) (w : World) :
    Calls Tryz.prog 20 #[.string s] w fun e w' => e = .returned (.int .i64 (classK (decS s.data.toList).kind)) ∧ Below w.heap.size w w' := by
  obtain ⟨ev, hev⟩ : ∃ x, decS s.data.toList = x := ⟨_, rfl⟩
  have HR : Hid (∀ W, Calls Tryz.prog 16 #[.string s] W fun e w' => e = .returned (.agg ev.vals) ∧ Below W.heap.size W w') := fun W => by
    have := refDecode_any s hs W
    rw [hev] at this
    exact this
  have hk := run_kind ev
  rw [hev]
  clear hev
  go_enter Tryz.func20, Tryz.ntmps20
  go_wp2_with (go_at_call 16; refine (HR.out _).mono ?_; rintro e w1 ⟨rfl, hb1⟩)
  all_goals go_ret
  all_goals
    refine ⟨ret_int ?_, hb1⟩
    clear HR hk
    simp only [beq_iff_eq, beq_eq_false_iff_ne, ne_eq] at *
    unfold classK
    repeat' split
    all_goals omega

theorem exit_line : encS (Ev.zero 24) = some [37, 101, 120, 105, 116] := by
  have hw : writeS 24 (Ev.zero 24) = [37, 101, 120, 105, 116] := by
    unfold writeS
    rw [show fieldsOf 24 = [fReason] from rfl, List.map_cons, List.map_nil, show joinW [fReason.put (Ev.zero 24)] = fReason.put (Ev.zero 24) by simp [joinW, List.intercalate]]
    rfl
  have hr : readS 24 [37, 101, 120, 105, 116] = some (Ev.zero 24) := by
    unfold readS
    rw [if_pos ⟨[], rfl⟩]
    rfl
  unfold encS
  rw [show (Ev.zero 24).kind.toNat = 24 from rfl, hw, if_pos ⟨by decide, by decide, hr⟩]
theorem exit_class : classK (decS (⟨#[37, 101, 120, 105, 116]⟩ : ByteArray).data.toList).kind = 5 := by
  have h : decS (⟨#[37, 101, 120, 105, 116]⟩ : ByteArray).data.toList = Ev.zero 24 := dec_enc exit_line
  rw [h]
  decide

set_option maxHeartbeats 1000000 in
theorem wireClasses_walk (a0 : ByteArray) (hsh : a0.size ≤ 1048576) (w : World) (hE : Env w) :
    Calls Tryz.prog 8 #[.string a0] w fun e w' => e = .returned (.bool true) ∧ Below w.heap.size w w' := by
  obtain ⟨c, hc⟩ : ∃ x, classK (decS a0.data.toList).kind = x := ⟨_, rfl⟩
  have HA : Hid (∀ W, Env W → Calls Tryz.prog 19 #[.string a0] W fun e w' => e = .returned (.int .i64 c) ∧ Below W.heap.size W w') := fun W hW => by
    have := class_any a0 (Nat.le_trans hsh (by decide)) W hW
    rw [hc] at this
    exact this
  have HR : Hid (∀ W, Calls Tryz.prog 20 #[.string a0] W fun e w' => e = .returned (.int .i64 c) ∧ Below W.heap.size W w') := fun W => by
    have := refClass_any a0 hsh W
    rw [hc] at this
    exact this
  have HX : Hid (∀ W, Env W → Calls Tryz.prog 19 #[.string ⟨#[37, 101, 120, 105, 116]⟩] W fun e w' => e = .returned (.int .i64 5) ∧ Below W.heap.size W w') := fun W hW => by
    have := class_any ⟨#[37, 101, 120, 105, 116]⟩ (by decide) W hW
    rw [exit_class] at this
    exact this
  have HE : Hid (∀ W, Below w.heap.size w W → Env W) := fun W h => hE.below h
  clear hE hc
  go_enter Tryz.func8, Tryz.ntmps8
  go_wp2_with fail
  refine (HA.out _ (HE.out _ (Below.refl _ _))).mono ?_
  rintro e w1 ⟨rfl, hb1⟩
  have HB1 : Hid (Below w.heap.size w w1) := hb1
  clear hb1 HA
  go_wp2_with fail
  refine (HR.out _).mono ?_
  rintro e w2 ⟨rfl, hb2⟩
  have HB2 : Hid (Below w.heap.size w w2) := below_step HB1.out hb2
  clear hb2 HR
  go_wp2_with fail
  refine (HX.out _ (HE.out _ HB2.out)).mono ?_
  rintro e w3 ⟨rfl, hb3⟩
  have HB3 : Hid (Below w.heap.size w w3) := below_step HB2.out hb3
  clear hb3
  go_wp2
  go_ret
  exact ⟨rfl, HB3.out⟩

end Go.Proofs.YtlgkdnmhoboinaaGreatDoor
