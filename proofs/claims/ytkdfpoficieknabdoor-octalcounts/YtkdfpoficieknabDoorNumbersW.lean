/-
  The walk of OctalNumbers.
-/
import Derived.Test.YtkdfpoficieknabDoorNumB
import Derived.WalkKit
namespace Go.Proofs.YtkdfpoficieknabDoor
open Go.RowKit
set_option linter.unusedVariables false

theorem num_one {l : List UInt8} {a b : Int} (ha : Num l a) (hb : Num l b) : a = b := by rw [← num_val ha, ← num_val hb]

/-- A text's answer, as one pair. -/
theorem numAnswer (p : Int → Prop) (one : ∀ a b, p a → p b → a = b) : ∃ (x : Int) (b : Bool), ∀ e : Ending,
    ((∃ n, e = .returned (.tuple #[.int .i64 n, .bool true]) ∧ p n) ∨ (e = .returned (.tuple #[.int .i64 0, .bool false]) ∧ ∀ n, ¬ p n)) → e = .returned (.tuple #[.int .i64 x, .bool b]) := by
  by_cases h : ∃ n, p n
  · obtain ⟨n, hn⟩ := h
    refine ⟨n, true, fun e he => ?_⟩
    rcases he with ⟨m, rfl, hm⟩ | ⟨_, hno⟩
    · rw [one m n hm hn]
    · exact absurd hn (hno n)
  · refine ⟨0, false, fun e he => ?_⟩
    rcases he with ⟨m, _, hm⟩ | ⟨rfl, _⟩
    · exact absurd ⟨m, hm⟩ h
    · rfl

set_option maxHeartbeats 2000000 in
theorem octalNumbers_walk (a0 : Int) (a1 : ByteArray) (w0 : (Lit.int .i64 a0).wf = true) (w1 : a1.size ≤ maxLen) (w : World) (hN : NumV w) (hsh : a1.size ≤ 140737488351232) :
    Calls Tryd.prog 5 #[.int .i64 a0, .string a1] w fun e w' => e = .returned (.bool true) ∧ Below w.heap.size w w' := by
  have hx : -9223372036854775808 ≤ a0 ∧ a0 ≤ 9223372036854775807 := by simpa [Lit.wf, IntKind.min, IntKind.max, IntKind.signed, IntKind.bits] using w0
  obtain ⟨x0, x1⟩ := hx
  have hs : a1.size ≤ 140737488355328 := by omega
  obtain ⟨n, b, hnb⟩ := numAnswer (Num a1.data.toList) (fun _ _ => num_one)
  have V1 : Hid (∀ W, Below w.heap.size w W → Calls Tryd.prog 14 #[.string a1] W fun e w' => e = .returned (.tuple #[.int .i64 n, .bool b]) ∧ Below w.heap.size w w') := fun W hb =>
    (number_any a1 W (hN.below hb) hs).mono fun e w' ⟨h, hb2⟩ => ⟨hnb e h, hb.trans (hb2.mono hb.size)⟩
  have V2 : Hid (∀ W, Below w.heap.size w W → Calls Tryd.prog 15 #[.string a1] W fun e w' => e = .returned (.tuple #[.int .i64 n, .bool b]) ∧ Below w.heap.size w w') := fun W hb =>
    (refNumber_any a1 W hs).mono fun e w' ⟨h, hb2⟩ => ⟨hnb e h, hb.trans (hb2.mono hb.size)⟩
  have V3 : Hid (∀ (m : Int) W, -9223372036854775808 ≤ m → m ≤ 9223372036854775807 → Below w.heap.size w W → Calls Tryd.prog 16 #[.int .i64 m] W fun e w' => e = .returned (.string (str (putL m))) ∧ Below w.heap.size w w') := fun m W h0 h1 hb =>
    (putNumber_any m W (hN.below hb) h0 h1).mono fun e w' ⟨h, hb2⟩ => ⟨h, hb.trans (hb2.mono hb.size)⟩
  have V4 : Hid (∀ (m : Int) W, -9223372036854775808 ≤ m → m ≤ 9223372036854775807 → Below w.heap.size w W → Calls Tryd.prog 17 #[.int .i64 m] W fun e w' => e = .returned (.string (str (putL m))) ∧ Below w.heap.size w w') := fun m W h0 h1 hb =>
    (refPutNumber_any m W h0 h1).mono fun e w' ⟨h, hb2⟩ => ⟨h, hb.trans (hb2.mono hb.size)⟩
  have q10 : ((str (putL 10)).toList == [49, 48]) = true := by decide +kernel
  clear hnb w0 w1 hs hsh hN
  have hb0 := Below.refl w.heap.size w
  go_enter Tryd.func5, Tryd.ntmps5
  go_wp2_with (first | (go_at_call 14; refine (V1.out _ (by assumption)).mono ?_; rintro e w' ⟨rfl, hb⟩) | (go_at_call 15; refine (V2.out _ (by assumption)).mono ?_; rintro e w' ⟨rfl, hb⟩) | (go_at_call 16; refine (V3.out _ _ (by omega) (by omega) (by assumption)).mono ?_; rintro e w' ⟨rfl, hb⟩) | (go_at_call 17; refine (V4.out _ _ (by omega) (by omega) (by assumption)).mono ?_; rintro e w' ⟨rfl, hb⟩))
  all_goals go_ret
  all_goals exact ⟨rfl, by assumption⟩
end Go.Proofs.YtkdfpoficieknabDoor
