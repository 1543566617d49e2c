/-
  The walk of OctalReads.
-/
import Derived.Test.YtkdfpoficieknabDoorRefV
import Derived.WalkKit
namespace Go.Proofs.YtkdfpoficieknabDoor
open Go.RowKit
set_option linter.unusedVariables false

theorem same {p : List UInt8 → Prop} (inj : ∀ a b, p a → p b → a = b) {u v : Ending}
    (hu : (∃ t, u = .returned (.tuple #[.string (str t), .int .i64 0]) ∧ p t) ∨ (u = .returned (.tuple #[.string ⟨#[]⟩, .int .i64 10]) ∧ ∀ t, ¬ p t))
    (hv : (∃ t, v = .returned (.tuple #[.string (str t), .int .i64 0]) ∧ p t) ∨ (v = .returned (.tuple #[.string ⟨#[]⟩, .int .i64 10]) ∧ ∀ t, ¬ p t)) : u = v := by
  rcases hu with ⟨a, rfl, ha⟩ | ⟨rfl, ha⟩ <;> rcases hv with ⟨b, rfl, hb⟩ | ⟨rfl, hb⟩
  · rw [inj a b ha hb]
  · exact absurd ha (hb a)
  · exact absurd hb (ha b)
  · rfl

/-- A text's answer, as one pair. -/
theorem answer (p : List UInt8 → Prop) (inj : ∀ a b, p a → p b → a = b) : ∃ (x : ByteArray) (n : Int), ∀ e : Ending,
    ((∃ t, e = .returned (.tuple #[.string (str t), .int .i64 0]) ∧ p t) ∨ (e = .returned (.tuple #[.string ⟨#[]⟩, .int .i64 10]) ∧ ∀ t, ¬ p t)) → e = .returned (.tuple #[.string x, .int .i64 n]) := by
  by_cases h : ∃ t, p t
  · obtain ⟨t, ht⟩ := h
    exact ⟨str t, 0, fun e he => same inj he (.inl ⟨t, rfl, ht⟩)⟩
  · exact ⟨⟨#[]⟩, 10, fun e he => same inj he (.inr ⟨rfl, fun t ht => h ⟨t, ht⟩⟩)⟩

set_option maxHeartbeats 4000000 in
theorem octalReads_walk (a0 : ByteArray) (w0 : a0.size ≤ maxLen) (w : World) (hD : Digs w) (hsh : a0.size ≤ 1048576) :
    Calls Tryd.prog 4 #[.string a0] w fun e w' => e = .returned (.bool true) ∧ Below w.heap.size w w' := by
  have hs : a0.size ≤ 140737488355328 := by omega
  obtain ⟨x, n, hxn⟩ := answer (fun t => esc t = a0.data.toList) (fun a b ha hb => esc_inj (ha.trans hb.symm))
  obtain ⟨y, m, hym⟩ := answer (fun t => escB t = a0.data.toList) (fun a b ha hb => escB_inj (ha.trans hb.symm))
  have U1 : ∀ W, Below w.heap.size w W → Calls Tryd.prog 8 #[.string a0] W fun e w' => e = .returned (.tuple #[.string x, .int .i64 n]) ∧ Below w.heap.size w w' := fun W hb =>
    (unescape_any a0 W (hD.below hb hD.pos) hs).mono fun e w' ⟨h, hb2⟩ => ⟨hxn e h, hb.trans (hb2.mono hb.size)⟩
  have U2 : ∀ W, Below w.heap.size w W → Calls Tryd.prog 12 #[.string a0] W fun e w' => e = .returned (.tuple #[.string x, .int .i64 n]) ∧ Below w.heap.size w w' := fun W hb =>
    (refUnescape_any a0 W hsh).mono fun e w' ⟨h, hb2⟩ => ⟨hxn e h, hb.trans (hb2.mono hb.size)⟩
  have U3 : ∀ W, Below w.heap.size w W → Calls Tryd.prog 10 #[.string a0] W fun e w' => e = .returned (.tuple #[.string y, .int .i64 m]) ∧ Below w.heap.size w w' := fun W hb =>
    (unescapeBody_any a0 W (hD.below hb hD.pos) hs).mono fun e w' ⟨h, hb2⟩ => ⟨hym e h, hb.trans (hb2.mono hb.size)⟩
  have U4 : ∀ W, Below w.heap.size w W → Calls Tryd.prog 13 #[.string a0] W fun e w' => e = .returned (.tuple #[.string y, .int .i64 m]) ∧ Below w.heap.size w w' := fun W hb =>
    (refUnescapeBody_any a0 W hsh).mono fun e w' ⟨h, hb2⟩ => ⟨hym e h, hb.trans (hb2.mono hb.size)⟩
  clear hxn hym w0 hs hsh
  have hb0 := Below.refl w.heap.size w
  have V1 := (show Hid _ from U1)
  have V2 := (show Hid _ from U2)
  have V3 := (show Hid _ from U3)
  have V4 := (show Hid _ from U4)
  clear U1 U2 U3 U4
  go_enter Tryd.func4, Tryd.ntmps4
  go_wp2_with (first | (go_at_call 8; refine (V1.out _ (by assumption)).mono ?_; rintro e w' ⟨rfl, hb⟩) | (go_at_call 12; refine (V2.out _ (by assumption)).mono ?_; rintro e w' ⟨rfl, hb⟩) | (go_at_call 10; refine (V3.out _ (by assumption)).mono ?_; rintro e w' ⟨rfl, hb⟩) | (go_at_call 13; refine (V4.out _ (by assumption)).mono ?_; rintro e w' ⟨rfl, hb⟩))
  all_goals go_ret
  all_goals exact ⟨rfl, by assumption⟩
end Go.Proofs.YtkdfpoficieknabDoor
