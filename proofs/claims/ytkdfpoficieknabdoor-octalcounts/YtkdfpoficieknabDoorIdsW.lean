/-
  The walk of OctalIds.
-/
import Derived.Test.YtkdfpoficieknabDoorNumD
import Derived.Test.YtkdfpoficieknabDoorNumbersW
import Derived.WalkKit
namespace Go.Proofs.YtkdfpoficieknabDoor
open Go.RowKit
set_option linter.unusedVariables false

theorem id_one {c : UInt8} {l : List UInt8} {a b : Int} (ha : IsId c l a) (hb : IsId c l b) : a = b := by
  obtain ⟨r, rfl, h1, _⟩ := ha
  exact num_one h1 (id_tail rfl hb).1

/-- A byte that came in. -/
theorem byte_of {a : Int} (h : (Lit.int .u8 a).wf = true) : ∃ c : UInt8, a = (c.toNat : Int) := by
  have hx : 0 ≤ a ∧ a ≤ 255 := by simpa [Lit.wf, IntKind.min, IntKind.max, IntKind.signed, IntKind.bits] using h
  exact ⟨UInt8.ofNat a.toNat, by rw [UInt8.toNat_ofNat']; omega⟩

set_option maxHeartbeats 2000000 in
theorem octalIds_walk (a0 a1 : Int) (a2 : ByteArray) (w0 : (Lit.int .u8 a0).wf = true) (w1 : (Lit.int .i64 a1).wf = true) (w2 : a2.size ≤ maxLen) (w : World) (hN : NumV w) (hsh : a2.size ≤ 140737488351232) :
    Calls Tryd.prog 7 #[.int .u8 a0, .int .i64 a1, .string a2] w fun e w' => e = .returned (.bool true) ∧ Below w.heap.size w w' := by
  obtain ⟨c, rfl⟩ := byte_of w0
  have hx : -9223372036854775808 ≤ a1 ∧ a1 ≤ 9223372036854775807 := by simpa [Lit.wf, IntKind.min, IntKind.max, IntKind.signed, IntKind.bits] using w1
  obtain ⟨x0, x1⟩ := hx
  have hs : a2.size ≤ 140737488355328 := by omega
  obtain ⟨n, b, hnb⟩ := numAnswer (IsId c a2.data.toList) (fun _ _ => id_one)
  have V1 : Hid (∀ W, Below w.heap.size w W → Calls Tryd.prog 19 #[.int .u8 c.toNat, .string a2] W fun e w' => e = .returned (.tuple #[.int .i64 n, .bool b]) ∧ Below w.heap.size w w') := fun W hb =>
    (id_any c a2 W (hN.below hb) hs).mono fun e w' ⟨h, hb2⟩ => ⟨hnb e h, hb.trans (hb2.mono hb.size)⟩
  have V2 : Hid (∀ W, Below w.heap.size w W → Calls Tryd.prog 20 #[.int .u8 c.toNat, .string a2] W fun e w' => e = .returned (.tuple #[.int .i64 n, .bool b]) ∧ Below w.heap.size w w') := fun W hb =>
    (refId_any c a2 W hs).mono fun e w' ⟨h, hb2⟩ => ⟨hnb e h, hb.trans (hb2.mono hb.size)⟩
  have V3 : Hid (∀ W, Below w.heap.size w W → Calls Tryd.prog 18 #[.int .u8 c.toNat, .int .i64 a1] W fun e w' => e = .returned (.string (str (putI c a1))) ∧ Below w.heap.size w w') := fun W hb =>
    (putId_any c a1 W (hN.below hb) x0 x1).mono fun e w' ⟨h, hb2⟩ => ⟨h, hb.trans (hb2.mono hb.size)⟩
  have V4 : Hid (∀ W, Below w.heap.size w W → Calls Tryd.prog 21 #[.int .u8 c.toNat, .int .i64 a1] W fun e w' => e = .returned (.string (str (putI c a1))) ∧ Below w.heap.size w w') := fun W hb =>
    (refPutId_any c a1 W x0 x1).mono fun e w' ⟨h, hb2⟩ => ⟨h, hb.trans (hb2.mono hb.size)⟩
  have V5 : Hid (∀ W, Below w.heap.size w W → Calls Tryd.prog 18 #[.int .u8 37, .int .i64 7] W fun e w' => e = .returned (.string ⟨#[37, 55]⟩) ∧ Below w.heap.size w w') := fun W hb =>
    (putId_any 37 7 W (hN.below hb) (by omega) (by omega)).mono fun e w' ⟨h, hb2⟩ => ⟨h.trans (ret_str (by decide +kernel)), hb.trans (hb2.mono hb.size)⟩
  clear hnb w0 w1 w2 hs hsh hN
  have hb0 := Below.refl w.heap.size w
  go_enter Tryd.func7, Tryd.ntmps7
  go_wp2_with fail
  refine (V1.out _ hb0).mono ?_
  rintro e w1 ⟨rfl, hb1⟩
  go_wp2_with fail
  refine (V2.out _ hb1).mono ?_
  rintro e w2 ⟨rfl, hb2⟩
  go_wp2_with fail
  refine (V3.out _ hb2).mono ?_
  rintro e w3 ⟨rfl, hb3⟩
  go_wp2_with fail
  refine (V4.out _ hb3).mono ?_
  rintro e w4 ⟨rfl, hb4⟩
  go_wp2_with fail
  refine (V5.out _ hb4).mono ?_
  rintro e w5 ⟨rfl, hb5⟩
  go_wp2
  all_goals go_ret
  all_goals exact ⟨rfl, by assumption⟩
end Go.Proofs.YtkdfpoficieknabDoor
