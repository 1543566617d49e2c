/-
  The tail: works.
-/
import Derived.Test.YteeakldeimhjjabTAs
import Derived.WalkKit
namespace Go.Proofs.Yteeakldeimhjjab
open Go.RowKit Go.Lib
set_option linter.unusedVariables false
set_option maxRecDepth 100000

theorem lit_last : lastN 4 ([] ++ (⟨#[97, 98, 99, 100, 101]⟩ : ByteArray).data.toList) = [98, 99, 100, 101] := by decide
theorem lit_read : readV 1 [98, 99, 100, 101] 2 2 = .tuple #[.string ⟨#[99, 100]⟩, .int .i64 4, .int .i64 0] := by rfl

set_option maxHeartbeats 1000000 in
theorem works_any (w : World) : Calls Try.prog 13 #[] w fun x w' => x = .returned (.bool true) ∧ Below w.heap.size w w' := by
  have HN : Hid (Calls Try.prog 14 #[.int .i64 4] w fun x w' => Made w w' 4 0 [] x) := new_any 4 w (by decide) (by decide)
  go_enter Try.func13, Try.ntmps13
  go_wp2_with fail
  refine HN.out.mono ?_
  rintro x w1 ⟨hbel, ⟨hE, rfl⟩ | ⟨hE, b, v, rfl, hl, hf⟩⟩
  · exact absurd rfl hE
  have hA := append_any (s := ⟨#[97, 98, 99, 100, 101]⟩) hl (by decide)
  have HA : Hid (Calls Try.prog 17 #[.pointer (some ⟨b, 0, none⟩), .string ⟨#[97, 98, 99, 100, 101]⟩] w1 fun x w' => x = .returned (.int .i64 0) ∧ ∃ v', LogAt w' b v' 4 5 [98, 99, 100, 101] ∧ Below w.heap.size w w') := by
    refine hA.mono ?_
    intro x w' hx
    rw [if_neg (by decide)] at hx
    obtain ⟨rfl, v', h1, h2, h3⟩ := hx
    have h4 : lastN (4 : Int).toNat ([] ++ (⟨#[97, 98, 99, 100, 101]⟩ : ByteArray).data.toList) = [98, 99, 100, 101] := lit_last
    rw [h4] at h1
    exact ⟨rfl, v', h1, h2.under hbel hbel.size hf⟩
  clear hA hl hf hE
  go_wp2_with fail
  refine HA.out.mono ?_
  rintro x w2 ⟨rfl, v', hl2, hb2⟩
  have HL : Hid (LogAt w2 b v' 4 5 [98, 99, 100, 101]) := hl2
  have HR : Hid (Calls Try.prog 19 #[.pointer (some ⟨b, 0, none⟩), .int .i64 2, .int .i64 2] w2 fun x w' => x = .returned (.tuple #[.string ⟨#[99, 100]⟩, .int .i64 4, .int .i64 0]) ∧ ∃ n, w' = w2.drewN n) := by
    have h := read_any (s := 1) hl2 rfl 2 2 (by decide) (by decide) (by decide) (by decide)
    rw [lit_read] at h
    exact h
  have HS : Hid (∀ n, Calls Try.prog 9 #[.pointer (some ⟨b, 0, none⟩)] (w2.drewN n) fun x w' => x = .returned (.int .i64 1) ∧ ∃ m, w' = (w2.drewN n).drewN m) := fun n => start_any (s := 1) (hl2.drewN n) rfl
  have HE : Hid (∀ n, Calls Try.prog 12 #[.pointer (some ⟨b, 0, none⟩)] (w2.drewN n) fun x w' => x = .returned (.int .i64 5) ∧ w' = w2.drewN n) := fun n => ende_any (hl2.drewN n)
  have HB2 : Hid (Below w.heap.size w w2) := hb2
  clear hl2 HA HN hbel hb2
  go_wp2_with (first | (go_at_call 19; refine HR.out.mono ?_; rintro x w3 ⟨rfl, n, rfl⟩) | (go_at_call 9; refine (HS.out _).mono ?_; rintro x w3 ⟨rfl, k, rfl⟩) | (go_at_call 12; refine (HE.out _).mono ?_; rintro x w3 ⟨rfl, rfl⟩))
  all_goals go_ret
  all_goals exact ⟨rfl, below_of_drewN HB2.out _⟩

end Go.Proofs.Yteeakldeimhjjab
