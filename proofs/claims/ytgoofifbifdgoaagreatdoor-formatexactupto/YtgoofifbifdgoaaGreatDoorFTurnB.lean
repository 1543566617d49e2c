/-
  Formats: the other turns with a number; what makes them.
-/
import Derived.Test.YtgoofifbifdgoaaGreatDoorFTurn
namespace Go.Proofs.YtgoofifbifdgoaaGreatDoor
open Go.RowKit
set_option linter.unusedVariables false
set_option maxRecDepth 20000

set_option maxHeartbeats 1000000 in
theorem last_turn (n : Nat) (hn : n < 10000) (W : World) (b : Nat) (hc : W.cell? ⟨b, 0, none⟩ = some (.int .i64 (n : Int))) (l : List UInt8) (hl : l.length ≤ 2147483647) : Calls Tryz.prog 93 #[.string (str l), .pointer (some ⟨b, 0, none⟩)] W fun e w' => e = .returned (.string (str ((Turn.last n).of l))) ∧ Below W.heap.size W w' := by
  have hT := str_dropF l (l.length - n)
  have hs : (str l).size = l.length := rfl
  obtain ⟨z, hz⟩ : ∃ z, str l = z := ⟨_, rfl⟩
  obtain ⟨y, hy⟩ : ∃ y, str ((Turn.last n).of l) = y := ⟨_, rfl⟩
  have hx : (str l).extract (l.length - n) (str l).size = y := by rw [hT]; exact hy
  rw [hz] at hs hx
  rw [hz, hy]
  obtain ⟨m, hm⟩ : ∃ m, l.length = m := ⟨_, rfl⟩
  rw [hs] at hx
  rw [hm] at hs hx hl
  clear hT hz hy hm
  by_cases h : m < n
  · have h0 : m - n = 0 := by omega
    rw [h0] at hx
    have hmax : max 0 ((m : Int) - (n : Int)) = 0 := by omega
    clear h0
    go_enter Tryz.func93, Tryz.ntmps93
    go_wp2
    all_goals go_ret
    all_goals exact ⟨rfl, by first | exact Below.refl _ _ | exact (Below.refl _ _).drew⟩
  · obtain ⟨d, rfl⟩ : ∃ d, m = n + d := ⟨m - n, by omega⟩
    have h0 : n + d - n = d := by omega
    rw [h0] at hx
    have hmax : max 0 (((n : Int) + (d : Int)) - (n : Int)) = (d : Int) := by omega
    have hsub : ((n : Int) + (d : Int)) - (n : Int) = (d : Int) := by omega
    have hmax2 : max 0 (d : Int) = (d : Int) := by omega
    clear h0 h
    go_enter Tryz.func93, Tryz.ntmps93
    go_wp2
    all_goals go_ret
    all_goals exact ⟨rfl, by first | exact Below.refl _ _ | exact (Below.refl _ _).drew⟩
set_option maxHeartbeats 1000000 in
theorem last_any (n : Nat) (hn : n < 10000) (w : World) : Calls Tryz.prog 42 #[.int .i64 (n : Int)] w fun e w' => ∃ v, e = .returned v ∧ Below w.heap.size w w' ∧ TurnOk w.heap.size w' v (.last n) := by
  have HT : Hid (∀ W, Since w.heap.size (w.alloc (.cells #[.int .i64 (n : Int)] 3)) W → ∀ l : List UInt8, l.length ≤ 2147483647 → Calls Tryz.prog 93 #[.string (str l), .pointer (some ⟨w.heap.size, 0, none⟩)] W fun e w' => e = .returned (.string (str ((Turn.last n).of l))) ∧ Below W.heap.size W w') := fun W hW l hl => last_turn n hn W w.heap.size (box_int hW) l hl
  go_enter Tryz.func42, Tryz.ntmps42
  go_wp2
  all_goals go_ret
  exact ⟨_, rfl, (Below.refl _ _).alloc (Nat.le_refl _) _, _, _, rfl, enters_of Tryz.func93 (by kernel_rfl) rfl, HT.out⟩
set_option maxHeartbeats 1000000 in
theorem padBehind_turn (n : Nat) (hn : n < 10000) (W : World) (b : Nat) (hc : W.cell? ⟨b, 0, none⟩ = some (.int .i64 (n : Int))) (l : List UInt8) (hl : l.length ≤ 2147483647) : Calls Tryz.prog 94 #[.string (str l), .pointer (some ⟨b, 0, none⟩)] W fun e w' => e = .returned (.string (str ((Turn.behind n).of l))) ∧ Below W.heap.size W w' := by
  have HBl := hidK (fun X => blanks_any ((n : Int) - (l.length : Int)) (by omega) (by omega) X)
  rw [show ((n : Int) - (l.length : Int)).toNat = n - l.length by omega] at HBl
  have hcat : str l ++ str (List.replicate (n - l.length) 32) = str ((Turn.behind n).of l) := by
    apply ByteArray.ext
    simp [str, Turn.of]
  have hys : (str (List.replicate (n - l.length) 32)).size = n - l.length := List.length_replicate
  have hs : (str l).size = l.length := rfl
  obtain ⟨z, hz⟩ : ∃ z, str l = z := ⟨_, rfl⟩
  obtain ⟨y, hy⟩ : ∃ y, str (List.replicate (n - l.length) 32) = y := ⟨_, rfl⟩
  obtain ⟨u, hu⟩ : ∃ u, str ((Turn.behind n).of l) = u := ⟨_, rfl⟩
  rw [hz] at hs
  rw [hy] at HBl hys
  rw [hz, hy, hu] at hcat
  rw [hz, hu]
  obtain ⟨m, hm⟩ : ∃ m, l.length = m := ⟨_, rfl⟩
  rw [hm] at hs hl hys HBl
  have d1 : (z.size : Int) + (y.size : Int) ≤ 9223372036854775807 := by omega
  have d2 : ¬ 9223372036854775807 < z.size + y.size := by omega
  subst hcat
  clear hz hy hu hm hys
  go_enter Tryz.func94, Tryz.ntmps94
  go_wp2_with (go_at_call 95; refine (HBl.out _).mono ?_; rintro x w1 ⟨rfl, hb1⟩)
  all_goals go_ret
  all_goals exact ⟨rfl, by assumption⟩
set_option maxHeartbeats 1000000 in
theorem padBehind_any (n : Nat) (hn : n < 10000) (w : World) : Calls Tryz.prog 43 #[.int .i64 (n : Int)] w fun e w' => ∃ v, e = .returned v ∧ Below w.heap.size w w' ∧ TurnOk w.heap.size w' v (.behind n) := by
  have HT : Hid (∀ W, Since w.heap.size (w.alloc (.cells #[.int .i64 (n : Int)] 3)) W → ∀ l : List UInt8, l.length ≤ 2147483647 → Calls Tryz.prog 94 #[.string (str l), .pointer (some ⟨w.heap.size, 0, none⟩)] W fun e w' => e = .returned (.string (str ((Turn.behind n).of l))) ∧ Below W.heap.size W w') := fun W hW l hl => padBehind_turn n hn W w.heap.size (box_int hW) l hl
  go_enter Tryz.func43, Tryz.ntmps43
  go_wp2
  all_goals go_ret
  exact ⟨_, rfl, (Below.refl _ _).alloc (Nat.le_refl _) _, _, _, rfl, enters_of Tryz.func94 (by kernel_rfl) rfl, HT.out⟩
set_option maxHeartbeats 1000000 in
theorem padAhead_turn (n : Nat) (hn : n < 10000) (W : World) (b : Nat) (hc : W.cell? ⟨b, 0, none⟩ = some (.int .i64 (n : Int))) (l : List UInt8) (hl : l.length ≤ 2147483647) : Calls Tryz.prog 96 #[.string (str l), .pointer (some ⟨b, 0, none⟩)] W fun e w' => e = .returned (.string (str ((Turn.ahead n).of l))) ∧ Below W.heap.size W w' := by
  have HBl := hidK (fun X => blanks_any ((n : Int) - (l.length : Int)) (by omega) (by omega) X)
  rw [show ((n : Int) - (l.length : Int)).toNat = n - l.length by omega] at HBl
  have hcat : str (List.replicate (n - l.length) 32) ++ str l = str ((Turn.ahead n).of l) := by
    apply ByteArray.ext
    simp [str, Turn.of]
  have hys : (str (List.replicate (n - l.length) 32)).size = n - l.length := List.length_replicate
  have hs : (str l).size = l.length := rfl
  obtain ⟨z, hz⟩ : ∃ z, str l = z := ⟨_, rfl⟩
  obtain ⟨y, hy⟩ : ∃ y, str (List.replicate (n - l.length) 32) = y := ⟨_, rfl⟩
  obtain ⟨u, hu⟩ : ∃ u, str ((Turn.ahead n).of l) = u := ⟨_, rfl⟩
  rw [hz] at hs
  rw [hy] at HBl hys
  rw [hz, hy, hu] at hcat
  rw [hz, hu]
  obtain ⟨m, hm⟩ : ∃ m, l.length = m := ⟨_, rfl⟩
  rw [hm] at hs hl hys HBl
  have d1 : (y.size : Int) + (z.size : Int) ≤ 9223372036854775807 := by omega
  have d2 : ¬ 9223372036854775807 < y.size + z.size := by omega
  subst hcat
  clear hz hy hu hm hys
  go_enter Tryz.func96, Tryz.ntmps96
  go_wp2_with (go_at_call 95; refine (HBl.out _).mono ?_; rintro x w1 ⟨rfl, hb1⟩)
  all_goals go_ret
  all_goals exact ⟨rfl, by assumption⟩
set_option maxHeartbeats 1000000 in
theorem padAhead_any (n : Nat) (hn : n < 10000) (w : World) : Calls Tryz.prog 44 #[.int .i64 (n : Int)] w fun e w' => ∃ v, e = .returned v ∧ Below w.heap.size w w' ∧ TurnOk w.heap.size w' v (.ahead n) := by
  have HT : Hid (∀ W, Since w.heap.size (w.alloc (.cells #[.int .i64 (n : Int)] 3)) W → ∀ l : List UInt8, l.length ≤ 2147483647 → Calls Tryz.prog 96 #[.string (str l), .pointer (some ⟨w.heap.size, 0, none⟩)] W fun e w' => e = .returned (.string (str ((Turn.ahead n).of l))) ∧ Below W.heap.size W w') := fun W hW l hl => padAhead_turn n hn W w.heap.size (box_int hW) l hl
  go_enter Tryz.func44, Tryz.ntmps44
  go_wp2
  all_goals go_ret
  exact ⟨_, rfl, (Below.refl _ _).alloc (Nat.le_refl _) _, _, _, rfl, enters_of Tryz.func96 (by kernel_rfl) rfl, HT.out⟩

end Go.Proofs.YtgoofifbifdgoaaGreatDoor
