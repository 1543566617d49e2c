/-
  The walk of OctalForth.
-/
import Derived.Test.YtkdfpoficieknabDoorUnB
import Derived.WalkKit
namespace Go.Proofs.YtkdfpoficieknabDoor
open Go.RowKit
set_option linter.unusedVariables false

theorem unescape_in {w W : World} (hD : Digs w) (hb : Below w.heap.size w W) (s : ByteArray) (hs : s.size ≤ 140737488355328) :
    Calls Tryd.prog 8 #[.string s] W fun e w' => ((∃ t, e = .returned (.tuple #[.string (str t), .int .i64 0]) ∧ esc t = s.data.toList) ∨ (e = .returned (.tuple #[.string ⟨#[]⟩, .int .i64 10]) ∧ ∀ t, esc t ≠ s.data.toList)) ∧ Below w.heap.size w w' :=
  (unescape_any s W (hD.below hb hD.pos) hs).mono fun _ _ ⟨h1, h2⟩ => ⟨h1, hb.trans (h2.mono hb.size)⟩
theorem unescapeBody_in {w W : World} (hD : Digs w) (hb : Below w.heap.size w W) (s : ByteArray) (hs : s.size ≤ 140737488355328) :
    Calls Tryd.prog 10 #[.string s] W fun e w' => ((∃ t, e = .returned (.tuple #[.string (str t), .int .i64 0]) ∧ escB t = s.data.toList) ∨ (e = .returned (.tuple #[.string ⟨#[]⟩, .int .i64 10]) ∧ ∀ t, escB t ≠ s.data.toList)) ∧ Below w.heap.size w w' :=
  (unescapeBody_any s W (hD.below hb hD.pos) hs).mono fun _ _ ⟨h1, h2⟩ => ⟨h1, hb.trans (h2.mono hb.size)⟩
theorem plain_yes {w W : World} (hD : Digs w) (hb : Below w.heap.size w W) :
    Calls Tryd.prog 8 #[.string ⟨#[112, 108, 97, 105, 110]⟩] W fun e w' => e = .returned (.tuple #[.string ⟨#[112, 108, 97, 105, 110]⟩, .int .i64 0]) ∧ Below w.heap.size w w' :=
  (unescape_in hD hb ⟨#[112, 108, 97, 105, 110]⟩ (by decide)).mono fun e w' ⟨h, hb2⟩ => by
    refine ⟨?_, hb2⟩
    rcases h with ⟨t, he, ht⟩ | ⟨_, hno⟩
    · rw [he, esc_inj (a := t) (b := [112, 108, 97, 105, 110]) (ht.trans (by decide))]; rfl
    · exact absurd (by decide) (hno [112, 108, 97, 105, 110])

theorem rank {l : List UInt8} {t : List UInt8} (h : esc t = l) : t.length ≤ l.length := by rw [← h]; exact (esc_length t).1
theorem rankB {l : List UInt8} {t : List UInt8} (h : escB t = l) : t.length ≤ l.length := by
  rw [← h]
  rcases key37 t with ⟨q, rfl, e⟩ | ⟨_, e⟩
  · rw [e]; have := (esc_length q).1; rw [List.length_append, code_length, List.length_cons]; omega
  · rw [e]; exact (esc_length t).1

set_option maxHeartbeats 4000000 in
theorem octalForth_walk (a0 : ByteArray) (w0 : a0.size ≤ maxLen) (w : World) (hD : Digs w) (hsh : a0.size ≤ 140737488351232) :
    Calls Tryd.prog 3 #[.string a0] w fun e w' => e = .returned (.bool true) ∧ Below w.heap.size w w' := by
  have hs : a0.size ≤ 140737488355328 := by omega
  have hb0 := Below.refl w.heap.size w
  have hsd := size_data a0
  clear w0
  go_enter Tryd.func3, Tryd.ntmps3
  go_wp2_with fail
  refine (unescape_in hD hb0 _ hs).mono ?_
  rintro e w1 ⟨h, hb1⟩
  rcases h with ⟨t, rfl, ht⟩ | ⟨rfl, hno⟩
  · have z1 : (str t).size ≤ 140737488355328 := by have := rank ht; rw [str_size]; omega
    have z2 : (esc (str t).data.toList).length ≤ 140737488355328 := by rw [str_data, ht]; omega
    have q1 : ((str (esc (str t).data.toList)).toList == a0.toList) = true := by rw [str_data, ht, data_str]; simp
    clear ht hsd
    go_wp2_with (go_at_call 9; refine (escape_in hD hb1 _ z1 z2).mono ?_; rintro e w2 ⟨rfl, hb2⟩)
    refine (unescapeBody_in hD (by assumption) _ hs).mono ?_
    rintro e w3 ⟨h, hb3⟩
    rcases h with ⟨u, rfl, hu⟩ | ⟨rfl, hno⟩
    · have y1 : (str u).size ≤ 140737488355328 := by have := rankB hu; have := size_data a0; rw [str_size]; omega
      have y2 : (escB (str u).data.toList).length ≤ 140737488355328 := by rw [str_data, hu]; have := size_data a0; omega
      have q2 : ((str (escB (str u).data.toList)).toList == a0.toList) = true := by rw [str_data, hu, data_str]; simp
      clear hu
      go_wp2_with (first | (go_at_call 11; refine (escapeBody_in hD hb3 _ y1 y2).mono ?_; rintro e w4 ⟨rfl, hb4⟩) | (go_at_call 8; refine (plain_yes hD (by assumption)).mono ?_; rintro e w5 ⟨rfl, hb5⟩))
      all_goals go_ret
      all_goals exact ⟨rfl, by assumption⟩
    · clear hno
      go_wp2_with (go_at_call 8; refine (plain_yes hD (by assumption)).mono ?_; rintro e w5 ⟨rfl, hb5⟩)
      all_goals go_ret
      all_goals exact ⟨rfl, by assumption⟩
  · clear hno
    go_wp2_with fail
    refine (unescapeBody_in hD (by assumption) _ hs).mono ?_
    rintro e w3 ⟨h, hb3⟩
    rcases h with ⟨u, rfl, hu⟩ | ⟨rfl, hno⟩
    · have y1 : (str u).size ≤ 140737488355328 := by have := rankB hu; have := size_data a0; rw [str_size]; omega
      have y2 : (escB (str u).data.toList).length ≤ 140737488355328 := by rw [str_data, hu]; have := size_data a0; omega
      have q2 : ((str (escB (str u).data.toList)).toList == a0.toList) = true := by rw [str_data, hu, data_str]; simp
      clear hu
      go_wp2_with (first | (go_at_call 11; refine (escapeBody_in hD hb3 _ y1 y2).mono ?_; rintro e w4 ⟨rfl, hb4⟩) | (go_at_call 8; refine (plain_yes hD (by assumption)).mono ?_; rintro e w5 ⟨rfl, hb5⟩))
      all_goals go_ret
      all_goals exact ⟨rfl, by assumption⟩
    · clear hno
      go_wp2_with (go_at_call 8; refine (plain_yes hD (by assumption)).mono ?_; rintro e w5 ⟨rfl, hb5⟩)
      all_goals go_ret
      all_goals exact ⟨rfl, by assumption⟩
end Go.Proofs.YtkdfpoficieknabDoor
