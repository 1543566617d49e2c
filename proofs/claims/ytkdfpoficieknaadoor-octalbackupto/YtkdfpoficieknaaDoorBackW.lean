/-
  The walk of OctalBack.
-/
import Derived.Test.YtkdfpoficieknaaDoorUnB
import Derived.WalkKit
namespace Go.Proofs.YtkdfpoficieknaaDoor
open Go.RowKit
set_option linter.unusedVariables false

theorem unescape_yes {w W : World} (hD : Digs w) (hb : Below w.heap.size w W) (l : List UInt8) (hs : (str (esc l)).size ≤ 140737488355328) :
    Calls Tryd.prog 12 #[.string (str (esc l))] W fun e w' => e = .returned (.tuple #[.string (str l), .int .i64 0]) ∧ Below w.heap.size w w' :=
  (unescape_any (str (esc l)) W (hD.below hb hD.pos) hs).mono fun e w' ⟨h, hb2⟩ => by
    refine ⟨?_, hb.trans (hb2.mono hb.size)⟩
    rcases h with ⟨t, he, ht⟩ | ⟨_, hno⟩
    · rw [he, esc_inj (a := t) (b := l) ht]
    · exact absurd rfl (hno l)
theorem unescapeBody_yes {w W : World} (hD : Digs w) (hb : Below w.heap.size w W) (l : List UInt8) (hs : (str (escB l)).size ≤ 140737488355328) :
    Calls Tryd.prog 13 #[.string (str (escB l))] W fun e w' => e = .returned (.tuple #[.string (str l), .int .i64 0]) ∧ Below w.heap.size w w' :=
  (unescapeBody_any (str (escB l)) W (hD.below hb hD.pos) hs).mono fun e w' ⟨h, hb2⟩ => by
    refine ⟨?_, hb.trans (hb2.mono hb.size)⟩
    rcases h with ⟨t, he, ht⟩ | ⟨_, hno⟩
    · rw [he, escB_inj (a := t) (b := l) ht]
    · exact absurd rfl (hno l)

set_option maxHeartbeats 4000000 in
theorem octalBack_walk (a0 : ByteArray) (w0 : a0.size ≤ maxLen) (w : World) (hD : Digs w) (hsh : a0.size ≤ 1048576) :
    Calls Tryd.prog 7 #[.string a0] w fun e w' => e = .returned (.bool true) ∧ Below w.heap.size w w' := by
  obtain ⟨c1, c2, c3⟩ := bd a0 (by omega)
  obtain ⟨g1, g2, g3⟩ := bd ⟨#[97, 10]⟩ (by decide)
  have z1 : (str (esc a0.data.toList)).size ≤ 140737488355328 := c2
  have z2 : (str (escB a0.data.toList)).size ≤ 140737488355328 := c3
  have z3 : (str (esc [97, 10])).size ≤ 140737488355328 := g2
  have q1 : ((str a0.data.toList).toList == a0.toList) = true := by rw [data_str]; simp
  have q2 : ((str [97, 10]).toList == [97, 10]) = true := by rw [str_toList]; rfl
  clear w0
  have hb0 := Below.refl w.heap.size w
  go_enter Tryd.func7, Tryd.ntmps7
  go_wp2_with (first | (go_at_call 8; refine (escape_in hD (by assumption) _ (by assumption) (by assumption)).mono ?_; rintro e w' ⟨rfl, hb⟩) | (go_at_call 9; refine (escapeBody_in hD (by assumption) _ (by assumption) (by assumption)).mono ?_; rintro e w' ⟨rfl, hb⟩) | (go_at_call 12; refine (unescape_yes hD (by assumption) _ (by assumption)).mono ?_; rintro e w' ⟨rfl, hb⟩) | (go_at_call 13; refine (unescapeBody_yes hD (by assumption) _ (by assumption)).mono ?_; rintro e w' ⟨rfl, hb⟩))
  all_goals go_ret
  all_goals exact ⟨rfl, by assumption⟩
end Go.Proofs.YtkdfpoficieknaaDoor
