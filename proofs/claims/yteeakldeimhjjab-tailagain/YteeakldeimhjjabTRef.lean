/-
  The document's tail: New, Load, End.
-/
import Derived.Test.YteeakldeimhjjabTLoad
import Derived.Test.YteeakldeimhjjabTReadW
import Derived.WalkKit
namespace Go.Proofs.Yteeakldeimhjjab
open Go.RowKit Go.Lib
set_option linter.unusedVariables false
set_option maxRecDepth 100000

/-- The document's Log. -/
def refV (m t : Int) (s : ByteArray) : Value := .agg #[.int .i64 m, .int .i64 t, .string s]
/-- What the document's Load answers. -/
def refMade (lim st : Int) (s : ByteArray) : Value :=
  if loadE lim st s.data.toList.length = 0 then .tuple #[refV lim st s, .int .i64 0] else .tuple #[refV 0 0 ⟨#[]⟩, .int .i64 (loadE lim st s.data.toList.length)]

theorem refNew_any (lim : Int) (w : World) (h1 : -9223372036854775808 ≤ lim) (h2 : lim ≤ 9223372036854775807) :
    Calls Try.prog 15 #[.int .i64 lim] w fun x w' => x = .returned (refMade lim 0 ⟨#[]⟩) ∧ Below w.heap.size w w' := by
  unfold refMade
  by_cases c : lim < 1 ∨ lim > 65536
  · have e1 : loadE lim 0 (⟨#[]⟩ : ByteArray).data.toList.length = 1 := by unfold loadE; rw [if_pos (by omega)]
    rw [e1, if_neg (by decide)]
    clear e1
    by_cases c2 : lim < 1
    · clear c
      go_enter Try.func15, Try.ntmps15
      go_wp2
      all_goals refine bodyPost_ret (v := .tuple #[refV 0 0 ⟨#[]⟩, .int .i64 1]) (by simp [results, Try.results15, go_sem, refV]) rfl ?_
      all_goals exact ⟨rfl, by repeat (first | exact Below.refl _ _ | apply Below.drew | refine Below.setCell ?_ (by simp) _ | refine Below.alloc ?_ (by simp) _)⟩
    · have c3 : lim > 65536 := by omega
      clear c
      go_enter Try.func15, Try.ntmps15
      go_wp2
      all_goals refine bodyPost_ret (v := .tuple #[refV 0 0 ⟨#[]⟩, .int .i64 1]) (by simp [results, Try.results15, go_sem, refV]) rfl ?_
      all_goals exact ⟨rfl, by repeat (first | exact Below.refl _ _ | apply Below.drew | refine Below.setCell ?_ (by simp) _ | refine Below.alloc ?_ (by simp) _)⟩
  · have e1 : loadE lim 0 (⟨#[]⟩ : ByteArray).data.toList.length = 0 := by
      unfold loadE
      rw [if_neg (by show ¬ (lim < 1 ∨ lim > 65536 ∨ (0 : Int) < 0 ∨ ((0 : Nat) : Int) > lim); omega), if_neg (by decide)]
    rw [e1, if_pos rfl]
    have c2 : ¬ lim < 1 := by omega
    have c3 : ¬ lim > 65536 := by omega
    clear c e1
    go_enter Try.func15, Try.ntmps15
    go_wp2
    all_goals refine bodyPost_ret (v := .tuple #[refV lim 0 ⟨#[]⟩, .int .i64 0]) (by simp [results, Try.results15, go_sem, refV]) rfl ?_
    all_goals exact ⟨rfl, by repeat (first | exact Below.refl _ _ | apply Below.drew | refine Below.setCell ?_ (by simp) _ | refine Below.alloc ?_ (by simp) _)⟩

end Go.Proofs.Yteeakldeimhjjab
