/-
  The document's tail: Load, End, Append.
-/
import Derived.Test.YteeakldeimhjjabTRef
import Derived.WalkKit
namespace Go.Proofs.Yteeakldeimhjjab
open Go.RowKit Go.Lib
set_option linter.unusedVariables false
set_option maxRecDepth 100000

set_option maxHeartbeats 1000000 in
theorem refLoad_any (lim st : Int) (s : ByteArray) (w : World) (hs : s.size ≤ 9223372036854775807) (h1 : -9223372036854775808 ≤ lim) (h2 : lim ≤ 9223372036854775807) (h3 : -9223372036854775808 ≤ st) (h4 : st ≤ 9223372036854775807) :
    Calls Try.prog 16 #[.int .i64 lim, .int .i64 st, .string s] w fun x w' => x = .returned (refMade lim st s) ∧ Below w.heap.size w w' := by
  have hsz : s.data.toList.length = s.size := (Lib.size_eq s).symm
  unfold refMade
  by_cases c1 : lim < 1 ∨ lim > 65536 ∨ st < 0 ∨ (s.size : Int) > lim
  · have e1 : loadE lim st s.data.toList.length = 1 := by unfold loadE; rw [hsz, if_pos c1]
    rw [e1, if_neg (by decide)]
    clear e1 hsz
    by_cases c2 : lim < 1
    · clear c1
      go_enter Try.func16, Try.ntmps16
      go_wp2
      all_goals refine bodyPost_ret (v := .tuple #[refV 0 0 ⟨#[]⟩, .int .i64 1]) (by simp [results, Try.results16, go_sem, refV]) rfl ?_
      all_goals exact ⟨rfl, by repeat (first | exact Below.refl _ _ | apply Below.drew | refine Below.setCell ?_ (by simp) _ | refine Below.alloc ?_ (by simp) _)⟩
    by_cases c3 : lim > 65536
    · clear c1
      go_enter Try.func16, Try.ntmps16
      go_wp2
      all_goals refine bodyPost_ret (v := .tuple #[refV 0 0 ⟨#[]⟩, .int .i64 1]) (by simp [results, Try.results16, go_sem, refV]) rfl ?_
      all_goals exact ⟨rfl, by repeat (first | exact Below.refl _ _ | apply Below.drew | refine Below.setCell ?_ (by simp) _ | refine Below.alloc ?_ (by simp) _)⟩
    by_cases c4 : st < 0
    · clear c1
      go_enter Try.func16, Try.ntmps16
      go_wp2
      all_goals refine bodyPost_ret (v := .tuple #[refV 0 0 ⟨#[]⟩, .int .i64 1]) (by simp [results, Try.results16, go_sem, refV]) rfl ?_
      all_goals exact ⟨rfl, by repeat (first | exact Below.refl _ _ | apply Below.drew | refine Below.setCell ?_ (by simp) _ | refine Below.alloc ?_ (by simp) _)⟩
    · have c5 : (s.size : Int) > lim := by omega
      clear c1
      go_enter Try.func16, Try.ntmps16
      go_wp2
      all_goals refine bodyPost_ret (v := .tuple #[refV 0 0 ⟨#[]⟩, .int .i64 1]) (by simp [results, Try.results16, go_sem, refV]) rfl ?_
      all_goals exact ⟨rfl, by repeat (first | exact Below.refl _ _ | apply Below.drew | refine Below.setCell ?_ (by simp) _ | refine Below.alloc ?_ (by simp) _)⟩
  · have c2 : ¬ lim < 1 := by omega
    have c3 : ¬ lim > 65536 := by omega
    have c4 : ¬ st < 0 := by omega
    have c5 : ¬ (s.size : Int) > lim := by omega
    by_cases c6 : st + (s.size : Int) > 4611686018427387904
    · have e1 : loadE lim st s.data.toList.length = 2 := by unfold loadE; rw [hsz, if_neg c1, if_pos c6]
      have c7 : (4611686018427387904 : Int) - (s.size : Int) < st := by omega
      rw [e1, if_neg (by decide)]
      clear e1 hsz c1 c6
      go_enter Try.func16, Try.ntmps16
      go_wp2
      all_goals refine bodyPost_ret (v := .tuple #[refV 0 0 ⟨#[]⟩, .int .i64 2]) (by simp [results, Try.results16, go_sem, refV]) rfl ?_
      all_goals exact ⟨rfl, by repeat (first | exact Below.refl _ _ | apply Below.drew | refine Below.setCell ?_ (by simp) _ | refine Below.alloc ?_ (by simp) _)⟩
    · have e1 : loadE lim st s.data.toList.length = 0 := by unfold loadE; rw [hsz, if_neg c1, if_neg c6]
      have c7 : ¬ ((4611686018427387904 : Int) - (s.size : Int) < st) := by omega
      rw [e1, if_pos rfl]
      clear e1 hsz c1 c6
      go_enter Try.func16, Try.ntmps16
      go_wp2
      all_goals refine bodyPost_ret (v := .tuple #[refV lim st s, .int .i64 0]) (by simp [results, Try.results16, go_sem, refV]) rfl ?_
      all_goals exact ⟨rfl, by repeat (first | exact Below.refl _ _ | apply Below.drew | refine Below.setCell ?_ (by simp) _ | refine Below.alloc ?_ (by simp) _)⟩

theorem refEnd_any (m t : Nat) (l : List UInt8) (e : Nat) (w : World) (he : t + l.length = e) (h1 : e ≤ 9223372036854775807) :
    Calls Try.prog 24 #[refV m t (str l)] w fun x w' => x = .returned (.int .i64 e) ∧ w' = w.alloc (.cells #[.int .i64 (m : Int), .int .i64 (t : Int), .string (str l)] 27) := by
  obtain ⟨s, hs⟩ : ∃ s, str l = s := ⟨_, rfl⟩
  have hz : s.size = l.length := by rw [← hs]; rfl
  rw [hs]
  have d1 : (t : Int) + (s.size : Int) = (e : Int) := by omega
  have d2 : (e : Int) ≤ 9223372036854775807 := by omega
  clear he hs hz
  unfold refV
  go_enter Try.func24, Try.ntmps24
  go_wp2
  all_goals go_ret
  all_goals exact ⟨rfl, rfl⟩

/-- What the document's Append answers. -/
def refApp (m t : Nat) (l : List UInt8) (s : ByteArray) : Value :=
  if t + l.length + s.size > 4611686018427387904 then .tuple #[refV m t (str l), .int .i64 2]
  else .tuple #[refV m ((t + (l.length + s.size - m) : Nat) : Int) (str (lastN m (l ++ s.data.toList))), .int .i64 0]

theorem cat_data (a b : ByteArray) : (a ++ b).data.toList = a.data.toList ++ b.data.toList := by rw [ByteArray.data_append, Array.toList_append]
theorem cat_size (a b : ByteArray) : (a ++ b).size = a.size + b.size := by rw [Lib.size_eq, cat_data, List.length_append, ← Lib.size_eq, ← Lib.size_eq]

end Go.Proofs.Yteeakldeimhjjab
