/-
  The document's tail: Append.
-/
import Derived.Test.YteeakldeimhjjabTRefB
import Derived.WalkKit
import Derived.RegionTactic
import Derived.BigRegion
namespace Go.Proofs.Yteeakldeimhjjab
open Go.RowKit Go.Lib
set_option linter.unusedVariables false
set_option maxRecDepth 100000

set_option maxHeartbeats 2000000 in
theorem refAppend_any (m t : Nat) (l : List UInt8) (s : ByteArray) (w : World) (hl : l.length ≤ m) (hm : m ≤ 65536) (he : t + l.length ≤ 4611686018427387904) (hs : s.size ≤ 9223372036854775807) :
    Calls Try.prog 18 #[refV m t (str l), .string s] w fun x w' => x = .returned (refApp m t l s) ∧ Below w.heap.size w w' := by
  obtain ⟨e, hE⟩ : ∃ e, t + l.length = e := ⟨_, rfl⟩
  have HEnd : Hid (∀ W, Calls Try.prog 24 #[.agg #[.int .i64 (m : Int), .int .i64 (t : Int), .string (str l)]] W fun x w' => x = .returned (.int .i64 e) ∧ w' = W.alloc (.cells #[.int .i64 (m : Int), .int .i64 (t : Int), .string (str l)] 27)) := fun W => refEnd_any m t l e W hE (by omega)
  unfold refApp
  rw [hE] at he ⊢
  by_cases c1 : e + s.size > 4611686018427387904
  · rw [if_pos c1]
    have d1 : (4611686018427387904 : Int) - (e : Int) < (s.size : Int) := by omega
    obtain ⟨d, hd⟩ : ∃ d, str l = d := ⟨_, rfl⟩
    rw [hd] at HEnd ⊢
    unfold refV
    clear c1 hE hd
    go_enter Try.func18, Try.ntmps18
    go_wp2_with (go_at_call 24; refine (HEnd.out _).mono ?_; rintro x w1 ⟨rfl, rfl⟩)
    all_goals refine bodyPost_ret (v := .tuple #[refV m t d, .int .i64 2]) (by simp [results, Try.results18, go_sem, refV]) rfl ?_
    all_goals exact ⟨rfl, by repeat (first | exact Below.refl _ _ | apply Below.drew | refine Below.setCell ?_ (by simp <;> omega) _ | refine Below.alloc ?_ (by simp <;> omega) _)⟩
  · rw [if_neg c1]
    have d1 : ¬ ((4611686018427387904 : Int) - (e : Int) < (s.size : Int)) := by omega
    obtain ⟨G, hG⟩ : ∃ G, l.length + s.size - m = G := ⟨_, rfl⟩
    rw [hG]
    have hcat : str (lastN m (l ++ s.data.toList)) = (str l ++ s).extract G (str l ++ s).size := by
      apply ByteArray.ext
      apply Array.toList_inj.1
      rw [ext_drop, cat_data]
      show lastN m (l ++ s.data.toList) = _
      unfold lastN
      rw [List.length_append, ← Lib.size_eq, hG]
      rfl
    rw [hcat]
    have hds : (str l).size = l.length := rfl
    have hcs := cat_size (str l) s
    rw [hds] at hcs
    obtain ⟨d, hd⟩ : ∃ d, str l = d := ⟨_, rfl⟩
    rw [hd] at HEnd hcs hds ⊢
    unfold refV
    clear hcat c1 hd hcs
    by_cases hg : l.length + s.size ≤ m
    · have hG0 : G = 0 := by omega
      subst hG0
      have d2 : ¬ ((m : Int) < (l.length : Int) + (s.size : Int)) := by omega
      have hall : (d ++ s).extract 0 (d ++ s).size = d ++ s := by
        apply ByteArray.ext
        apply Array.toList_inj.1
        rw [ext_drop]
        rfl
      have HALL : Hid ((d ++ s).extract 0 (l.length + s.size) = d ++ s) := by
        have h := hall
        rw [cat_size, hds] at h
        exact h
      rw [hall]
      clear hG hall
      go_enter Try.func18, Try.ntmps18
      go_wp2_with (go_at_call 24; refine (HEnd.out _).mono ?_; rintro x w1 ⟨rfl, rfl⟩)
      go_region
      all_goals (try go_wp2)
      all_goals refine bodyPost_ret (v := .tuple #[refV m ((t + 0 : Nat) : Int) (d ++ s), .int .i64 0]) (by simp [results, Try.results18, go_sem, refV, HALL.out]) rfl ?_
      all_goals exact ⟨rfl, by repeat (first | exact Below.refl _ _ | apply Below.drew | refine Below.setCell ?_ (by simp <;> omega) _ | refine Below.alloc ?_ (by simp <;> omega) _)⟩
    · have d2 : (m : Int) < (l.length : Int) + (s.size : Int) := by omega
      have d3 : (l.length : Int) + (s.size : Int) - (m : Int) = (G : Int) := by omega
      have d4 : (G : Int) ≤ (l.length : Int) + (s.size : Int) := by omega
      have d5 : (t : Int) + (G : Int) ≤ 9223372036854775807 := by omega
      clear hG
      go_enter Try.func18, Try.ntmps18
      go_wp2_with (go_at_call 24; refine (HEnd.out _).mono ?_; rintro x w1 ⟨rfl, rfl⟩)
      go_region
      all_goals (try go_wp2)
      all_goals refine bodyPost_ret (v := .tuple #[refV m ((t + G : Nat) : Int) ((d ++ s).extract G (d ++ s).size), .int .i64 0]) (by simp [results, Try.results18, go_sem, refV, hds]) rfl ?_
      all_goals exact ⟨rfl, by repeat (first | exact Below.refl _ _ | apply Below.drew | refine Below.setCell ?_ (by simp <;> omega) _ | refine Below.alloc ?_ (by simp <;> omega) _)⟩

end Go.Proofs.Yteeakldeimhjjab
