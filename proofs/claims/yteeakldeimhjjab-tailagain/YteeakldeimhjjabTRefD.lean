/-
  The document's tail: Read, Lines.
-/
import Derived.Test.YteeakldeimhjjabTRefC
import Derived.WalkKit
import Derived.Deep.LoopGhost
namespace Go.Proofs.Yteeakldeimhjjab
open Go.RowKit Go.Lib
set_option linter.unusedVariables false
set_option maxRecDepth 100000

theorem ext_str (l : List UInt8) (a : Nat) : (str l).extract a (str l).size = str (l.drop a) := by
  apply ByteArray.ext
  apply Array.toList_inj.1
  rw [ext_drop]
  rfl
theorem ext_str0 (l : List UInt8) (k : Nat) : (str l).extract 0 k = str (l.take k) := by
  apply ByteArray.ext
  apply Array.toList_inj.1
  rw [ByteArray.data_extract, Array.toList_extract, List.extract_eq_take_drop]
  rfl

set_option maxHeartbeats 2000000 in
theorem refRead_any (m t : Nat) (l : List UInt8) (f k : Int) (w : World) (he : t + l.length ≤ 4611686018427387904) (hl : l.length ≤ 65536) (hf1 : -9223372036854775808 ≤ f) (hf2 : f ≤ 9223372036854775807) (hm1 : -9223372036854775808 ≤ k) (hm2 : k ≤ 9223372036854775807) :
    Calls Try.prog 20 #[refV m t (str l), .int .i64 f, .int .i64 k] w fun x w' => x = .returned (readV t l f k) ∧ Below w.heap.size w w' := by
  obtain ⟨e, hE⟩ : ∃ e, t + l.length = e := ⟨_, rfl⟩
  have HEnd : Hid (∀ W, Calls Try.prog 24 #[.agg #[.int .i64 (m : Int), .int .i64 (t : Int), .string (str l)]] W fun x w' => x = .returned (.int .i64 e) ∧ w' = W.alloc (.cells #[.int .i64 (m : Int), .int .i64 (t : Int), .string (str l)] 27)) := fun W => refEnd_any m t l e W hE (by omega)
  rw [hE] at he
  have hEi : (t : Int) + (l.length : Int) = (e : Int) := by omega
  unfold refV
  by_cases c1 : f < 0 ∨ k < 0
  · rw [readV_arg c1]
    obtain ⟨d, hd⟩ : ∃ d, str l = d := ⟨_, rfl⟩
    rw [hd] at HEnd ⊢
    clear hEi hE hd
    by_cases c0 : f < 0
    · clear c1
      go_enter Try.func20, Try.ntmps20
      go_wp2
      all_goals go_ret3
      all_goals exact ⟨rfl, by repeat (first | exact Below.refl _ _ | apply Below.drew | refine Below.setCell ?_ (by simp <;> omega) _ | refine Below.alloc ?_ (by simp <;> omega) _)⟩
    · have c2 : k < 0 := by omega
      clear c1
      go_enter Try.func20, Try.ntmps20
      go_wp2
      all_goals go_ret3
      all_goals exact ⟨rfl, by repeat (first | exact Below.refl _ _ | apply Below.drew | refine Below.setCell ?_ (by simp <;> omega) _ | refine Below.alloc ?_ (by simp <;> omega) _)⟩
  have c3 : ¬ f < 0 := by omega
  have c4 : ¬ k < 0 := by omega
  by_cases c2 : f < t
  · rw [readV_gone c1 c2]
    obtain ⟨d, hd⟩ : ∃ d, str l = d := ⟨_, rfl⟩
    rw [hd] at HEnd ⊢
    clear c1 hEi hE hd
    go_enter Try.func20, Try.ntmps20
    go_wp2
    all_goals go_ret3
    all_goals exact ⟨rfl, by repeat (first | exact Below.refl _ _ | apply Below.drew | refine Below.setCell ?_ (by simp <;> omega) _ | refine Below.alloc ?_ (by simp <;> omega) _)⟩
  by_cases c5 : f > (t : Int) + l.length
  · rw [readV_ahead c1 c2 c5]
    have c6 : (e : Int) < f := by omega
    obtain ⟨d, hd⟩ : ∃ d, str l = d := ⟨_, rfl⟩
    rw [hd] at HEnd ⊢
    clear c1 c5 hEi hE hd
    go_enter Try.func20, Try.ntmps20
    go_wp2_with (go_at_call 24; refine (HEnd.out _).mono ?_; rintro x w1 ⟨rfl, rfl⟩)
    all_goals go_ret3
    all_goals exact ⟨rfl, by repeat (first | exact Below.refl _ _ | apply Below.drew | refine Below.setCell ?_ (by simp <;> omega) _ | refine Below.alloc ?_ (by simp <;> omega) _)⟩
  have c6 : ¬ ((e : Int) < f) := by omega
  obtain ⟨a, rfl⟩ : ∃ a : Nat, f = ((t + a : Nat) : Int) := ⟨f.toNat - t, by omega⟩
  obtain ⟨k, rfl⟩ : ∃ q : Nat, k = (q : Int) := ⟨k.toNat, by omega⟩
  have ha : a ≤ l.length := by omega
  obtain ⟨q, hq⟩ : ∃ q, q = min k (l.length - a) := ⟨_, rfl⟩
  rw [readV_ok ha hq]
  have hd1 := ext_str l a
  have hd2 := ext_str0 (l.drop a) q
  obtain ⟨F, hF⟩ : ∃ F : Int, ((t + a : Nat) : Int) = F := ⟨_, rfl⟩
  obtain ⟨T, hT⟩ : ∃ T : Int, ((t + a + q : Nat) : Int) = T := ⟨_, rfl⟩
  rw [hF] at hf1 hf2 c1 c2 c3 c5 c6 ⊢
  rw [hT]
  have e1 : F - (t : Int) = (a : Int) := by omega
  have e2 : F + (q : Int) = T := by omega
  have hds : (str l).size = l.length := rfl
  have hdz : (str (l.drop a)).size = l.length - a := by show (l.drop a).length = _; rw [List.length_drop]
  by_cases hk : k < l.length - a
  · have hqk : q = k := by omega
    subst hqk
    have e3 : (q : Int) < ((l.length - a : Nat) : Int) := by omega
    have hlast : (str ((l.drop a).take q)).size = q := by show ((l.drop a).take q).length = _; rw [List.length_take, List.length_drop]; omega
    obtain ⟨u, hu⟩ : ∃ u, str ((l.drop a).take q) = u := ⟨_, rfl⟩
    rw [hu] at hd2 hlast ⊢
    obtain ⟨r, hr⟩ : ∃ r, str (l.drop a) = r := ⟨_, rfl⟩
    rw [hr] at hd1 hd2 hdz
    obtain ⟨d, hd⟩ : ∃ d, str l = d := ⟨_, rfl⟩
    rw [hd] at HEnd hd1 hds ⊢
    have HD1 := hd1
    rw [hds] at HD1
    have b1 : (a : Int) ≤ (l.length : Int) := by omega
    clear hq hF hT hr hd hu c1 c5 hEi hE hd1
    go_enter Try.func20, Try.ntmps20
    go_wp2_with (go_at_call 24; refine (HEnd.out _).mono ?_; rintro x w1 ⟨rfl, rfl⟩)
    all_goals go_ret3
    all_goals exact ⟨rfl, by repeat (first | exact Below.refl _ _ | apply Below.drew | refine Below.setCell ?_ (by simp <;> omega) _ | refine Below.alloc ?_ (by simp <;> omega) _)⟩
  · have hqk : q = l.length - a := by omega
    have htk : (l.drop a).take q = l.drop a := List.take_of_length_le (by rw [List.length_drop, hqk]; exact Nat.le_refl _)
    rw [htk]
    have e3 : ¬ ((k : Int) < ((l.length - a : Nat) : Int)) := by omega
    rw [hqk] at e2
    obtain ⟨r, hr⟩ : ∃ r, str (l.drop a) = r := ⟨_, rfl⟩
    rw [hr] at hd1 hdz ⊢
    obtain ⟨d, hd⟩ : ∃ d, str l = d := ⟨_, rfl⟩
    rw [hd] at HEnd hd1 hds ⊢
    have HD1 := hd1
    rw [hds] at HD1
    have b1 : (a : Int) ≤ (l.length : Int) := by omega
    clear hd2 hqk htk hq hF hT hr hd c1 c5 hEi hE hd1
    go_enter Try.func20, Try.ntmps20
    go_wp2_with (go_at_call 24; refine (HEnd.out _).mono ?_; rintro x w1 ⟨rfl, rfl⟩)
    all_goals go_ret3
    all_goals exact ⟨rfl, by repeat (first | exact Below.refl _ _ | apply Below.drew | refine Below.setCell ?_ (by simp <;> omega) _ | refine Below.alloc ?_ (by simp <;> omega) _)⟩

set_option maxHeartbeats 2000000 in
theorem refLines_any (m t : Nat) (l : List UInt8) (n : Int) (w : World) (hl : l.length ≤ 65536) (hn1 : -9223372036854775808 ≤ n) (hn2 : n ≤ 9223372036854775807) :
    Calls Try.prog 22 #[refV m t (str l), .int .i64 n] w fun x w' => x = .returned (.string (str (linesT n l))) ∧ Below w.heap.size w w' := by
  unfold refV
  by_cases c1 : n < 1
  · rw [linesT_none l c1]
    obtain ⟨d, hd⟩ : ∃ d, str l = d := ⟨_, rfl⟩
    rw [hd]
    clear hd
    go_enter Try.func22, Try.ntmps22
    go_wp2
    all_goals go_ret
    all_goals exact ⟨rfl, by repeat (first | exact Below.refl _ _ | apply Below.drew | refine Below.setCell ?_ (by simp <;> omega) _ | refine Below.alloc ?_ (by simp <;> omega) _)⟩
  · obtain ⟨d, hd⟩ : ∃ d, str l = d := ⟨_, rfl⟩
    have hds : d.size = l.length := by rw [← hd]; rfl
    have HJ : Hid (∀ j (h : j < d.size), l[j]? = some d[j]) := by
      intro j h
      subst hd
      exact List.getElem?_eq_getElem h
    have HD : Hid (∀ a, d.extract a l.length = str (l.drop a)) := by
      intro a
      have := ext_str l a
      rw [hd, hds] at this
      exact this
    have HD0 : Hid (str l = d) := hd
    rw [hd]
    obtain ⟨N, hN⟩ : ∃ N, l.length = N := ⟨_, rfl⟩
    have HN : Hid (l.length = N) := hN
    rw [hN] at hds HD hl
    clear hd hN
    go_enter Try.func22, Try.ntmps22
    go_wp2
    go_loopg [1, 5] N (fun gh s1 s5 wx => wx = w.alloc (.cells #[.int .i64 (m : Int), .int .i64 (t : Int), .string d] 27) ∧ ∃ (k : Nat) (q : Int), k ≤ N ∧ k = gh ∧ s5 = .int .i64 ((k : Int) - 2) ∧ s1 = .int .i64 q ∧ 1 ≤ q ∧ q ≤ 9223372036854775807 ∧ Hid (linesT n l = l.drop (lineAt l q.toNat k)))
    case atStart => exact ⟨rfl, N, n, Nat.le_refl _, rfl, rfl, rfl, by omega, hn2, by show _ = _; unfold linesT; rw [HN.out]⟩
    case round =>
      obtain ⟨rfl, k, q, hk, rfl, rfl, rfl, hq1, hq2, hrel⟩ := hrel
      by_cases hk2 : k < 2
      · have e0 : linesT n l = l := by
          rw [hrel.out]
          obtain ⟨z, hz⟩ : ∃ z, q.toNat = z + 1 := ⟨q.toNat - 1, by omega⟩
          rw [hz]
          match k, hk2 with
          | 0, _ => rfl
          | 1, _ => show l.drop (lineAt l z 0) = l; rw [lineAt_zero]; rfl
        have E0 : Hid (linesT n l = l) := e0
        have d1 : ¬ (0 : Int) ≤ (k : Int) - 2 := by omega
        clear hrel e0
        go_wp2
        all_goals go_ret
        all_goals exact ⟨by rw [E0.out, HD0.out]; rfl, by repeat (first | exact Below.refl _ _ | apply Below.drew | refine Below.setCell ?_ (by simp <;> omega) _ | refine Below.alloc ?_ (by simp <;> omega) _)⟩
      · obtain ⟨j, rfl⟩ : ∃ j, k = j + 2 := ⟨k - 2, by omega⟩
        obtain ⟨z, hz⟩ : ∃ z, q.toNat = z + 1 := ⟨q.toNat - 1, by omega⟩
        have hjd : j < d.size := by omega
        have e1 : ((j + 2 : Nat) : Int) - 2 = (j : Int) := by omega
        obtain ⟨x, hx⟩ : ∃ x : UInt8, d[j] = x := ⟨_, rfl⟩
        have hlf : l[j]? = some x := by rw [HJ.out j hjd, hx]
        have HX : Hid (d[j] = x) := hx
        have b1 : (j : Int) < (N : Int) := by omega
        rw [e1]
        have hrel2 : linesT n l = l.drop (lineAt l z (behindLF l (j + 1))) := by
          rw [hrel.out, hz]
          rfl
        by_cases hx10 : (x.toNat : Int) = 10
        · have hx1 : x = 10 := UInt8.toNat_inj.1 (show x.toNat = (10 : UInt8).toNat by have : (10 : UInt8).toNat = 10 := rfl; omega)
          rw [behindLF_hit (by rw [hlf, hx1])] at hrel2
          by_cases hz0 : z = 0
          · have hq0 : q - 1 = 0 := by omega
            have E1 : Hid (linesT n l = l.drop (j + 1)) := by
              show _ = _
              rw [hrel2, hz0]
              rfl
            have b2 : (j : Int) + 1 ≤ (N : Int) := by omega
            clear hrel hrel2 hz hlf hx1 hz0 e1
            go_wp2
            all_goals go_ret
            all_goals exact ⟨by rw [E1.out, ← HD.out]; rfl, by repeat (first | exact Below.refl _ _ | apply Below.drew | refine Below.setCell ?_ (by simp <;> omega) _ | refine Below.alloc ?_ (by simp <;> omega) _)⟩
          · have hq0 : ¬ q - 1 = 0 := by omega
            have E1 : Hid (linesT n l = l.drop (lineAt l (q - 1).toNat (j + 1))) := by
              show _ = _
              rw [hrel2, show (q - 1).toNat = z by omega]
            clear hrel hrel2 hz hlf hx1 hz0 e1
            go_wp2
            go_roundg (j + 1)
            case measure => omega
            case rel => exact ⟨rfl, j + 1, q - 1, by omega, rfl, by first | rfl | go_num, by first | rfl | go_num, by omega, by omega, E1⟩
        · have hx1 : ¬ x = 10 := fun h => hx10 (by rw [h]; rfl)
          rw [behindLF_miss (by rw [hlf]; exact fun h => hx1 (Option.some.inj h))] at hrel2
          have E1 : Hid (linesT n l = l.drop (lineAt l q.toNat (j + 1))) := by
            show _ = _
            rw [hrel2, hz]
            rfl
          clear hrel hrel2 hz hlf hx1 e1
          go_wp2
          go_roundg (j + 1)
          case measure => omega
          case rel => exact ⟨rfl, j + 1, q, by omega, rfl, by first | rfl | go_num, by first | rfl | go_num, by omega, by omega, E1⟩

end Go.Proofs.Yteeakldeimhjjab
