/-
  The law's own functions: works.
-/
import Derived.Test.YtkpnolkbheoocaaQAs
import Derived.WalkKit
import Derived.Deep.RegionLaw
import Derived.Deep.RegionHeld3
namespace Go.Proofs.Ytkpnolkbheoocaa
open Go.RowKit
set_option linter.unusedVariables false
set_option maxRecDepth 100000

/-- A queue that is younger than w. -/
structure Play (w W : World) (F : List Nat) (b : Nat) (q : Qs) : Prop where
  at_ : QAt W F b q
  below : Below w.heap.size w W
  young : ∀ k ∈ F, w.heap.size ≤ k
theorem Play.more {w W W' : World} {F : List Nat} {b : Nat} {q : Qs} (h : Play w W F b q) (hb : Below W.heap.size W W') : Play w W' F b q := ⟨h.at_.below hb, h.below.trans (hb.mono h.below.size), h.young⟩
theorem Play.went {w W W' : World} {F : List Nat} {b : Nat} {q q' : Qs} (h : Play w W F b q) (hw : Went W W' F b q') : ∃ F', Play w W' F' b q' := by
  obtain ⟨F', h1, h2, h3⟩ := hw
  exact ⟨F', h1, h2.under h.below h.below.size h.young, fun k hk => by rcases h3 k hk with e | e; exact h.young k e; exact Nat.le_trans h.below.size e⟩
theorem play_put {w W : World} {F : List Nat} {b : Nat} {q : Qs} {l : List UInt8} (h : Play w W F b q) (hl : l.length ≤ 9223372036854775807) :
    Calls Try.prog 20 #[.pointer (some ⟨b, 0, none⟩), .string (str l)] W fun x w' => x = .returned (.int .i64 (putE q [l])) ∧ ∃ F', Play w w' F' b (putQ q [l]) := (put_any h.at_ hl).mono fun x w' hx => ⟨hx.1, h.went hx.2⟩
theorem play_out1 {w W : World} {F : List Nat} {b : Nat} {q : Qs} {l : List UInt8} (h : Play w W F b q) (hl : l.length ≤ 9223372036854775807) (p t : Int) (ht : t ≤ 9223372036854775807) (X : World) (hX : X = W.alloc (.cells #[.string (str l)] 9)) :
    Calls Try.prog 23 #[.pointer (some ⟨b, 0, none⟩), .int .i64 p, .int .i64 t, .slice (some ⟨W.heap.size, 0, none⟩) 1 1] X fun x w' => x = .returned (.int .i64 (outE q p t [l])) ∧ ∃ F', Play w w' F' b (outQ q p t [l]) := by
  subst hX
  have h2 := h.more ((Below.refl _ _).alloc (Nat.le_refl _) (.cells #[.string (str l)] 9))
  exact (out_any p t ht h2.at_ (Strs.one hl) (fun g hg hh => by cases hg; have h9 : W.heap.size < W.heap.size := h.at_.lt _ hh; omega)).mono fun x w' hx => ⟨hx.1, h2.went hx.2⟩

set_option maxHeartbeats 4000000 in
theorem works_any (w : World) : Calls Try.prog 19 #[] w fun x w' => x = .returned (.bool true) ∧ Below w.heap.size w w' := by
  have HN : Hid (Calls Try.prog 17 #[.int .i64 10] w fun x w' => Made w w' 10 x) := new_any 10 w
  go_enter Try.func19, Try.ntmps19
  go_wp2_with fail
  refine HN.out.mono ?_
  rintro x w1 ⟨hbel, ⟨hE, rfl⟩ | ⟨n, hn, hn1, b, F, rfl, hq, hf⟩⟩
  · exact absurd hE (by decide)
  obtain rfl : n = 10 := by omega
  have HP1 : Hid (Play w w1 F b (newQ 10)) := ⟨hq, hbel, hf⟩
  clear HN hbel hn hn1 hq hf
  obtain ⟨Q1, hQ1⟩ : ∃ Q1, putQ (newQ 10) [[97, 98, 99]] = Q1 := ⟨_, rfl⟩
  obtain ⟨Q2, hQ2⟩ : ∃ Q2, outQ Q1 1 5 [[120, 121, 122]] = Q2 := ⟨_, rfl⟩
  have e1 : Q1 = ⟨10, false, [97, 98, 99, 10], [(0, 0), (0, 0), (0, 0), (0, 0)]⟩ := by rw [← hQ1]; rfl
  have e2 : Q2 = ⟨10, false, [97, 98, 99, 10, 120, 121, 122, 10], [(0, 0), (0, 0), (0, 0), (0, 0), (1, 5), (1, 5), (1, 5), (1, 5)]⟩ := by rw [← hQ2, e1]; rfl
  have HPut : Hid (Calls Try.prog 20 #[.pointer (some ⟨b, 0, none⟩), .string ⟨#[97, 98, 99]⟩] w1 fun x w' => x = .returned (.int .i64 0) ∧ ∃ F', Play w w' F' b Q1) := by
    have h := play_put (l := [97, 98, 99]) HP1.out (by decide)
    rw [show putE (newQ 10) [[97, 98, 99]] = 0 from rfl, hQ1] at h
    exact h
  have HO1 : Hid (∀ W F, Play w W F b Q1 → Calls Try.prog 23 #[.pointer (some ⟨b, 0, none⟩), .int .i64 1, .int .i64 5, .slice (some ⟨W.heap.size, 0, none⟩) 1 1] (W.alloc (.cells #[.string ⟨#[120, 121, 122]⟩] 9)) fun x w' => x = .returned (.int .i64 0) ∧ ∃ F', Play w w' F' b Q2) := fun W F h => by
    have h := play_out1 (l := [120, 121, 122]) h (by decide) 1 5 (by decide) _ rfl
    rw [hQ2, show outE Q1 1 5 [[120, 121, 122]] = 0 by rw [e1]; rfl] at h
    exact h
  have HO2 : Hid (∀ W F, Play w W F b Q2 → Calls Try.prog 23 #[.pointer (some ⟨b, 0, none⟩), .int .i64 1, .int .i64 5, .slice (some ⟨W.heap.size, 0, none⟩) 1 1] (W.alloc (.cells #[.string ⟨#[120, 121, 122]⟩] 9)) fun x w' => x = .returned (.int .i64 3) ∧ ∃ F', Play w w' F' b Q2) := fun W F h => by
    have h := play_out1 (l := [120, 121, 122]) h (by decide) 1 5 (by decide) _ rfl
    rw [show outQ Q2 1 5 [[120, 121, 122]] = Q2 by rw [e2]; rfl, show outE Q2 1 5 [[120, 121, 122]] = 3 by rw [e2]; rfl] at h
    exact h
  have HOl : Hid (∀ W F, Play w W F b Q2 → Calls Try.prog 32 #[.pointer (some ⟨b, 0, none⟩), .int .i64 1] W fun x w' => x = .returned (.tuple #[.int .i64 5, .bool true]) ∧ Play w w' F b Q2) := fun W F h => by
    have h2 := oldest_any h.at_ 1
    rw [show oldV Q2.os 1 = (5, true) by rw [e2]; rfl] at h2
    exact h2.mono fun x w' h3 => ⟨h3.1, h.more h3.2⟩
  have HSi : Hid (∀ W F, Play w W F b Q2 → Calls Try.prog 7 #[.pointer (some ⟨b, 0, none⟩)] W fun x w' => x = .returned (.int .i64 8) ∧ W = w') := fun W F h => by
    have h2 := size_any h.at_
    rw [show Q2.bs.length = 8 by rw [e2]; rfl] at h2
    exact h2
  have HDr : Hid (∀ W F, Play w W F b Q2 → Calls Try.prog 11 #[.pointer (some ⟨b, 0, none⟩), .int .i64 5] W fun x w' => x = .returned (.string ⟨#[97, 98, 99, 10, 120]⟩) ∧ Below w.heap.size w w') := fun W F h => by
    have h2 := drain_any 5 h.at_ (by decide) (by decide)
    rw [show str (Q2.bs.take (5 : Int).toNat) = ⟨#[97, 98, 99, 10, 120]⟩ by rw [e2]; rfl] at h2
    exact h2.mono fun x w' h3 => ⟨h3.1, by obtain ⟨F', h4⟩ := h.went h3.2; exact h4.below⟩
  clear e1 e2 hQ1 hQ2 HP1
  go_wp2_with fail
  refine HPut.out.mono ?_
  rintro x w2 ⟨rfl, F2, hp2⟩
  have HP2 : Hid (Play w w2 F2 b Q1) := hp2
  clear hp2 HPut
  go_wp2_with fail
  refine (HO1.out _ _ HP2.out).mono ?_
  rintro x w3 ⟨rfl, F3, hp3⟩
  have HP3 : Hid (Play w w3 F3 b Q2) := hp3
  clear hp3 HP2 HO1
  go_wp2_with fail
  refine (HO2.out _ _ HP3.out).mono ?_
  rintro x w4 ⟨rfl, F4, hp4⟩
  have HP4 : Hid (Play w w4 F4 b Q2) := hp4
  clear hp4 HP3 HO2
  go_wp2_with fail
  refine (HOl.out _ _ HP4.out).mono ?_
  rintro x w5 ⟨rfl, hp5⟩
  have HP5 : Hid (Play w w5 F4 b Q2) := hp5
  clear hp5 HP4 HOl
  go_wp2_with fail
  refine (HSi.out _ _ HP5.out).mono ?_
  rintro x w6 ⟨rfl, rfl⟩
  go_wp2_with fail
  refine (HDr.out _ _ HP5.out).mono ?_
  rintro x w7 ⟨rfl, hb7⟩
  have HB7 : Hid (Below w.heap.size w w7) := hb7
  clear hb7
  go_wp2_with fail
  all_goals go_ret
  all_goals exact ⟨rfl, HB7.out⟩

end Go.Proofs.Ytkpnolkbheoocaa
