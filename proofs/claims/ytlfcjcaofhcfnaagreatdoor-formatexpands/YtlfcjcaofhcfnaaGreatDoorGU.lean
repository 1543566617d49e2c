/-
  Formats: the statements' own first words: a place is filled in.
-/
import Derived.Test.YtlfcjcaofhcfnaaGreatDoorGK
import Derived.Test.YtlfcjcaofhcfnaaGreatDoorGT
namespace Go.Proofs.YtlfcjcaofhcfnaaGreatDoor
open Go.RowKit
set_option linter.unusedVariables false
set_option maxRecDepth 100000

theorem mat_one1 : mat (dtoksF [97, 42, 91, 120, 45, 122, 93]) [97, 98, 98, 121] = true := by kernel_rfl
theorem mat_two1 : mat (dtoksF [97, 42, 91, 120, 45, 122, 93]) [97, 98, 98] = false := by kernel_rfl
def vars3 : Vars := [([97], [49]), ([98], [120, 121, 122]), ([119, 105, 110, 100, 111, 119, 95, 105, 110, 100, 101, 120], [55])]
theorem vars3_in (w : World) : VarsIn (w.alloc (.cells #[.string ⟨#[97]⟩, .string ⟨#[49]⟩, .string ⟨#[98]⟩, .string ⟨#[120, 121, 122]⟩, .string ⟨#[119, 105, 110, 100, 111, 119, 95, 105, 110, 100, 101, 120]⟩, .string ⟨#[55]⟩] 44)) (.slice (some ⟨w.heap.size, 0, none⟩) 3 3) vars3 := by
  refine ⟨_, _, rfl, by decide, fun i p hp => ⟨w.heap.size, 0, rfl, by simp, ?_⟩⟩
  have hb := heap_alloc_new w (.cells #[.string ⟨#[97]⟩, .string ⟨#[49]⟩, .string ⟨#[98]⟩, .string ⟨#[120, 121, 122]⟩, .string ⟨#[119, 105, 110, 100, 111, 119, 95, 105, 110, 100, 101, 120]⟩, .string ⟨#[55]⟩] 44)
  rw [cell_atT hb, cell_atT hb]
  match i, hp with
  | 0, hp => cases hp; exact ⟨rfl, rfl⟩
  | 1, hp => cases hp; exact ⟨rfl, rfl⟩
  | 2, hp => cases hp; exact ⟨rfl, rfl⟩
  | i + 3, hp => simp [vars3] at hp
theorem vars3_short : ∀ p ∈ vars3, p.2.length ≤ 2147483647 := by
  intro p hp
  simp only [vars3, List.mem_cons, List.not_mem_nil, or_false] at hp
  rcases hp with rfl | rfl | rfl <;> decide
theorem vars0_in (w : World) : VarsIn w (.slice none 0 0) [] := ⟨none, 0, rfl, by decide, fun i p hp => by simp at hp⟩
set_option maxHeartbeats 4000000 in
theorem works_true {w : World} (hm : NEnv w) (hg : w.cell? ⟨0, 0, none⟩ = some (rtv 33)) :
    Calls Tryz.prog 7 #[] w fun e w' => e = .returned (.bool true) ∧ Below w.heap.size w w' := by
  have HM1 := hidK fun W => match_any [97, 42, 91, 120, 45, 122, 93] [97, 98, 98, 121] (by decide) (by decide) W
  have HM2 := hidK fun W => match_any [97, 42, 91, 120, 45, 122, 93] [97, 98, 98] (by decide) (by decide) W
  rw [mat_one1] at HM1
  rw [mat_two1] at HM2
  have HE : Hid (∀ W sv vs, Below w.heap.size w W → VarsIn W sv vs → (∀ p ∈ vs, p.2.length ≤ 2147483647) → ∀ l, l.length ≤ 2147483647 → ∀ res, sayF vs 16 l = some res → Calls Tryz.prog 5 #[.string (str l), sv] W fun e w' => e = ansF res ∧ Below W.heap.size W w') := by
    intro W sv vs hb hv hs l hl res h
    exact exp_any hv (hm.below hb) hs ((hb.cell (p := ⟨0, 0, none⟩) (World.block_lt_of_cell? w _ hg)).trans hg) l hl res h
  clear hm hg
  go_enter Tryz.func7, Tryz.ntmps7
  go_wp2_with fail
  refine (HE.out _ _ vars3 ((Below.refl _ _).alloc (Nat.le_refl _) _) (vars3_in w) vars3_short [35, 123, 63, 97, 44, 35, 73, 58, 35, 123, 61, 50, 59, 112, 51, 58, 98, 125, 44, 120, 125] (by decide) (.ok [55, 58, 120, 121, 32]) say_one).mono ?_
  rintro e w1 ⟨rfl, hb1⟩
  have HB1 : Hid (Below w.heap.size w w1) := ((Below.refl _ w).alloc (Nat.le_refl _) _).trans (hb1.mono (by simp))
  clear hb1
  simp only [ansF]
  go_wp2_with fail
  refine (HE.out _ _ [] HB1.out (vars0_in w1) (fun p hp => by simp at hp) [35, 123] (by decide) (.error 100) say_two).mono ?_
  rintro e w2 ⟨rfl, hb2⟩
  have HB2 := hidK (HB1.out.trans (hb2.mono HB1.out.size))
  clear hb2
  simp only [ansF]
  have s1 : (str [55, 58, 120, 121, 32]).toList = [55, 58, 120, 121, 32] := str_toList _
  have s2 : (str []).toList = [] := str_toList _
  go_wp2_with fail
  refine (HM1.out _).mono ?_
  rintro e w3 ⟨rfl, hb3⟩
  have HB3 := hidK (HB2.out.trans (hb3.mono HB2.out.size))
  clear hb3
  go_wp2_with fail
  refine (HM2.out _).mono ?_
  rintro e w4 ⟨rfl, hb4⟩
  have HB4 := hidK (HB3.out.trans (hb4.mono HB3.out.size))
  clear hb4
  go_wp2_with fail
  all_goals go_ret
  all_goals exact ⟨rfl, HB4.out⟩
/-- What the statements' walks ask of the world. -/
structure FEnv (w : World) : Prop where
  num : NEnv w
  err : w.cell? ⟨0, 0, none⟩ = some (rtv 33)
theorem FEnv.below {w w' : World} (h : FEnv w) (hb : Below w.heap.size w w') : FEnv w' := ⟨h.num.below hb, (hb.cell (p := ⟨0, 0, none⟩) (World.block_lt_of_cell? w _ h.err)).trans h.err⟩
/-- Expand, of every text. -/
def saysF (vs : Vars) (l : List UInt8) : Except Int (List UInt8) := (sayF vs 16 l).getD (.error 0)
theorem says_eq (vs : Vars) (l : List UInt8) : sayF vs 16 l = some (saysF vs l) := by
  obtain ⟨r, hr⟩ := say_told vs 16 l
  unfold saysF
  rw [hr]
  rfl
theorem expand_all {w : World} (hE : FEnv w) {sv : Value} {vs : Vars} (hv : VarsIn w sv vs) (hs : ∀ p ∈ vs, p.2.length ≤ 2147483647) (l : List UInt8) (hl : l.length ≤ 2147483647) :
    Calls Tryz.prog 5 #[.string (str l), sv] w fun e w' => e = ansF (saysF vs l) ∧ Below w.heap.size w w' := exp_any hv hE.num hs hE.err l hl _ (says_eq vs l)
theorem works_all {w : World} (hE : FEnv w) : Calls Tryz.prog 7 #[] w fun e w' => e = .returned (.bool true) ∧ Below w.heap.size w w' := works_true hE.num hE.err
end Go.Proofs.YtlfcjcaofhcfnaaGreatDoor
