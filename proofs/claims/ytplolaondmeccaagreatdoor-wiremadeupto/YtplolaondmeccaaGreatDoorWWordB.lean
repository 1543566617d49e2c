/-
  Words, of greater texts.
-/
import Derived.Test.YtplolaondmeccaaGreatDoorWWordW
import Derived.WalkKit
import Derived.LoopTactic
import Derived.RegionTactic
import Derived.Deep.RegionWith
import Derived.Deep.DrawnRows
import Derived.Deep.RegionHeld3
namespace Go.Proofs.YtplolaondmeccaaGreatDoor
open Go.RowKit
set_option linter.unusedVariables false

set_option maxRecDepth 20000 in
set_option maxHeartbeats 1000000 in
theorem word_big (s : ByteArray) (hs : s.size ≤ 67000000) (w : World) (hE : Env w) (hS : Spaces w) :
    Calls Tryz.prog 6 #[.string s] w fun e w' => e = .returned (.tuple #[.bool (wordS 0 s.data.toList).1, .bool (wordS 0 s.data.toList).2]) ∧ Below w.heap.size w w' := by
  have HE : Hid (∀ W, Below w.heap.size w W → Env W) := fun W h => hE.below h
  have HS : Hid (∀ W, Below w.heap.size w W → Spaces W) := fun W h => hS.below h
  obtain ⟨want, hwant⟩ : ∃ x, wordS 0 s.data.toList = x := ⟨_, rfl⟩
  rw [hwant]
  obtain ⟨wa, wb⟩ := want
  have HW : Hid (wordS 0 s.data.toList = (wa, wb)) := hwant
  clear hE hS hwant
  dsimp only
  go_enter Tryz.func6, Tryz.ntmps6
  go_wp2
  go_loopw [0, 4] (fun t u wr => ∃ (txt : List UInt8) (p : Int), t = .string (str txt) ∧ u = .int .i64 p ∧ Below w.heap.size w wr ∧ wordS p txt = (wa, wb) ∧ txt.length ≤ s.size) (fun t _ _ => strSize t)
  case atStart => exact ⟨s.data.toList, 0, rfl, rfl, Below.refl _ _, HW.out, by rw [size_data]; exact Nat.le_refl _⟩
  case round =>
    obtain ⟨txt, p, rfl, rfl, hb, h1, h3⟩ := hrel
    have HB : Hid (Below w.heap.size w wr) := hb
    by_cases hp : p = 3
    · subst hp
      rw [wordS_lost] at h1
      obtain ⟨rfl, rfl⟩ := Prod.mk.inj h1
      clear h1 hb HW
      go_wp2
      go_ret2
      exact ⟨rfl, HB.out⟩
    have hpne : (p != 3) = true := by simpa using hp
    obtain ⟨m, hm⟩ := (HE.out wr hb).most
    have HC := Tryz.strings_Cut (str txt) ⟨#[10]⟩ m wr (by rw [str_size]; omega) hm
    rw [str_data, show (⟨#[10]⟩ : ByteArray).data.toList = [10] from rfl] at HC
    have HBn : Hid (∀ nd, Below wr.heap.size wr (wr.drewN nd)) := fun nd => below_drewN (Below.refl _ _) nd
    by_cases h10 : (10 : UInt8) ∈ txt
    · rw [cut10_yes h10] at HC
      rw [wordS_line hp h10] at h1
      have hr := cut_shorter h10
      have hlt : (txt.takeWhile (· != 10)).length ≤ txt.length := (List.takeWhile_sublist _).length_le
      obtain ⟨ln, hln⟩ : ∃ x, txt.takeWhile (· != 10) = x := ⟨_, rfl⟩
      obtain ⟨rs, hrs⟩ : ∃ x, (txt.dropWhile (· != 10)).drop 1 = x := ⟨_, rfl⟩
      rw [hln, hrs] at HC h1
      rw [hrs] at hr
      rw [hln] at hlt
      have HC' : Hid (Calls Tryz.prog 11 #[.string (str txt), .string ⟨#[10]⟩] wr fun e w' => e = .returned (.tuple #[.string (str ln), .string (str rs), .bool true]) ∧ ∃ n, w' = wr.drewN n) := HC
      obtain ⟨c, hc⟩ : ∃ x, classK (decS ln).kind = x := ⟨_, rfl⟩
      have HCl : Hid (∀ W, Env W → Calls Tryz.prog 9 #[.string (str ln)] W fun e w' => e = .returned (.int .i64 c) ∧ Below W.heap.size W w') := fun W hW => by
        have := class_any (str ln) (by rw [str_size]; unfold lim; omega) W hW
        rw [str_data, hc] at this
        exact this
      rw [hc] at h1
      have HAf : Hid (∀ W, Calls Tryz.prog 13 #[.int .i64 p, .int .i64 c] W fun e w' => e = .returned (.int .i64 (afterK p c)) ∧ W = w') := fun W => after_any p c W
      have H1 : Hid (wordS (afterK p c) rs = (wa, wb)) := h1
      have hz1 : (str txt).size = txt.length := str_size _
      have hz2 : (str rs).size = rs.length := str_size _
      clear HC h1 hln hrs h10 hb hm hc HW
      go_wp2_with fail
      refine HC'.out.mono ?_
      rintro e w1 ⟨rfl, nd, rfl⟩
      have HB1 : Hid (Below w.heap.size w (wr.drewN nd)) := below_step HB.out (HBn.out nd)
      go_wp2_with fail
      refine (HCl.out _ (HE.out _ HB1.out)).mono ?_
      rintro e w2 ⟨rfl, hb2⟩
      have HB2 : Hid (Below w.heap.size w w2) := below_step HB1.out hb2
      clear hb2
      go_wp2_with fail
      refine (HAf.out _).mono ?_
      rintro e w3 ⟨rfl, rfl⟩
      go_wp2
      go_roundw
      case rel => exact ⟨rs, afterK p c, rfl, rfl, HB2.out, H1.out, by omega⟩
      case measure => simp [strSize]; omega
    · rw [cut10_no h10] at HC
      rw [wordS_rest hp h10] at h1
      obtain ⟨ha, hbq⟩ := Prod.mk.inj h1
      have HC' : Hid (Calls Tryz.prog 11 #[.string (str txt), .string ⟨#[10]⟩] wr fun e w' => e = .returned (.tuple #[.string (str txt), .string (str []), .bool false]) ∧ ∃ n, w' = wr.drewN n) := HC
      have HM : Hid (∀ W, Below w.heap.size w W → Calls Tryz.prog 12 #[.int .i64 p, .string (str txt)] W fun e w' => e = .returned (.bool wa) ∧ Below W.heap.size W w') := fun W hW => by
        have := mayCome_any p (str txt) (by rw [str_size]; omega) W (HE.out W hW) (fun W' hW' => HS.out W' (hW.trans (hW'.mono hW.size)))
        rw [str_data, ha] at this
        exact this
      clear HC h10 hb hm h1 ha HW
      cases txt with
      | nil =>
        have hst : str [] = ⟨#[]⟩ := rfl
        rw [hst] at HM HC'
        rw [hst]
        have hwb : decide (p ≠ 1) = wb := by rw [← hbq]; rfl
        clear hbq hst h3
        by_cases hp1 : p = 1
        · have hw : wb = false := by rw [← hwb]; simp [hp1]
          subst hw
          clear hwb
          subst hp1
          go_wp2_with fail
          refine HC'.out.mono ?_
          rintro e w1 ⟨rfl, nd, rfl⟩
          have HB1 : Hid (Below w.heap.size w (wr.drewN nd)) := below_step HB.out (HBn.out nd)
          go_wp2_with fail
          refine (HM.out _ HB1.out).mono ?_
          rintro e w2 ⟨rfl, hb2⟩
          have HB2 : Hid (Below w.heap.size w w2) := below_step HB1.out hb2
          clear hb2
          go_wp2
          all_goals go_ret2
          all_goals exact ⟨rfl, HB2.out⟩
        · have hw : wb = true := by rw [← hwb]; simp [hp1]
          have hp2 : (p != 1) = true := by simpa using hp1
          subst hw
          clear hwb
          go_wp2_with fail
          refine HC'.out.mono ?_
          rintro e w1 ⟨rfl, nd, rfl⟩
          have HB1 : Hid (Below w.heap.size w (wr.drewN nd)) := below_step HB.out (HBn.out nd)
          go_wp2_with fail
          refine (HM.out _ HB1.out).mono ?_
          rintro e w2 ⟨rfl, hb2⟩
          have HB2 : Hid (Below w.heap.size w w2) := below_step HB1.out hb2
          clear hb2
          go_wp2
          all_goals go_ret2
          all_goals exact ⟨rfl, HB2.out⟩
      | cons a r =>
        have hwb : false = wb := by rw [← hbq]; rfl
        subst hwb
        obtain ⟨tt, htt⟩ : ∃ x, str (a :: r) = x := ⟨_, rfl⟩
        have hsz : ¬ tt.size = 0 := by rw [← htt, str_size]; simp
        obtain ⟨hne, hne'⟩ := toList_neN hsz
        rw [htt] at HM HC'
        rw [htt]
        clear htt hbq
        go_wp2_with fail
        refine HC'.out.mono ?_
        rintro e w1 ⟨rfl, nd, rfl⟩
        have HB1 : Hid (Below w.heap.size w (wr.drewN nd)) := below_step HB.out (HBn.out nd)
        go_wp2_with fail
        refine (HM.out _ HB1.out).mono ?_
        rintro e w2 ⟨rfl, hb2⟩
        have HB2 : Hid (Below w.heap.size w w2) := below_step HB1.out hb2
        clear hb2
        go_wp2
        all_goals go_ret2
        all_goals exact ⟨rfl, HB2.out⟩

end Go.Proofs.YtplolaondmeccaaGreatDoor
