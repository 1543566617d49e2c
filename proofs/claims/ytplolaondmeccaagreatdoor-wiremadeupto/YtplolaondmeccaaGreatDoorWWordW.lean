/-
  What may come at a place; words.
-/
import Derived.Test.YtplolaondmeccaaGreatDoorWBegC
import Derived.Test.YtplolaondmeccaaGreatDoorWCut
import Derived.WalkSmall
import Derived.WalkKit
import Derived.LoopTactic
import Derived.RegionTactic
import Derived.Deep.RegionWith
import Derived.Deep.DrawnRows
import Derived.Deep.RegionHeld3
namespace Go.Proofs.YtplolaondmeccaaGreatDoor
open Go.RowKit
set_option linter.unusedVariables false

theorem mayS_yes {p : Int} {l : List UInt8} {k : Nat} (hk : k < 25) (h : mayK p l k = true) : mayS p l = true := by
  unfold mayS
  rw [Bool.or_eq_true]
  exact .inr (List.any_eq_true.2 ⟨k, by simpa using hk, h⟩)
theorem mayS_no {p : Int} {l : List UInt8} (h0 : l.isEmpty = false) (h : ∀ k, k < 25 → mayK p l k = false) : mayS p l = false := by
  unfold mayS
  rw [h0, Bool.false_or, List.any_eq_false]
  intro k hk
  simp [h k (by simpa using hk)]

/-- What the calls read: the row of a kind that may come, and whether a line of it begins so. -/
theorem rowBegins_any (k : Nat) (h1 : 1 ≤ k) (h2 : k ≤ 24) (s : ByteArray) (hs : s.size ≤ 67108800) (w : World) (hE : Env w) (hS : ∀ W, Below w.heap.size w W → Spaces W) :
    Calls Tryz.prog 15 #[.int .i64 k] w fun e w' => ∃ b, e = .returned (rowV k b) ∧ Below w.heap.size w w' ∧
      Calls Tryz.prog 25 #[rowV k b, .string s] w' fun e w'' => e = .returned (.bool (begS k s.data.toList)) ∧ Below w.heap.size w w'' :=
  (rowOf_any k h1 h2 w hE).mono fun e w' ⟨b, he, hf, hb⟩ =>
    ⟨b, he, hb, (begins_any k h1 h2 s hs w.heap.size b w' (hE.below hb) (fun W hW => hS W (hb.trans (hW.mono hb.size))) hf).mono fun e w'' ⟨h1, h2⟩ => ⟨h1, hb.trans (h2.mono hb.size)⟩⟩

set_option maxRecDepth 20000 in
set_option maxHeartbeats 2000000 in
theorem mayCome_any (p : Int) (s : ByteArray) (hs : s.size ≤ 67108800) (w : World) (hE : Env w) (hS : ∀ W, Below w.heap.size w W → Spaces W) :
    Calls Tryz.prog 12 #[.int .i64 p, .string s] w fun e w' => e = .returned (.bool (mayS p s.data.toList)) ∧ Below w.heap.size w w' := by
  by_cases h0 : s.size = 0
  · obtain rfl : s = ByteArray.empty := ByteArray.size_eq_zero_iff.1 h0
    go_enter Tryz.func12, Tryz.ntmps12
    go_wp2
    all_goals go_ret
    all_goals exact ⟨rfl, Below.refl _ _⟩
  · obtain ⟨hne, hne'⟩ := toList_neN h0
    have hne2 : s.data.toList.isEmpty = false := by rw [← Lib.toList_data]; exact hne'
    obtain ⟨want, hwant⟩ : ∃ b, mayS p s.data.toList = b := ⟨_, rfl⟩
    have HYes : Hid (∀ k, k < 25 → mayK p s.data.toList k = true → want = true) := fun k hk h => hwant ▸ mayS_yes hk h
    have HNo : Hid ((∀ k, k < 25 → mayK p s.data.toList k = false) → want = false) := fun h => hwant ▸ mayS_no hne2 h
    have HK : Hid (∀ k : Nat, mayK p s.data.toList k = (decide (afterK p (classK k) ≠ 3) && begS k s.data.toList)) := fun k => rfl
    have HCl : Hid (∀ (k : Int) W, Calls Tryz.prog 18 #[.int .i64 k] W fun e w' => e = .returned (.int .i64 (classK k)) ∧ W = w') := fun k W => classOf_any k W
    have HAf : Hid (∀ (c : Int) W, Calls Tryz.prog 13 #[.int .i64 p, .int .i64 c] W fun e w' => e = .returned (.int .i64 (afterK p c)) ∧ W = w') := fun c W => after_any p c W
    have HRB : Hid (∀ (k : Nat), 1 ≤ k → k ≤ 24 → ∀ W, Below w.heap.size w W → Calls Tryz.prog 15 #[.int .i64 k] W fun e w' => ∃ b, e = .returned (rowV k b) ∧ Below W.heap.size W w' ∧
      Calls Tryz.prog 25 #[rowV k b, .string s] w' fun e w'' => e = .returned (.bool (begS k s.data.toList)) ∧ Below W.heap.size W w'') :=
      fun k k1 k2 W hb => rowBegins_any k k1 k2 s hs W (hE.below hb) (fun W' hW => hS W' (hb.trans (hW.mono hb.size)))
    have HA0 : Hid (∀ k : Nat, afterK p (classK k) ≠ 3 → 1 ≤ k) := fun k h => by
      rcases Nat.eq_zero_or_pos k with rfl | h'
      · exact absurd (after_none p) h
      · exact h'
    rw [hwant]
    clear hwant hne2 hE hS
    go_enter Tryz.func12, Tryz.ntmps12
    go_wp2
    go_loopw [8] (fun v wr => ∃ k : Nat, k ≤ 25 ∧ v = .int .i64 k ∧ Below w.heap.size w wr ∧ ∀ j, j < k → mayK p s.data.toList j = false) (fun v _ => 25 - (intOf v).toNat)
    case atStart => exact ⟨0, by omega, rfl, Below.refl _ _, fun j h => by omega⟩
    case round =>
      obtain ⟨k, hk, rfl, hb, hno⟩ := hrel
      have HB : Hid (Below w.heap.size w wr) := hb
      have HN : Hid (∀ j, j < k → mayK p s.data.toList j = false) := hno
      clear hb hno
      by_cases hlt : k < 25
      · have hlz : (k : Int) < 25 := by omega
        obtain ⟨c, hc⟩ : ∃ c, classK k = c := ⟨_, rfl⟩
        obtain ⟨a, ha⟩ : ∃ a, afterK p c = a := ⟨_, rfl⟩
        have HC : Hid (Calls Tryz.prog 18 #[.int .i64 k] wr fun e w' => e = .returned (.int .i64 c) ∧ wr = w') := hc ▸ HCl.out k wr
        have HA : Hid (Calls Tryz.prog 13 #[.int .i64 p, .int .i64 c] wr fun e w' => e = .returned (.int .i64 a) ∧ wr = w') := ha ▸ HAf.out c wr
        have HKk : Hid (mayK p s.data.toList k = (decide (a ≠ 3) && begS k s.data.toList)) := by show _ = _; rw [HK.out k, hc, ha]
        have HRk : Hid (a ≠ 3 → Calls Tryz.prog 15 #[.int .i64 k] wr fun e w' => ∃ b, e = .returned (rowV k b) ∧ Below wr.heap.size wr w' ∧
            Calls Tryz.prog 25 #[rowV k b, .string s] w' fun e w'' => e = .returned (.bool (begS k s.data.toList)) ∧ Below wr.heap.size wr w'') := fun h => HRB.out k (HA0.out k (by rw [hc, ha]; exact h)) (by omega) wr HB.out
        clear hc ha
        go_wp2_with fail
        refine HC.out.mono ?_
        rintro e w1 ⟨rfl, rfl⟩
        go_wp2_with fail
        refine HA.out.mono ?_
        rintro e w1 ⟨rfl, rfl⟩
        clear HC HA
        by_cases ha3 : a = 3
        · subst ha3
          go_wp2
          go_roundw
          case rel =>
            refine ⟨k + 1, by omega, by go_num, HB.out, fun j hj => ?_⟩
            by_cases hjk : j = k
            · subst hjk
              rw [HKk.out]
              rfl
            · exact HN.out j (by omega)
          case measure => simp [intOf]; omega
        · have hbne : (a != 3) = true := by simpa using ha3
          have HR2 : Hid (Calls Tryz.prog 15 #[.int .i64 k] wr fun e w' => ∃ b, e = .returned (rowV k b) ∧ Below wr.heap.size wr w' ∧
            Calls Tryz.prog 25 #[rowV k b, .string s] w' fun e w'' => e = .returned (.bool (begS k s.data.toList)) ∧ Below wr.heap.size wr w'') := HRk.out ha3
          have HK2 : Hid (mayK p s.data.toList k = begS k s.data.toList) := by show _ = _; rw [HKk.out, decide_eq_true ha3, Bool.true_and]
          obtain ⟨ans, hans⟩ : ∃ x, begS k s.data.toList = x := ⟨_, rfl⟩
          rw [hans] at HK2 HR2
          clear hans HRk HKk ha3
          go_wp2_with fail
          refine HR2.out.mono ?_
          rintro e w2 ⟨b, rfl, hb2, hcall⟩
          have HCa : Hid (Calls Tryz.prog 25 #[rowV k b, .string s] w2 fun e w'' => e = .returned (.bool ans) ∧ Below wr.heap.size wr w'') := hcall
          clear hb2 hcall HR2
          unfold rowV at HCa ⊢
          go_wp2_with fail
          refine HCa.out.mono ?_
          rintro e w3 ⟨rfl, hb3⟩
          have HB3 : Hid (Below w.heap.size w w3) := HB.out.trans (hb3.mono HB.out.size)
          clear hb3 HCa
          cases ans
          · go_wp2
            go_roundw
            case rel =>
              refine ⟨k + 1, by omega, by go_num, HB3.out, fun j hj => ?_⟩
              by_cases hjk : j = k
              · subst hjk
                exact HK2.out
              · exact HN.out j (by omega)
            case measure => simp [intOf]; omega
          · have hw : want = true := HYes.out k hlt HK2.out
            subst hw
            go_wp2
            go_ret
            exact ⟨rfl, HB3.out⟩
      · have hk25 : k = 25 := by omega
        subst hk25
        have hw : want = false := HNo.out HN.out
        subst hw
        go_wp2
        go_ret
        exact ⟨rfl, HB.out⟩

/-- The spaces' table stays. -/
theorem Spaces.below {w W : World} (h : Spaces w) (hb : Below w.heap.size w W) : Spaces W := by
  unfold Spaces Lib.TabIs at *
  have hg : Tryz.prog.globalNamed "strings.asciiSpace" = some 2 := by kernel_rfl
  refine var?_below hb hg ?_ h
  have h2 := h
  unfold World.var? at h2
  rw [hg] at h2
  rcases Nat.lt_or_ge 2 w.heap.size with h' | h'
  · exact h'
  · simp [Array.getElem?_eq_none h'] at h2

set_option maxRecDepth 20000 in
set_option maxHeartbeats 1000000 in
theorem word_any (s : ByteArray) (hs : s.size ≤ 16777216) (w : World) (hE : Env w) (hS : Spaces w) :
    Calls Tryz.prog 6 #[.string s] w fun e w' => e = .returned (.tuple #[.bool (wordS 0 s.data.toList).1, .bool (wordS 0 s.data.toList).2]) ∧ Below w.heap.size w w' := by
  have HE : Hid (∀ W, Below w.heap.size w W → Env W) := fun W h => hE.below h
  have HS : Hid (∀ W, Below w.heap.size w W → Spaces W) := fun W h => hS.below h
  obtain ⟨want, hwant⟩ : ∃ x, wordS 0 s.data.toList = x := ⟨_, rfl⟩
  rw [hwant]
  obtain ⟨wa, wb⟩ := want
  have HW : Hid (wordS 0 s.data.toList = (wa, wb)) := hwant
  clear hE hS hwant
  dsimp only
  go_enter Tryz.func6, Tryz.ntmps6
  go_wp2
  go_loopw [0, 4] (fun t u wr => ∃ (txt : List UInt8) (p : Int), t = .string (str txt) ∧ u = .int .i64 p ∧ Below w.heap.size w wr ∧ wordS p txt = (wa, wb) ∧ txt.length ≤ s.size) (fun t _ _ => strSize t)
  case atStart => exact ⟨s.data.toList, 0, rfl, rfl, Below.refl _ _, HW.out, by rw [size_data]; exact Nat.le_refl _⟩
  case round =>
    obtain ⟨txt, p, rfl, rfl, hb, h1, h3⟩ := hrel
    have HB : Hid (Below w.heap.size w wr) := hb
    by_cases hp : p = 3
    · subst hp
      rw [wordS_lost] at h1
      obtain ⟨rfl, rfl⟩ := Prod.mk.inj h1
      clear h1 hb HW
      go_wp2
      go_ret2
      exact ⟨rfl, HB.out⟩
    have hpne : (p != 3) = true := by simpa using hp
    obtain ⟨m, hm⟩ := (HE.out wr hb).most
    have HC := Tryz.strings_Cut (str txt) ⟨#[10]⟩ m wr (by rw [str_size]; omega) hm
    rw [str_data, show (⟨#[10]⟩ : ByteArray).data.toList = [10] from rfl] at HC
    have HBn : Hid (∀ nd, Below wr.heap.size wr (wr.drewN nd)) := fun nd => below_drewN (Below.refl _ _) nd
    by_cases h10 : (10 : UInt8) ∈ txt
    · rw [cut10_yes h10] at HC
      rw [wordS_line hp h10] at h1
      have hr := cut_shorter h10
      have hlt : (txt.takeWhile (· != 10)).length ≤ txt.length := (List.takeWhile_sublist _).length_le
      obtain ⟨ln, hln⟩ : ∃ x, txt.takeWhile (· != 10) = x := ⟨_, rfl⟩
      obtain ⟨rs, hrs⟩ : ∃ x, (txt.dropWhile (· != 10)).drop 1 = x := ⟨_, rfl⟩
      rw [hln, hrs] at HC h1
      rw [hrs] at hr
      rw [hln] at hlt
      have HC' : Hid (Calls Tryz.prog 11 #[.string (str txt), .string ⟨#[10]⟩] wr fun e w' => e = .returned (.tuple #[.string (str ln), .string (str rs), .bool true]) ∧ ∃ n, w' = wr.drewN n) := HC
      obtain ⟨c, hc⟩ : ∃ x, classK (decS ln).kind = x := ⟨_, rfl⟩
      have HCl : Hid (∀ W, Env W → Calls Tryz.prog 9 #[.string (str ln)] W fun e w' => e = .returned (.int .i64 c) ∧ Below W.heap.size W w') := fun W hW => by
        have := class_any (str ln) (by rw [str_size]; unfold lim; omega) W hW
        rw [str_data, hc] at this
        exact this
      rw [hc] at h1
      have HAf : Hid (∀ W, Calls Tryz.prog 13 #[.int .i64 p, .int .i64 c] W fun e w' => e = .returned (.int .i64 (afterK p c)) ∧ W = w') := fun W => after_any p c W
      have H1 : Hid (wordS (afterK p c) rs = (wa, wb)) := h1
      have hz1 : (str txt).size = txt.length := str_size _
      have hz2 : (str rs).size = rs.length := str_size _
      clear HC h1 hln hrs h10 hb hm hc HW
      go_wp2_with fail
      refine HC'.out.mono ?_
      rintro e w1 ⟨rfl, nd, rfl⟩
      have HB1 : Hid (Below w.heap.size w (wr.drewN nd)) := below_step HB.out (HBn.out nd)
      go_wp2_with fail
      refine (HCl.out _ (HE.out _ HB1.out)).mono ?_
      rintro e w2 ⟨rfl, hb2⟩
      have HB2 : Hid (Below w.heap.size w w2) := below_step HB1.out hb2
      clear hb2
      go_wp2_with fail
      refine (HAf.out _).mono ?_
      rintro e w3 ⟨rfl, rfl⟩
      go_wp2
      go_roundw
      case rel => exact ⟨rs, afterK p c, rfl, rfl, HB2.out, H1.out, by omega⟩
      case measure => simp [strSize]; omega
    · rw [cut10_no h10] at HC
      rw [wordS_rest hp h10] at h1
      obtain ⟨ha, hbq⟩ := Prod.mk.inj h1
      have HC' : Hid (Calls Tryz.prog 11 #[.string (str txt), .string ⟨#[10]⟩] wr fun e w' => e = .returned (.tuple #[.string (str txt), .string (str []), .bool false]) ∧ ∃ n, w' = wr.drewN n) := HC
      have HM : Hid (∀ W, Below w.heap.size w W → Calls Tryz.prog 12 #[.int .i64 p, .string (str txt)] W fun e w' => e = .returned (.bool wa) ∧ Below W.heap.size W w') := fun W hW => by
        have := mayCome_any p (str txt) (by rw [str_size]; omega) W (HE.out W hW) (fun W' hW' => HS.out W' (hW.trans (hW'.mono hW.size)))
        rw [str_data, ha] at this
        exact this
      clear HC h10 hb hm h1 ha HW
      cases txt with
      | nil =>
        have hst : str [] = ⟨#[]⟩ := rfl
        rw [hst] at HM HC'
        rw [hst]
        have hwb : decide (p ≠ 1) = wb := by rw [← hbq]; rfl
        clear hbq hst h3
        by_cases hp1 : p = 1
        · have hw : wb = false := by rw [← hwb]; simp [hp1]
          subst hw
          clear hwb
          subst hp1
          go_wp2_with fail
          refine HC'.out.mono ?_
          rintro e w1 ⟨rfl, nd, rfl⟩
          have HB1 : Hid (Below w.heap.size w (wr.drewN nd)) := below_step HB.out (HBn.out nd)
          go_wp2_with fail
          refine (HM.out _ HB1.out).mono ?_
          rintro e w2 ⟨rfl, hb2⟩
          have HB2 : Hid (Below w.heap.size w w2) := below_step HB1.out hb2
          clear hb2
          go_wp2
          all_goals go_ret2
          all_goals exact ⟨rfl, HB2.out⟩
        · have hw : wb = true := by rw [← hwb]; simp [hp1]
          have hp2 : (p != 1) = true := by simpa using hp1
          subst hw
          clear hwb
          go_wp2_with fail
          refine HC'.out.mono ?_
          rintro e w1 ⟨rfl, nd, rfl⟩
          have HB1 : Hid (Below w.heap.size w (wr.drewN nd)) := below_step HB.out (HBn.out nd)
          go_wp2_with fail
          refine (HM.out _ HB1.out).mono ?_
          rintro e w2 ⟨rfl, hb2⟩
          have HB2 : Hid (Below w.heap.size w w2) := below_step HB1.out hb2
          clear hb2
          go_wp2
          all_goals go_ret2
          all_goals exact ⟨rfl, HB2.out⟩
      | cons a r =>
        have hwb : false = wb := by rw [← hbq]; rfl
        subst hwb
        obtain ⟨tt, htt⟩ : ∃ x, str (a :: r) = x := ⟨_, rfl⟩
        have hsz : ¬ tt.size = 0 := by rw [← htt, str_size]; simp
        obtain ⟨hne, hne'⟩ := toList_neN hsz
        rw [htt] at HM HC'
        rw [htt]
        clear htt hbq
        go_wp2_with fail
        refine HC'.out.mono ?_
        rintro e w1 ⟨rfl, nd, rfl⟩
        have HB1 : Hid (Below w.heap.size w (wr.drewN nd)) := below_step HB.out (HBn.out nd)
        go_wp2_with fail
        refine (HM.out _ HB1.out).mono ?_
        rintro e w2 ⟨rfl, hb2⟩
        have HB2 : Hid (Below w.heap.size w w2) := below_step HB1.out hb2
        clear hb2
        go_wp2
        all_goals go_ret2
        all_goals exact ⟨rfl, HB2.out⟩

end Go.Proofs.YtplolaondmeccaaGreatDoor
