/-
  A screen of 3 x 2 that is fed ab CR LF ESC [ 31 and m c.
-/
import Derived.Test.YtooahffclghcjaaGreatDoorMC
namespace Go.Proofs.YtooahffclghcjaaGreatDoor
open Go.RowKit
set_option linter.unusedVariables false
set_option maxRecDepth 100000

set_option maxHeartbeats 1000000 in
theorem feed_any {w : World} (b : Nat) (data : List UInt8) (hl : data.length ≤ 1000) (R : Nat → World → Prop) (h0 : R 0 w)
    (step : ∀ k c W, data[k]? = some c → R k W → Calls Tryz.prog 11 #[.pointer (some ⟨b, 0, none⟩), .int .u8 (c.toNat : Int)] W fun x w' => x = .returned (.tuple #[]) ∧ R (k + 1) w') :
    Calls Tryz.prog 5 #[.pointer (some ⟨b, 0, none⟩), .string (str data)] w fun x w' => x = .returned (.tuple #[]) ∧ R data.length w' := by
  have H0 := hidK h0
  have HS := hidK step
  have hz : (str data).size = data.length := rfl
  clear h0 step
  go_enter Tryz.func5, Tryz.ntmps5
  go_wp2_with fail
  go_loopw [7] (fun i wr => ∃ k : Nat, k ≤ data.length ∧ i = .int .i64 (k : Int) ∧ Hid (R k wr)) (fun i _ => data.length - (intOf i).toNat)
  case atStart => exact ⟨0, by omega, rfl, H0⟩
  case round =>
    obtain ⟨k, hk, rfl, HR⟩ := hrel
    by_cases hlt : k < data.length
    · have hlt2 : k < (str data).size := hlt
      obtain ⟨c, hc⟩ : ∃ c, data[k]? = some c := ⟨_, List.getElem?_eq_getElem hlt⟩
      have hgc : (str data)[k] = c := (List.getElem?_eq_some_iff.1 hc).2
      have HC := hidK hc
      clear hc
      go_wp2_with fail
      refine (HS.out k c _ HC.out HR.out).mono ?_
      rintro e w1 ⟨rfl, hr⟩
      have HR1 := hidK hr
      clear hr
      go_wp2_with fail
      go_roundw
      case rel => exact ⟨k + 1, by omega, by go_num, HR1⟩
      case measure => simp [intOf]; omega
    · obtain rfl : k = data.length := by omega
      go_wp2_with fail
      go_end0
      exact ⟨rfl, HR.out⟩

def blk0 : Gl := ⟨32, 1, 0, 0, 0⟩
def curK : Nat → Cu
  | 0 => cu0
  | 1 => { cu0 with x := 1 }
  | 2 => { cu0 with x := 2 }
  | 3 => cu0
  | 9 => { cu0 with y := 1, fo := 2 }
  | 10 => { cu0 with x := 1, y := 1, fo := 2 }
  | _ => { cu0 with y := 1 }
def lastK : Nat → Int
  | 0 => 0
  | 1 => 97
  | 10 => 99
  | _ => 98
def stK : Nat → Int
  | 5 => 1
  | 6 => 2
  | 7 => 2
  | 8 => 2
  | _ => 0
def rowK : Nat → List Gl
  | 0 => [blk0, blk0, blk0]
  | 1 => [⟨97, 1, 0, 0, 0⟩, blk0, blk0]
  | _ => [⟨97, 1, 0, 0, 0⟩, ⟨98, 1, 0, 0, 0⟩, blk0]
def rowL : Nat → List Gl
  | 10 => [⟨99, 1, 2, 0, 0⟩, blk0, blk0]
  | _ => [blk0, blk0, blk0]
def heldK : Nat → List Value
  | 7 => [.int .u8 51]
  | 8 => [.int .u8 51, .int .u8 49]
  | 9 => [.int .u8 51, .int .u8 49]
  | 10 => [.int .u8 51, .int .u8 49]
  | _ => []
def scK (G T k : Nat) (v : Value) : Sc := { newSc 3 2 0 G T with cur := curK k, last := lastK k, st := stK k, held := v }
def LK (w0 : World) (b G T g0 g1 k : Nat) (W : World) : Prop := ∃ v, (k ≤ 6 → v = .slice none 0 0) ∧ Live w0 W b (scK G T k v) G [(g0, rowK k), (g1, rowL k)] (heldK k).length (heldK k)
section
variable {w0 W : World} {b G T g0 g1 : Nat}
theorem letter_step {k : Nat} {v : Value} {rs rs' : List (Nat × List Gl)} {s s' : Sc} {n : Nat} {xs : List Value} (h : Live w0 W b s G rs n xs) (hn : rs.length ≤ 1000) {y x : Nat} (hy : s.cur.y = (y : Int)) (hx : s.cur.x = (x : Int)) {g : Nat} {gs : List Gl} (hg : rs[y]? = some (g, gs)) (hw : Whole gs) (hl : gs.length ≤ 1000) (hW : s.w = (gs.length : Int)) (hxl : x + 1 < gs.length)
    (hi : s.ins = false) (hu : s.cur.us = 0) (h0 : s.cur.l0 = false) (ht : s.cur.wt = false) (hs : s.st = 0) (hv : s.hv = 0) (c : Nat) (hc1 : 32 ≤ c) (hc2 : c < 127) (he : wrote s c = s') (hr : rs.set y (g, gs.set x ⟨c, 1, s.cur.fo, s.cur.ba, s.cur.ma⟩) = rs') :
    Calls Tryz.prog 11 #[.pointer (some ⟨b, 0, none⟩), .int .u8 (c : Int)] W fun r w' => r = .returned (.tuple #[]) ∧ Live w0 w' b s' G rs' n xs := by
  refine take_in h.scn.at_ hv _ (by omega) (by omega) (by omega) (inside_letter h.scn.at_ hs c hc1 hc2 ?_)
  refine (write_plain h.scn hn hy hx hg hw hl hW hxl hi hu h0 ht c (by omega) (by omega)).mono ?_
  rintro r w' ⟨rfl, h1, h2⟩
  subst he hr
  refine ⟨rfl, h.turn h1 h2 rfl ?_⟩
  rw [List.map_set]
  apply List.ext_getElem?
  intro i
  by_cases e : y = i
  · subst e
    rw [List.getElem?_set_self (by simpa using (List.getElem?_eq_some_iff.1 hg).1), List.getElem?_map, hg]
    rfl
  · rw [List.getElem?_set_ne e]
theorem whole3 (a b c : Gl) (h1 : a.l ≠ 0) (h2 : b.l ≠ 0) (h3 : c.l ≠ 0) : Whole [a, b, c] := by
  intro y hy
  rcases (by simpa using hy : y = a ∨ y = b ∨ y = c) with rfl | rfl | rfl <;> assumption
theorem step0 (h : LK w0 b G T g0 g1 0 W) : Calls Tryz.prog 11 #[.pointer (some ⟨b, 0, none⟩), .int .u8 97] W fun r w' => r = .returned (.tuple #[]) ∧ LK w0 b G T g0 g1 1 w' := by
  obtain ⟨v, hv, h⟩ := h
  exact (letter_step (k := 0) (v := v) h (by simp) (y := 0) (x := 0) rfl rfl rfl (whole3 _ _ _ (by decide) (by decide) (by decide)) (by decide) rfl (by decide) rfl rfl rfl rfl rfl rfl 97 (by decide) (by decide) (s' := scK G T 1 v) rfl rfl).mono fun r w' hr => ⟨hr.1, v, fun _ => hv (by decide), hr.2⟩
theorem step1 (h : LK w0 b G T g0 g1 1 W) : Calls Tryz.prog 11 #[.pointer (some ⟨b, 0, none⟩), .int .u8 98] W fun r w' => r = .returned (.tuple #[]) ∧ LK w0 b G T g0 g1 2 w' := by
  obtain ⟨v, hv, h⟩ := h
  exact (letter_step (k := 0) (v := v) h (by simp) (y := 0) (x := 1) rfl rfl rfl (whole3 _ _ _ (by decide) (by decide) (by decide)) (by decide) rfl (by decide) rfl rfl rfl rfl rfl rfl 98 (by decide) (by decide) (s' := scK G T 2 v) rfl rfl).mono fun r w' hr => ⟨hr.1, v, fun _ => hv (by decide), hr.2⟩
theorem step9 (h : LK w0 b G T g0 g1 9 W) : Calls Tryz.prog 11 #[.pointer (some ⟨b, 0, none⟩), .int .u8 99] W fun r w' => r = .returned (.tuple #[]) ∧ LK w0 b G T g0 g1 10 w' := by
  obtain ⟨v, hv, h⟩ := h
  exact (letter_step (k := 0) (v := v) h (by simp) (y := 1) (x := 0) rfl rfl rfl (whole3 _ _ _ (by decide) (by decide) (by decide)) (by decide) rfl (by decide) rfl rfl rfl rfl rfl rfl 99 (by decide) (by decide) (s' := scK G T 10 v) rfl rfl).mono fun r w' hr => ⟨hr.1, v, fun h => absurd h (by decide), hr.2⟩
theorem step2 (h : LK w0 b G T g0 g1 2 W) : Calls Tryz.prog 11 #[.pointer (some ⟨b, 0, none⟩), .int .u8 13] W fun r w' => r = .returned (.tuple #[]) ∧ LK w0 b G T g0 g1 3 w' := by
  obtain ⟨v, hv, h⟩ := h
  refine (take_in h.scn.at_ rfl 13 (by decide) (by decide) (by decide) (inside_control h.scn.at_ rfl 13 (by decide) (control_cr h.scn.at_))).mono fun r w' hr => ⟨hr.1, v, fun _ => hv (by decide), ?_⟩
  exact turnB0 h hr.2.1 rfl hr.2.2 rfl
theorem step3 (h : LK w0 b G T g0 g1 3 W) : Calls Tryz.prog 11 #[.pointer (some ⟨b, 0, none⟩), .int .u8 10] W fun r w' => r = .returned (.tuple #[]) ∧ LK w0 b G T g0 g1 4 w' := by
  obtain ⟨v, hv, h⟩ := h
  refine (take_in h.scn.at_ rfl 10 (by decide) (by decide) (by decide) (inside_control h.scn.at_ rfl 10 (by decide) (control_lf h.scn.at_ rfl (lineFeed_in h.scn.at_ (show (0 : Int) ≤ 0 by decide) (show (0 : Int) + 1 < 2 by decide) (show (2 : Int) ≤ 1000 by decide) (show (0 : Int) ≠ ((2 : Nat) : Int) - 1 by decide))))).mono fun r w' hr => ⟨hr.1, v, fun _ => hv (by decide), ?_⟩
  exact turnB0 h hr.2.1 rfl hr.2.2 rfl
theorem step4 (h : LK w0 b G T g0 g1 4 W) : Calls Tryz.prog 11 #[.pointer (some ⟨b, 0, none⟩), .int .u8 27] W fun r w' => r = .returned (.tuple #[]) ∧ LK w0 b G T g0 g1 5 w' := by
  obtain ⟨v, hv, h⟩ := h
  obtain rfl := hv (by decide)
  refine (take_esc h.scn.at_ rfl rfl none 0 0 rfl).mono fun r w' hr => ⟨hr.1, _, fun _ => rfl, ?_⟩
  exact turnB0 h hr.2.1 rfl hr.2.2 rfl
theorem step5 (h : LK w0 b G T g0 g1 5 W) : Calls Tryz.prog 11 #[.pointer (some ⟨b, 0, none⟩), .int .u8 91] W fun r w' => r = .returned (.tuple #[]) ∧ LK w0 b G T g0 g1 6 w' := by
  obtain ⟨v, hv, h⟩ := h
  obtain rfl := hv (by decide)
  refine (take_in h.scn.at_ rfl 91 (by decide) (by decide) (by decide) (inside_csi h.scn.at_ rfl none 0 rfl)).mono fun r w' hr => ⟨hr.1, _, fun _ => rfl, ?_⟩
  exact turnB0 h hr.2.1 rfl hr.2.2 rfl
theorem step6 (h : LK w0 b G T g0 g1 6 W) : Calls Tryz.prog 11 #[.pointer (some ⟨b, 0, none⟩), .int .u8 51] W fun r w' => r = .returned (.tuple #[]) ∧ LK w0 b G T g0 g1 7 w' := by
  obtain ⟨v, hv, h⟩ := h
  refine (take_in h.scn.at_ rfl 51 (by decide) (by decide) (by decide) (inside_digit h (by decide) rfl 51 (by decide) (by decide))).mono fun r w' hr => ⟨hr.1, ?_⟩
  obtain ⟨v', hL⟩ := hr.2
  exact ⟨v', fun h => absurd h (by decide), hL⟩
theorem step7 (h : LK w0 b G T g0 g1 7 W) : Calls Tryz.prog 11 #[.pointer (some ⟨b, 0, none⟩), .int .u8 49] W fun r w' => r = .returned (.tuple #[]) ∧ LK w0 b G T g0 g1 8 w' := by
  obtain ⟨v, hv, h⟩ := h
  refine (take_in h.scn.at_ rfl 49 (by decide) (by decide) (by decide) (inside_digit h (by decide) rfl 49 (by decide) (by decide))).mono fun r w' hr => ⟨hr.1, ?_⟩
  obtain ⟨v', hL⟩ := hr.2
  exact ⟨v', fun h => absurd h (by decide), hL⟩
theorem step8 (h : LK w0 b G T g0 g1 8 W) : Calls Tryz.prog 11 #[.pointer (some ⟨b, 0, none⟩), .int .u8 109] W fun r w' => r = .returned (.tuple #[]) ∧ LK w0 b G T g0 g1 9 w' := by
  obtain ⟨v, hv, h⟩ := h
  refine (take_in h.scn.at_ rfl 109 (by decide) (by decide) (by decide) (inside_m h rfl (y := 1) (x := 0) (n := 3) rfl rfl rfl (by decide) (by decide) rfl)).mono fun r w' hr => ⟨hr.1, v, fun h => absurd h (by decide), hr.2⟩
theorem feed_first (h : LK w0 b G T g0 g1 0 W) : Calls Tryz.prog 5 #[.pointer (some ⟨b, 0, none⟩), .string ⟨#[97, 98, 13, 10, 27, 91, 51, 49]⟩] W fun x w' => x = .returned (.tuple #[]) ∧ LK w0 b G T g0 g1 8 w' := by
  refine feed_any b [97, 98, 13, 10, 27, 91, 51, 49] (by decide) (fun k W => LK w0 b G T g0 g1 k W) h ?_
  intro k c W hc hL
  match k, hc, hL with
  | 0, hc, hL => cases hc; exact step0 hL
  | 1, hc, hL => cases hc; exact step1 hL
  | 2, hc, hL => cases hc; exact step2 hL
  | 3, hc, hL => cases hc; exact step3 hL
  | 4, hc, hL => cases hc; exact step4 hL
  | 5, hc, hL => cases hc; exact step5 hL
  | 6, hc, hL => cases hc; exact step6 hL
  | 7, hc, hL => cases hc; exact step7 hL
theorem feed_second (h : LK w0 b G T g0 g1 8 W) : Calls Tryz.prog 5 #[.pointer (some ⟨b, 0, none⟩), .string ⟨#[109, 99]⟩] W fun x w' => x = .returned (.tuple #[]) ∧ LK w0 b G T g0 g1 10 w' := by
  refine feed_any b [109, 99] (by decide) (fun k W => LK w0 b G T g0 g1 (8 + k) W) h ?_
  intro k c W hc hL
  match k, hc, hL with
  | 0, hc, hL => cases hc; exact step8 hL
  | 1, hc, hL => cases hc; exact step9 hL
end
end Go.Proofs.YtooahffclghcjaaGreatDoor
