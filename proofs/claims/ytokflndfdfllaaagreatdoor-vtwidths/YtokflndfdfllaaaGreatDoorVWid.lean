/-
  Widths.
-/
import Derived.Test.YtokflndfdfllaaaGreatDoorVMem
import Derived.WalkKit
namespace Go.Proofs.YtokflndfdfllaaaGreatDoor
open Go.RowKit
set_option linter.unusedVariables false
set_option maxRecDepth 100000

def inB : List (Int × Int) → Int → Bool
  | [], _ => false
  | (a, b) :: r, c => (decide (a ≤ c) && decide (c ≤ b)) || inB r c
def firstW : List (Int × Int × Int) → Int → Int
  | [], _ => 1
  | (a, b, n) :: r, c => if a ≤ c ∧ c ≤ b then n else firstW r c
def spA : List (Int × Int) := [(-2147483648, 31), (127, 159), (55296, 57343), (1114112, 2147483647)]
def spB : List (Int × Int) := [(768, 879), (8203, 8207), (8232, 8238), (8400, 8447), (65024, 65039), (65279, 65279)]
def spC : List (Int × Int) := [(4352, 4447), (11904, 12350), (12353, 13311), (13312, 19903), (19968, 40959), (40960, 42191), (44032, 55203), (63744, 64255), (65072, 65135), (65280, 65376), (65504, 65510), (127744, 128591), (129280, 129535), (131072, 262141)]
def sp (l : List (Int × Int)) (n : Int) : List (Int × Int × Int) := l.map fun q => (q.1, q.2, n)
def spanL : List (Int × Int × Int) := sp spA (-1) ++ (sp spB 0 ++ sp spC 2)
theorem first_sp (l : List (Int × Int)) (n : Int) (r : List (Int × Int × Int)) (c : Int) : firstW (sp l n ++ r) c = if inB l c = true then n else firstW r c := by
  induction l with
  | nil => simp [sp, inB]
  | cons q l ih =>
    obtain ⟨a, b⟩ := q
    have h : sp ((a, b) :: l) n ++ r = (a, b, n) :: (sp l n ++ r) := rfl
    rw [h, firstW, ih, inB]
    by_cases h1 : a ≤ c ∧ c ≤ b
    · simp [h1.1, h1.2]
    · rw [if_neg h1]
      have : (decide (a ≤ c) && decide (c ≤ b)) = false := by
        rw [Bool.and_eq_false_iff, decide_eq_false_iff_not, decide_eq_false_iff_not]
        omega
      rw [this, Bool.false_or]
/-- The document's width. -/
def refW (c : Int) : Int := if c < 32 ∨ (127 ≤ c ∧ c ≤ 159) ∨ (55296 ≤ c ∧ c ≤ 57343) ∨ 1114111 < c then -1 else if inB spB c = true then 0 else if inB spC c = true then 2 else 1
def widF (c : Int) : Int := if 32 ≤ c ∧ c < 127 then 1 else firstW spanL c
theorem first_all (c : Int) (h1 : -2147483648 ≤ c) (h2 : c ≤ 2147483647) : firstW spanL c = refW c := by
  unfold spanL refW
  have e : sp spC 2 = sp spC 2 ++ [] := (List.append_nil _).symm
  rw [first_sp, first_sp, e, first_sp]
  have hA : inB spA c = true ↔ (c < 32 ∨ (127 ≤ c ∧ c ≤ 159) ∨ (55296 ≤ c ∧ c ≤ 57343) ∨ 1114111 < c) := by
    simp [spA, inB]
    omega
  by_cases h : c < 32 ∨ (127 ≤ c ∧ c ≤ 159) ∨ (55296 ≤ c ∧ c ≤ 57343) ∨ 1114111 < c
  · rw [if_pos (hA.2 h), if_pos h]
  · rw [if_neg (fun h3 => h (hA.1 h3)), if_neg h]
    rfl
theorem wid_ref (c : Int) (h1 : -2147483648 ≤ c) (h2 : c ≤ 2147483647) : widF c = refW c := by
  unfold widF
  by_cases h : 32 ≤ c ∧ c < 127
  · rw [if_pos h]
    unfold refW
    have hB : inB spB c = false := by simp [spB, inB]; omega
    have hC : inB spC c = false := by simp [spC, inB]; omega
    rw [if_neg (by omega), hB, hC]
    rfl
  · rw [if_neg h, first_all c h1 h2]
/-- The table in memory. -/
structure SpIn (w : World) (g o cap : Nat) : Prop where
  var : w.cell? ⟨0, 0, none⟩ = some (.slice (some ⟨g, o, none⟩) 24 cap)
  lt : g < w.heap.size
  vlt : 0 < w.heap.size
  at_ : ∀ (i : Nat) a b n, spanL[i]? = some (a, b, n) → w.cell? ⟨g, o + i * 3, none⟩ = some (.int .i32 a) ∧ w.cell? ⟨g, o + i * 3 + 1, none⟩ = some (.int .i32 b) ∧ w.cell? ⟨g, o + i * 3 + 2, none⟩ = some (.int .i64 n)
theorem SpIn.below {w w' : World} {g o cap : Nat} (h : SpIn w g o cap) (hb : Below w.heap.size w w') : SpIn w' g o cap :=
  ⟨(hb.cell (p := ⟨0, 0, none⟩) h.vlt).trans h.var, Nat.lt_of_lt_of_le h.lt hb.size, Nat.lt_of_lt_of_le h.vlt hb.size, fun i a b n hi => by
    obtain ⟨h1, h2, h3⟩ := h.at_ i a b n hi
    exact ⟨(hb.cell (p := ⟨g, _, none⟩) h.lt).trans h1, (hb.cell (p := ⟨g, _, none⟩) h.lt).trans h2, (hb.cell (p := ⟨g, _, none⟩) h.lt).trans h3⟩⟩
theorem first_drop (k : Nat) (a b n : Int) (c : Int) (h : spanL[k]? = some (a, b, n)) : firstW (spanL.drop k) c = if a ≤ c ∧ c ≤ b then n else firstW (spanL.drop (k + 1)) c := by
  obtain ⟨hk, e⟩ := List.getElem?_eq_some_iff.1 h
  rw [List.drop_eq_getElem_cons hk, e, firstW]
theorem ret_i64 {a b : Int} (h : a = b) : Ending.returned (.int .i64 a) = .returned (.int .i64 b) := by rw [h]
set_option maxHeartbeats 2000000 in
theorem width_any (c : Int) {w : World} {g o cap : Nat} (h : SpIn w g o cap) : Calls Tryz.prog 6 #[.int .i32 c] w fun r w' => r = .returned (.int .i64 (widF c)) ∧ Below w.heap.size w w' := by
  by_cases hs : 32 ≤ c ∧ c < 127
  · obtain ⟨h1, h2⟩ := hs
    have e : widF c = 1 := if_pos ⟨h1, h2⟩
    rw [e]
    clear h e
    go_enter Tryz.func6, Tryz.ntmps6
    go_wp2_with fail
    go_ret
    exact ⟨rfl, Below.refl _ _⟩
  · have e : widF c = firstW spanL c := if_neg hs
    rw [e]
    have H := hidK h
    have c0 := h.var
    clear h e
    have hs2 : c < 32 ∨ 127 ≤ c := by omega
    clear hs
    obtain ⟨F, hF⟩ : ∃ F, firstW spanL c = F := ⟨_, rfl⟩
    have HF := hidK hF
    rw [hF]
    clear hF
    have hd : (decide (32 ≤ c) && decide (c < 127)) = false := by
      rw [Bool.and_eq_false_iff, decide_eq_false_iff_not, decide_eq_false_iff_not]
      omega
    rcases hs2 with hs2 | hs2
    all_goals
      go_enter Tryz.func6, Tryz.ntmps6
      go_wp2_with fail
      go_loopw [13] (fun i wr => ∃ k : Nat, k ≤ 24 ∧ i = .int .i64 (k : Int) ∧ Hid (firstW (spanL.drop k) c = F) ∧ Hid (Below w.heap.size w wr)) (fun i _ => 24 - (intOf i).toNat)
      case atStart => exact ⟨0, by omega, rfl, HF, hidK (Below.refl _ _)⟩
      case round =>
        obtain ⟨k, hk, rfl, HD, HBk⟩ := hrel
        by_cases hlt : k < 24
        · obtain ⟨⟨a, b, n⟩, hq⟩ : ∃ q, spanL[k]? = some q := ⟨_, List.getElem?_eq_getElem (show k < spanL.length from hlt)⟩
          obtain ⟨q0, q1, q2⟩ := (H.out.below HBk.out).at_ k a b n hq
          have HQ := hidK (first_drop k a b n c hq)
          clear hq c0
          by_cases hab : a ≤ c ∧ c ≤ b
          · obtain ⟨ha, hb⟩ := hab
            go_wp2_with fail
            go_ret
            exact ⟨ret_i64 (by rw [← HD.out, HQ.out, if_pos ⟨ha, hb⟩]), HBk.out.alloc HBk.out.size _⟩
          · have HN : Hid (firstW (spanL.drop (k + 1)) c = F) := by rw [← HD.out, HQ.out, if_neg hab]; exact hidK rfl
            by_cases ha : a ≤ c
            · have hb : ¬ c ≤ b := fun h => hab ⟨ha, h⟩
              clear hab
              go_wp2_with fail
              go_roundw
              case rel => exact ⟨k + 1, by omega, by go_num, HN, hidK (HBk.out.alloc HBk.out.size _)⟩
              case measure => simp [intOf]; omega
            · clear hab
              go_wp2_with fail
              go_roundw
              case rel => exact ⟨k + 1, by omega, by go_num, HN, hidK (HBk.out.alloc HBk.out.size _)⟩
              case measure => simp [intOf]; omega
        · obtain rfl : k = 24 := by omega
          clear c0
          go_wp2_with fail
          go_ret
          exact ⟨ret_i64 (by rw [← HD.out]; rfl), HBk.out⟩
end Go.Proofs.YtokflndfdfllaaaGreatDoor
