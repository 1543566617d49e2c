/-
  The document's widths.
-/
import Derived.Test.YtokflndfdfllaaaGreatDoorVWid
import Derived.Test.YtokflndfdfllaaaGreatDoorVWork
namespace Go.Proofs.YtokflndfdfllaaaGreatDoor
open Go.RowKit
set_option linter.unusedVariables false
set_option maxRecDepth 100000

def flatP (l : List (Int × Int)) : List Int := l.flatMap fun q => [q.1, q.2]
theorem flatP_at {l : List (Int × Int)} {i : Nat} {a b : Int} (h : l[i]? = some (a, b)) : (flatP l)[i * 2]? = some a ∧ (flatP l)[i * 2 + 1]? = some b := by
  induction l generalizing i with
  | nil => simp at h
  | cons x l ih =>
    have hc : flatP (x :: l) = [x.1, x.2] ++ flatP l := rfl
    cases i with
    | zero =>
      simp at h
      subst h
      exact ⟨rfl, rfl⟩
    | succ i =>
      have h1 := ih (i := i) (by simpa using h)
      rw [hc, List.getElem?_append_right (by simp; omega), List.getElem?_append_right (by simp; omega)]
      rw [show (i + 1) * 2 - [x.1, x.2].length = i * 2 by simp; omega, show (i + 1) * 2 + 1 - [x.1, x.2].length = i * 2 + 1 by simp; omega]
      exact h1
theorem in_drop (l : List (Int × Int)) (k : Nat) (a b c : Int) (h : l[k]? = some (a, b)) : inB (l.drop k) c = ((decide (a ≤ c) && decide (c ≤ b)) || inB (l.drop (k + 1)) c) := by
  obtain ⟨hk, e⟩ := List.getElem?_eq_some_iff.1 h
  rw [List.drop_eq_getElem_cons hk, e, inB]
theorem ret_b {a b : Bool} (h : a = b) : Ending.returned (.bool a) = .returned (.bool b) := by rw [h]
set_option maxHeartbeats 2000000 in
theorem within_any (l : List (Int × Int)) (hl : l.length ≤ 1000) (c : Int) {w : World} {g n : Nat} (hn : n = l.length * 2) (h : ∀ (i : Nat) x, (flatP l)[i]? = some x → w.cell? ⟨g, i, none⟩ = some (.int .i32 x)) : Calls Tryz.prog 17 #[.int .i32 c, .slice (some ⟨g, 0, none⟩) n n] w fun r w' => r = .returned (.bool (inB l c)) ∧ Below w.heap.size w w' := by
  have H := hidK h
  obtain ⟨F, hF⟩ : ∃ F, inB l c = F := ⟨_, rfl⟩
  have HF := hidK hF
  rw [hF]
  clear hF h
  go_enter Tryz.func17, Tryz.ntmps17
  go_wp2_with fail
  go_loopw [5] (fun i wr => ∃ k : Nat, k ≤ l.length ∧ i = .int .i64 ((k : Int) * 2) ∧ Hid (inB (l.drop k) c = F) ∧ wr = w) (fun i _ => l.length * 2 - (intOf i).toNat)
  case atStart => exact ⟨0, by omega, rfl, HF, rfl⟩
  case round =>
    obtain ⟨k, hk, rfl, HD, rfl⟩ := hrel
    by_cases hlt : k < l.length
    · obtain ⟨⟨a, b⟩, hq⟩ : ∃ q, l[k]? = some q := ⟨_, List.getElem?_eq_getElem hlt⟩
      obtain ⟨p0, p1⟩ := flatP_at hq
      have q0 := H.out _ _ p0
      have q1 := H.out _ _ p1
      have HQ := hidK (in_drop l k a b c hq)
      have t0 : ((k : Int) * 2).toNat = k * 2 := by omega
      have t1 : ((k : Int) * 2 + 1).toNat = k * 2 + 1 := by omega
      clear hq p0 p1
      by_cases ha : a ≤ c
      · by_cases hb : c ≤ b
        · go_wp2_with fail
          go_ret
          exact ⟨ret_b (by rw [← HD.out, HQ.out, decide_eq_true ha, decide_eq_true hb]; rfl), Below.refl _ _⟩
        · have HN : Hid (inB (l.drop (k + 1)) c = F) := by rw [← HD.out, HQ.out, decide_eq_false hb, Bool.and_false, Bool.false_or]; exact hidK rfl
          go_wp2_with fail
          go_roundw
          case rel => exact ⟨k + 1, by omega, by go_num, HN, trivial⟩
          case measure => simp [intOf]; omega
      · have HN : Hid (inB (l.drop (k + 1)) c = F) := by rw [← HD.out, HQ.out, decide_eq_false ha, Bool.false_and, Bool.false_or]; exact hidK rfl
        go_wp2_with fail
        go_roundw
        case rel => exact ⟨k + 1, by omega, by go_num, HN, trivial⟩
        case measure => simp [intOf]; omega
    · obtain rfl : k = l.length := by omega
      go_wp2_with fail
      go_ret
      exact ⟨ret_b (by rw [← HD.out, List.drop_length]; rfl), Below.refl _ _⟩
theorem within_lit (l : List (Int × Int)) (hl : l.length ≤ 1000) (c : Int) (Y : World) (cs : Array Value) (he : cs = ((flatP l).map fun x => Value.int .i32 x).toArray) (n : Nat) (hn : n = l.length * 2) : Calls Tryz.prog 17 #[.int .i32 c, .slice (some ⟨Y.heap.size, 0, none⟩) n n] (Y.alloc (.cells cs 21)) fun r w' => r = .returned (.bool (inB l c)) ∧ Below (Y.alloc (.cells cs 21)).heap.size (Y.alloc (.cells cs 21)) w' := by
  refine within_any l hl c hn (fun i x hx => ?_)
  rw [cell_atT (heap_alloc_new Y (.cells cs 21)), he, List.getElem?_toArray, List.getElem?_map, hx]
  rfl
set_option maxHeartbeats 4000000 in
theorem refWidth_any (c : Int) (w : World) : Calls Tryz.prog 7 #[.int .i32 c] w fun r w' => r = .returned (.int .i64 (refW c)) ∧ Below w.heap.size w w' := by
  obtain ⟨vb, hvb⟩ : ∃ v, inB spB c = v := ⟨_, rfl⟩
  obtain ⟨vc, hvc⟩ : ∃ v, inB spC c = v := ⟨_, rfl⟩
  have HB : Hid (∀ Y : World, Calls Tryz.prog 17 #[.int .i32 c, .slice (some ⟨Y.heap.size, 0, none⟩) 12 12] (Y.alloc (.cells #[.int .i32 768, .int .i32 879, .int .i32 8203, .int .i32 8207, .int .i32 8232, .int .i32 8238, .int .i32 8400, .int .i32 8447, .int .i32 65024, .int .i32 65039, .int .i32 65279, .int .i32 65279] 21)) fun r w' => r = .returned (.bool vb) ∧ Below (Y.alloc (.cells #[.int .i32 768, .int .i32 879, .int .i32 8203, .int .i32 8207, .int .i32 8232, .int .i32 8238, .int .i32 8400, .int .i32 8447, .int .i32 65024, .int .i32 65039, .int .i32 65279, .int .i32 65279] 21)).heap.size (Y.alloc (.cells #[.int .i32 768, .int .i32 879, .int .i32 8203, .int .i32 8207, .int .i32 8232, .int .i32 8238, .int .i32 8400, .int .i32 8447, .int .i32 65024, .int .i32 65039, .int .i32 65279, .int .i32 65279] 21)) w') := fun Y => by rw [← hvb]; exact within_lit spB (by decide) c Y _ rfl 12 rfl
  have HC : Hid (∀ Y : World, Calls Tryz.prog 17 #[.int .i32 c, .slice (some ⟨Y.heap.size, 0, none⟩) 28 28] (Y.alloc (.cells #[.int .i32 4352, .int .i32 4447, .int .i32 11904, .int .i32 12350, .int .i32 12353, .int .i32 13311, .int .i32 13312, .int .i32 19903, .int .i32 19968, .int .i32 40959, .int .i32 40960, .int .i32 42191, .int .i32 44032, .int .i32 55203, .int .i32 63744, .int .i32 64255, .int .i32 65072, .int .i32 65135, .int .i32 65280, .int .i32 65376, .int .i32 65504, .int .i32 65510, .int .i32 127744, .int .i32 128591, .int .i32 129280, .int .i32 129535, .int .i32 131072, .int .i32 262141] 21)) fun r w' => r = .returned (.bool vc) ∧ Below (Y.alloc (.cells #[.int .i32 4352, .int .i32 4447, .int .i32 11904, .int .i32 12350, .int .i32 12353, .int .i32 13311, .int .i32 13312, .int .i32 19903, .int .i32 19968, .int .i32 40959, .int .i32 40960, .int .i32 42191, .int .i32 44032, .int .i32 55203, .int .i32 63744, .int .i32 64255, .int .i32 65072, .int .i32 65135, .int .i32 65280, .int .i32 65376, .int .i32 65504, .int .i32 65510, .int .i32 127744, .int .i32 128591, .int .i32 129280, .int .i32 129535, .int .i32 131072, .int .i32 262141] 21)).heap.size (Y.alloc (.cells #[.int .i32 4352, .int .i32 4447, .int .i32 11904, .int .i32 12350, .int .i32 12353, .int .i32 13311, .int .i32 13312, .int .i32 19903, .int .i32 19968, .int .i32 40959, .int .i32 40960, .int .i32 42191, .int .i32 44032, .int .i32 55203, .int .i32 63744, .int .i32 64255, .int .i32 65072, .int .i32 65135, .int .i32 65280, .int .i32 65376, .int .i32 65504, .int .i32 65510, .int .i32 127744, .int .i32 128591, .int .i32 129280, .int .i32 129535, .int .i32 131072, .int .i32 262141] 21)) w') := fun Y => by rw [← hvc]; exact within_lit spC (by decide) c Y _ rfl 28 rfl
  have HV := hidK (And.intro hvb hvc)
  clear hvb hvc
  by_cases hp : c < 32 ∨ (127 ≤ c ∧ c ≤ 159) ∨ (55296 ≤ c ∧ c ≤ 57343) ∨ 1114111 < c
  · have e : refW c = -1 := if_pos hp
    rw [e]
    clear HB HC HV e
    by_cases h1 : c < 32
    · go_enter Tryz.func7, Tryz.ntmps7
      go_wp2_with fail
      go_ret
      exact ⟨rfl, Below.refl _ _⟩
    · by_cases h2 : 127 ≤ c
      · by_cases h3 : c ≤ 159
        · clear hp
          go_enter Tryz.func7, Tryz.ntmps7
          go_wp2_with fail
          go_ret
          exact ⟨rfl, Below.refl _ _⟩
        · by_cases h4 : 55296 ≤ c
          · by_cases h5 : c ≤ 57343
            · clear hp
              go_enter Tryz.func7, Tryz.ntmps7
              go_wp2_with fail
              go_ret
              exact ⟨rfl, Below.refl _ _⟩
            · have h6 : 1114111 < c := by omega
              clear hp
              go_enter Tryz.func7, Tryz.ntmps7
              go_wp2_with fail
              go_ret
              exact ⟨rfl, Below.refl _ _⟩
          · omega
      · omega
  · have e : refW c = if inB spB c = true then 0 else if inB spC c = true then 2 else 1 := if_neg hp
    rw [e, HV.out.1, HV.out.2]
    have h1 : ¬ c < 32 := by omega
    have h6 : ¬ 1114111 < c := by omega
    have cases4 : (c < 127 ∨ (127 ≤ c ∧ ¬ c ≤ 159)) ∧ (¬ 55296 ≤ c ∨ (55296 ≤ c ∧ ¬ c ≤ 57343)) := by omega
    clear hp e
    obtain ⟨k1, k2⟩ := cases4
    rcases k1 with k1 | ⟨k1, k3⟩ <;> rcases k2 with k2 | ⟨k2, k4⟩
    all_goals first | (exfalso; omega) | skip
    all_goals
      go_enter Tryz.func7, Tryz.ntmps7
      go_wp2_with fail
      refine (HB.out _).mono ?_
      rintro x w1 ⟨rfl, hb1⟩
      have HB1 := hidK hb1
      clear hb1
      cases vb
      · go_wp2_with fail
        refine (HC.out _).mono ?_
        rintro x w2 ⟨rfl, hb2⟩
        have HB2 := hidK hb2
        clear hb2
        have q1 : Below w.heap.size w w1 := ((Below.refl _ _).alloc (Nat.le_refl _) _).trans (HB1.out.mono (by simp))
        have HQ : Hid (Below w.heap.size w w2) := (q1.alloc q1.size _).trans (HB2.out.mono (by have := q1.size; simp; omega))
        clear q1
        cases vc
        · go_wp2_with fail
          go_ret
          exact ⟨rfl, HQ.out⟩
        · go_wp2_with fail
          go_ret
          exact ⟨rfl, HQ.out⟩
      · go_wp2_with fail
        go_ret
        exact ⟨rfl, ((Below.refl _ _).alloc (Nat.le_refl _) _).trans (HB1.out.mono (by simp))⟩
set_option maxHeartbeats 4000000 in
/-- The law. -/
theorem vtWidths_walk (c : Int) (h1 : -2147483648 ≤ c) (h2 : c ≤ 2147483647) (w : World) (hE : ∃ g o cap, SpIn w g o cap) : Calls Tryz.prog 3 #[.int .i32 c] w fun x w' => x = .returned (.bool true) ∧ Below w.heap.size w w' := by
  obtain ⟨g, o, cap, hE⟩ := hE
  have HW : Hid (∀ W, Calls Tryz.prog 5 #[] W fun x w' => x = .returned (.bool true) ∧ Below W.heap.size W w') := works_true
  have HA : Hid (∀ W, Below w.heap.size w W → Calls Tryz.prog 6 #[.int .i32 c] W fun r w' => r = .returned (.int .i64 (refW c)) ∧ Below W.heap.size W w') := fun W hW => by rw [← wid_ref c h1 h2]; exact width_any c (hE.below hW)
  have HR : Hid (∀ W, Calls Tryz.prog 7 #[.int .i32 c] W fun r w' => r = .returned (.int .i64 (refW c)) ∧ Below W.heap.size W w') := refWidth_any c
  obtain ⟨F, hF⟩ : ∃ F, refW c = F := ⟨_, rfl⟩
  rw [hF] at HA HR
  clear hE hF
  go_enter Tryz.func3, Tryz.ntmps3
  go_wp2_with fail
  refine (HW.out _).mono ?_
  rintro x w1 ⟨rfl, hb⟩
  have HB1 := hidK hb
  clear hb
  go_wp2_with fail
  refine (HA.out _ HB1.out).mono ?_
  rintro x w2 ⟨rfl, hb⟩
  have HB2 : Hid (Below w.heap.size w w2) := HB1.out.trans (hb.mono HB1.out.size)
  clear hb
  go_wp2_with fail
  refine (HR.out _).mono ?_
  rintro x w3 ⟨rfl, hb⟩
  have HB3 : Hid (Below w.heap.size w w3) := HB2.out.trans (hb.mono HB2.out.size)
  clear hb
  go_wp2_with fail
  go_ret
  exact ⟨rfl, HB3.out⟩
end Go.Proofs.YtokflndfdfllaaaGreatDoor
