/-
  The tail: slices.Grow at bytes.
-/
import Derived.Test.YteeakldeimhjjabTBase
import Derived.WalkKit
import Derived.Lib.SliceRun
import Derived.Lib.AppendZerosOnto
namespace Go.Proofs.Yteeakldeimhjjab
open Go.RowKit Go.Lib
set_option linter.unusedVariables false
set_option maxRecDepth 100000

theorem Try.info5T : (Try.prog.info? 5).map (fun i => (i.zero, i.size, i.bytes)) = some (some (.int .u8 0), 1, 1) := by kernel_rfl
theorem Try.under58 : Try.prog.underlying 55 = some (.slice 5) := by kernel_rfl
theorem Try.under3T : Try.prog.underlying 3 = some (.int .i64) := by kernel_rfl

theorem grow_room (base : Option Addr) (l c n : Nat) (w : World) (hlc : l ≤ c) (hc63 : c ≤ 9223372036854775807) (hn63 : n ≤ 9223372036854775807) (hroom : l + n ≤ c) :
    Calls Try.prog 28 #[.slice base l c, .int .i64 n] w fun e w' => e = .returned (.slice base l c) ∧ w' = w := by
  have h1 : ¬ ((n : Int) < 0) := by omega
  have h2 : wrap64 ((c : Int) - (l : Int)) = (c : Int) - (l : Int) := by unfold wrap64; omega
  have h3 : wrap64 ((n : Int) - ((c : Int) - (l : Int))) = (n : Int) - ((c : Int) - (l : Int)) := by unfold wrap64; omega
  have h4 : ¬ ((n : Int) - ((c : Int) - (l : Int)) > 0) := by omega
  go_enter Try.func28, Try.ntmps28
  go_wp2
  go_ret
  exact ⟨rfl, rfl⟩

set_option maxHeartbeats 4000000 in
theorem grow_new (base : Option Addr) (l c n : Nat) (cs : List Value) (w : World) (hlc : l ≤ c) (hroom : c < l + n) (hbig : (l + n) * 1 ≤ 140737488355328)
    (hcl : cs.length = c) (hnil : base = none → c = 0) (hcs : ∀ a, base = some a → ∀ j v, cs[j]? = some v → w.cell? (a.add j) = some v) :
    Calls Try.prog 28 #[.slice base l c, .int .i64 n] w fun e w' =>
      e = .returned (.slice (some ⟨w.heap.size, 0, none⟩) l (grownCap w (l + n) c 5)) ∧
      w' = w.drew.alloc (.cells (cs.toArray ++ Builtin.zeroCells (Value.int .u8 0).cells (l + n - c) ++ Builtin.zeroCells (Value.int .u8 0).cells (grownCap w (l + n) c 5 - (l + n))) 5) := by
  obtain ⟨i0, hi, hz0, hz1, hz2⟩ := info_parts Try.info5T
  have h1 : ¬ ((n : Int) < 0) := by omega
  have h2 : wrap64 ((c : Int) - (l : Int)) = (c : Int) - (l : Int) := by unfold wrap64; omega
  have h3 : wrap64 ((n : Int) - ((c : Int) - (l : Int))) = (n : Int) - ((c : Int) - (l : Int)) := by unfold wrap64; omega
  have h4 : (n : Int) - ((c : Int) - (l : Int)) > 0 := by omega
  have hck : c + (l + n - c) = l + n := by omega
  have hold : (Builtin.firstCells i0.size c (.slice base c c)).run Try.prog w.drew = .ok cs.toArray w.drew := by
    cases base with
    | none =>
      have h0 := hnil rfl
      subst h0
      have hc0 : cs = [] := List.length_eq_zero_iff.1 (by simpa using hcl)
      rw [hc0]
      exact run_firstCells_none w.drew i0.size 0 0 0
    | some a => exact run_firstCells_some w.drew i0.size c a c c cs (by rw [hz1]; omega) (fun j v hj => hcs a rfl j v hj)
  have hrz : ∀ ty, (Builtin.append_ #[55, 3] ty #[.slice base c c, .int .i64 ((n : Int) - ((c : Int) - (l : Int)))]).run Try.prog w =
      .ok (.slice (some ⟨w.heap.size, 0, none⟩) (l + n) (grownCap w (l + n) c 5)) (w.drew.alloc (.cells (cs.toArray ++ Builtin.zeroCells (Value.int .u8 0).cells (l + n - c) ++ Builtin.zeroCells (Value.int .u8 0).cells (grownCap w (l + n) c 5 - (l + n))) 5)) := fun ty => by
    have h := Lib.run_append_grow_zeros w 55 3 ty 5 i0 (.int .u8 0) .i64 .i64 Try.under58 Try.under3T hi hz0 base c c cs hold (l + n - c) (by omega) (by omega) (by omega) (by omega)
      (by rw [hz2]; omega)
      (by rw [hck, hz2]; exact growslice_fits hroom hbig)
    rw [hck] at h
    rw [show (n : Int) - ((c : Int) - (l : Int)) = ((l + n - c : Nat) : Int) by omega]
    exact h
  have hGn : l + n ≤ grownCap w (l + n) c 5 := grownCap_ge w _ _ _
  obtain ⟨G, hG⟩ : ∃ G, G = grownCap w (l + n) c 5 := ⟨_, rfl⟩
  rw [← hG] at hrz hGn ⊢
  have hG63 : G ≤ 9223372036854775807 := by
    have := grownCap_le_maxLen w (l + n) c 5 (by unfold maxLen; omega)
    rw [← hG] at this
    unfold maxLen at this
    omega
  clear hold hck hG hcs hcl hi hz0 hz1 hz2
  go_enter Try.func28, Try.ntmps28
  cases base with
  | none =>
    have h0 := hnil rfl
    subst h0
    obtain rfl : l = 0 := by omega
    go_wp2_with (at_builtin; refine Lib.wpList_append_run _ rfl _ _ _ _ rfl _ _ rfl rfl _ _ (hrz _) ?_)
    all_goals (go_ret; exact ⟨rfl, rfl⟩)
  | some a =>
    obtain ⟨ab, ao, asp⟩ := a
    go_wp2_with (at_builtin; refine Lib.wpList_append_run _ rfl _ _ _ _ rfl _ _ rfl rfl _ _ (hrz _) ?_)
    all_goals (go_ret; exact ⟨rfl, rfl⟩)

/-- Bytes with room for n more. -/
def Room (w : World) (v : Value) (l : List UInt8) (n : Nat) : Prop :=
  (v = .slice none 0 0 ∧ l = [] ∧ n = 0) ∨ ∃ g o cap cur, v = .slice (some ⟨g, o, none⟩) l.length cap ∧ w.heap[g]? = some (.cells cur 5 (0, 0)) ∧ l.length + n ≤ cap ∧ cap ≤ 9223372036854775807 ∧ o + cap ≤ cur.size ∧
    ∀ j (hj : j < l.length), cur[o + j]? = some (bv l[j])

theorem grow_any {v : Value} {l : List UInt8} {w : World} (h : Bytes w v l) (n : Nat) (hn : l.length + n ≤ 140737488355328) :
    Calls Try.prog 28 #[v, .int .i64 n] w fun e w' => ∃ v', e = .returned v' ∧ Room w' v' l n ∧ Below w.heap.size w w' ∧ (v'.ownBlock = v.ownBlock ∨ ∀ k, v'.ownBlock = some k → w.heap.size ≤ k) := by
  rcases h with ⟨rfl, rfl⟩ | ⟨g, o, cap, cur, rfl, hg, h1, h2, h3, h4⟩
  · by_cases h0 : n = 0
    · subst h0
      refine (grow_room none 0 0 0 w (by omega) (by omega) (by omega) (by omega)).mono ?_
      rintro e w' ⟨rfl, rfl⟩
      exact ⟨_, rfl, .inl ⟨rfl, rfl, rfl⟩, Below.refl _ _, .inl rfl⟩
    · refine (grow_new none 0 0 n [] w (by omega) (by omega) (by simpa using hn) rfl (fun _ => rfl) (fun a ha => by cases ha)).mono ?_
      rintro e w' ⟨rfl, rfl⟩
      have hge := grownCap_ge w (0 + n) 0 5
      have hle := grownCap_le_maxLen w (0 + n) 0 5 (by unfold maxLen; simp at hn; omega)
      refine ⟨_, rfl, .inr ⟨_, 0, _, _, rfl, heap_alloc_new w.drew _, by simpa using hge, by unfold maxLen at hle; exact hle, ?_, fun j hj => by simp at hj⟩, ?_, .inr (fun k hk => by cases hk; exact Nat.le_refl _)⟩
      · simp only [Array.size_append, size_zeroCells, Value.cells]
        simp
        omega
      · exact ((Below.refl _ w).drew).alloc (Nat.le_refl _) _
  · by_cases h0 : l.length + n ≤ cap
    · refine (grow_room _ l.length cap n w h1 h2 (by omega) h0).mono ?_
      rintro e w' ⟨rfl, rfl⟩
      exact ⟨_, rfl, .inr ⟨g, o, cap, cur, rfl, hg, h0, h2, h3, h4⟩, Below.refl _ _, .inl rfl⟩
    · have hcl : ((cur.toList.drop o).take cap).length = cap := by rw [List.length_take, List.length_drop, Array.length_toList]; omega
      refine (grow_new (some ⟨g, o, none⟩) l.length cap n ((cur.toList.drop o).take cap) w h1 (by omega) (by omega) hcl (fun h => by cases h) (fun a ha j u hu => ?_)).mono ?_
      · cases ha
        rw [show (⟨g, o, none⟩ : Addr).add j = ⟨g, o + j, none⟩ by unfold Addr.add; split <;> simp_all, cell_atT hg]
        have hj : j < cap := by have := (List.getElem?_eq_some_iff.1 hu).1; omega
        rw [List.getElem?_take_of_lt hj, List.getElem?_drop, Array.getElem?_toList] at hu
        exact hu
      rintro e w' ⟨rfl, rfl⟩
      have hge := grownCap_ge w (l.length + n) cap 5
      have hle := grownCap_le_maxLen w (l.length + n) cap 5 (by unfold maxLen; omega)
      refine ⟨_, rfl, .inr ⟨_, 0, _, _, rfl, heap_alloc_new w.drew _, hge, by unfold maxLen at hle; exact hle, ?_, fun j hj => ?_⟩, ?_, .inr (fun k hk => by cases hk; exact Nat.le_refl _)⟩
      · simp only [Array.size_append, size_zeroCells, Value.cells, List.size_toArray, hcl]
        simp
        omega
      · rw [Array.append_assoc, Array.getElem?_append_left (by simp only [List.size_toArray, hcl]; omega), Nat.zero_add, List.getElem?_toArray, List.getElem?_take_of_lt (by omega), List.getElem?_drop, Array.getElem?_toList]
        exact h4 j hj
      · exact ((Below.refl _ w).drew).alloc (Nat.le_refl _) _

end Go.Proofs.Yteeakldeimhjjab
