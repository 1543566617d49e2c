/-
  Formats: the token with which a pattern begins.
-/
import Derived.Test.YtgoofifbifdgoaaGreatDoorFSet
import Derived.Test.YtgoofifbifdgoaaGreatDoorFRow
namespace Go.Proofs.YtgoofifbifdgoaaGreatDoor
open Go.RowKit
set_option linter.unusedVariables false
set_option maxRecDepth 20000

theorem str_byte (c : UInt8) (r : List UInt8) : (str (c :: r)).extract 0 1 = str [c] := by rw [str_takeF]; rfl
theorem tok_one {c : UInt8} {r : List UInt8} {e : Int} (h1 : ¬ c.toNat = 42) (h2 : ¬ c.toNat = 63) (h3 : ¬ (c.toNat = 92 ∧ r ≠ [])) (h4 : ¬ (c.toNat = 91 ∧ 0 < (csetF (c :: r) e).2)) : tokF (c :: r) e = (⟨false, false, [c]⟩, 1) := by
  simp only [tokF]
  rw [if_neg h1, if_neg h2, if_neg h3, if_neg h4]
theorem set_three {X : World} {b : Nat} {a0 a1 a2 : Value} {T : TypeId} (h : X.heap[b]? = some (.cells #[a0, a1, a2] T (0, 0))) (v0 v1 v2 : Value) : (((X.setCell ⟨b, 0, none⟩ v0).setCell ⟨b, 1, none⟩ v1).setCell ⟨b, 2, none⟩ v2).heap[b]? = some (.cells #[v0, v1, v2] T (0, 0)) :=
  heap_setCell_same _ b 2 _ _ _ (heap_setCell_same _ b 1 _ _ _ (heap_setCell_same X b 0 _ _ _ h))
theorem alloc_old {w1 : World} {b : Nat} {cs : Array Value} {T : TypeId} (h : w1.heap[b]? = some (.cells cs T (0, 0))) (o : Obj) : (w1.alloc o).heap[b]? = some (.cells cs T (0, 0)) := by
  rw [Below.heap_alloc _ _ _ (lt_of_block h)]
  exact h
set_option maxHeartbeats 4000000 in
theorem nextToken_any (l : List UInt8) (hl : l.length ≤ 2147483647) (hne : l ≠ []) (e : Int) (he : LastOk l e) (w : World) :
    Calls Tryz.prog 25 #[.string (str l), .int .i64 e] w fun x w' => x = .returned (.tuple #[tokV (tokF l e).1, .int .i64 ((tokF l e).2 : Int)]) ∧ Below w.heap.size w w' := by
  cases l with
  | nil => exact absurd rfl hne
  | cons c r =>
  have hlt := he.lt
  have HSet := hidK fun W => nextSet_any (c :: r) hl (by simp) e hlt (set_end he) W
  have hzs : (str (c :: r)).size = r.length + 1 := rfl
  have g0 : ∀ h : 0 < (str (c :: r)).size, (str (c :: r))[0] = c := fun h => str_getF _ 0 c rfl h
  have hone := str_byte c r
  have HOne : Hid (str [c] = str [c]) := rfl
  obtain ⟨z, hz⟩ : ∃ z, str (c :: r) = z := ⟨_, rfl⟩
  obtain ⟨y, hy⟩ : ∃ y, str [c] = y := ⟨_, rfl⟩
  have hmid := str_midF (c :: r) 1 2
  rw [hz] at HSet hzs g0 hone hmid ⊢
  rw [hy] at hone
  have HY := hidK hy
  have g0' := g0 (by omega)
  obtain ⟨n, hn⟩ : ∃ n, r.length = n := ⟨_, rfl⟩
  simp only [List.length_cons, hn] at hl hlt hzs
  have HN := hidK hn
  clear g0 hy hne hn HOne
  by_cases h42 : c.toNat = 42
  · have HT : Hid (tokF (c :: r) e = (⟨true, false, []⟩, 1)) := by show _ = _; simp only [tokF]; rw [if_pos h42]
    clear HSet hone hmid hz
    go_enter Tryz.func25, Tryz.ntmps25
    go_wp2_with fail
    all_goals refine ret_cell2 rfl rfl (heap_alloc_new w _) Tryz.underlying51 rfl rfl rfl ?_
    all_goals exact ⟨by rw [HT.out]; rfl, (Below.refl _ _).alloc (Nat.le_refl _) _⟩
  by_cases h63 : c.toNat = 63
  · have HT : Hid (tokF (c :: r) e = (⟨false, true, []⟩, 1)) := by show _ = _; simp only [tokF]; rw [if_neg h42, if_pos h63]
    clear HSet hone hmid hz
    go_enter Tryz.func25, Tryz.ntmps25
    go_wp2_with fail
    all_goals refine ret_cell2 rfl rfl (heap_alloc_new w _) Tryz.underlying51 rfl rfl rfl ?_
    all_goals exact ⟨by rw [HT.out]; rfl, (Below.refl _ _).alloc (Nat.le_refl _) _⟩
  by_cases h92 : c.toNat = 92
  · by_cases hr : 1 < n + 1
    · have hr' : r ≠ [] := fun h => by have h1 := HN.out; rw [h] at h1; simp at h1; omega
      have HT : Hid (tokF (c :: r) e = (⟨false, false, r.take 1⟩, 2)) := by show _ = _; simp only [tokF]; rw [if_neg h42, if_neg h63, if_pos ⟨h92, hr'⟩]
      obtain ⟨m, hm⟩ : ∃ m, str (r.take 1) = m := ⟨_, rfl⟩
      have hmid2 : z.extract 1 2 = m := by rw [hmid, ← hm]; rfl
      have HM := hidK hm
      clear HSet hone hmid hz hm hr'
      have hsl := fun W => slice_mid z 1 2 1 2 rfl rfl (by omega) (by omega) W
      rw [hmid2] at hsl
      go_enter Tryz.func25, Tryz.ntmps25
      go_wp2_with fail
      all_goals refine ret_cell2 rfl rfl (heap_alloc_new w _) Tryz.underlying51 rfl rfl rfl ?_
      all_goals exact ⟨by rw [HT.out]; simp only [tokV]; rw [HM.out]; rfl, (Below.refl _ _).alloc (Nat.le_refl _) _⟩
    · have hr' : r = [] := List.length_eq_zero_iff.1 (by rw [HN.out]; omega)
      have HT := hidK (tok_one (e := e) h42 h63 (fun h => h.2 hr') (fun h => by omega))
      clear HSet hmid hz hr'
      go_enter Tryz.func25, Tryz.ntmps25
      go_wp2_with fail
      all_goals refine ret_cell2 rfl rfl (heap_alloc_new w _) Tryz.underlying51 rfl rfl rfl ?_
      all_goals exact ⟨by rw [HT.out]; simp only [tokV]; rw [HY.out]; rfl, (Below.refl _ _).alloc (Nat.le_refl _) _⟩
  by_cases h91 : c.toNat = 91
  · obtain ⟨⟨t, k⟩, htk⟩ : ∃ p, csetF (c :: r) e = p := ⟨_, rfl⟩
    rw [htk] at HSet
    by_cases hk : 0 < k
    · have HT : Hid (tokF (c :: r) e = (t, k)) := by
        show _ = _
        simp only [tokF]
        rw [if_neg h42, if_neg h63, if_neg (fun h => h92 h.1), htk, if_pos ⟨h91, hk⟩]
      have hkl : k ≤ n + 1 := by have h := set_le he; rw [htk] at h; simp only [List.length_cons, HN.out] at h; exact h
      simp only [tokV] at HSet
      obtain ⟨zm, hzm⟩ : ∃ zm, str t.mem = zm := ⟨_, rfl⟩
      rw [hzm] at HSet
      have HZ := hidK hzm
      clear hone hmid hz htk hzm
      go_enter Tryz.func25, Tryz.ntmps25
      go_wp2_with fail
      refine (HSet.out _).mono ?_
      rintro x w1 ⟨rfl, hb1⟩
      have hbk := (hb1.block w.heap.size (by simp)).trans (heap_alloc_new w _)
      have HBk := hidK hbk
      have HB1 := hidK hb1
      have q0 : ∀ o, (w1.alloc o).cell? ⟨w.heap.size, 0, none⟩ = some (.bool false) := (fun o => cell_atT (alloc_old hbk o) 0)
      have q1 : ∀ o, (w1.alloc o).cell? ⟨w.heap.size, 1, none⟩ = some (.bool false) := (fun o => cell_atT (alloc_old hbk o) 1)
      have q2 : ∀ o, (w1.alloc o).cell? ⟨w.heap.size, 2, none⟩ = some (.string ⟨#[]⟩) := (fun o => cell_atT (alloc_old hbk o) 2)
      have q3 : ∀ o j, (w1.alloc o).frozen? ⟨w.heap.size, j, none⟩ = false := (fun o j => free_atT (alloc_old hbk o) j)
      clear hbk hb1
      go_wp2_with fail
      all_goals refine ret_cell2 rfl rfl (set_three (alloc_old HBk.out _) _ _ _) Tryz.underlying51 rfl rfl rfl ?_
      all_goals exact ⟨by rw [HT.out]; simp only [tokV]; rw [HZ.out]; rfl, by
        have h1 : Below w.heap.size w w1 := ((Below.refl _ w).alloc (Nat.le_refl _) _).trans (HB1.out.mono (by simp))
        exact (((h1.alloc h1.size _).setCell (Nat.le_refl _) _).setCell (Nat.le_refl _) _).setCell (Nat.le_refl _) _⟩
    · have hk0 : k = 0 := by omega
      subst hk0
      have HT := hidK (tok_one (e := e) h42 h63 (fun h => h92 h.1) (fun h => by have h2 := h.2; rw [htk] at h2; exact absurd h2 (by simp)))
      simp only [tokV] at HSet
      obtain ⟨zm, hzm⟩ : ∃ zm, str t.mem = zm := ⟨_, rfl⟩
      rw [hzm] at HSet
      clear hmid hz htk hzm
      go_enter Tryz.func25, Tryz.ntmps25
      go_wp2_with fail
      refine (HSet.out _).mono ?_
      rintro x w1 ⟨rfl, hb1⟩
      have hbk := (hb1.block w.heap.size (by simp)).trans (heap_alloc_new w _)
      have HBk := hidK hbk
      have HB1 := hidK hb1
      have q0 : ∀ o, (w1.alloc o).cell? ⟨w.heap.size, 0, none⟩ = some (.bool false) := (fun o => cell_atT (alloc_old hbk o) 0)
      have q1 : ∀ o, (w1.alloc o).cell? ⟨w.heap.size, 1, none⟩ = some (.bool false) := (fun o => cell_atT (alloc_old hbk o) 1)
      have q2 : ∀ o, (w1.alloc o).cell? ⟨w.heap.size, 2, none⟩ = some (.string ⟨#[]⟩) := (fun o => cell_atT (alloc_old hbk o) 2)
      have q3 : ∀ o j, (w1.alloc o).frozen? ⟨w.heap.size, j, none⟩ = false := (fun o j => free_atT (alloc_old hbk o) j)
      clear hbk hb1
      go_wp2_with fail
      all_goals refine ret_cell2 rfl rfl (set_three (alloc_old HBk.out _) _ _ _) Tryz.underlying51 rfl rfl rfl ?_
      all_goals exact ⟨by rw [HT.out]; simp only [tokV]; rw [HY.out]; rfl, by
        have h1 : Below w.heap.size w w1 := ((Below.refl _ w).alloc (Nat.le_refl _) _).trans (HB1.out.mono (by simp))
        exact (((h1.alloc h1.size _).setCell (Nat.le_refl _) _).setCell (Nat.le_refl _) _).setCell (Nat.le_refl _) _⟩
  · have HT := hidK (tok_one (r := r) (e := e) h42 h63 (fun h => h92 h.1) (fun h => h91 h.1))
    clear HSet hmid hz
    go_enter Tryz.func25, Tryz.ntmps25
    go_wp2_with fail
    all_goals refine ret_cell2 rfl rfl (heap_alloc_new w _) Tryz.underlying51 rfl rfl rfl ?_
    all_goals exact ⟨by rw [HT.out]; simp only [tokV]; rw [HY.out]; rfl, (Below.refl _ _).alloc (Nat.le_refl _) _⟩
end Go.Proofs.YtgoofifbifdgoaaGreatDoor
