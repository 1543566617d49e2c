/-
  A letter is written.
-/
import Derived.Test.YtooahffclghcjaaGreatDoorMB
import Derived.Deep.RegionWith
namespace Go.Proofs.YtooahffclghcjaaGreatDoor
open Go.RowKit
set_option linter.unusedVariables false
set_option maxRecDepth 100000

theorem ScAt.ne {w : World} {b g : Nat} {s : Sc} {gs : List Gl} (h : ScAt w b s) (hg : GAt w g gs) : b ≠ g := fun e => by
  subst e
  rw [ScAt, hg] at h
  simp at h
theorem ScAt.neG {w : World} {b G : Nat} {s : Sc} {rs : List (Nat × List Gl)} {k : Nat} (h : ScAt w b s) (hg : RowsAt w G rs k) : b ≠ G := fun e => by
  subst e
  rw [ScAt, hg.blk] at h
  simp at h
/-- A screen, whole. -/
structure Scn (w : World) (b : Nat) (s : Sc) (G : Nat) (rs : List (Nat × List Gl)) : Prop where
  at_ : ScAt w b s
  rows : RowsAt w G rs 0
  val : s.rows = .slice (some ⟨G, 0, none⟩) rs.length rs.length
def feet (b : Nat) (rs : List (Nat × List Gl)) : List Nat := b :: rs.map Prod.fst
theorem Scn.below {w w' : World} {b : Nat} {s : Sc} {G : Nat} {rs : List (Nat × List Gl)} (h : Scn w b s G rs) (hb : Below w.heap.size w w') : Scn w' b s G rs := ⟨h.at_.below hb, h.rows.below hb, h.val⟩
/-- The screen's own block has turned alone. -/
theorem Scn.turn {w w' : World} {b : Nat} {s s' : Sc} {G : Nat} {rs : List (Nat × List Gl)} (h : Scn w b s G rs) (hs : ScAt w' b s') (hv : s'.rows = s.rows) (hb : But [b] w w') : Scn w' b s' G rs ∧ But (feet b rs) w w' :=
  ⟨⟨hs, h.rows.but hb (by simpa using (h.at_.neG h.rows).symm) (fun r hr => by simpa using (h.at_.ne (h.rows.row r hr)).symm), hv.trans h.val⟩, hb.mono (fun k _ hk => by simp at hk; subst hk; simp [feet])⟩
/-- .. and a row. -/
theorem Scn.turnRow {w w' : World} {b : Nat} {s s' : Sc} {G : Nat} {rs : List (Nat × List Gl)} (h : Scn w b s G rs) (hs : ScAt w' b s') (hv : s'.rows = s.rows) {y g : Nat} {gs gs' : List Gl} (hy : rs[y]? = some (g, gs)) (hl : gs'.length = gs.length) (hg : GAt w' g gs') (hb : But [b, g] w w') : Scn w' b s' G (rs.set y (g, gs')) ∧ But (feet b rs) w w' := by
  have hlt := (List.getElem?_eq_some_iff.1 hy).1
  have hmem := List.mem_of_getElem? hy
  have hgG := h.rows.ne _ hmem
  have hbG := h.at_.neG h.rows
  have hap := h.rows.apart
  refine ⟨⟨hs, ⟨?_, ?_, ?_⟩, by rw [hv, h.val, List.length_set]⟩, hb.mono (fun k _ hk => by
    rcases (by simpa using hk : k = b ∨ k = g) with rfl | rfl
    · simp [feet]
    · simp only [feet, List.mem_cons, List.mem_map]; exact .inr ⟨_, hmem, rfl⟩)⟩
  · rw [hb.block G (lt_of_block h.rows.blk) (by simp only [List.mem_cons, List.not_mem_nil, or_false, not_or]; exact ⟨fun e => hbG e.symm, fun e => hgG e.symm⟩), h.rows.blk]
    congr 3
    simp only [List.map_set]
    rw [show rowV (g, gs') = rowV (g, gs) by unfold rowV; simp [hl]]
    symm
    congr 1
    apply List.ext_getElem?
    intro i
    by_cases e : y = i
    · subst e
      rw [List.getElem?_set_self (by simpa using hlt), List.getElem?_map, hy]
      rfl
    · rw [List.getElem?_set_ne e]
  · intro r hr
    rw [List.mem_iff_getElem?] at hr
    obtain ⟨i, hi⟩ := hr
    by_cases e : y = i
    · subst e
      rw [List.getElem?_set_self hlt] at hi
      cases hi
      exact hg
    · rw [List.getElem?_set_ne e] at hi
      have h2 := h.rows.row r (List.mem_of_getElem? hi)
      refine h2.but hb ?_
      simp only [List.mem_cons, List.not_mem_nil, or_false, not_or]
      refine ⟨fun e2 => h.at_.ne h2 e2.symm, fun e2 => ?_⟩
      obtain ⟨hi1, hi2⟩ := List.getElem?_eq_some_iff.1 hi
      obtain ⟨hy1, hy2⟩ := List.getElem?_eq_some_iff.1 hy
      rw [List.pairwise_iff_getElem] at hap
      rcases Nat.lt_or_gt_of_ne e with hlt2 | hlt2
      · have := hap y i hy1 hi1 hlt2
        rw [hy2, hi2] at this
        exact this e2.symm
      · have := hap i y hi1 hy1 hlt2
        rw [hy2, hi2] at this
        exact this e2
  · rw [List.pairwise_iff_getElem] at hap ⊢
    intro i j hi hj hij
    have hset : ∀ k (hk : k < (rs.set y (g, gs')).length), ((rs.set y (g, gs'))[k]).1 = (rs[k]'(by simpa using hk)).1 := fun k hk => by
      rw [List.getElem_set]
      split
      · rename_i e
        subst e
        obtain ⟨hy1, hy2⟩ := List.getElem?_eq_some_iff.1 hy
        rw [hy2]
      · rfl
    rw [hset i hi, hset j hj]
    exact hap i j _ _ hij

set_option maxHeartbeats 1000000 in
theorem width_ascii (c : Int) (h1 : 32 ≤ c) (h2 : c < 127) (w : World) : Calls Tryz.prog 33 #[.int .i32 c] w fun r w' => r = .returned (.int .i64 1) ∧ w = w' := by
  go_enter Tryz.func33, Tryz.ntmps33
  go_wp2_with fail
  go_ret
  exact ⟨rfl, rfl⟩
set_option maxHeartbeats 1000000 in
theorem exchanged_no {w : World} {b : Nat} {s : Sc} (h : ScAt w b s) (hu : s.cur.us = 0) (hl : s.cur.l0 = false) (c : Int) : Calls Tryz.prog 34 #[.pointer (some ⟨b, 0, none⟩), .int .i32 c] w fun r w' => r = .returned (.int .i32 c) ∧ Below w.heap.size w w' := by
  have c21 := h.c21
  rw [hu] at c21
  have c19 := h.c19
  rw [hl] at c19
  clear h hu hl
  go_enter Tryz.func34, Tryz.ntmps34
  go_wp2_with fail
  go_quiet (fail)
  go_wp2_with fail
  go_ret
  exact ⟨rfl, below_drewN _ _⟩
end Go.Proofs.YtooahffclghcjaaGreatDoor
