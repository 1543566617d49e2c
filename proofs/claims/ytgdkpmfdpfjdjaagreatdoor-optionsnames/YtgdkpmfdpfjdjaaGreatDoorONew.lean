/-
  Options: New; where an option may be set.
-/
import Derived.Test.YtgdkpmfdpfjdjaaGreatDoorHY
namespace Go.Proofs.YtgdkpmfdpfjdjaaGreatDoor
open Go.RowKit Go.Maps
set_option linter.unusedVariables false
set_option maxRecDepth 100000

theorem tb_start (w : World) : Tb ((w.alloc (.map #[] 0)).alloc (.cells #[.map (some w.heap.size)] 59)) (w.heap.size + 1) w.heap.size 0 [] := by
  refine ⟨.map [], ?_, (World.ownsMap_made _ _ _ _).alloc _, dc_empty⟩
  have e : (w.alloc (.map #[] 0)).heap.size = w.heap.size + 1 := by simp
  rw [← e]
  exact heap_alloc_new _ _
set_option maxHeartbeats 4000000 in
theorem new_any (w : World) : Calls Tryz.prog 10 #[] w fun e w' => e = .returned (.pointer (some ⟨w.heap.size + 1, 0, none⟩)) ∧ Tb w' (w.heap.size + 1) w.heap.size 0 [] ∧ Below w.heap.size w w' := by
  have hmm := @run_makeMap Tryz.prog
  have HT := hidK (tb_start w)
  have HB : Hid (Below w.heap.size w ((w.alloc (.map #[] 0)).alloc (.cells #[.map (some w.heap.size)] 59))) := ((Below.refl _ _).alloc (Nat.le_refl _) _).alloc (by simp) _
  go_enter Tryz.func10, Tryz.ntmps10
  go_wp2_with fail
  go_ret
  exact ⟨rfl, HT.out, HB.out⟩
/-- Places in memory. -/
def SeePl (w : World) (g : Nat) (l : List (Int × Int)) : Prop := w.heap[g]? = some (.cells (l.flatMap fun p => [Value.int .i64 p.1, Value.int .i64 p.2]).toArray 64 (0, 0))
theorem flat_pl : ∀ (l : List (Int × Int)) (j : Nat) (hj : j < l.length), (l.flatMap fun p => [Value.int .i64 p.1, Value.int .i64 p.2])[j * 2]? = some (.int .i64 l[j].1) ∧ (l.flatMap fun p => [Value.int .i64 p.1, Value.int .i64 p.2])[j * 2 + 1]? = some (.int .i64 l[j].2)
  | [], j, hj => by simp at hj
  | a :: r, 0, hj => ⟨rfl, rfl⟩
  | a :: r, j + 1, hj => by
    have h := flat_pl r j (by simpa using hj)
    rw [List.flatMap_cons]
    constructor
    · rw [List.getElem?_append_right (by simp; omega)]
      rw [show (j + 1) * 2 - [Value.int .i64 a.1, Value.int .i64 a.2].length = j * 2 by simp; omega]
      exact h.1
    · rw [List.getElem?_append_right (by simp; omega)]
      rw [show (j + 1) * 2 + 1 - [Value.int .i64 a.1, Value.int .i64 a.2].length = j * 2 + 1 by simp; omega]
      exact h.2
theorem SeePl.at {w : World} {g : Nat} {l : List (Int × Int)} (h : SeePl w g l) {j : Nat} (hj : j < l.length) : w.cell? ⟨g, j * 2, none⟩ = some (.int .i64 l[j].1) ∧ w.cell? ⟨g, j * 2 + 1, none⟩ = some (.int .i64 l[j].2) := by
  obtain ⟨h1, h2⟩ := flat_pl l j hj
  exact ⟨(cell_at h (j * 2)).trans (by rw [List.getElem?_toArray]; exact h1), (cell_at h (j * 2 + 1)).trans (by rw [List.getElem?_toArray]; exact h2)⟩
set_option maxHeartbeats 4000000 in
theorem nearest_any (sc s v p : Int) (w : World) : Calls Tryz.prog 22 #[.int .i64 sc, .int .i64 s, .int .i64 v, .int .i64 p] w fun e w' => ∃ g, e = .returned (.slice (some ⟨g, 0, none⟩) (placesF sc s v p).length (placesF sc s v p).length) ∧ w.heap.size ≤ g ∧ SeePl w' g (placesF sc s v p) ∧ Below w.heap.size w w' := by
  by_cases h2 : sc = 2
  · subst h2
    go_enter Tryz.func22, Tryz.ntmps22
    go_wp2_with fail
    go_ret
    exact ⟨w.heap.size, rfl, Nat.le_refl _, heap_alloc_new _ _, (Below.refl _ _).alloc (Nat.le_refl _) _⟩
  · by_cases h3 : sc = 3
    · subst h3
      go_enter Tryz.func22, Tryz.ntmps22
      go_wp2_with fail
      go_ret
      exact ⟨w.heap.size, rfl, Nat.le_refl _, heap_alloc_new _ _, (Below.refl _ _).alloc (Nat.le_refl _) _⟩
    · by_cases h4 : sc = 4
      · subst h4
        go_enter Tryz.func22, Tryz.ntmps22
        go_wp2_with fail
        go_ret
        exact ⟨w.heap.size, rfl, Nat.le_refl _, heap_alloc_new _ _, (Below.refl _ _).alloc (Nat.le_refl _) _⟩
      · have hp : placesF sc s v p = [(1, 0)] := by unfold placesF; rw [if_neg h2, if_neg h3, if_neg h4]
        rw [hp]
        clear hp
        go_enter Tryz.func22, Tryz.ntmps22
        go_wp2_with fail
        go_ret
        exact ⟨w.heap.size, rfl, Nat.le_refl _, heap_alloc_new _ _, (Below.refl _ _).alloc (Nat.le_refl _) _⟩
theorem near_step {L : List Ent} {nm : ByteArray} {P : List (Int × Int)} {k : Nat} (hk : k < P.length) : nearF L nm (P.drop k) = match atF L P[k].1 P[k].2 nm with
    | some v => some v
    | none => nearF L nm (P.drop (k + 1)) := by
  rw [List.drop_eq_getElem_cons hk]
  rfl
theorem places_wf {sc s v p : Int} (hs : (Lit.int .i64 s).wf = true) (hv : (Lit.int .i64 v).wf = true) (hp : (Lit.int .i64 p).wf = true) : ∀ q ∈ placesF sc s v p, (Lit.int .i64 q.1).wf = true ∧ (Lit.int .i64 q.2).wf = true := by
  have w0 : (Lit.int .i64 0).wf = true := by decide
  have w1 : (Lit.int .i64 1).wf = true := by decide
  have w2 : (Lit.int .i64 2).wf = true := by decide
  have w3 : (Lit.int .i64 3).wf = true := by decide
  have w4 : (Lit.int .i64 4).wf = true := by decide
  unfold placesF
  intro q hq
  split at hq
  · simp at hq; rcases hq with rfl | rfl
    · exact ⟨w2, hs⟩
    · exact ⟨w2, w0⟩
  · split at hq
    · simp at hq; rcases hq with rfl | rfl
      · exact ⟨w3, hv⟩
      · exact ⟨w3, w0⟩
    · split at hq
      · simp at hq; rcases hq with rfl | rfl | rfl | rfl
        · exact ⟨w4, hp⟩
        · exact ⟨w3, hv⟩
        · exact ⟨w4, w0⟩
        · exact ⟨w3, w0⟩
      · simp at hq; subst hq; exact ⟨w1, w0⟩
end Go.Proofs.YtgdkpmfdpfjdjaaGreatDoor
