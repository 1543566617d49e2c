/-
  Layouts: the document's layout of one pane; the statement on New, walked.
-/
import Derived.Test.YtammadcigfbgeaaLWorks
namespace Go.Proofs.Ytammadcigfbgeaa
open Go.RowKit
set_option linter.unusedVariables false
set_option maxRecDepth 100000

theorem owns_made (X : World) (g B : Nat) (hg : X.heap.size = g) (c : CellV) (hB : B ≤ g) : CeOwns (X.alloc (.cells c.vals 69)) B (.slice (some ⟨g, 0, none⟩) 1 1) [c] := by
  subst hg
  exact ⟨rfl, .inr ⟨X.heap.size, 1, c.vals, rfl, hB, heap_alloc_new _ _, Nat.le_refl _, by decide, rfl, rfl⟩⟩

theorem ref_lay_leaf (k a b i d x y : Int) (w : World) :
    Calls Try.prog 63 #[.agg #[.int .i64 k, .int .i64 a, .int .i64 b, .int .i64 i, .slice none 0 0], .int .i64 d, .int .i64 x, .int .i64 y] w fun e w' => ∃ u, e = .returned u ∧ CeOwns w' w.heap.size u [⟨d, k, x, y, a, b, i⟩] ∧ Below w.heap.size w w' := by
  have HO : Hid (∀ o, CeOwns ((w.alloc o).alloc (.cells (CellV.vals ⟨d, k, x, y, a, b, i⟩) 69)) w.heap.size (.slice (some ⟨w.heap.size + 1, 0, none⟩) 1 1) [⟨d, k, x, y, a, b, i⟩]) := fun o => owns_made (w.alloc o) (w.heap.size + 1) w.heap.size (by simp) _ (by omega)
  have HB : Hid (∀ o o', Below w.heap.size w ((w.alloc o).alloc o')) := fun o o' => ((Below.refl _ _).alloc (Nat.le_refl _) _).alloc (by simp) _
  go_enter Try.func63, Try.ntmps63
  go_wp2
  go_loopw [9, 10] (fun u v wr => u = .slice (some ⟨w.heap.size + 1, 0, none⟩) 1 1 ∧ v = .int .i64 0 ∧ wr = ((w.alloc (.cells #[.int .i64 k, .int .i64 a, .int .i64 b, .int .i64 i, .slice none 0 0] 67)).alloc (.cells #[.int .i64 d, .int .i64 k, .int .i64 x, .int .i64 y, .int .i64 a, .int .i64 b, .int .i64 i] 69))) (fun _ _ _ => 0)
  case atStart => exact ⟨rfl, rfl, rfl⟩
  case round =>
    obtain ⟨rfl, rfl, rfl⟩ := hrel
    go_wp2
    go_ret
    exact ⟨_, rfl, HO.out _, HB.out _ _⟩
theorem ref_list_leaf (k a b i : Int) (w : World) :
    Calls Try.prog 35 #[.agg #[.int .i64 k, .int .i64 a, .int .i64 b, .int .i64 i, .slice none 0 0]] w fun e w' => ∃ u, e = .returned u ∧ CeOwns w' w.heap.size u [⟨0, k, 0, 0, a, b, i⟩] ∧ Below w.heap.size w w' := by
  have HL : Hid (∀ o, Calls Try.prog 63 #[.agg #[.int .i64 k, .int .i64 a, .int .i64 b, .int .i64 i, .slice none 0 0], .int .i64 0, .int .i64 0, .int .i64 0] (w.alloc o) fun e w' => ∃ u, e = .returned u ∧ CeOwns w' w.heap.size u [⟨0, k, 0, 0, a, b, i⟩] ∧ Below w.heap.size w w') := fun o => (ref_lay_leaf k a b i 0 0 0 (w.alloc o)).mono fun e w' ⟨u, h1, h2, h3⟩ => ⟨u, h1, h2.lower (by simp), below_step ((Below.refl _ _).alloc (Nat.le_refl _) _) h3⟩
  go_enter Try.func35, Try.ntmps35
  go_wp2_with fail
  refine (HL.out _).mono ?_
  rintro e w1 ⟨u, rfl, hu, hb⟩
  have HU : Hid (CeOwns w1 w.heap.size u [⟨0, k, 0, 0, a, b, i⟩]) := hu
  clear hu
  go_wp2
  go_ret
  exact ⟨u, rfl, HU.out, hb⟩

def newL (x y p : Int) : List CellV := if newErr x y p = 0 then [oneCell x y p] else []
theorem ref_new_bad (x y p : Int) (w : World) (h : ¬ newErr x y p = 0) : Calls Try.prog 10 #[.int .i64 x, .int .i64 y, .int .i64 p] w fun e w' => e = .returned (.tuple #[.slice none 0 0, .int .i64 (newErr x y p)]) ∧ w = w' := by
  by_cases hs : (1 ≤ x ∧ x ≤ 1000) ∧ (1 ≤ y ∧ y ≤ 1000)
  · have hab : (sideB x && sideB y) = true := by unfold sideB; simp [hs]
    have hp : idB p = false := by
      cases hq : idB p with
      | false => rfl
      | true => exact absurd (by unfold newErr; rw [hab, hq]; rfl) h
    have hE : newErr x y p = 43 := by unfold newErr; rw [hab, hp]; rfl
    rw [hE]
    have a1 : ¬ x < 1 := by omega
    have a2 : ¬ 1000 < x := by omega
    have a3 : ¬ y < 1 := by omega
    have a4 : ¬ 1000 < y := by omega
    unfold idB at hp
    simp only [Bool.and_eq_false_iff, decide_eq_false_iff_not] at hp
    clear hs hab hE h
    by_cases a5 : p < 1
    · clear hp
      go_enter Try.func10, Try.ntmps10
      go_wp2
      all_goals go_ret2
      all_goals exact ⟨rfl, rfl⟩
    · have a6 : 4611686018427387904 < p := by omega
      clear hp
      go_enter Try.func10, Try.ntmps10
      go_wp2
      all_goals go_ret2
      all_goals exact ⟨rfl, rfl⟩
  · have hE : newErr x y p = 41 := by
      have : (sideB x && sideB y) = false := by
        unfold sideB
        cases hq : ((decide (1 ≤ x) && decide (x ≤ 1000)) && (decide (1 ≤ y) && decide (y ≤ 1000))) with
        | false => rfl
        | true => exact absurd (by simpa using hq) hs
      unfold newErr
      rw [this]
      rfl
    rw [hE]
    clear h hE
    by_cases a1 : x < 1
    · clear hs
      go_enter Try.func10, Try.ntmps10
      go_wp2
      all_goals go_ret2
      all_goals exact ⟨rfl, rfl⟩
    · by_cases a2 : 1000 < x
      · clear hs
        go_enter Try.func10, Try.ntmps10
        go_wp2
        all_goals go_ret2
        all_goals exact ⟨rfl, rfl⟩
      · by_cases a3 : y < 1
        · clear hs
          go_enter Try.func10, Try.ntmps10
          go_wp2
          all_goals go_ret2
          all_goals exact ⟨rfl, rfl⟩
        · have a4 : 1000 < y := by omega
          clear hs
          go_enter Try.func10, Try.ntmps10
          go_wp2
          all_goals go_ret2
          all_goals exact ⟨rfl, rfl⟩
theorem ref_new_good (x y p : Int) (w : World) (h : newErr x y p = 0) : Calls Try.prog 10 #[.int .i64 x, .int .i64 y, .int .i64 p] w fun e w' => ∃ u, e = .returned (.tuple #[u, .int .i64 0]) ∧ CeOwns w' w.heap.size u [oneCell x y p] ∧ Below w.heap.size w w' := by
  obtain ⟨⟨hx, hy⟩, hp⟩ := new_sides h
  have hxs := side_of hx
  have hys := side_of hy
  have hps : 1 ≤ p ∧ p ≤ 4611686018427387904 := by unfold idB at hp; simpa using hp
  have a1 : ¬ x < 1 := by omega
  have a2 : ¬ 1000 < x := by omega
  have a3 : ¬ y < 1 := by omega
  have a4 : ¬ 1000 < y := by omega
  have a5 : ¬ p < 1 := by omega
  have a6 : ¬ 4611686018427387904 < p := by omega
  have HL : Hid (Calls Try.prog 35 #[.agg #[.int .i64 1, .int .i64 x, .int .i64 y, .int .i64 p, .slice none 0 0]] w fun e w' => ∃ u, e = .returned u ∧ CeOwns w' w.heap.size u [oneCell x y p] ∧ Below w.heap.size w w') := ref_list_leaf 1 x y p w
  clear h hx hy hp hxs hys hps
  go_enter Try.func10, Try.ntmps10
  go_wp2_with fail
  refine HL.out.mono ?_
  rintro e w1 ⟨u, rfl, hu, hb⟩
  have HU : Hid (CeOwns w1 w.heap.size u [oneCell x y p]) := hu
  clear hu
  go_wp2
  go_ret2
  exact ⟨u, rfl, HU.out, hb⟩

theorem new_any (x y p : Int) (w : World) : Calls Try.prog 9 #[.int .i64 x, .int .i64 y, .int .i64 p] w fun e w' => ∃ u, e = .returned (.tuple #[u, .int .i64 (newErr x y p)]) ∧ CeOwns w' w.heap.size u (newL x y p) ∧ Below w.heap.size w w' := by
  by_cases h : newErr x y p = 0
  · unfold newL
    rw [if_pos h, h]
    exact new_good x y p w h
  · unfold newL
    rw [if_neg h]
    exact (new_bad x y p w h).mono fun e w' h2 => ⟨_, h2.1, World.ownsRow_nil _ _ _ _, h2.2 ▸ Below.refl _ _⟩
theorem ref_new_any (x y p : Int) (w : World) : Calls Try.prog 10 #[.int .i64 x, .int .i64 y, .int .i64 p] w fun e w' => ∃ u, e = .returned (.tuple #[u, .int .i64 (newErr x y p)]) ∧ CeOwns w' w.heap.size u (newL x y p) ∧ Below w.heap.size w w' := by
  by_cases h : newErr x y p = 0
  · unfold newL
    rw [if_pos h, h]
    exact ref_new_good x y p w h
  · unfold newL
    rw [if_neg h]
    exact (ref_new_bad x y p w h).mono fun e w' h2 => ⟨_, h2.1, World.ownsRow_nil _ _ _ _, h2.2 ▸ Below.refl _ _⟩
theorem newL_length (x y p : Int) : (newL x y p).length ≤ 1 := by
  unfold newL
  split <;> simp

theorem news_walk (x y p : Int) (w : World) : Calls Try.prog 3 #[.int .i64 x, .int .i64 y, .int .i64 p] w fun e w' => e = .returned (.bool true) ∧ Below w.heap.size w w' := by
  have HN : Hid (∀ W, Calls Try.prog 9 #[.int .i64 x, .int .i64 y, .int .i64 p] W fun e w' => ∃ u, e = .returned (.tuple #[u, .int .i64 (newErr x y p)]) ∧ CeOwns w' W.heap.size u (newL x y p) ∧ Below W.heap.size W w') := new_any x y p
  have HR : Hid (∀ W, Calls Try.prog 10 #[.int .i64 x, .int .i64 y, .int .i64 p] W fun e w' => ∃ u, e = .returned (.tuple #[u, .int .i64 (newErr x y p)]) ∧ CeOwns w' W.heap.size u (newL x y p) ∧ Below W.heap.size W w') := ref_new_any x y p
  have HW : Hid (∀ W, Calls Try.prog 11 #[] W fun e w' => e = .returned (.bool true) ∧ Below W.heap.size W w') := works_true
  have HS : Hid (∀ u v W, CellsIn W u (newL x y p) → CellsIn W v (newL x y p) → Calls Try.prog 12 #[u, v] W fun e w' => e = .returned (.bool true) ∧ Below W.heap.size W w') := fun u v W h1 h2 => by
    have := law_any u v _ _ W h1 h2 (by have := newL_length x y p; omega)
    rw [decide_eq_true rfl] at this
    exact this
  obtain ⟨er, her⟩ : ∃ e, newErr x y p = e := ⟨_, rfl⟩
  obtain ⟨l, hl⟩ : ∃ l, newL x y p = l := ⟨_, rfl⟩
  rw [her, hl] at HN HR
  rw [hl] at HS
  clear her hl
  go_enter Try.func3, Try.ntmps3
  go_wp2_with fail
  refine (HN.out _).mono ?_
  rintro e w1 ⟨u, rfl, hu, hb1⟩
  have H1 : Hid (CellsIn w1 u l ∧ Below w.heap.size w w1) := ⟨hu.cellsIn, hb1⟩
  clear hu hb1
  go_wp2_with fail
  refine (HR.out _).mono ?_
  rintro e w2 ⟨v, rfl, hv, hb2⟩
  have H2 : Hid (CellsIn w2 u l ∧ CellsIn w2 v l ∧ Below w.heap.size w w2) := ⟨H1.out.1.below hb2, hv.cellsIn, below_step H1.out.2 hb2⟩
  clear hv hb2 H1
  go_wp2_with fail
  refine (HW.out _).mono ?_
  rintro e w3 ⟨rfl, hb3⟩
  have H3 : Hid (CellsIn w3 u l ∧ CellsIn w3 v l ∧ Below w.heap.size w w3) := ⟨H2.out.1.below hb3, H2.out.2.1.below hb3, below_step H2.out.2.2 hb3⟩
  clear hb3 H2
  go_wp2_with fail
  refine (HS.out _ _ _ H3.out.1 H3.out.2.1).mono ?_
  rintro e w4 ⟨rfl, hb4⟩
  have H4 : Hid (Below w.heap.size w w4) := below_step H3.out.2.2 hb4
  clear hb4 H3
  go_wp2
  go_ret
  exact ⟨rfl, H4.out⟩

end Go.Proofs.Ytammadcigfbgeaa
