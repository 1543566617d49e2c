/-
  The walk of QueueApart.
-/
import Derived.Test.YtimigbhgghcbeaaQApartP
import Derived.WalkKit
import Derived.Deep.RegionLaw
import Derived.Deep.RegionHeld3
namespace Go.Proofs.Ytimigbhgghcbeaa
open Go.RowKit
set_option linter.unusedVariables false
set_option maxRecDepth 100000

theorem games_made {w W0 w1 w2 : World} {n n' : Nat} {F F' : List Nat} {b b' : Nat} (hb : Below w.heap.size w W0) (h1 : Play W0 w1 F b (newQ n)) (h2 : Play (w1.alloc (.cells #[.int .i64 (n : Int), .slice none 0 0, .bool false] 26)) w2 F' b' (newQ n')) :
    Games w (w2.alloc (.cells #[.int .i64 (n' : Int), .slice none 0 0, .bool false] 26)) w1.heap.size F b (.slice none 0 0) (newQ n) w2.heap.size F' b' (.slice none 0 0) (newQ n') := by
  have g1 := Pair.game hb h1
  have hA : Below w2.heap.size w2 (w2.alloc (.cells #[.int .i64 (n' : Int), .slice none 0 0, .bool false] 26)) := (Below.refl _ _).alloc (Nat.le_refl _) _
  have g2 := Pair.game (w := w) (g1.below) h2
  have hs : (w1.alloc (.cells #[.int .i64 (n : Int), .slice none 0 0, .bool false] 26)).heap.size = w1.heap.size + 1 := by simp
  refine ⟨(g1.more h2.below).more hA, g2, fun k h3 h4 => ?_, ?_⟩
  · have e1 := h1.at_.lt k h3
    have e2 := h2.young k h4
    omega
  · have := h2.below.size
    omega
theorem mod_even (k : Nat) (h : k % 2 = 0) : ((k : Int).tmod 2) = 0 := by
  rw [Int.tmod_eq_emod_of_nonneg (by omega)]
  omega
theorem mod_odd (k : Nat) (h : ¬ k % 2 = 0) : ((k : Int).tmod 2) = 1 := by
  rw [Int.tmod_eq_emod_of_nonneg (by omega)]
  omega

set_option maxHeartbeats 4000000 in
theorem queueApart_walk (l1 l2 : Int) (sv : Value) (ops : List OpD) (w : World) (hops : OpsArg w sv ops) :
    Calls Try.prog 8 #[.agg #[.int .i64 l1, .int .i64 l2], sv] w fun x w' => x = .returned (.bool true) ∧ Below w.heap.size w w' := by
  have HM1 : Hid (∀ W, Calls Try.prog 9 #[.int .i64 l1] W fun x w' => Pair W w' x) := made_any l1
  have HM2 : Hid (∀ W, Calls Try.prog 9 #[.int .i64 l2] W fun x w' => Pair W w' x) := made_any l2
  obtain ⟨ao, n, cp, rfl, hn, hlen, hok, hcell⟩ := hops.open_
  have HC := hidK hcell
  have HN : Hid (ops.length = n) := hn
  have HOK : Hid (∀ o ∈ ops, o.Ok w) := hok
  clear hcell hn hops hok
  obtain ⟨W0, hW0⟩ : ∃ W0, w.alloc (.cells #[.int .i64 l1, .int .i64 l2] 48) = W0 := ⟨_, rfl⟩
  obtain ⟨N0, hN0⟩ : ∃ N0, w.heap.size = N0 := ⟨_, rfl⟩
  have HW0 := hidK hW0
  have HN0 := hidK hN0
  have hb0 : Below w.heap.size w W0 := by rw [← hW0]; exact (Below.refl _ _).alloc (Nat.le_refl _) _
  have hp0 : W0.heap[N0]? = some (.cells #[.int .i64 l1, .int .i64 l2] 48 (0, 0)) := by rw [← hW0, ← hN0]; exact heap_alloc_new w _
  have HP0 : Hid (∀ X, Below W0.heap.size W0 X → X.cell? ⟨N0, 1, none⟩ = some (.int .i64 l2) ∧ N0 < X.heap.size) := fun X hX => ⟨cell_atT ((hX.block N0 (lt_of_block hp0)).trans hp0) 1, Nat.lt_of_lt_of_le (lt_of_block hp0) hX.size⟩
  have HB0 := hidK hb0
  clear hW0 hN0 hb0 hp0
  go_enter Try.func8, Try.ntmps8
  go_wp2_with fail
  rw [HW0.out, HN0.out]
  refine (HM1.out _).mono ?_
  rintro x w1 ⟨hb1, hx1⟩
  obtain ⟨c1, n1⟩ := HP0.out w1 hb1
  have n1e : N0 ≠ w1.heap.size := by omega
  have HB1 := hidK (HB0.out.trans (hb1.mono HB0.out.size))
  clear hb1
  rcases hx1 with rfl | ⟨m, F, b, hm, rfl, hp⟩
  · go_wp2_with fail
    refine (HM2.out _).mono ?_
    rintro x w2 ⟨hb2, hx2⟩
    have HB2 : Hid (Below w.heap.size w w2) := HB1.out.trans ((((Below.refl _ w1).alloc (Nat.le_refl _) _).mono HB1.out.size).trans (hb2.mono (by have := HB1.out.size; simp; omega)))
    clear hb2
    rcases hx2 with rfl | ⟨m', F', b', hm', rfl, hp'⟩
    · go_wp2_with fail
      all_goals go_ret
      all_goals exact ⟨rfl, by have h2 := HB2.out.size; repeat (first | exact HB2.out | apply Below.drew | refine Below.setCell ?_ (by first | omega | (simp <;> omega)) _ | refine Below.alloc ?_ (by first | omega | (simp <;> omega)) _)⟩
    · clear hp'
      go_wp2_with fail
      all_goals go_ret
      all_goals exact ⟨rfl, by have h2 := HB2.out.size; repeat (first | exact HB2.out | apply Below.drew | refine Below.setCell ?_ (by first | omega | (simp <;> omega)) _ | refine Below.alloc ?_ (by first | omega | (simp <;> omega)) _)⟩
  · have HPl := hidK hp
    clear hp
    go_wp2_with fail
    refine (HM2.out _).mono ?_
    rintro x w2 ⟨hb2, hx2⟩
    have HB2 : Hid (Below w.heap.size w w2) := HB1.out.trans ((((Below.refl _ w1).alloc (Nat.le_refl _) _).mono HB1.out.size).trans (hb2.mono (by have := HB1.out.size; simp; omega)))
    clear hb2
    rcases hx2 with rfl | ⟨m', F', b', hm', rfl, hp'⟩
    · go_wp2_with fail
      all_goals go_ret
      all_goals exact ⟨rfl, by have h2 := HB2.out.size; repeat (first | exact HB2.out | apply Below.drew | refine Below.setCell ?_ (by first | omega | (simp <;> omega)) _ | refine Below.alloc ?_ (by first | omega | (simp <;> omega)) _)⟩
    · have HG := hidK (games_made HB0.out HPl.out hp')
      obtain ⟨R, hR⟩ : ∃ R, w1.heap.size = R := ⟨_, rfl⟩
      obtain ⟨R', hR'⟩ : ∃ R', w2.heap.size = R' := ⟨_, rfl⟩
      have HR := hidK hR
      have HR' := hidK hR'
      clear hp' hR hR' c1 n1 n1e
      go_wp2_with fail
      rw [HR.out, HR'.out]
      go_loopw [11] (fun s11 wx => ∃ (k : Nat) (F : List Nat) (vi : Value) (q : Qs) (F' : List Nat) (vi' : Value) (q' : Qs), k ≤ n ∧ s11 = .int .i64 (k : Int) ∧ Hid (Games w wx R F b vi q R' F' b' vi' q')) (fun v _ => n - (intOf v).toNat)
      case atStart => exact ⟨0, _, _, _, _, _, _, Nat.zero_le _, rfl, by have := HG.out; rw [HR.out, HR'.out] at this; exact this⟩
      case round =>
        obtain ⟨k, F, vi, q, F', vi', q', hk, rfl, hg⟩ := hrel
        obtain ⟨a3, n3, c3, rfl⟩ := hg.out.one.shape
        obtain ⟨a4, n4, c4, rfl⟩ := hg.out.two.shape
        obtain ⟨r0, r1, r2, rf⟩ := hg.out.one.cells
        obtain ⟨s0, s1, s2, sf⟩ := hg.out.two.cells
        by_cases hkn : k < n
        · obtain ⟨o, ho⟩ : ∃ o, ops[k]? = some o := ⟨_, List.getElem?_eq_getElem (by rw [HN.out]; exact hkn)⟩
          obtain ⟨g, p, rfl, o0, o1, o2, o3, o4, o5⟩ := HC.out wr hg.out.one.below k o ho
          have hoo := HOK.out o (List.mem_of_getElem? ho)
          by_cases hpar : k % 2 = 0
          · have dmod : (k : Int).tmod 2 = 0 := mod_even k hpar
            have HS := hidK (step_games hg.out.drew o hoo)
            unfold OpD.vals at HS
            obtain ⟨Q2, hQ2⟩ : ∃ Q2, stepQ q o = Q2 := ⟨_, rfl⟩
            rw [hQ2] at HS
            clear ho hoo hQ2
            go_wp2_with fail
            go_region_law (go_simp; go_at_call 16; refine HS.out.mono ?_; rintro x w2 ⟨F2, a5, n5, c5, rfl, hR2, hg2⟩; have HG2 := hidK hg2; have p0 : w2.cell? ⟨R, 0, none⟩ = some (.int .i64 (q.lim : Int)) := cell_atT hR2 0; have p1 : w2.cell? ⟨R, 1, none⟩ = some (.slice a3 n3 c3) := cell_atT hR2 1; have p2 : w2.cell? ⟨R, 2, none⟩ = some (.bool q.cl) := cell_atT hR2 2; have pf := free_atT hR2; clear hR2 hg2)
            all_goals (
              obtain ⟨X, hX⟩ : ∃ X, (((w2.setCell ⟨R, 0, none⟩ (.int .i64 (Q2.lim : Int))).setCell ⟨R, 1, none⟩ (.slice a5 n5 c5)).setCell ⟨R, 2, none⟩ (.bool Q2.cl)) = X := ⟨_, rfl⟩
              have HX := hidK hX
              have HG3 : Hid (Games w X R F2 b (.slice a5 n5 c5) Q2 R' F' b' (.slice a4 n4 c4) q') := by
                have h9 := HG2.out
                rw [hX] at h9
                exact h9
              clear hX r0 r1 r2 rf s0 s1 s2 sf o0 o1 o2 o3 o4 o5 HS HG2
              go_wp2_with fail
              clear p0 p1 p2 pf
              rw [HX.out]
              go_simp
              obtain ⟨y0, y1, y2, yf⟩ := HG3.out.one.cells
              obtain ⟨v0, v1, v2, vf⟩ := HG3.out.two.cells
              have HAs : Hid (∀ Y, Games w Y R F2 b (.slice a5 n5 c5) Q2 R' F' b' (.slice a4 n4 c4) q' → Calls Try.prog 18 #[.pointer (some ⟨b, 0, none⟩), .agg #[.int .i64 (Q2.lim : Int), .slice a5 n5 c5, .bool Q2.cl], .int .i64 0] Y fun e w' => e = .returned (.bool true) ∧ Games w w' R F2 b (.slice a5 n5 c5) Q2 R' F' b' (.slice a4 n4 c4) q') := fun Y hY => games_as hY 0
              have HBs : Hid (∀ Y, Games w Y R F2 b (.slice a5 n5 c5) Q2 R' F' b' (.slice a4 n4 c4) q' → Calls Try.prog 18 #[.pointer (some ⟨b', 0, none⟩), .agg #[.int .i64 (q'.lim : Int), .slice a4 n4 c4, .bool q'.cl], .int .i64 0] Y fun e w' => e = .returned (.bool true) ∧ Games w w' R F2 b (.slice a5 n5 c5) Q2 R' F' b' (.slice a4 n4 c4) q') := fun Y hY => (games_as hY.turn 0).mono fun e w' h => ⟨h.1, h.2.turn⟩
              refine (HAs.out _ HG3.out).mono ?_
              rintro x w7 ⟨rfl, hg7⟩
              have HG7 := hidK hg7
              clear y0 y1 y2 yf v0 v1 v2 vf
              obtain ⟨v0, v1, v2, vf⟩ := hg7.two.cells
              clear hg7
              go_wp2_with fail
              refine (HBs.out _ HG7.out).mono ?_
              rintro x w8 ⟨rfl, hg8⟩
              have HGX := hidK hg8
              clear v0 v1 v2 vf hg8
              go_wp2_with fail
              go_roundw
              case rel => exact ⟨k + 1, _, _, _, _, _, _, by omega, by go_num, HGX⟩
              case measure => simp [intOf]; omega)
          · have dmod : (k : Int).tmod 2 = 1 := mod_odd k hpar
            have HS := hidK (step_games hg.out.drew.turn o hoo)
            unfold OpD.vals at HS
            obtain ⟨Q2, hQ2⟩ : ∃ Q2, stepQ q' o = Q2 := ⟨_, rfl⟩
            rw [hQ2] at HS
            clear ho hoo hQ2
            go_wp2_with fail
            go_region_law (go_simp; go_at_call 16; refine HS.out.mono ?_; rintro x w2 ⟨F2, a5, n5, c5, rfl, hR2, hg2⟩; have HG2 := hidK hg2; have p0 : w2.cell? ⟨R', 0, none⟩ = some (.int .i64 (q'.lim : Int)) := cell_atT hR2 0; have p1 : w2.cell? ⟨R', 1, none⟩ = some (.slice a4 n4 c4) := cell_atT hR2 1; have p2 : w2.cell? ⟨R', 2, none⟩ = some (.bool q'.cl) := cell_atT hR2 2; have pf := free_atT hR2; clear hR2 hg2)
            all_goals (
              obtain ⟨X, hX⟩ : ∃ X, (((w2.setCell ⟨R', 0, none⟩ (.int .i64 (Q2.lim : Int))).setCell ⟨R', 1, none⟩ (.slice a5 n5 c5)).setCell ⟨R', 2, none⟩ (.bool Q2.cl)) = X := ⟨_, rfl⟩
              have HX := hidK hX
              have HG3 : Hid (Games w X R F b (.slice a3 n3 c3) q R' F2 b' (.slice a5 n5 c5) Q2) := by
                have h9 := HG2.out
                rw [hX] at h9
                exact h9.turn
              clear hX r0 r1 r2 rf s0 s1 s2 sf o0 o1 o2 o3 o4 o5 HS HG2
              have hne := HG3.out.ne
              have hne' := Ne.symm hne
              have z0 : w2.cell? ⟨R, 0, none⟩ = some (.int .i64 (q.lim : Int)) := by
                have h9 := HG3.out.one.cells.1
                rw [← HX.out, World.cell?_setCell_far _ _ _ _ hne', World.cell?_setCell_far _ _ _ _ hne', World.cell?_setCell_far _ _ _ _ hne'] at h9
                exact h9
              have z1 : w2.cell? ⟨R, 1, none⟩ = some (.slice a3 n3 c3) := by
                have h9 := HG3.out.one.cells.2.1
                rw [← HX.out, World.cell?_setCell_far _ _ _ _ hne', World.cell?_setCell_far _ _ _ _ hne', World.cell?_setCell_far _ _ _ _ hne'] at h9
                exact h9
              have z2 : w2.cell? ⟨R, 2, none⟩ = some (.bool q.cl) := by
                have h9 := HG3.out.one.cells.2.2.1
                rw [← HX.out, World.cell?_setCell_far _ _ _ _ hne', World.cell?_setCell_far _ _ _ _ hne', World.cell?_setCell_far _ _ _ _ hne'] at h9
                exact h9
              go_wp2_with fail
              clear p0 p1 p2 pf z0 z1 z2
              rw [HX.out]
              go_simp
              obtain ⟨y0, y1, y2, yf⟩ := HG3.out.one.cells
              obtain ⟨v0, v1, v2, vf⟩ := HG3.out.two.cells
              have HAs : Hid (∀ Y, Games w Y R F b (.slice a3 n3 c3) q R' F2 b' (.slice a5 n5 c5) Q2 → Calls Try.prog 18 #[.pointer (some ⟨b, 0, none⟩), .agg #[.int .i64 (q.lim : Int), .slice a3 n3 c3, .bool q.cl], .int .i64 0] Y fun e w' => e = .returned (.bool true) ∧ Games w w' R F b (.slice a3 n3 c3) q R' F2 b' (.slice a5 n5 c5) Q2) := fun Y hY => games_as hY 0
              have HBs : Hid (∀ Y, Games w Y R F b (.slice a3 n3 c3) q R' F2 b' (.slice a5 n5 c5) Q2 → Calls Try.prog 18 #[.pointer (some ⟨b', 0, none⟩), .agg #[.int .i64 (Q2.lim : Int), .slice a5 n5 c5, .bool Q2.cl], .int .i64 0] Y fun e w' => e = .returned (.bool true) ∧ Games w w' R F b (.slice a3 n3 c3) q R' F2 b' (.slice a5 n5 c5) Q2) := fun Y hY => (games_as hY.turn 0).mono fun e w' h => ⟨h.1, h.2.turn⟩
              refine (HAs.out _ HG3.out).mono ?_
              rintro x w7 ⟨rfl, hg7⟩
              have HG7 := hidK hg7
              clear y0 y1 y2 yf v0 v1 v2 vf
              obtain ⟨v0, v1, v2, vf⟩ := hg7.two.cells
              clear hg7
              go_wp2_with fail
              refine (HBs.out _ HG7.out).mono ?_
              rintro x w8 ⟨rfl, hg8⟩
              have HGX := hidK hg8
              clear v0 v1 v2 vf hg8
              go_wp2_with fail
              go_roundw
              case rel => exact ⟨k + 1, _, _, _, _, _, _, by omega, by go_num, HGX⟩
              case measure => simp [intOf]; omega)
        · obtain rfl : k = n := by omega
          have HB := hidK hg.out.one.below
          clear hg
          go_wp2_with fail
          all_goals go_ret
          all_goals exact ⟨rfl, HB.out⟩

end Go.Proofs.Ytimigbhgghcbeaa
