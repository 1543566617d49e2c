/-
  The walk of QueuePlays.
-/
import Derived.Test.YtimigbhgghcbeaaQGame
import Derived.WalkKit
import Derived.Deep.RegionLaw
import Derived.Deep.RegionHeld3
namespace Go.Proofs.Ytimigbhgghcbeaa
open Go.RowKit
set_option linter.unusedVariables false
set_option maxRecDepth 100000

theorem game_as {w W : World} {R : Nat} {F : List Nat} {b : Nat} {vi : Value} {q : Qs} (h : Game w W R F b vi q) (x : Int) : Calls Try.prog 18 #[.pointer (some ⟨b, 0, none⟩), .agg #[.int .i64 (q.lim : Int), vi, .bool q.cl], .int .i64 x] W fun e w' => e = .returned (.bool true) ∧ Game w w' R F b vi q := by
  obtain ⟨its, hr⟩ := h.side.ref
  exact (as_any h.side.play.at_ hr x).mono fun e w' k => ⟨k.1, h.more k.2⟩

set_option maxHeartbeats 4000000 in
theorem queuePlays_walk (lim : Int) (sv : Value) (ops : List OpD) (w : World) (hops : OpsArg w sv ops) :
    Calls Try.prog 7 #[.int .i64 lim, sv] w fun x w' => x = .returned (.bool true) ∧ Below w.heap.size w w' := by
  have HM : Hid (∀ W, Calls Try.prog 9 #[.int .i64 lim] W fun x w' => Pair W w' x) := made_any lim
  obtain ⟨ao, n, cp, rfl, hn, hlen, hok, hcell⟩ := hops.open_
  have HC := hidK hcell
  have HN : Hid (ops.length = n) := hn
  have HOK : Hid (∀ o ∈ ops, o.Ok w) := hok
  clear hcell hn hops hok
  go_enter Try.func7, Try.ntmps7
  go_wp2_with fail
  refine (HM.out _).mono ?_
  rintro x w1 ⟨hb1, rfl | ⟨m, F, b, hm, rfl, hp⟩⟩
  · have HB := hidK hb1
    clear hb1
    go_wp2_with fail
    refine wp_loop_rounds 1 ?_
    rw [rounds_succ]
    go_wp2_with fail
    all_goals go_ret
    all_goals exact ⟨rfl, by have h2 := HB.out.size; repeat (first | exact HB.out | apply Below.drew | refine Below.setCell ?_ (by first | omega | (simp <;> omega)) _ | refine Below.alloc ?_ (by first | omega | (simp <;> omega)) _)⟩
  · have HG := hidK (Pair.game (Below.refl _ w) hp)
    obtain ⟨R, hR⟩ : ∃ R, w1.heap.size = R := ⟨_, rfl⟩
    have HR := hidK hR
    clear hb1 hp hR
    go_wp2_with fail
    rw [HR.out]
    go_loopw [7, 8] (fun s7 s8 wx => ∃ (k : Nat) (F : List Nat) (vi : Value) (q : Qs), k ≤ n ∧ s8 = .int .i64 (k : Int) ∧ s7 = .bool true ∧ Hid (Game w wx R F b vi q)) (fun _ v _ => n - (intOf v).toNat)
    case atStart => exact ⟨0, F, _, _, Nat.zero_le _, rfl, rfl, by have := HG.out; rw [HR.out] at this; exact this⟩
    case round =>
      obtain ⟨k, F, vi, q, hk, rfl, rfl, hg⟩ := hrel
      obtain ⟨a3, n3, c3, rfl⟩ := hg.out.shape
      obtain ⟨r0, r1, r2, rf⟩ := hg.out.cells
      by_cases hkn : k < n
      · obtain ⟨o, ho⟩ : ∃ o, ops[k]? = some o := ⟨_, List.getElem?_eq_getElem (by rw [HN.out]; exact hkn)⟩
        obtain ⟨g, p, rfl, o0, o1, o2, o3, o4, o5⟩ := HC.out wr hg.out.below k o ho
        have hoo := HOK.out o (List.mem_of_getElem? ho)
        have HS := hidK (step_game hg.out.drew o hoo)
        unfold OpD.vals at HS
        have HC3 : Hid (∀ X, Below w.heap.size w X → X.cell? ⟨g, p + k * 6 + 3, none⟩ = some (.int .i64 o.pane)) := fun X hX => by
          obtain ⟨g', p', e, -, -, -, k3, -⟩ := HC.out X hX k o ho
          cases e
          exact k3
        obtain ⟨Q2, hQ2⟩ : ∃ Q2, stepQ q o = Q2 := ⟨_, rfl⟩
        rw [hQ2] at HS
        clear ho hoo hQ2
        go_wp2_with fail
        go_region_law (go_simp; go_at_call 16; refine HS.out.mono ?_; rintro x w2 ⟨F', a, n2, c, rfl, hR2, hg2⟩; have HG2 := hidK hg2; have p0 : w2.cell? ⟨R, 0, none⟩ = some (.int .i64 (q.lim : Int)) := cell_atT hR2 0; have p1 : w2.cell? ⟨R, 1, none⟩ = some (.slice a3 n3 c3) := cell_atT hR2 1; have p2 : w2.cell? ⟨R, 2, none⟩ = some (.bool q.cl) := cell_atT hR2 2; have pf := free_atT hR2; clear hR2 hg2)
        all_goals (
          obtain ⟨X, hX⟩ : ∃ X, (((w2.setCell ⟨R, 0, none⟩ (.int .i64 (Q2.lim : Int))).setCell ⟨R, 1, none⟩ (.slice a n2 c)).setCell ⟨R, 2, none⟩ (.bool Q2.cl)) = X := ⟨_, rfl⟩
          have HX := hidK hX
          rw [hX] at HG2
          clear hX r0 r1 r2 rf o0 o1 o2 o3 o4 o5 HS
          go_wp2_with fail
          clear p0 p1 p2 pf
          rw [HX.out]
          have hbg := HC3.out X HG2.out.below
          obtain ⟨x0, x1, x2, xf⟩ := HG2.out.cells
          have HAs := hidK (game_as HG2.out.drew o.pane)
          go_simp
          go_region_held3 (fun Y => Y.cell? ⟨R, 0, none⟩ = some (.int .i64 (Q2.lim : Int)) ∧ Y.cell? ⟨R, 1, none⟩ = some (.slice a n2 c) ∧ Y.cell? ⟨R, 2, none⟩ = some (.bool Q2.cl) ∧ Y.cell? ⟨g, p + k * 6 + 3, none⟩ = some (.int .i64 o.pane)) (go_keep) (first
            | (go_at_call 18; refine HAs.out.mono ?_; rintro x w3 ⟨rfl, hg3⟩; have HG3 := hidK hg3; obtain ⟨x0, x1, x2, xf⟩ := hg3.cells; have hbg := HC3.out w3 hg3.below; clear hg3))
          go_wp2_with fail
          go_roundw
          case rel => exact ⟨k + 1, F', _, _, by omega, by go_num, rfl, HG3⟩
          case measure => simp [intOf]; omega)
      · obtain rfl : k = n := by omega
        have HB := hidK hg.out.below
        clear hg
        go_wp2_with fail
        all_goals go_ret
        all_goals exact ⟨rfl, HB.out⟩

end Go.Proofs.Ytimigbhgghcbeaa
