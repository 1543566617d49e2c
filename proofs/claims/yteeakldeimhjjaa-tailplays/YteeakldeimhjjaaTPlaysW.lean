/-
  The walk of TailPlays.
-/
import Derived.Test.YteeakldeimhjjaaTPlayP
import Derived.WalkKit
import Derived.Deep.LoopGhost
import Derived.Deep.RegionWith
namespace Go.Proofs.Yteeakldeimhjjaa
open Go.RowKit Go.Lib
set_option linter.unusedVariables false
set_option maxRecDepth 100000

/-- made, behind it the document's Log laid in a block of its own. -/
theorem Pair.game {w W w1 : World} {o : Obj} (hb : Below W.heap.size W w1) (hW : W = w.alloc o) {b : Nat} {v : Value} {lim st : Nat} {l : List UInt8} (hs : Side w1 b v lim st l) (hf : ∀ k ∈ foot b v, W.heap.size ≤ k) :
    Game w (w1.alloc (.cells (refC lim st l) 43)) w1.heap.size b v lim st l := by
  subst hW
  obtain ⟨b1, _, s1⟩ := under_one hb
  have hsz : (w.alloc o).heap.size = w.heap.size + 1 := by simp
  have hA : Below w1.heap.size w1 (w1.alloc (.cells (refC lim st l) 43)) := (Below.refl _ _).alloc (Nat.le_refl _) _
  exact ⟨hs.below hA, heap_alloc_new w1 _, b1.trans (hA.mono b1.size), fun g hg => by have := hf g hg; omega, b1.size⟩

set_option maxHeartbeats 4000000 in
theorem tailPlays_walk (f : Bool) (lim st : Int) (s : ByteArray) (sv : Value) (ops : List OpD) (w : World) (hs : s.size ≤ 9223372036854775807) (h1 : -9223372036854775808 ≤ lim) (h2 : lim ≤ 9223372036854775807) (h3 : -9223372036854775808 ≤ st) (h4 : st ≤ 9223372036854775807) (hops : OpsArg w sv ops) (hok : ∀ o ∈ ops, o.Ok) :
    Calls Try.prog 6 #[.agg #[.bool f, .int .i64 lim, .int .i64 st, .string s], sv] w fun x w' => x = .returned (.bool true) ∧ Below w.heap.size w w' := by
  have HM : Hid (∀ W, Calls Try.prog 17 #[.agg #[.bool f, .int .i64 lim, .int .i64 st, .string s]] W fun x w' => Pair W w' x) := fun W => made_any f lim st s W hs h1 h2 h3 h4
  obtain ⟨ao, n, cp, rfl, hn, hlen, hcell⟩ : ∃ ao n cp, sv = .slice ao n cp ∧ ops.length = n ∧ n ≤ 9223372036854775807 ∧ (0 < n → ∃ sb so, ao = some ⟨sb, so, none⟩ ∧ ∀ W, Below w.heap.size w W → ∀ k (hk : k < ops.length), W.cell? ⟨sb, so + k * 4, none⟩ = some (.int .i64 ops[k].k) ∧ W.cell? ⟨sb, so + k * 4 + 1, none⟩ = some (.string ops[k].t) ∧ W.cell? ⟨sb, so + k * 4 + 2, none⟩ = some (.int .i64 ops[k].a) ∧ W.cell? ⟨sb, so + k * 4 + 3, none⟩ = some (.int .i64 ops[k].b)) := by
    rcases hops with ⟨a, c, rfl, rfl⟩ | ⟨sb, so, cap, rfl, hb, hl, hc⟩
    · exact ⟨a, 0, c, rfl, rfl, by decide, fun h => absurd h (Nat.lt_irrefl _)⟩
    · exact ⟨_, _, _, rfl, rfl, hl, fun _ => ⟨sb, so, rfl, fun W hW k hk => OpsArg.at hc hb hW hk⟩⟩
  have HC : Hid (0 < n → ∃ sb so, ao = some ⟨sb, so, none⟩ ∧ ∀ W, Below w.heap.size w W → ∀ k (hk : k < ops.length), W.cell? ⟨sb, so + k * 4, none⟩ = some (.int .i64 ops[k].k) ∧ W.cell? ⟨sb, so + k * 4 + 1, none⟩ = some (.string ops[k].t) ∧ W.cell? ⟨sb, so + k * 4 + 2, none⟩ = some (.int .i64 ops[k].a) ∧ W.cell? ⟨sb, so + k * 4 + 3, none⟩ = some (.int .i64 ops[k].b)) := hcell
  have HN : Hid (ops.length = n) := hn
  have HOK : Hid (∀ o ∈ ops, o.Ok) := hok
  clear hcell hn hops hok
  go_enter Try.func6, Try.ntmps6
  go_wp2_with fail
  refine (HM.out _).mono ?_
  rintro x w1 ⟨hb1, rfl | ⟨b, v, lm, s0, l, rfl, hsd, hf⟩⟩
  · obtain ⟨b1, _, _⟩ := under_one hb1
    have HB : Hid (Below w.heap.size w w1 ∧ w.heap.size ≤ w1.heap.size) := ⟨b1, b1.size⟩
    clear hb1 b1
    go_wp2_with fail
    refine wp_loop_rounds 1 ?_
    rw [rounds_succ]
    go_wp2
    all_goals go_ret
    all_goals exact ⟨rfl, by have := HB.out.2; repeat (first | exact HB.out.1 | apply Below.drew | refine Below.setCell ?_ (by first | omega | (simp <;> omega)) _ | refine Below.alloc ?_ (by first | omega | (simp <;> omega)) _)⟩
  · have HG : Hid (Game w (w1.alloc (.cells #[.int .i64 (lm : Int), .int .i64 (s0 : Int), .string (str l)] 43)) w1.heap.size b v lm s0 l) := Pair.game hb1 rfl hsd hf
    obtain ⟨R, hR⟩ : ∃ R, w1.heap.size = R := ⟨_, rfl⟩
    have HR : Hid (w1.heap.size = R) := hR
    unfold refN
    clear hb1 hsd hf hR
    go_wp2_with fail
    rw [HR.out]
    go_loopg [7, 8] n (fun gh s7 s8 wx => ∃ (k : Nat) (v : Value) (st : Nat) (l : List UInt8), k ≤ n ∧ n - k = gh ∧ s8 = .int .i64 (k : Int) ∧ s7 = .bool true ∧ Hid (Game w wx R b v lm st l))
    case atStart => exact ⟨0, v, s0, l, Nat.zero_le _, rfl, rfl, rfl, by have := HG.out; rw [HR.out] at this; exact this⟩
    case round =>
      obtain ⟨k, v, st, l, hk, rfl, rfl, rfl, hg⟩ := hrel
      by_cases hkn : k < n
      · obtain ⟨sb, so, rfl, hcell⟩ := HC.out (by omega)
        have hko : k < ops.length := by rw [HN.out]; exact hkn
        obtain ⟨o, ho⟩ : ∃ o, ops[k] = o := ⟨_, rfl⟩
        have hc := hcell wr hg.out.below k hko
        rw [ho] at hc
        obtain ⟨o0, o1, o2, o3⟩ := hc
        have hoo : o.Ok := by rw [← ho]; exact HOK.out _ (List.getElem_mem _)
        have HS : Hid (Calls Try.prog 19 #[.pointer (some ⟨b, 0, none⟩), .agg #[.int .i64 (lm : Int), .int .i64 (st : Int), .string (str l)], .agg #[.int .i64 o.k, .string o.t, .int .i64 o.a, .int .i64 o.b]] wr.drew fun x w' => ∃ st' l' v', st' = stepS o.k lm st l o.t ∧ l' = stepL o.k lm st l o.t ∧ x = .returned (.tuple #[.agg #[.int .i64 (lm : Int), .int .i64 (st' : Int), .string (str l')], .bool true]) ∧ w'.heap[R]? = some (.cells (refC lm st l) 43 (0, 0)) ∧ Went wr.drew w' b v lm st' l' ∧ Game w (((w'.setCell ⟨R, 0, none⟩ (.int .i64 (lm : Int))).setCell ⟨R, 1, none⟩ (.int .i64 (st' : Int))).setCell ⟨R, 2, none⟩ (.string (str l'))) R b v' lm st' l') := step_game hg.out.drew o hoo
        have r0 := hg.out.cell0
        have r1 := hg.out.cell1
        have r2 := hg.out.cell2
        have hki : (k : Int) < (n : Int) := by omega
        clear hcell ho hoo HC
        go_wp2_with fail
        go_region_with (go_at_call 19; refine HS.out.mono ?_; rintro x w2 ⟨st', l', v', -, -, rfl, hR2, -, hg2⟩; have HG2 : Hid (Game w (((w2.setCell ⟨R, 0, none⟩ (.int .i64 (lm : Int))).setCell ⟨R, 1, none⟩ (.int .i64 (st' : Int))).setCell ⟨R, 2, none⟩ (.string (str l'))) R b v' lm st' l') := hg2; have p0 : w2.cell? ⟨R, 0, none⟩ = some (.int .i64 (lm : Int)) := cell_atT hR2 0; have p1 : w2.cell? ⟨R, 1, none⟩ = some (.int .i64 (st : Int)) := cell_atT hR2 1; have p2 : w2.cell? ⟨R, 2, none⟩ = some (.string (str l)) := cell_atT hR2 2; have pf := free_atT hR2; clear hR2 hg2)
        all_goals (have HAs : Hid (∀ W, Side W b v' lm st' l' → Calls Try.prog 18 #[.pointer (some ⟨b, 0, none⟩), .agg #[.int .i64 (lm : Int), .int .i64 (st' : Int), .string (str l')]] W fun x w' => x = .returned (.bool true) ∧ Below W.heap.size W w') := fun W hW => as_side hW)
        all_goals go_wp2_with fail
        all_goals (refine (HAs.out _ HG2.out.side).mono ?_; rintro x w3 ⟨rfl, hb3⟩; have HG3 : Hid (Game w w3 R b v' lm st' l') := HG2.out.more hb3; clear hb3)
        all_goals go_wp2
        all_goals (
          go_roundg (n - (k + 1))
          case measure => omega
          case rel => exact ⟨k + 1, v', st', l', by omega, rfl, by first | rfl | go_num, rfl, HG3⟩)
      · obtain rfl : k = n := by omega
        have HB : Hid (Below w.heap.size w wr) := hg.out.below
        clear hg HC
        go_wp2
        all_goals go_ret
        all_goals exact ⟨rfl, HB.out⟩

end Go.Proofs.Yteeakldeimhjjaa
