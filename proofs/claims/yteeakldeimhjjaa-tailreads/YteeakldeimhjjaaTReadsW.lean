/-
  The walk of TailReads.
-/
import Derived.Test.YteeakldeimhjjaaTPlayP
import Derived.Test.YteeakldeimhjjaaTOpenB
import Derived.WalkKit
import Derived.Deep.LoopGhost
import Derived.Deep.RegionWith
namespace Go.Proofs.Yteeakldeimhjjaa
open Go.RowKit Go.Lib
set_option linter.unusedVariables false
set_option maxRecDepth 100000

/-- made, behind it the document's Log laid in a block of its own. -/
theorem Pair.game0 {W w1 : World} (hb : Below W.heap.size W w1) {b : Nat} {v : Value} {lim st : Nat} {l : List UInt8} (hs : Side w1 b v lim st l) (hf : ∀ k ∈ foot b v, W.heap.size ≤ k) :
    Game W (w1.alloc (.cells (refC lim st l) 43)) w1.heap.size b v lim st l := by
  have hA : Below w1.heap.size w1 (w1.alloc (.cells (refC lim st l) 43)) := (Below.refl _ _).alloc (Nat.le_refl _) _
  exact ⟨hs.below hA, heap_alloc_new w1 _, hb.trans (hA.mono hb.size), hf, hb.size⟩

theorem zero64 : In64 0 := ⟨by decide, by decide⟩
theorem step_text {w W : World} {R b : Nat} {v : Value} {lim st : Nat} {l : List UInt8} (h : Game w W R b v lim st l) (o : ByteArray) (ho : o.size ≤ 9223372036854775807) :
    Calls Try.prog 19 #[.pointer (some ⟨b, 0, none⟩), .agg #[.int .i64 (lim : Int), .int .i64 (st : Int), .string (str l)], .agg #[.int .i64 0, .string o, .int .i64 0, .int .i64 0]] W fun x w' => ∃ (st' : Nat) (l' : List UInt8) (v' : Value), x = .returned (.tuple #[.agg #[.int .i64 (lim : Int), .int .i64 (st' : Int), .string (str l')], .bool true]) ∧ w'.heap[R]? = some (.cells (refC lim st l) 43 (0, 0)) ∧ Game w (((w'.setCell ⟨R, 0, none⟩ (.int .i64 (lim : Int))).setCell ⟨R, 1, none⟩ (.int .i64 (st' : Int))).setCell ⟨R, 2, none⟩ (.string (str l'))) R b v' lim st' l' :=
  (step_game h ⟨0, o, 0, 0⟩ ⟨zero64, ho, zero64, zero64⟩).mono fun _ _ ⟨st', l', v', _, _, e1, e2, _, e3⟩ => ⟨st', l', v', e1, e2, e3⟩

set_option maxHeartbeats 4000000 in
theorem tailReads_walk (f : Bool) (lim st : Int) (s : ByteArray) (sv : Value) (ts : List ByteArray) (x y : Int) (w : World) (hs : s.size ≤ 9223372036854775807) (h1 : -9223372036854775808 ≤ lim) (h2 : lim ≤ 9223372036854775807) (h3 : -9223372036854775808 ≤ st) (h4 : st ≤ 9223372036854775807) (hts : StrsArg w sv ts) (hok : ∀ o ∈ ts, o.size ≤ 9223372036854775807) (hx : In64 x) (hy : In64 y) :
    Calls Try.prog 7 #[.agg #[.bool f, .int .i64 lim, .int .i64 st, .string s], sv, .agg #[.int .i64 x, .int .i64 y]] w fun x w' => x = .returned (.bool true) ∧ Below w.heap.size w w' := by
  have HM : Hid (∀ W, Calls Try.prog 17 #[.agg #[.bool f, .int .i64 lim, .int .i64 st, .string s]] W fun x w' => Pair W w' x) := fun W => made_any f lim st s W hs h1 h2 h3 h4
  obtain ⟨ao, n, cp, rfl, hn, hlen, hcell⟩ : ∃ ao n cp, sv = .slice ao n cp ∧ ts.length = n ∧ n ≤ 9223372036854775807 ∧ (0 < n → ∃ sb so, ao = some ⟨sb, so, none⟩ ∧ ∀ W, Below w.heap.size w W → ∀ k (hk : k < ts.length), W.cell? ⟨sb, so + k, none⟩ = some (.string ts[k])) := by
    rcases hts with ⟨a, c, rfl, rfl⟩ | ⟨sb, so, cap, rfl, hb, hl, hc⟩
    · exact ⟨a, 0, c, rfl, rfl, by decide, fun h => absurd h (Nat.lt_irrefl _)⟩
    · exact ⟨_, _, _, rfl, rfl, hl, fun _ => ⟨sb, so, rfl, fun W hW k hk => (hW.cell (p := ⟨sb, so + k, none⟩) hb).trans (hc k hk)⟩⟩
  have HC : Hid (0 < n → ∃ sb so, ao = some ⟨sb, so, none⟩ ∧ ∀ W, Below w.heap.size w W → ∀ k (hk : k < ts.length), W.cell? ⟨sb, so + k, none⟩ = some (.string ts[k])) := hcell
  have HN : Hid (ts.length = n) := hn
  have HOK : Hid (∀ o ∈ ts, o.size ≤ 9223372036854775807) := hok
  have HXY : Hid (In64 x ∧ In64 y) := ⟨hx, hy⟩
  clear hcell hn hts hok hx hy
  go_enter Try.func7, Try.ntmps7
  go_wp2_with fail
  obtain ⟨W0, hW0⟩ : ∃ W0, W0 = (w.alloc (.cells #[.bool f, .int .i64 lim, .int .i64 st, .string s] 41)).alloc (.cells #[.int .i64 x, .int .i64 y] 52) := ⟨_, rfl⟩
  have HT := heap_two w (.cells #[.bool f, .int .i64 lim, .int .i64 st, .string s] 41) (.cells #[.int .i64 x, .int .i64 y] 52)
  have HW : Hid (Below w.heap.size w W0 ∧ W0.heap[w.heap.size + 1]? = some (.cells #[.int .i64 x, .int .i64 y] 52 (0, 0)) ∧ W0.heap.size = w.heap.size + 2) := by
    rw [← hW0] at HT
    refine ⟨?_, HT.2.1, HT.2.2⟩
    rw [hW0]
    exact ((Below.refl _ w).alloc (Nat.le_refl _) _).alloc (by simp) _
  rw [← hW0]
  refine (HM.out _).mono ?_
  rintro x1 w1 ⟨hb1, rfl | ⟨b, v, lm, s0, l, rfl, hsd, hf⟩⟩
  · have HB : Hid (Below w.heap.size w w1 ∧ w.heap.size ≤ w1.heap.size) := ⟨HW.out.1.trans (hb1.mono HW.out.1.size), Nat.le_trans HW.out.1.size hb1.size⟩
    clear hb1 HT hW0
    go_wp2_with fail
    refine wp_loop_rounds 1 ?_
    rw [rounds_succ]
    go_wp2
    all_goals go_ret
    all_goals exact ⟨rfl, by have := HB.out.2; repeat (first | exact HB.out.1 | apply Below.drew | refine Below.setCell ?_ (by first | omega | (simp <;> omega)) _ | refine Below.alloc ?_ (by first | omega | (simp <;> omega)) _)⟩
  · have HG : Hid (Game W0 (w1.alloc (.cells #[.int .i64 (lm : Int), .int .i64 (s0 : Int), .string (str l)] 43)) w1.heap.size b v lm s0 l) := Pair.game0 hb1 hsd hf
    obtain ⟨R, hR⟩ : ∃ R, w1.heap.size = R := ⟨_, rfl⟩
    have HR : Hid (w1.heap.size = R) := hR
    unfold refN
    clear hb1 hsd hf hR HT hW0
    go_wp2_with fail
    rw [HR.out]
    go_loopg [9, 10] n (fun gh s9 s10 wx => ∃ (k : Nat) (v : Value) (st : Nat) (l : List UInt8), k ≤ n ∧ n - k = gh ∧ s10 = .int .i64 (k : Int) ∧ s9 = .bool true ∧ Hid (Game W0 wx R b v lm st l))
    case atStart => exact ⟨0, v, s0, l, Nat.zero_le _, rfl, rfl, rfl, by have := HG.out; rw [HR.out] at this; exact this⟩
    case round =>
      obtain ⟨k, v, st, l, hk, rfl, rfl, rfl, hg⟩ := hrel
      by_cases hkn : k < n
      · obtain ⟨sb, so, rfl, hcell⟩ := HC.out (by omega)
        have hko : k < ts.length := by rw [HN.out]; exact hkn
        obtain ⟨o, ho⟩ : ∃ o, ts[k] = o := ⟨_, rfl⟩
        have o0 := hcell wr (HW.out.1.trans (hg.out.below.mono HW.out.1.size)) k hko
        rw [ho] at o0
        have hoo : o.size ≤ 9223372036854775807 := by rw [← ho]; exact HOK.out _ (List.getElem_mem _)
        have HS : Hid (Calls Try.prog 19 #[.pointer (some ⟨b, 0, none⟩), .agg #[.int .i64 (lm : Int), .int .i64 (st : Int), .string (str l)], .agg #[.int .i64 0, .string o, .int .i64 0, .int .i64 0]] wr.drew fun x w' => ∃ (st' : Nat) (l' : List UInt8) (v' : Value), x = .returned (.tuple #[.agg #[.int .i64 (lm : Int), .int .i64 (st' : Int), .string (str l')], .bool true]) ∧ w'.heap[R]? = some (.cells (refC lm st l) 43 (0, 0)) ∧ Game W0 (((w'.setCell ⟨R, 0, none⟩ (.int .i64 (lm : Int))).setCell ⟨R, 1, none⟩ (.int .i64 (st' : Int))).setCell ⟨R, 2, none⟩ (.string (str l'))) R b v' lm st' l') := step_text hg.out.drew o hoo
        have r0 := hg.out.cell0
        have r1 := hg.out.cell1
        have r2 := hg.out.cell2
        have hki : (k : Int) < (n : Int) := by omega
        clear hcell ho hoo HC
        go_wp2_with fail
        go_region_with (go_at_call 19; refine HS.out.mono ?_; rintro x w2 ⟨st', l', v', rfl, hR2, hg2⟩; have HG2 : Hid (Game W0 (((w2.setCell ⟨R, 0, none⟩ (.int .i64 (lm : Int))).setCell ⟨R, 1, none⟩ (.int .i64 (st' : Int))).setCell ⟨R, 2, none⟩ (.string (str l'))) R b v' lm st' l') := hg2; have p0 : w2.cell? ⟨R, 0, none⟩ = some (.int .i64 (lm : Int)) := cell_atT hR2 0; have p1 : w2.cell? ⟨R, 1, none⟩ = some (.int .i64 (st : Int)) := cell_atT hR2 1; have p2 : w2.cell? ⟨R, 2, none⟩ = some (.string (str l)) := cell_atT hR2 2; have pf := free_atT hR2; clear hR2 hg2)
        all_goals go_wp2
        all_goals (
          go_roundg (n - (k + 1))
          case measure => omega
          case rel => exact ⟨k + 1, v', st', l', by omega, rfl, by first | rfl | go_num, rfl, HG2⟩)
      · obtain rfl : k = n := by omega
        have hA := (HW.out.2.1 : W0.heap[w.heap.size + 1]? = _)
        have hA2 : wr.heap[w.heap.size + 1]? = some (.cells #[.int .i64 x, .int .i64 y] 52 (0, 0)) := (hg.out.below.block _ (by have := HW.out.2.2; omega)).trans hA
        have a0 : wr.cell? ⟨w.heap.size + 1, 0, none⟩ = some (.int .i64 x) := cell_atT hA2 0
        have a1 : wr.cell? ⟨w.heap.size + 1, 1, none⟩ = some (.int .i64 y) := cell_atT hA2 1
        have HS : Hid (Calls Try.prog 19 #[.pointer (some ⟨b, 0, none⟩), .agg #[.int .i64 (lm : Int), .int .i64 (st : Int), .string (str l)], .agg #[.int .i64 1, .string ⟨#[]⟩, .int .i64 x, .int .i64 y]] wr fun x w' => x = .returned (.tuple #[.agg #[.int .i64 (lm : Int), .int .i64 (st : Int), .string (str l)], .bool true]) ∧ Went wr w' b v lm st l) :=
          step_read ⟨#[]⟩ x y hg.out.side HXY.out.1.1 HXY.out.1.2 HXY.out.2.1 HXY.out.2.2
        have r0 := hg.out.cell0
        have r1 := hg.out.cell1
        have r2 := hg.out.cell2
        clear hA hA2 HC
        go_wp2_with fail
        refine HS.out.mono ?_
        rintro x1 w2 ⟨rfl, hw⟩
        obtain ⟨v', e1, e2, e3, e4⟩ := hg.out.went hw
        have q0 : w2.cell? ⟨R, 0, none⟩ = some (.int .i64 (lm : Int)) := cell_atT e2 0
        have q1 : w2.cell? ⟨R, 1, none⟩ = some (.int .i64 (st : Int)) := cell_atT e2 1
        have q2 : w2.cell? ⟨R, 2, none⟩ = some (.string (str l)) := cell_atT e2 2
        have HAs : Hid (Calls Try.prog 18 #[.pointer (some ⟨b, 0, none⟩), .agg #[.int .i64 (lm : Int), .int .i64 (st : Int), .string (str l)]] w2 fun x w' => x = .returned (.bool true) ∧ Below w2.heap.size w2 w') := as_side e1
        have HB : Hid (Below W0.heap.size W0 w2) := e3
        clear hw e1 e2 e3 e4
        go_wp2_with fail
        refine HAs.out.mono ?_
        rintro x1 w3 ⟨rfl, hb3⟩
        have HB3 : Hid (Below w.heap.size w w3) := HW.out.1.trans ((HB.out.trans (hb3.mono HB.out.size)).mono HW.out.1.size)
        clear hb3
        go_wp2
        all_goals go_ret
        all_goals exact ⟨rfl, HB3.out⟩

end Go.Proofs.Yteeakldeimhjjaa
