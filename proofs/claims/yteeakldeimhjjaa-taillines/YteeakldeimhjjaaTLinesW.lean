/-
  The walk of TailLines.
-/
import Derived.Test.YteeakldeimhjjaaTReadsW
import Derived.Test.YteeakldeimhjjaaTQuiet
import Derived.WalkKit
import Derived.Deep.LoopGhost
import Derived.Deep.RegionWith
namespace Go.Proofs.Yteeakldeimhjjaa
open Go.RowKit Go.Lib
set_option linter.unusedVariables false
set_option maxRecDepth 100000

set_option maxHeartbeats 4000000 in
theorem tailLines_walk (f : Bool) (lim st : Int) (s : ByteArray) (sv : Value) (ts : List ByteArray) (q : Int) (w : World) (hs : s.size ≤ 9223372036854775807) (h1 : -9223372036854775808 ≤ lim) (h2 : lim ≤ 9223372036854775807) (h3 : -9223372036854775808 ≤ st) (h4 : st ≤ 9223372036854775807) (hts : StrsArg w sv ts) (hok : ∀ o ∈ ts, o.size ≤ 9223372036854775807) (hq : In64 q) :
    Calls Try.prog 8 #[.agg #[.bool f, .int .i64 lim, .int .i64 st, .string s], sv, .int .i64 q] w fun x w' => x = .returned (.bool true) ∧ Below w.heap.size w w' := by
  have HM : Hid (∀ W, Calls Try.prog 17 #[.agg #[.bool f, .int .i64 lim, .int .i64 st, .string s]] W fun x w' => Pair W w' x) := fun W => made_any f lim st s W hs h1 h2 h3 h4
  obtain ⟨ao, n, cp, rfl, hn, hlen, hcell⟩ : ∃ ao n cp, sv = .slice ao n cp ∧ ts.length = n ∧ n ≤ 9223372036854775807 ∧ (0 < n → ∃ sb so, ao = some ⟨sb, so, none⟩ ∧ ∀ W, Below w.heap.size w W → ∀ k (hk : k < ts.length), W.cell? ⟨sb, so + k, none⟩ = some (.string ts[k])) := by
    rcases hts with ⟨a, c, rfl, rfl⟩ | ⟨sb, so, cap, rfl, hb, hl, hc⟩
    · exact ⟨a, 0, c, rfl, rfl, by decide, fun h => absurd h (Nat.lt_irrefl _)⟩
    · exact ⟨_, _, _, rfl, rfl, hl, fun _ => ⟨sb, so, rfl, fun W hW k hk => (hW.cell (p := ⟨sb, so + k, none⟩) hb).trans (hc k hk)⟩⟩
  have HC : Hid (0 < n → ∃ sb so, ao = some ⟨sb, so, none⟩ ∧ ∀ W, Below w.heap.size w W → ∀ k (hk : k < ts.length), W.cell? ⟨sb, so + k, none⟩ = some (.string ts[k])) := hcell
  have HN : Hid (ts.length = n) := hn
  have HOK : Hid (∀ o ∈ ts, o.size ≤ 9223372036854775807) := hok
  have HQ : Hid (In64 q) := hq
  clear hcell hn hts hok hq
  go_enter Try.func8, Try.ntmps8
  go_wp2_with fail
  obtain ⟨W0, hW0⟩ : ∃ W0, W0 = w.alloc (.cells #[.bool f, .int .i64 lim, .int .i64 st, .string s] 41) := ⟨_, rfl⟩
  have HW : Hid (Below w.heap.size w W0) := by
    show Below _ _ _
    rw [hW0]
    exact (Below.refl _ w).alloc (Nat.le_refl _) _
  rw [← hW0]
  refine (HM.out _).mono ?_
  rintro x1 w1 ⟨hb1, rfl | ⟨b, v, lm, s0, l, rfl, hsd, hf⟩⟩
  · have HB : Hid (Below w.heap.size w w1 ∧ w.heap.size ≤ w1.heap.size) := ⟨HW.out.trans (hb1.mono HW.out.size), Nat.le_trans HW.out.size hb1.size⟩
    clear hb1 hW0
    go_wp2_with fail
    refine wp_loop_rounds 1 ?_
    rw [rounds_succ]
    go_wp2
    all_goals go_ret
    all_goals exact ⟨rfl, by have := HB.out.2; repeat (first | exact HB.out.1 | apply Below.drew | refine Below.setCell ?_ (by first | omega | (simp <;> omega)) _ | refine Below.alloc ?_ (by first | omega | (simp <;> omega)) _)⟩
  · have HG : Hid (Game W0 (w1.alloc (.cells #[.int .i64 (lm : Int), .int .i64 (s0 : Int), .string (str l)] 43)) w1.heap.size b v lm s0 l) := Pair.game0 hb1 hsd hf
    obtain ⟨R, hR⟩ : ∃ R, w1.heap.size = R := ⟨_, rfl⟩
    have HR : Hid (w1.heap.size = R) := hR
    unfold refN
    clear hb1 hsd hf hR hW0
    go_wp2_with fail
    rw [HR.out]
    go_loopg [9, 10] n (fun gh s9 s10 wx => ∃ (k : Nat) (v : Value) (st : Nat) (l : List UInt8), k ≤ n ∧ n - k = gh ∧ s10 = .int .i64 (k : Int) ∧ s9 = .bool true ∧ Hid (Game W0 wx R b v lm st l))
    case atStart => exact ⟨0, v, s0, l, Nat.zero_le _, rfl, rfl, rfl, by have := HG.out; rw [HR.out] at this; exact this⟩
    case round =>
      obtain ⟨k, v, st, l, hk, rfl, rfl, rfl, hg⟩ := hrel
      by_cases hkn : k < n
      · obtain ⟨sb, so, rfl, hcell⟩ := HC.out (by omega)
        have hko : k < ts.length := by rw [HN.out]; exact hkn
        obtain ⟨o, ho⟩ : ∃ o, ts[k] = o := ⟨_, rfl⟩
        have o0 := hcell wr (HW.out.trans (hg.out.below.mono HW.out.size)) k hko
        rw [ho] at o0
        have hoo : o.size ≤ 9223372036854775807 := by rw [← ho]; exact HOK.out _ (List.getElem_mem _)
        have HS : Hid (Calls Try.prog 19 #[.pointer (some ⟨b, 0, none⟩), .agg #[.int .i64 (lm : Int), .int .i64 (st : Int), .string (str l)], .agg #[.int .i64 0, .string o, .int .i64 0, .int .i64 0]] wr.drew fun x w' => ∃ (st' : Nat) (l' : List UInt8) (v' : Value), x = .returned (.tuple #[.agg #[.int .i64 (lm : Int), .int .i64 (st' : Int), .string (str l')], .bool true]) ∧ w'.heap[R]? = some (.cells (refC lm st l) 43 (0, 0)) ∧ Game W0 (((w'.setCell ⟨R, 0, none⟩ (.int .i64 (lm : Int))).setCell ⟨R, 1, none⟩ (.int .i64 (st' : Int))).setCell ⟨R, 2, none⟩ (.string (str l'))) R b v' lm st' l') := step_text hg.out.drew o hoo
        have r0 := hg.out.cell0
        have r1 := hg.out.cell1
        have r2 := hg.out.cell2
        have hki : (k : Int) < (n : Int) := by omega
        clear hcell ho hoo HC
        go_wp2_with fail
        go_region_with (go_at_call 19; refine HS.out.mono ?_; rintro x w2 ⟨st', l', v', rfl, hR2, hg2⟩; have HG2 : Hid (Game W0 (((w2.setCell ⟨R, 0, none⟩ (.int .i64 (lm : Int))).setCell ⟨R, 1, none⟩ (.int .i64 (st' : Int))).setCell ⟨R, 2, none⟩ (.string (str l'))) R b v' lm st' l') := hg2; have p0 : w2.cell? ⟨R, 0, none⟩ = some (.int .i64 (lm : Int)) := cell_atT hR2 0; have p1 : w2.cell? ⟨R, 1, none⟩ = some (.int .i64 (st : Int)) := cell_atT hR2 1; have p2 : w2.cell? ⟨R, 2, none⟩ = some (.string (str l)) := cell_atT hR2 2; have pf := free_atT hR2; clear hR2 hg2)
        all_goals go_wp2
        all_goals (
          go_roundg (n - (k + 1))
          case measure => omega
          case rel => exact ⟨k + 1, v', st', l', by omega, rfl, by first | rfl | go_num, rfl, HG2⟩)
      · obtain rfl : k = n := by omega
        obtain ⟨S, hS⟩ : ∃ S, str (linesT q l) = S := ⟨_, rfl⟩
        have hlh : l.length ≤ 65536 := Nat.le_trans hg.out.side.log.len hg.out.side.log.high
        have HX : Hid (∀ X, Below wr.heap.size wr X → X.cell? ⟨R, 0, none⟩ = some (.int .i64 (lm : Int)) ∧ X.cell? ⟨R, 1, none⟩ = some (.int .i64 (st : Int)) ∧ X.cell? ⟨R, 2, none⟩ = some (.string (str l))) := fun X hX => ⟨(hg.out.more hX).cell0, (hg.out.more hX).cell1, (hg.out.more hX).cell2⟩
        have H1 : Hid (∀ X, Below wr.heap.size wr X → Calls Try.prog 20 #[.pointer (some ⟨b, 0, none⟩), .int .i64 q] X fun x w' => x = .returned (.string S) ∧ Below wr.heap.size wr w') := fun X hX => by
          have h := lines_any (hg.out.more hX).side.log rfl q HQ.out.1 HQ.out.2
          rw [hS] at h
          exact h.mono fun _ _ ⟨e1, m, e2⟩ => ⟨e1, by rw [e2]; exact below_of_drewN hX m⟩
        have H2 : Hid (∀ X, Below wr.heap.size wr X → Calls Try.prog 21 #[.agg #[.int .i64 (lm : Int), .int .i64 (st : Int), .string (str l)], .int .i64 q] X fun x w' => x = .returned (.string S) ∧ Below wr.heap.size wr w') := fun X hX => by
          have h := refLines_any lm st l q X hlh HQ.out.1 HQ.out.2
          rw [hS] at h
          exact h.mono fun _ _ ⟨e1, e2⟩ => ⟨e1, hX.trans (e2.mono hX.size)⟩
        have H3 : Hid (∀ X, Below wr.heap.size wr X → Calls Try.prog 18 #[.pointer (some ⟨b, 0, none⟩), .agg #[.int .i64 (lm : Int), .int .i64 (st : Int), .string (str l)]] X fun x w' => x = .returned (.bool true) ∧ Below wr.heap.size wr w') := fun X hX =>
          (as_side (hg.out.more hX).side).mono fun _ _ ⟨e1, e2⟩ => ⟨e1, hX.trans (e2.mono hX.size)⟩
        have HB : Hid (∀ X, Below wr.heap.size wr X → Below w.heap.size w X) := fun X hX => HW.out.trans ((hg.out.more hX).below.mono HW.out.size)
        have r0 := hg.out.cell0
        have r1 := hg.out.cell1
        have r2 := hg.out.cell2
        clear HC hS hlh
        go_wp2_with fail
        refine wp_region_class (Below wr.heap.size wr) (by kernel_rfl) (by kernel_rfl) ((Below.refl _ _).drew) ?_
        repeat (
          refine quiet_take (v := ?_) (by rfl) (fun X hX => ?_) ?_
          rotate_left
          · obtain ⟨x0, x1, x2⟩ := HX.out X hX
            go_simp
            all_goals first | with_reducible rfl | with_reducible exact H1.out X hX | with_reducible exact H2.out X hX | with_reducible exact H3.out X hX
          intro K hK
          go_simp
          refine hK _ ?_
          clear hK K)
        refine wpQuiet_nil ?_
        intro w' hw'
        have HF : Hid (Below w.heap.size w w') := HB.out w' hw'
        clear hw' hg
        go_wp2
        all_goals go_ret
        all_goals exact ⟨rfl, HF.out⟩

end Go.Proofs.Yteeakldeimhjjaa
