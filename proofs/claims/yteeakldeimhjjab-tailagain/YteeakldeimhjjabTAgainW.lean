/-
  The walk of TailAgain.
-/
import Derived.Test.YteeakldeimhjjabTGames
import Derived.WalkKit
import Derived.Deep.LoopGhost
import Derived.Deep.RegionWith
namespace Go.Proofs.Yteeakldeimhjjab
open Go.RowKit Go.Lib
set_option linter.unusedVariables false
set_option maxRecDepth 100000

theorem Side.load {w : World} {b : Nat} {v : Value} {lim st : Nat} {l : List UInt8} (h : Side w b v lim st l) : loadE lim st l.length = 0 := by
  have h1 := h.log.low
  have h2 := h.log.high
  have h3 := h.log.len
  have h4 := h.most
  unfold loadE
  rw [if_neg (by omega), if_neg (by omega)]
/-- A Log made anew of another's parts. -/
theorem load_again {w : World} {b : Nat} {v : Value} {lim st : Nat} {l : List UInt8} (h : Side w b v lim st l) (W : World) :
    Calls Try.prog 7 #[.int .i64 (lim : Int), .int .i64 (st : Int), .string (str l)] W fun x w' => Below W.heap.size W w' ∧ ∃ b' v', x = .returned (.tuple #[.pointer (some ⟨b', 0, none⟩), .int .i64 0]) ∧ Side w' b' v' lim st l ∧ ∀ k ∈ foot b' v', W.heap.size ≤ k := by
  have h2 := h.log.high
  have h3 := h.log.len
  have h4 := h.most
  have hz : (str l).size = l.length := rfl
  refine (load_any (lim : Int) (st : Int) (str l) W (by omega) (by omega) (by omega) (by omega) (by omega)).mono ?_
  rintro x w' ⟨hb, hm⟩
  have e : loadE (lim : Int) (st : Int) (str l).data.toList.length = 0 := h.load
  rcases hm with ⟨h5, _⟩ | ⟨_, b', v', hx, hl, hf⟩
  · exact absurd e h5
  · exact ⟨hb, b', v', hx, ⟨hl, h4⟩, hf⟩

set_option maxHeartbeats 16000000 in
theorem tailAgain_walk (f : Bool) (lim st0 : Int) (s : ByteArray) (ao : Option Addr) (n cp : Nat) (ops : List OpD) (bo : Option Addr) (n' cp' : Nat) (ops' : List OpD) (w0 : World) (hs : s.size ≤ 9223372036854775807) (hlim : In64 lim) (hst : In64 st0) (hops : Calls4 w0 ao n ops) (hops' : Calls4 w0 bo n' ops') :
    Calls Try.prog 3 #[.agg #[.bool f, .int .i64 lim, .int .i64 st0, .string s], .slice ao n cp, .slice bo n' cp'] w0 fun x w' => x = .returned (.bool true) ∧ Below w0.heap.size w0 w' := by
  have HM : Hid (∀ W, Calls Try.prog 5 #[.agg #[.bool f, .int .i64 lim, .int .i64 st0, .string s]] W fun x w' => Pair W w' x) := fun W => made_any f lim st0 s W hs hlim.1 hlim.2 hst.1 hst.2
  obtain ⟨w, hw⟩ : ∃ w, w = w0.alloc (.cells #[.bool f, .int .i64 lim, .int .i64 st0, .string s] 23) := ⟨_, rfl⟩
  have HW : Hid (Below w0.heap.size w0 w) := by
    show Below _ _ _
    rw [hw]
    exact (Below.refl _ w0).alloc (Nat.le_refl _) _
  have HWe : Hid (w = w0.alloc (.cells #[.bool f, .int .i64 lim, .int .i64 st0, .string s] 23)) := hw
  obtain ⟨hn, hlen, hok, hcell⟩ := hops.under HW.out
  obtain ⟨hn', hlen', hok', hcell'⟩ := hops'.under HW.out
  have HC : Hid (0 < n → ∃ sb so, ao = some ⟨sb, so, none⟩ ∧ ∀ W, Below w.heap.size w W → ∀ k (hk : k < ops.length), W.cell? ⟨sb, so + k * 4, none⟩ = some (.int .i64 ops[k].k) ∧ W.cell? ⟨sb, so + k * 4 + 1, none⟩ = some (.string ops[k].t) ∧ W.cell? ⟨sb, so + k * 4 + 2, none⟩ = some (.int .i64 ops[k].a) ∧ W.cell? ⟨sb, so + k * 4 + 3, none⟩ = some (.int .i64 ops[k].b)) := hcell
  have HC' : Hid (0 < n' → ∃ sb so, bo = some ⟨sb, so, none⟩ ∧ ∀ W, Below w.heap.size w W → ∀ k (hk : k < ops'.length), W.cell? ⟨sb, so + k * 4, none⟩ = some (.int .i64 ops'[k].k) ∧ W.cell? ⟨sb, so + k * 4 + 1, none⟩ = some (.string ops'[k].t) ∧ W.cell? ⟨sb, so + k * 4 + 2, none⟩ = some (.int .i64 ops'[k].a) ∧ W.cell? ⟨sb, so + k * 4 + 3, none⟩ = some (.int .i64 ops'[k].b)) := hcell'
  have HN : Hid (ops.length = n) := hn
  have HOK : Hid (∀ o ∈ ops, o.Ok) := hok
  have HN' : Hid (ops'.length = n') := hn'
  have HOK' : Hid (∀ o ∈ ops', o.Ok) := hok'
  clear hcell hn hok hops hcell' hn' hok' hops' hw
  go_enter Try.func3, Try.ntmps3
  go_wp2_with fail
  rw [← HWe.out]
  refine (HM.out _).mono ?_
  rintro x w1 ⟨hb1, rfl | ⟨b, v, lm, s0, l, rfl, hsd, hf⟩⟩
  · have HB : Hid (Below w0.heap.size w0 w1 ∧ w0.heap.size ≤ w1.heap.size) := by
      have h := HW.out.trans (hb1.mono HW.out.size)
      exact ⟨h, h.size⟩
    clear hb1
    go_wp2_with fail
    refine wp_loop_rounds 1 ?_
    rw [rounds_succ]
    go_wp2
    all_goals go_ret
    all_goals exact ⟨rfl, by have := HB.out.2; repeat (first | exact HB.out.1 | apply Below.drew | refine Below.setCell ?_ (by first | omega | (simp <;> omega)) _ | refine Below.alloc ?_ (by first | omega | (simp <;> omega)) _)⟩
  · have HG : Hid (Game w (w1.alloc (.cells #[.int .i64 (lm : Int), .int .i64 (s0 : Int), .string (str l)] 27)) w1.heap.size b v lm s0 l) := Pair.game1 hb1 hsd hf
    obtain ⟨R, hR⟩ : ∃ R, w1.heap.size = R := ⟨_, rfl⟩
    have HR : Hid (w1.heap.size = R) := hR
    unfold refN
    clear hb1 hsd hf hR
    go_wp2_with fail
    rw [HR.out]
    go_loopg [9, 10] n (fun gh s9 s10 wx => ∃ (k : Nat) (v : Value) (st : Nat) (l : List UInt8), k ≤ n ∧ n - k = gh ∧ s10 = .int .i64 (k : Int) ∧ s9 = .bool true ∧ Hid (Game w wx R b v lm st l))
    case atStart => exact ⟨0, v, s0, l, Nat.zero_le _, rfl, rfl, rfl, by have := HG.out; rw [HR.out] at this; exact this⟩
    case round =>
      obtain ⟨k, v, st, l, hk, rfl, rfl, rfl, hg⟩ := hrel
      by_cases hkn : k < n
      · obtain ⟨sb, so, rfl, hcell⟩ := HC.out (by omega)
        have hko : k < ops.length := by rw [HN.out]; exact hkn
        obtain ⟨o, ho⟩ : ∃ o, ops[k] = o := ⟨_, rfl⟩
        have hc := hcell wr hg.out.below k hko
        rw [ho] at hc
        obtain ⟨o0, o1, o2, o3⟩ := hc
        have hoo : o.Ok := by rw [← ho]; exact HOK.out _ (List.getElem_mem _)
        obtain ⟨st2, hst2⟩ : ∃ x, stepS o.k lm st l o.t = x := ⟨_, rfl⟩
        obtain ⟨l2, hl2⟩ : ∃ x, stepL o.k lm st l o.t = x := ⟨_, rfl⟩
        have HS : Hid (Calls Try.prog 6 #[.pointer (some ⟨b, 0, none⟩), .agg #[.int .i64 (lm : Int), .int .i64 (st : Int), .string (str l)], .agg #[.int .i64 o.k, .string o.t, .int .i64 o.a, .int .i64 o.b]] wr.drew fun x w2 => x = .returned (.tuple #[.agg #[.int .i64 (lm : Int), .int .i64 (st2 : Int), .string (str l2)], .bool true]) ∧ w2.heap[R]? = some (.cells (refC lm st l) 27 (0, 0)) ∧ ∃ v2, Game w (((w2.setCell ⟨R, 0, none⟩ (.int .i64 (lm : Int))).setCell ⟨R, 1, none⟩ (.int .i64 (st2 : Int))).setCell ⟨R, 2, none⟩ (.string (str l2))) R b v2 lm st2 l2) := (step_game hg.out.drew o hoo).mono fun _ _ ⟨x1, x2, v2, e1, e2, e3, e4, _, e5⟩ => by
          rw [hst2] at e1
          rw [hl2] at e2
          subst e1
          subst e2
          exact ⟨e3, e4, v2, e5⟩
        have r0 := hg.out.cell0
        have r1 := hg.out.cell1
        have r2 := hg.out.cell2
        have hki : (k : Int) < (n : Int) := by omega
        clear hcell ho hoo HC HC' hst2 hl2
        go_wp2_with fail
        go_region_with (go_at_call 6; refine HS.out.mono ?_; rintro x w2 ⟨rfl, hR2, v2, hg2⟩; have HG2 : Hid (Game w (((w2.setCell ⟨R, 0, none⟩ (.int .i64 (lm : Int))).setCell ⟨R, 1, none⟩ (.int .i64 (st2 : Int))).setCell ⟨R, 2, none⟩ (.string (str l2))) R b v2 lm st2 l2) := hg2; have p0 : w2.cell? ⟨R, 0, none⟩ = some (.int .i64 (lm : Int)) := cell_atT hR2 0; have p1 : w2.cell? ⟨R, 1, none⟩ = some (.int .i64 (st : Int)) := cell_atT hR2 1; have p2 : w2.cell? ⟨R, 2, none⟩ = some (.string (str l)) := cell_atT hR2 2; have pf := free_atT hR2; clear hR2 hg2)
        all_goals go_wp2
        all_goals (
          go_roundg (n - (k + 1))
          case measure => omega
          case rel => exact ⟨k + 1, v2, st2, l2, by omega, rfl, by first | rfl | go_num, rfl, HG2⟩)
      · obtain rfl : k = n := by omega
        have H1 : Hid (Calls Try.prog 8 #[.pointer (some ⟨b, 0, none⟩)] wr fun x w' => x = .returned (.int .i64 (lm : Int)) ∧ wr = w') := (limit_any hg.out.side.log).mono fun _ _ h => ⟨h.1, h.2.symm⟩
        have H2 : Hid (Calls Try.prog 9 #[.pointer (some ⟨b, 0, none⟩)] wr fun x w' => x = .returned (.int .i64 (st : Int)) ∧ ∃ m, w' = wr.drewN m) := start_any hg.out.side.log rfl
        have H3 : Hid (∀ q, Calls Try.prog 10 #[.pointer (some ⟨b, 0, none⟩)] (wr.drewN q) fun x w' => x = .returned (.string (str l)) ∧ ∃ m, w' = (wr.drewN q).drewN m) := fun q => all_any (hg.out.more (below_drewN wr q)).side.log rfl
        have H4 : Hid (∀ q, Calls Try.prog 7 #[.int .i64 (lm : Int), .int .i64 (st : Int), .string (str l)] (wr.drewN q) fun x w' => Below (wr.drewN q).heap.size (wr.drewN q) w' ∧ ∃ b' v', x = .returned (.tuple #[.pointer (some ⟨b', 0, none⟩), .int .i64 0]) ∧ Side w' b' v' lm st l ∧ ∀ k ∈ foot b' v', (wr.drewN q).heap.size ≤ k) := fun q => load_again hg.out.side (wr.drewN q)
        clear HC
        go_wp2_with (first | (go_at_call 8; refine H1.out.mono ?_; rintro x w2 ⟨rfl, rfl⟩) | (go_at_call 9; refine H2.out.mono ?_; rintro x w2 ⟨rfl, q1, rfl⟩) | (go_at_call 10; refine (H3.out _).mono ?_; rintro x w2 ⟨rfl, q2, rfl⟩) | fail)
        refine (H4.out _).mono ?_
        rintro x w2 ⟨hb2, b', v', rfl, hsd', hf'⟩
        have HGG : Hid (Games w (w2.alloc (.cells #[.int .i64 (lm : Int), .int .i64 (st : Int), .string (str l)] 27)) R b v lm st l w2.heap.size b' v' lm st l) := (hg.out.more (below_drewN wr _)).second hb2 hsd' hf'
        have hG2 := (hg.out.more (below_drewN wr _)).more hb2
        have r0 := hG2.cell0
        have r1 := hG2.cell1
        have r2 := hG2.cell2
        obtain ⟨R', hR'⟩ : ∃ R', w2.heap.size = R' := ⟨_, rfl⟩
        have HR' : Hid (w2.heap.size = R') := hR'
        clear hb2 hsd' hf' hR' hG2 hg
        go_wp2_with fail
        rw [HR'.out]
        go_loopg [9, 14] n' (fun gh s9 s14 wx => ∃ (k : Nat) (v : Value) (st : Nat) (l : List UInt8) (v' : Value), k ≤ n' ∧ n' - k = gh ∧ s14 = .int .i64 (k : Int) ∧ s9 = .bool true ∧ Hid (Games w wx R b v lm st l R' b' v' lm st l))
        case atStart => exact ⟨0, v, st, l, v', Nat.zero_le _, rfl, rfl, rfl, by have := HGG.out; rw [HR'.out] at this; exact this⟩
        case round =>
          obtain ⟨k, v, st, l, v', hk, rfl, rfl, rfl, hg⟩ := hrel
          by_cases hkn : k < n'
          · obtain ⟨sb, so, rfl, hcell⟩ := HC'.out (by omega)
            have hko : k < ops'.length := by rw [HN'.out]; exact hkn
            obtain ⟨o, ho⟩ : ∃ o, ops'[k] = o := ⟨_, rfl⟩
            have HCe : Hid (∀ W, Below w.heap.size w W → W.cell? ⟨sb, so + k * 4, none⟩ = some (.int .i64 o.k) ∧ W.cell? ⟨sb, so + k * 4 + 1, none⟩ = some (.string o.t) ∧ W.cell? ⟨sb, so + k * 4 + 2, none⟩ = some (.int .i64 o.a) ∧ W.cell? ⟨sb, so + k * 4 + 3, none⟩ = some (.int .i64 o.b)) := fun W hW => by
              have h := hcell W hW k hko
              rw [ho] at h
              exact h
            obtain ⟨o0, o1, o2, o3⟩ := HCe.out wr hg.out.one.below
            have hoo : o.Ok := by rw [← ho]; exact HOK'.out _ (List.getElem_mem _)
            obtain ⟨st2, hst2⟩ : ∃ x, stepS o.k lm st l o.t = x := ⟨_, rfl⟩
            obtain ⟨l2, hl2⟩ : ∃ x, stepL o.k lm st l o.t = x := ⟨_, rfl⟩
            have HS : Hid (Calls Try.prog 6 #[.pointer (some ⟨b, 0, none⟩), .agg #[.int .i64 (lm : Int), .int .i64 (st : Int), .string (str l)], .agg #[.int .i64 o.k, .string o.t, .int .i64 o.a, .int .i64 o.b]] wr.drew fun x w2 => x = .returned (.tuple #[.agg #[.int .i64 (lm : Int), .int .i64 (st2 : Int), .string (str l2)], .bool true]) ∧ w2.heap[R]? = some (.cells (refC lm st l) 27 (0, 0)) ∧ ∃ v2, Games w (((w2.setCell ⟨R, 0, none⟩ (.int .i64 (lm : Int))).setCell ⟨R, 1, none⟩ (.int .i64 (st2 : Int))).setCell ⟨R, 2, none⟩ (.string (str l2))) R b v2 lm st2 l2 R' b' v' lm st l) := step_games hg.out.drew o hoo hst2 hl2
            have HT : Hid (∀ W v2, Games w W R' b' v' lm st l R b v2 lm st2 l2 → Calls Try.prog 6 #[.pointer (some ⟨b', 0, none⟩), .agg #[.int .i64 (lm : Int), .int .i64 (st : Int), .string (str l)], .agg #[.int .i64 o.k, .string o.t, .int .i64 o.a, .int .i64 o.b]] W fun x w2 => x = .returned (.tuple #[.agg #[.int .i64 (lm : Int), .int .i64 (st2 : Int), .string (str l2)], .bool true]) ∧ w2.heap[R']? = some (.cells (refC lm st l) 27 (0, 0)) ∧ ∃ v3, Games w (((w2.setCell ⟨R', 0, none⟩ (.int .i64 (lm : Int))).setCell ⟨R', 1, none⟩ (.int .i64 (st2 : Int))).setCell ⟨R', 2, none⟩ (.string (str l2))) R' b' v3 lm st2 l2 R b v2 lm st2 l2) := fun W v2 hW => step_games hW o hoo hst2 hl2
            have r0 := hg.out.one.cell0
            have r1 := hg.out.one.cell1
            have r2 := hg.out.one.cell2
            have hki : (k : Int) < (n' : Int) := by omega
            clear hcell ho hoo HC' hst2 hl2
            go_wp2_with fail
            go_region_with (go_at_call 6; refine HS.out.mono ?_; rintro x w2 ⟨rfl, hR2, v2, hg2⟩; have HG2 : Hid (Games w (((w2.setCell ⟨R, 0, none⟩ (.int .i64 (lm : Int))).setCell ⟨R, 1, none⟩ (.int .i64 (st2 : Int))).setCell ⟨R, 2, none⟩ (.string (str l2))) R b v2 lm st2 l2 R' b' v' lm st l) := hg2; have p0 : w2.cell? ⟨R, 0, none⟩ = some (.int .i64 (lm : Int)) := cell_atT hR2 0; have p1 : w2.cell? ⟨R, 1, none⟩ = some (.int .i64 (st : Int)) := cell_atT hR2 1; have p2 : w2.cell? ⟨R, 2, none⟩ = some (.string (str l)) := cell_atT hR2 2; have pf := free_atT hR2; clear hR2 hg2)
            all_goals (have u0 := HG2.out.two.cell0; have u1 := HG2.out.two.cell1; have u2 := HG2.out.two.cell2)
            all_goals (obtain ⟨W3, hW3⟩ : ∃ W3, W3 = (((w2.setCell ⟨R, 0, none⟩ (.int .i64 (lm : Int))).setCell ⟨R, 1, none⟩ (.int .i64 (st2 : Int))).setCell ⟨R, 2, none⟩ (.string (str l2))) := ⟨_, rfl⟩; rw [← hW3] at HG2 u0 u1 u2; have HW3 : Hid (W3 = (((w2.setCell ⟨R, 0, none⟩ (.int .i64 (lm : Int))).setCell ⟨R, 1, none⟩ (.int .i64 (st2 : Int))).setCell ⟨R, 2, none⟩ (.string (str l2)))) := hW3; clear hW3)
            all_goals rw [← HW3.out]
            all_goals go_wp2_with fail
            all_goals (have HAs1 : Hid (Calls Try.prog 11 #[.pointer (some ⟨b', 0, none⟩), .agg #[.int .i64 (lm : Int), .int .i64 (st : Int), .string (str l)]] W3 fun x w' => x = .returned (.bool true) ∧ Below W3.heap.size W3 w') := as_side HG2.out.two.side)
            all_goals (refine HAs1.out.mono ?_; rintro x w4 ⟨rfl, hb4⟩; have HG4 : Hid (Games w w4 R' b' v' lm st l R b v2 lm st2 l2) := (HG2.out.more hb4).flip; have x0 := HG4.out.one.cell0; have x1 := HG4.out.one.cell1; have x2 := HG4.out.one.cell2; obtain ⟨y0, y1, y2, y3⟩ := HCe.out w4 HG4.out.one.below; have HT4 := HT.out w4.drew v2 HG4.out.drew; have HT5 : Hid (Calls Try.prog 6 #[.pointer (some ⟨b', 0, none⟩), .agg #[.int .i64 (lm : Int), .int .i64 (st : Int), .string (str l)], .agg #[.int .i64 o.k, .string o.t, .int .i64 o.a, .int .i64 o.b]] w4.drew fun x w2 => x = .returned (.tuple #[.agg #[.int .i64 (lm : Int), .int .i64 (st2 : Int), .string (str l2)], .bool true]) ∧ w2.heap[R']? = some (.cells (refC lm st l) 27 (0, 0)) ∧ ∃ v3, Games w (((w2.setCell ⟨R', 0, none⟩ (.int .i64 (lm : Int))).setCell ⟨R', 1, none⟩ (.int .i64 (st2 : Int))).setCell ⟨R', 2, none⟩ (.string (str l2))) R' b' v3 lm st2 l2 R b v2 lm st2 l2) := HT4; clear hb4 HT4 HG2 HW3)
            all_goals go_wp2_with fail
            all_goals go_region_with (go_at_call 6; refine HT5.out.mono ?_; rintro x w5 ⟨rfl, hR5, v3, hg5⟩; have HG5 : Hid (Games w (((w5.setCell ⟨R', 0, none⟩ (.int .i64 (lm : Int))).setCell ⟨R', 1, none⟩ (.int .i64 (st2 : Int))).setCell ⟨R', 2, none⟩ (.string (str l2))) R' b' v3 lm st2 l2 R b v2 lm st2 l2) := hg5; have p0' : w5.cell? ⟨R', 0, none⟩ = some (.int .i64 (lm : Int)) := cell_atT hR5 0; have p1' : w5.cell? ⟨R', 1, none⟩ = some (.int .i64 (st : Int)) := cell_atT hR5 1; have p2' : w5.cell? ⟨R', 2, none⟩ = some (.string (str l)) := cell_atT hR5 2; have pf' := free_atT hR5; clear hR5 hg5)
            all_goals (have t0 := HG5.out.two.cell0; have t1 := HG5.out.two.cell1; have t2 := HG5.out.two.cell2)
            all_goals (obtain ⟨W6, hW6⟩ : ∃ W6, W6 = (((w5.setCell ⟨R', 0, none⟩ (.int .i64 (lm : Int))).setCell ⟨R', 1, none⟩ (.int .i64 (st2 : Int))).setCell ⟨R', 2, none⟩ (.string (str l2))) := ⟨_, rfl⟩; rw [← hW6] at HG5 t0 t1 t2; have HW6 : Hid (W6 = (((w5.setCell ⟨R', 0, none⟩ (.int .i64 (lm : Int))).setCell ⟨R', 1, none⟩ (.int .i64 (st2 : Int))).setCell ⟨R', 2, none⟩ (.string (str l2)))) := hW6; clear hW6)
            all_goals rw [← HW6.out]
            all_goals go_wp2_with fail
            all_goals (have HAs2 : Hid (Calls Try.prog 11 #[.pointer (some ⟨b, 0, none⟩), .agg #[.int .i64 (lm : Int), .int .i64 (st2 : Int), .string (str l2)]] W6 fun x w' => x = .returned (.bool true) ∧ Below W6.heap.size W6 w') := as_side HG5.out.two.side)
            all_goals (refine HAs2.out.mono ?_; rintro x w7 ⟨rfl, hb7⟩; have HG7 : Hid (Games w w7 R b v2 lm st2 l2 R' b' v3 lm st2 l2) := (HG5.out.more hb7).flip; clear hb7 HG5 HW6)
            all_goals (have K0 : Hid (Calls Try.prog 10 #[.pointer (some ⟨b', 0, none⟩)] w7 fun x w' => x = .returned (.string (str l2)) ∧ ∃ m, w' = w7.drewN m) := all_any HG7.out.two.side.log rfl)
            all_goals (have K1 : Hid (∀ q, Calls Try.prog 10 #[.pointer (some ⟨b, 0, none⟩)] (w7.drewN q) fun x w' => x = .returned (.string (str l2)) ∧ ∃ m, w' = (w7.drewN q).drewN m) := fun q => all_any (HG7.out.more (below_drewN w7 q)).one.side.log rfl)
            all_goals (have K2 : Hid (∀ q, Calls Try.prog 9 #[.pointer (some ⟨b', 0, none⟩)] (w7.drewN q) fun x w' => x = .returned (.int .i64 (st2 : Int)) ∧ ∃ m, w' = (w7.drewN q).drewN m) := fun q => start_any (HG7.out.more (below_drewN w7 q)).two.side.log rfl)
            all_goals (have K3 : Hid (∀ q, Calls Try.prog 9 #[.pointer (some ⟨b, 0, none⟩)] (w7.drewN q) fun x w' => x = .returned (.int .i64 (st2 : Int)) ∧ ∃ m, w' = (w7.drewN q).drewN m) := fun q => start_any (HG7.out.more (below_drewN w7 q)).one.side.log rfl)
            all_goals (have K4 : Hid (∀ q, Calls Try.prog 12 #[.pointer (some ⟨b', 0, none⟩)] (w7.drewN q) fun x w' => x = .returned (.int .i64 ((st2 + l2.length : Nat) : Int)) ∧ w7.drewN q = w') := fun q => (ende_any (HG7.out.more (below_drewN w7 q)).two.side.log).mono fun _ _ h => ⟨h.1, h.2.symm⟩)
            all_goals (have K5 : Hid (∀ q, Calls Try.prog 12 #[.pointer (some ⟨b, 0, none⟩)] (w7.drewN q) fun x w' => x = .returned (.int .i64 ((st2 + l2.length : Nat) : Int)) ∧ w7.drewN q = w') := fun q => (ende_any (HG7.out.more (below_drewN w7 q)).one.side.log).mono fun _ _ h => ⟨h.1, h.2.symm⟩)
            all_goals go_wp2_with fail
            all_goals (refine K0.out.mono ?_; rintro x w8 ⟨rfl, q0, rfl⟩)
            all_goals go_wp2_with fail
            all_goals (refine (K1.out _).mono ?_; rintro x w8 ⟨rfl, q1, rfl⟩; rw [World.drewN_drewN])
            all_goals go_wp2_with fail
            all_goals (refine (K2.out _).mono ?_; rintro x w8 ⟨rfl, q2, rfl⟩; rw [World.drewN_drewN])
            all_goals go_wp2_with fail
            all_goals (refine (K3.out _).mono ?_; rintro x w8 ⟨rfl, q3, rfl⟩; rw [World.drewN_drewN])
            all_goals go_wp2_with fail
            all_goals (refine (K4.out _).mono ?_; rintro x w8 ⟨rfl, rfl⟩)
            all_goals go_wp2_with fail
            all_goals (refine (K5.out _).mono ?_; rintro x w8 ⟨rfl, rfl⟩)
            all_goals (have HG9 : Hid (Games w (w7.drewN (q0 + q1 + q2 + q3)) R b v2 lm st2 l2 R' b' v3 lm st2 l2) := HG7.out.more (below_drewN w7 _))
            all_goals go_wp2
            all_goals (
              go_roundg (n' - (k + 1))
              case measure => omega
              case rel => exact ⟨k + 1, v2, st2, l2, v3, by omega, rfl, by first | rfl | go_num, rfl, HG9⟩)
          · obtain rfl : k = n' := by omega
            have HB : Hid (Below w0.heap.size w0 wr) := HW.out.trans (hg.out.one.below.mono HW.out.size)
            clear hg HC'
            go_wp2
            all_goals go_ret
            all_goals exact ⟨rfl, HB.out⟩

end Go.Proofs.Yteeakldeimhjjab
