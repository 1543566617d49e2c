/-
  The walk of TailApart.
-/
import Derived.Test.YteeakldeimhjjabTGames
import Derived.WalkKit
import Derived.Deep.LoopGhost
import Derived.Deep.RegionWith
namespace Go.Proofs.Yteeakldeimhjjab
open Go.RowKit Go.Lib
set_option linter.unusedVariables false
set_option maxRecDepth 100000

set_option maxHeartbeats 8000000 in
theorem tailApart_walk (f : Bool) (lim st0 : Int) (s : ByteArray) (f' : Bool) (lim' st0' : Int) (s' : ByteArray) (ao : Option Addr) (n cp : Nat) (ops : List OpD) (w0 : World) (hs : s.size ≤ 9223372036854775807) (hlim : In64 lim) (hst : In64 st0) (hs' : s'.size ≤ 9223372036854775807) (hlim' : In64 lim') (hst' : In64 st0') (hops : Calls4 w0 ao n ops) :
    Calls Try.prog 4 #[.agg #[.bool f, .int .i64 lim, .int .i64 st0, .string s], .agg #[.bool f', .int .i64 lim', .int .i64 st0', .string s'], .slice ao n cp] w0 fun x w' => x = .returned (.bool true) ∧ Below w0.heap.size w0 w' := by
  have HM : Hid (∀ W, Calls Try.prog 5 #[.agg #[.bool f, .int .i64 lim, .int .i64 st0, .string s]] W fun x w' => Pair W w' x) := fun W => made_any f lim st0 s W hs hlim.1 hlim.2 hst.1 hst.2
  have HM' : Hid (∀ W, Calls Try.prog 5 #[.agg #[.bool f', .int .i64 lim', .int .i64 st0', .string s']] W fun x w' => Pair W w' x) := fun W => made_any f' lim' st0' s' W hs' hlim'.1 hlim'.2 hst'.1 hst'.2
  have HT := heap_two w0 (.cells #[.bool f, .int .i64 lim, .int .i64 st0, .string s] 23) (.cells #[.bool f', .int .i64 lim', .int .i64 st0', .string s'] 23)
  obtain ⟨w, hw⟩ : ∃ w, w = (w0.alloc (.cells #[.bool f, .int .i64 lim, .int .i64 st0, .string s] 23)).alloc (.cells #[.bool f', .int .i64 lim', .int .i64 st0', .string s'] 23) := ⟨_, rfl⟩
  have HW : Hid (Below w0.heap.size w0 w ∧ w.heap[w0.heap.size + 1]? = some (.cells #[.bool f', .int .i64 lim', .int .i64 st0', .string s'] 23 (0, 0)) ∧ w.heap.size = w0.heap.size + 2) := by
    rw [← hw] at HT
    refine ⟨?_, HT.2.1, HT.2.2⟩
    rw [hw]
    exact ((Below.refl _ w0).alloc (Nat.le_refl _) _).alloc (by simp) _
  have HWe : Hid (w = (w0.alloc (.cells #[.bool f, .int .i64 lim, .int .i64 st0, .string s] 23)).alloc (.cells #[.bool f', .int .i64 lim', .int .i64 st0', .string s'] 23)) := hw
  obtain ⟨hn, hlen, hok, hcell⟩ := hops.under HW.out.1
  have HC : Hid (0 < n → ∃ sb so, ao = some ⟨sb, so, none⟩ ∧ ∀ W, Below w.heap.size w W → ∀ k (hk : k < ops.length), W.cell? ⟨sb, so + k * 4, none⟩ = some (.int .i64 ops[k].k) ∧ W.cell? ⟨sb, so + k * 4 + 1, none⟩ = some (.string ops[k].t) ∧ W.cell? ⟨sb, so + k * 4 + 2, none⟩ = some (.int .i64 ops[k].a) ∧ W.cell? ⟨sb, so + k * 4 + 3, none⟩ = some (.int .i64 ops[k].b)) := hcell
  have HN : Hid (ops.length = n) := hn
  have HOK : Hid (∀ o ∈ ops, o.Ok) := hok
  clear hcell hn hok hops HT hw
  go_enter Try.func4, Try.ntmps4
  go_wp2_with fail
  rw [← HWe.out]
  refine (HM.out _).mono ?_
  rintro x w1 ⟨hb1, hp1⟩
  have HB1 : Hid (Below w.heap.size w w1) := hb1
  have hm1 : w1.heap[w0.heap.size + 1]? = some (.cells #[.bool f', .int .i64 lim', .int .i64 st0', .string s'] 23 (0, 0)) := (hb1.block _ (by have := HW.out.2.2; omega)).trans HW.out.2.1
  have hsz1 : w0.heap.size + 2 ≤ w1.heap.size := by have := HW.out.2.2; have := hb1.size; omega
  have HSZ : Hid (w0.heap.size + 2 ≤ w1.heap.size) := hsz1
  have HM1 : Hid (w1.heap[w0.heap.size + 1]? = some (.cells #[.bool f', .int .i64 lim', .int .i64 st0', .string s'] 23 (0, 0))) := hm1
  have FIN : Hid (∀ X, Below w1.heap.size w1 X → Below w0.heap.size w0 X) := fun X hX => HW.out.1.trans ((HB1.out.trans (hX.mono HB1.out.size)).mono HW.out.1.size)
  rcases hp1 with rfl | ⟨b, v, lm, s0, l, rfl, hsd, hf⟩
  · have hm1b : (w1.alloc (.cells #[.int .i64 0, .int .i64 0, .string ⟨#[]⟩] 27)).heap[w0.heap.size + 1]? = some (.cells #[.bool f', .int .i64 lim', .int .i64 st0', .string s'] 23 (0, 0)) := by rw [Below.heap_alloc _ _ _ (by omega)]; exact hm1
    have c0 : (w1.alloc (.cells #[.int .i64 0, .int .i64 0, .string ⟨#[]⟩] 27)).cell? ⟨w0.heap.size + 1, 0, none⟩ = some (.bool f') := cell_atT hm1b 0
    have c1 : (w1.alloc (.cells #[.int .i64 0, .int .i64 0, .string ⟨#[]⟩] 27)).cell? ⟨w0.heap.size + 1, 1, none⟩ = some (.int .i64 lim') := cell_atT hm1b 1
    have c2 : (w1.alloc (.cells #[.int .i64 0, .int .i64 0, .string ⟨#[]⟩] 27)).cell? ⟨w0.heap.size + 1, 2, none⟩ = some (.int .i64 st0') := cell_atT hm1b 2
    have c3 : (w1.alloc (.cells #[.int .i64 0, .int .i64 0, .string ⟨#[]⟩] 27)).cell? ⟨w0.heap.size + 1, 3, none⟩ = some (.string s') := cell_atT hm1b 3
    have HA : Hid (Below w1.heap.size w1 (w1.alloc (.cells #[.int .i64 0, .int .i64 0, .string ⟨#[]⟩] 27))) := (Below.refl _ _).alloc (Nat.le_refl _) _
    clear hm1 hm1b hb1 hsz1
    go_wp2_with fail
    refine (HM'.out _).mono ?_
    rintro x w2 ⟨hb2, hp2⟩
    have HB2 : Hid (Below w0.heap.size w0 w2 ∧ w0.heap.size ≤ w2.heap.size) := by
      have h := FIN.out _ (HA.out.trans (hb2.mono HA.out.size))
      exact ⟨h, h.size⟩
    rcases hp2 with rfl | ⟨b', v', lm', s0', l', rfl, hsd', hf'⟩
    · clear hb2
      go_wp2
      all_goals go_ret
      all_goals exact ⟨rfl, by have := HB2.out.2; repeat (first | exact HB2.out.1 | apply Below.drew | refine Below.setCell ?_ (by first | omega | (simp <;> omega)) _ | refine Below.alloc ?_ (by first | omega | (simp <;> omega)) _)⟩
    · unfold refN
      clear hb2 hsd' hf'
      go_wp2
      all_goals go_ret
      all_goals exact ⟨rfl, by have := HB2.out.2; repeat (first | exact HB2.out.1 | apply Below.drew | refine Below.setCell ?_ (by first | omega | (simp <;> omega)) _ | refine Below.alloc ?_ (by first | omega | (simp <;> omega)) _)⟩
  · have HG : Hid (Game w (w1.alloc (.cells #[.int .i64 (lm : Int), .int .i64 (s0 : Int), .string (str l)] 27)) w1.heap.size b v lm s0 l) := Pair.game1 hb1 hsd hf
    unfold refN
    have hm1b : (w1.alloc (.cells #[.int .i64 (lm : Int), .int .i64 (s0 : Int), .string (str l)] 27)).heap[w0.heap.size + 1]? = some (.cells #[.bool f', .int .i64 lim', .int .i64 st0', .string s'] 23 (0, 0)) := by rw [Below.heap_alloc _ _ _ (by omega)]; exact hm1
    have c0 : (w1.alloc (.cells #[.int .i64 (lm : Int), .int .i64 (s0 : Int), .string (str l)] 27)).cell? ⟨w0.heap.size + 1, 0, none⟩ = some (.bool f') := cell_atT hm1b 0
    have c1 : (w1.alloc (.cells #[.int .i64 (lm : Int), .int .i64 (s0 : Int), .string (str l)] 27)).cell? ⟨w0.heap.size + 1, 1, none⟩ = some (.int .i64 lim') := cell_atT hm1b 1
    have c2 : (w1.alloc (.cells #[.int .i64 (lm : Int), .int .i64 (s0 : Int), .string (str l)] 27)).cell? ⟨w0.heap.size + 1, 2, none⟩ = some (.int .i64 st0') := cell_atT hm1b 2
    have c3 : (w1.alloc (.cells #[.int .i64 (lm : Int), .int .i64 (s0 : Int), .string (str l)] 27)).cell? ⟨w0.heap.size + 1, 3, none⟩ = some (.string s') := cell_atT hm1b 3
    have HA : Hid (Below w1.heap.size w1 (w1.alloc (.cells #[.int .i64 (lm : Int), .int .i64 (s0 : Int), .string (str l)] 27))) := (Below.refl _ _).alloc (Nat.le_refl _) _
    clear hm1 hm1b hb1 hsd hf hsz1
    go_wp2_with fail
    refine (HM'.out _).mono ?_
    rintro x w2 ⟨hb2, hp2⟩
    have HB2 : Hid (Below w0.heap.size w0 w2 ∧ w0.heap.size ≤ w2.heap.size) := by
      have h := FIN.out _ (HA.out.trans (hb2.mono HA.out.size))
      exact ⟨h, h.size⟩
    rcases hp2 with rfl | ⟨b', v', lm', s0', l', rfl, hsd', hf'⟩
    · clear hb2
      go_wp2
      all_goals go_ret
      all_goals exact ⟨rfl, by have := HB2.out.2; repeat (first | exact HB2.out.1 | apply Below.drew | refine Below.setCell ?_ (by first | omega | (simp <;> omega)) _ | refine Below.alloc ?_ (by first | omega | (simp <;> omega)) _)⟩
    · have HGG : Hid (Games w (w2.alloc (.cells #[.int .i64 (lm' : Int), .int .i64 (s0' : Int), .string (str l')] 27)) w1.heap.size b v lm s0 l w2.heap.size b' v' lm' s0' l') := HG.out.second hb2 hsd' hf'
      obtain ⟨R, hR⟩ : ∃ R, w1.heap.size = R := ⟨_, rfl⟩
      have HR : Hid (w1.heap.size = R) := hR
      obtain ⟨R', hR'⟩ : ∃ R', w2.heap.size = R' := ⟨_, rfl⟩
      have HR' : Hid (w2.heap.size = R') := hR'
      unfold refN
      clear hb2 hsd' hf' hR hR' HG
      go_wp2_with fail
      rw [HR.out, HR'.out]
      go_loopg [9, 13] n (fun gh s9 s13 wx => ∃ (k : Nat) (v : Value) (st : Nat) (l : List UInt8) (v' : Value) (st' : Nat) (l' : List UInt8), k ≤ n ∧ n - k = gh ∧ s13 = .int .i64 (k : Int) ∧ s9 = .bool true ∧ Hid (Games w wx R b v lm st l R' b' v' lm' st' l'))
      case atStart => exact ⟨0, v, s0, l, v', s0', l', Nat.zero_le _, rfl, rfl, rfl, by have := HGG.out; rw [HR.out, HR'.out] at this; exact this⟩
      case round =>
        obtain ⟨k, v, st, l, v', st', l', hk, rfl, rfl, rfl, hg⟩ := hrel
        by_cases hkn : k < n
        · obtain ⟨sb, so, rfl, hcell⟩ := HC.out (by omega)
          have hko : k < ops.length := by rw [HN.out]; exact hkn
          obtain ⟨o, ho⟩ : ∃ o, ops[k] = o := ⟨_, rfl⟩
          have hc := hcell wr hg.out.one.below k hko
          rw [ho] at hc
          obtain ⟨o0, o1, o2, o3⟩ := hc
          have hoo : o.Ok := by rw [← ho]; exact HOK.out _ (List.getElem_mem _)
          have hki : (k : Int) < (n : Int) := by omega
          rcases Bool.eq_false_or_eq_true ((k : Int) % 2 == 0) with hev | hev
          · obtain ⟨st2, hst2⟩ : ∃ x, stepS o.k lm st l o.t = x := ⟨_, rfl⟩
            obtain ⟨l2, hl2⟩ : ∃ x, stepL o.k lm st l o.t = x := ⟨_, rfl⟩
            have HS : Hid (Calls Try.prog 6 #[.pointer (some ⟨b, 0, none⟩), .agg #[.int .i64 (lm : Int), .int .i64 (st : Int), .string (str l)], .agg #[.int .i64 o.k, .string o.t, .int .i64 o.a, .int .i64 o.b]] wr.drew fun x w2 => x = .returned (.tuple #[.agg #[.int .i64 (lm : Int), .int .i64 (st2 : Int), .string (str l2)], .bool true]) ∧ w2.heap[R]? = some (.cells (refC lm st l) 27 (0, 0)) ∧ ∃ v2, Games w (((w2.setCell ⟨R, 0, none⟩ (.int .i64 (lm : Int))).setCell ⟨R, 1, none⟩ (.int .i64 (st2 : Int))).setCell ⟨R, 2, none⟩ (.string (str l2))) R b v2 lm st2 l2 R' b' v' lm' st' l') := step_games hg.out.drew o hoo hst2 hl2
            have r0 := hg.out.one.cell0
            have r1 := hg.out.one.cell1
            have r2 := hg.out.one.cell2
            clear hcell ho hoo HC hst2 hl2
            go_wp2_with fail
            go_region_with (go_at_call 6; refine HS.out.mono ?_; rintro x w2 ⟨rfl, hR2, v2, hg2⟩; have HG2 : Hid (Games w (((w2.setCell ⟨R, 0, none⟩ (.int .i64 (lm : Int))).setCell ⟨R, 1, none⟩ (.int .i64 (st2 : Int))).setCell ⟨R, 2, none⟩ (.string (str l2))) R b v2 lm st2 l2 R' b' v' lm' st' l') := hg2; have p0 : w2.cell? ⟨R, 0, none⟩ = some (.int .i64 (lm : Int)) := cell_atT hR2 0; have p1 : w2.cell? ⟨R, 1, none⟩ = some (.int .i64 (st : Int)) := cell_atT hR2 1; have p2 : w2.cell? ⟨R, 2, none⟩ = some (.string (str l)) := cell_atT hR2 2; have pf := free_atT hR2; have hRR : R ≠ R' := hg2.refs; have hRR2 : R' ≠ R := Ne.symm hg2.refs; clear hR2 hg2)
            all_goals (have u0 := HG2.out.two.cell0; have u1 := HG2.out.two.cell1; have u2 := HG2.out.two.cell2; have t0 := HG2.out.one.cell0; have t1 := HG2.out.one.cell1; have t2 := HG2.out.one.cell2)
            all_goals (obtain ⟨W3, hW3⟩ : ∃ W3, W3 = (((w2.setCell ⟨R, 0, none⟩ (.int .i64 (lm : Int))).setCell ⟨R, 1, none⟩ (.int .i64 (st2 : Int))).setCell ⟨R, 2, none⟩ (.string (str l2))) := ⟨_, rfl⟩; rw [← hW3] at HG2 u0 u1 u2 t0 t1 t2; have HW3 : Hid (W3 = (((w2.setCell ⟨R, 0, none⟩ (.int .i64 (lm : Int))).setCell ⟨R, 1, none⟩ (.int .i64 (st2 : Int))).setCell ⟨R, 2, none⟩ (.string (str l2)))) := hW3; clear hW3)
            all_goals rw [← HW3.out]
            all_goals go_wp2_with fail
            all_goals (have HQ : Hid (Games w W3 R b v2 lm st2 l2 R' b' v' lm' st' l') := HG2.out; clear HG2)
            all_goals (have HAs1 : Hid (∀ W, Games w W R b v2 lm st2 l2 R' b' v' lm' st' l' → Calls Try.prog 11 #[.pointer (some ⟨b, 0, none⟩), .agg #[.int .i64 (lm : Int), .int .i64 (st2 : Int), .string (str l2)]] W fun x w' => x = .returned (.bool true) ∧ Below W.heap.size W w') := fun W hW => as_side hW.one.side)
            all_goals (have HAs2 : Hid (∀ W, Games w W R b v2 lm st2 l2 R' b' v' lm' st' l' → Calls Try.prog 11 #[.pointer (some ⟨b', 0, none⟩), .agg #[.int .i64 (lm' : Int), .int .i64 (st' : Int), .string (str l')]] W fun x w' => x = .returned (.bool true) ∧ Below W.heap.size W w') := fun W hW => as_side hW.two.side)
            all_goals (refine (HAs1.out _ HQ.out).mono ?_; rintro x w3 ⟨rfl, hb3⟩; have HQ3 : Hid (Games w w3 R b v2 lm st2 l2 R' b' v' lm' st' l') := HQ.out.more hb3; have x0 := HQ3.out.two.cell0; have x1 := HQ3.out.two.cell1; have x2 := HQ3.out.two.cell2; clear hb3)
            all_goals go_wp2_with fail
            all_goals (refine (HAs2.out _ HQ3.out).mono ?_; rintro x w4 ⟨rfl, hb4⟩; have HQ4 : Hid (Games w w4 R b v2 lm st2 l2 R' b' v' lm' st' l') := HQ3.out.more hb4; clear hb4)
            all_goals go_wp2
            all_goals (
              go_roundg (n - (k + 1))
              case measure => omega
              case rel => exact ⟨k + 1, v2, st2, l2, v', st', l', by omega, rfl, by first | rfl | go_num, rfl, HQ4⟩)
          · obtain ⟨st2, hst2⟩ : ∃ x, stepS o.k lm' st' l' o.t = x := ⟨_, rfl⟩
            obtain ⟨l2, hl2⟩ : ∃ x, stepL o.k lm' st' l' o.t = x := ⟨_, rfl⟩
            have HS : Hid (Calls Try.prog 6 #[.pointer (some ⟨b', 0, none⟩), .agg #[.int .i64 (lm' : Int), .int .i64 (st' : Int), .string (str l')], .agg #[.int .i64 o.k, .string o.t, .int .i64 o.a, .int .i64 o.b]] wr.drew fun x w2 => x = .returned (.tuple #[.agg #[.int .i64 (lm' : Int), .int .i64 (st2 : Int), .string (str l2)], .bool true]) ∧ w2.heap[R']? = some (.cells (refC lm' st' l') 27 (0, 0)) ∧ ∃ v2, Games w (((w2.setCell ⟨R', 0, none⟩ (.int .i64 (lm' : Int))).setCell ⟨R', 1, none⟩ (.int .i64 (st2 : Int))).setCell ⟨R', 2, none⟩ (.string (str l2))) R' b' v2 lm' st2 l2 R b v lm st l) := step_games hg.out.drew.flip o hoo hst2 hl2
            have r0 := hg.out.two.cell0
            have r1 := hg.out.two.cell1
            have r2 := hg.out.two.cell2
            clear hcell ho hoo HC hst2 hl2
            go_wp2_with fail
            go_region_with (go_at_call 6; refine HS.out.mono ?_; rintro x w2 ⟨rfl, hR2, v2, hg2⟩; have HG2 : Hid (Games w (((w2.setCell ⟨R', 0, none⟩ (.int .i64 (lm' : Int))).setCell ⟨R', 1, none⟩ (.int .i64 (st2 : Int))).setCell ⟨R', 2, none⟩ (.string (str l2))) R' b' v2 lm' st2 l2 R b v lm st l) := hg2; have p0 : w2.cell? ⟨R', 0, none⟩ = some (.int .i64 (lm' : Int)) := cell_atT hR2 0; have p1 : w2.cell? ⟨R', 1, none⟩ = some (.int .i64 (st' : Int)) := cell_atT hR2 1; have p2 : w2.cell? ⟨R', 2, none⟩ = some (.string (str l')) := cell_atT hR2 2; have pf := free_atT hR2; have hRR : R' ≠ R := hg2.refs; have hRR2 : R ≠ R' := Ne.symm hg2.refs; clear hR2 hg2)
            all_goals (have u0 := HG2.out.two.cell0; have u1 := HG2.out.two.cell1; have u2 := HG2.out.two.cell2; have t0 := HG2.out.one.cell0; have t1 := HG2.out.one.cell1; have t2 := HG2.out.one.cell2)
            all_goals (obtain ⟨W3, hW3⟩ : ∃ W3, W3 = (((w2.setCell ⟨R', 0, none⟩ (.int .i64 (lm' : Int))).setCell ⟨R', 1, none⟩ (.int .i64 (st2 : Int))).setCell ⟨R', 2, none⟩ (.string (str l2))) := ⟨_, rfl⟩; rw [← hW3] at HG2 u0 u1 u2 t0 t1 t2; have HW3 : Hid (W3 = (((w2.setCell ⟨R', 0, none⟩ (.int .i64 (lm' : Int))).setCell ⟨R', 1, none⟩ (.int .i64 (st2 : Int))).setCell ⟨R', 2, none⟩ (.string (str l2)))) := hW3; clear hW3)
            all_goals rw [← HW3.out]
            all_goals go_wp2_with fail
            all_goals (have HQ : Hid (Games w W3 R b v lm st l R' b' v2 lm' st2 l2) := HG2.out.flip; clear HG2)
            all_goals (have HAs1 : Hid (∀ W, Games w W R b v lm st l R' b' v2 lm' st2 l2 → Calls Try.prog 11 #[.pointer (some ⟨b, 0, none⟩), .agg #[.int .i64 (lm : Int), .int .i64 (st : Int), .string (str l)]] W fun x w' => x = .returned (.bool true) ∧ Below W.heap.size W w') := fun W hW => as_side hW.one.side)
            all_goals (have HAs2 : Hid (∀ W, Games w W R b v lm st l R' b' v2 lm' st2 l2 → Calls Try.prog 11 #[.pointer (some ⟨b', 0, none⟩), .agg #[.int .i64 (lm' : Int), .int .i64 (st2 : Int), .string (str l2)]] W fun x w' => x = .returned (.bool true) ∧ Below W.heap.size W w') := fun W hW => as_side hW.two.side)
            all_goals (refine (HAs1.out _ HQ.out).mono ?_; rintro x w3 ⟨rfl, hb3⟩; have HQ3 : Hid (Games w w3 R b v lm st l R' b' v2 lm' st2 l2) := HQ.out.more hb3; have x0 := HQ3.out.two.cell0; have x1 := HQ3.out.two.cell1; have x2 := HQ3.out.two.cell2; clear hb3)
            all_goals go_wp2_with fail
            all_goals (refine (HAs2.out _ HQ3.out).mono ?_; rintro x w4 ⟨rfl, hb4⟩; have HQ4 : Hid (Games w w4 R b v lm st l R' b' v2 lm' st2 l2) := HQ3.out.more hb4; clear hb4)
            all_goals go_wp2
            all_goals (
              go_roundg (n - (k + 1))
              case measure => omega
              case rel => exact ⟨k + 1, v, st, l, v2, st2, l2, by omega, rfl, by first | rfl | go_num, rfl, HQ4⟩)
        · obtain rfl : k = n := by omega
          have HB : Hid (Below w0.heap.size w0 wr) := HW.out.1.trans (hg.out.one.below.mono HW.out.1.size)
          clear hg HC
          go_wp2
          all_goals go_ret
          all_goals exact ⟨rfl, HB.out⟩

end Go.Proofs.Yteeakldeimhjjab
