/-
  What a play's loop carries from round to round; behind.
-/
import Derived.Test.YtkpnolkbheoocaaQStepA
import Derived.WalkKit
import Derived.Deep.RegionLaw
import Derived.Deep.LoopGhost
import Derived.Deep.RegionWith
namespace Go.Proofs.Ytkpnolkbheoocaa
open Go.RowKit
set_option linter.unusedVariables false
set_option maxRecDepth 100000

/-- A queue and the document's, the latter in block R; all of it younger than w. -/
structure Game (w W : World) (R : Nat) (F : List Nat) (b : Nat) (vi : Value) (q : Qs) : Prop where
  side : Side w W F b vi q
  ref : W.heap[R]? = some (.cells #[.int .i64 (q.lim : Int), vi, .bool q.cl] 26 (0, 0))
  young : w.heap.size ≤ R
theorem Game.drew {w W : World} {R : Nat} {F : List Nat} {b : Nat} {vi : Value} {q : Qs} (h : Game w W R F b vi q) : Game w W.drew R F b vi q := by
  obtain ⟨its, hr⟩ := h.side.ref
  exact ⟨⟨⟨h.side.play.at_.drew, h.side.play.below.drew, h.side.play.young⟩, ⟨its, hr.keep fun _ _ => rfl⟩, h.side.off⟩, h.ref, h.young⟩
theorem Game.below {w W : World} {R : Nat} {F : List Nat} {b : Nat} {vi : Value} {q : Qs} (h : Game w W R F b vi q) : Below w.heap.size w W := h.side.play.below
theorem Game.more {w W W' : World} {R : Nat} {F : List Nat} {b : Nat} {vi : Value} {q : Qs} (h : Game w W R F b vi q) (hb : Below W.heap.size W W') : Game w W' R F b vi q := ⟨h.side.more hb, (hb.block R (lt_of_block h.ref)).trans h.ref, h.young⟩
theorem Game.cells {w W : World} {R : Nat} {F : List Nat} {b : Nat} {vi : Value} {q : Qs} (h : Game w W R F b vi q) : W.cell? ⟨R, 0, none⟩ = some (.int .i64 (q.lim : Int)) ∧ W.cell? ⟨R, 1, none⟩ = some vi ∧ W.cell? ⟨R, 2, none⟩ = some (.bool q.cl) ∧ ∀ o, W.frozen? ⟨R, o, none⟩ = false := ⟨cell_atT h.ref 0, cell_atT h.ref 1, cell_atT h.ref 2, fun o => free_atT h.ref o⟩
theorem Game.shape {w W : World} {R : Nat} {F : List Nat} {b : Nat} {vi : Value} {q : Qs} (h : Game w W R F b vi q) : ∃ a n c, vi = .slice a n c := by
  obtain ⟨its, hr⟩ := h.side.ref
  obtain ⟨a, n, c, e, _⟩ := hr.shape
  exact ⟨a, n, c, e⟩
theorem Side.stored {w X Y : World} {R : Nat} {F : List Nat} {b : Nat} {vi : Value} {q : Qs} {cs : Array Value} (hs : Side w X F b vi q) (hR : X.heap[R]? = some (.cells cs 26 (0, 0))) (hw : w.heap.size ≤ R) (h1 : ∀ k, k ≠ R → Y.heap[k]? = X.heap[k]?) (h2 : ∀ B, B ≤ R → Below B X Y) : Side w Y F b vi q := by
  obtain ⟨its, hr⟩ := hs.ref
  refine ⟨⟨hs.play.at_.keep fun g hg => h1 g (fun e => ?_), hs.play.below.trans (h2 _ hw), hs.play.young⟩, ⟨its, hr.keep fun g hg => h1 g (fun e => ?_)⟩, hs.off⟩
  · subst e
    exact hs.play.at_.not_mem hR ⟨by decide, by decide, by decide⟩ hg
  · obtain ⟨cur, hc⟩ := hr.row.block hg
    rw [e] at hc
    exact absurd (hc.symm.trans hR) (by simp)
theorem Game.stepped {w W w' : World} {R : Nat} {F : List Nat} {b : Nat} {vi : Value} {q q' : Qs} {x : Ending} (h : Game w W R F b vi q) (hs : Stepped w W w' F b q' x) :
    ∃ F' a n c, x = .returned (.tuple #[.agg #[.int .i64 (q'.lim : Int), .slice a n c, .bool q'.cl], .bool true]) ∧ w'.heap[R]? = some (.cells #[.int .i64 (q.lim : Int), vi, .bool q.cl] 26 (0, 0)) ∧ Game w (((w'.setCell ⟨R, 0, none⟩ (.int .i64 (q'.lim : Int))).setCell ⟨R, 1, none⟩ (.slice a n c)).setCell ⟨R, 2, none⟩ (.bool q'.cl)) R F' b (.slice a n c) q' := by
  obtain ⟨F', vi', rfl, k1, k2, k3⟩ := hs
  have hR := h.side.play.at_.not_mem h.ref ⟨by decide, by decide, by decide⟩
  have hr2 := (k2.block R (lt_of_block h.ref) hR).trans h.ref
  obtain ⟨its, hr⟩ := k1.ref
  obtain ⟨a, n, c, rfl, _⟩ := hr.shape
  have ST := stored3 (x := .int .i64 (q'.lim : Int)) (y := .slice a n c) (z := .bool q'.cl) hr2
  exact ⟨F', a, n, c, rfl, hr2, k1.stored hr2 h.young ST.2.1 ST.2.2, ST.1, h.young⟩
theorem step_game {w W : World} {R : Nat} {F : List Nat} {b : Nat} {vi : Value} {q : Qs} (h : Game w W R F b vi q) (o : OpD) (ho : o.Ok w) :
    Calls Try.prog 26 #[.pointer (some ⟨b, 0, none⟩), .agg #[.int .i64 (q.lim : Int), vi, .bool q.cl], .agg o.vals] W fun x w' => ∃ F' a n c, x = .returned (.tuple #[.agg #[.int .i64 ((stepQ q o).lim : Int), .slice a n c, .bool (stepQ q o).cl], .bool true]) ∧ w'.heap[R]? = some (.cells #[.int .i64 (q.lim : Int), vi, .bool q.cl] 26 (0, 0)) ∧ Game w (((w'.setCell ⟨R, 0, none⟩ (.int .i64 ((stepQ q o).lim : Int))).setCell ⟨R, 1, none⟩ (.slice a n c)).setCell ⟨R, 2, none⟩ (.bool (stepQ q o).cl)) R F' b (.slice a n c) (stepQ q o) :=
  (step_any o h.side (ho.below h.below) (fun hne => ho.strs.low hne)).mono fun x w' hx => h.stepped hx
/-- made, behind it the document's queue laid in a block of its own. -/
theorem Pair.game {w W w1 : World} {n : Nat} {F : List Nat} {b : Nat} (hb : Below w.heap.size w W) (hp : Play W w1 F b (newQ n)) : Game w (w1.alloc (.cells #[.int .i64 (n : Int), .slice none 0 0, .bool false] 26)) w1.heap.size F b (.slice none 0 0) (newQ n) := by
  have hA : Below w1.heap.size w1 (w1.alloc (.cells #[.int .i64 (n : Int), .slice none 0 0, .bool false] 26)) := (Below.refl _ _).alloc (Nat.le_refl _) _
  have hw : Below w.heap.size w w1 := hb.trans (hp.below.mono hb.size)
  have hp2 : Play w w1 F b (newQ n) := ⟨hp.at_, hw, fun k hk => Nat.le_trans hb.size (hp.young k hk)⟩
  exact ⟨⟨hp2.more hA, ⟨[], newR _ n⟩, fun g hg => by cases hg⟩, heap_alloc_new w1 _, hw.size⟩

/-- .. of an older world. -/
theorem Side.down {w W1 X : World} {F : List Nat} {b : Nat} {vi : Value} {q : Qs} (h : Side W1 X F b vi q) (hb : Below w.heap.size w W1) : Side w X F b vi q :=
  ⟨⟨h.play.at_, hb.trans (h.play.below.mono hb.size), fun k hk => Nat.le_trans hb.size (h.play.young k hk)⟩, h.ref, fun g hg => Nat.le_trans hb.size (h.off g hg)⟩
/-- The cells of a list of calls, in a later world. -/
theorem OpsArg.open_ {w : World} {v : Value} {ops : List OpD} (h : OpsArg w v ops) : ∃ ad n cap, v = .slice ad n cap ∧ ops.length = n ∧ n ≤ 9223372036854775807 ∧ (∀ o ∈ ops, o.Ok w) ∧ ∀ W, Below w.heap.size w W → ∀ (i : Nat) (o : OpD), ops[i]? = some o → ∃ g p, ad = some ⟨g, p, none⟩ ∧ W.cell? ⟨g, p + i * 6, none⟩ = some (.int .i64 o.k) ∧ W.cell? ⟨g, p + i * 6 + 1, none⟩ = some (.string (str o.line)) ∧ W.cell? ⟨g, p + i * 6 + 2, none⟩ = some o.lv ∧ W.cell? ⟨g, p + i * 6 + 3, none⟩ = some (.int .i64 o.pane) ∧ W.cell? ⟨g, p + i * 6 + 4, none⟩ = some (.int .i64 o.tick) ∧ W.cell? ⟨g, p + i * 6 + 5, none⟩ = some (.int .i64 o.n) := by
  obtain ⟨ad, n, cap, rfl, hn, hn1, hok, hc⟩ := h
  refine ⟨ad, n, cap, rfl, hn, by omega, hok, fun W hW i o ho => ?_⟩
  have hlt := (List.getElem?_eq_some_iff.1 ho).1
  obtain ⟨g, p, rfl, hg, hcell⟩ := hc (by omega)
  have k : ∀ j, j < 6 → W.cell? ⟨g, p + i * 6 + j, none⟩ = o.vals[j]? := fun j hj => (hW.cell (p := ⟨g, p + i * 6 + j, none⟩) hg).trans (hcell i o ho j hj)
  exact ⟨g, p, rfl, k 0 (by decide), k 1 (by decide), k 2 (by decide), k 3 (by decide), k 4 (by decide), k 5 (by decide)⟩

theorem OpsArg.few {w : World} {v : Value} {ops : List OpD} (h : OpsArg w v ops) : ops.length ≤ 8796093022208 := by
  obtain ⟨_, _, _, _, rfl, h1, _⟩ := h
  exact h1

/-- What behind leaves. -/
def Behind (w w' : World) (x : Ending) : Prop := Below w.heap.size w w' ∧ (x = .returned (.tuple #[.pointer none, .agg #[.int .i64 0, .slice none 0 0, .bool false], .bool true]) ∨ ∃ F b a n c q, x = .returned (.tuple #[.pointer (some ⟨b, 0, none⟩), .agg #[.int .i64 (q.lim : Int), .slice a n c, .bool q.cl], .bool true]) ∧ Side w w' F b (.slice a n c) q)

set_option maxHeartbeats 4000000 in
theorem behind_any (lim : Int) (sv : Value) (ops : List OpD) (w : World) (hops : OpsArg w sv ops) :
    Calls Try.prog 12 #[.int .i64 lim, sv] w fun x w' => Behind w w' x := by
  have HM : Hid (∀ W, Calls Try.prog 6 #[.int .i64 lim] W fun x w' => Pair W w' x) := made_any lim
  obtain ⟨W1, hW1⟩ : ∃ W1, w.alloc (.cells #[.int .i64 0, .slice none 0 0, .bool false] 26) = W1 := ⟨_, rfl⟩
  obtain ⟨N0, hN0⟩ : ∃ N0, w.heap.size = N0 := ⟨_, rfl⟩
  have HW1 := hidK hW1
  have HN0 := hidK hN0
  have hb0 : Below w.heap.size w W1 := by rw [← hW1]; exact (Below.refl _ _).alloc (Nat.le_refl _) _
  have HZ : Hid (W1.heap[N0]? = some (.cells #[.int .i64 0, .slice none 0 0, .bool false] 26 (0, 0))) := by
    have h := heap_alloc_new w (.cells #[.int .i64 0, .slice none 0 0, .bool false] 26)
    rw [hW1, hN0] at h
    exact h
  have HB0 := hidK hb0
  obtain ⟨ao, n, cp, rfl, hn, hlen, hok, hcell⟩ := hops.open_
  have HC := hidK hcell
  have HN : Hid (ops.length = n) := hn
  have HOK : Hid (∀ o ∈ ops, o.Ok W1) := fun o ho => (hok o ho).below hb0
  have HFi : Hid (∀ X, Below W1.heap.size W1 X → Below w.heap.size w X ∧ X.heap[N0]? = some (.cells #[.int .i64 0, .slice none 0 0, .bool false] 26 (0, 0))) := fun X hX => ⟨hb0.trans (hX.mono hb0.size), (hX.block N0 (lt_of_block HZ.out)).trans HZ.out⟩
  clear hcell hn hops hok hW1 hN0 hb0
  go_enter Try.func12, Try.ntmps12
  go_wp2_with fail
  rw [HW1.out]
  refine (HM.out _).mono ?_
  rintro x w1 ⟨hb1, rfl | ⟨m, F, b, hm, rfl, hp⟩⟩
  · have hA : Below w1.heap.size w1 (w1.alloc (.cells #[.int .i64 0, .slice none 0 0, .bool false] 26)) := (Below.refl _ _).alloc (Nat.le_refl _) _
    obtain ⟨W2, hW2⟩ : ∃ W2, w1.alloc (.cells #[.int .i64 0, .slice none 0 0, .bool false] 26) = W2 := ⟨_, rfl⟩
    obtain ⟨R, hR⟩ : ∃ R, w1.heap.size = R := ⟨_, rfl⟩
    have hr2 : W2.heap[R]? = some (.cells #[.int .i64 0, .slice none 0 0, .bool false] 26 (0, 0)) := by rw [← hW2, ← hR]; exact heap_alloc_new w1 _
    rw [hW2] at hA
    have HF2 := hidK (HFi.out W2 (hb1.trans (hA.mono hb1.size)))
    have hne : N0 ≠ R := by have h1 := hb1.size; have h2 := lt_of_block HZ.out; omega
    have hne2 : R ≠ N0 := Ne.symm hne
    have r0 : W2.cell? ⟨R, 0, none⟩ = some (.int .i64 0) := cell_atT hr2 0
    have r1 : W2.cell? ⟨R, 1, none⟩ = some (.slice none 0 0) := cell_atT hr2 1
    have r2 : W2.cell? ⟨R, 2, none⟩ = some (.bool false) := cell_atT hr2 2
    obtain ⟨z0, z1, z2, zf⟩ := res_cells HF2.out.2
    have HW2 := hidK hW2
    have HR := hidK hR
    clear hA hW2 hR hr2 hb1
    go_wp2_with fail
    rw [HN0.out]
    rw [HW2.out, HR.out]
    refine wp_loop_rounds 1 ?_
    rw [rounds_succ]
    go_wp2_with fail
    go_region
    all_goals (try go_wp2_with fail)
    all_goals (have SF := stored3 (w := W2) (x := .int .i64 0) (y := .slice none 0 0) (z := .bool false) HF2.out.2)
    all_goals (have t0 := cell_atT SF.1 0; have t1 := cell_atT SF.1 1; have t2 := cell_atT SF.1 2)
    all_goals refine bodyPost_ret (v := .tuple #[.pointer none, .agg #[.int .i64 0, .slice none 0 0, .bool false], .bool true]) (by simp [results, Try.results12, go_sem, t0, t1, t2]) rfl ?_
    all_goals exact ⟨(HF2.out.1.trans (SF.2.2 _ (by have := HN0.out; omega))).drew, .inl rfl⟩
  · have HG := hidK (Pair.game (Below.refl _ W1) hp)
    obtain ⟨R, hR⟩ : ∃ R, w1.heap.size = R := ⟨_, rfl⟩
    have HR := hidK hR
    have hne : N0 ≠ R := by have h1 := hb1.size; have h2 := lt_of_block HZ.out; omega
    clear hb1 hp hR
    go_wp2_with fail
    rw [HN0.out]
    rw [HR.out]
    go_loopw [10] (fun s10 wx => ∃ (k : Nat) (F : List Nat) (vi : Value) (q : Qs), k ≤ n ∧ s10 = .int .i64 (k : Int) ∧ Hid (Game W1 wx R F b vi q)) (fun v _ => n - (intOf v).toNat)
    case atStart => exact ⟨0, F, _, _, Nat.zero_le _, rfl, by have := HG.out; rw [HR.out] at this; exact this⟩
    case round =>
      obtain ⟨k, F, vi, q, hk, rfl, hg⟩ := hrel
      obtain ⟨a3, n3, c3, rfl⟩ := hg.out.shape
      obtain ⟨r0, r1, r2, rf⟩ := hg.out.cells
      by_cases hkn : k < n
      · obtain ⟨o, ho⟩ : ∃ o, ops[k]? = some o := ⟨_, List.getElem?_eq_getElem (by rw [HN.out]; exact hkn)⟩
        obtain ⟨g, p, rfl, o0, o1, o2, o3, o4, o5⟩ := HC.out wr (HFi.out wr hg.out.below).1 k o ho
        have hoo := HOK.out o (List.mem_of_getElem? ho)
        have HS := hidK (step_game hg.out.drew o hoo)
        unfold OpD.vals at HS
        clear ho hoo
        go_wp2_with fail
        go_region_law (go_simp; go_at_call 26; refine HS.out.mono ?_; rintro x w2 ⟨F', a, n2, c, rfl, hR2, hg2⟩; have HG2 := hidK hg2; have p0 : w2.cell? ⟨R, 0, none⟩ = some (.int .i64 (q.lim : Int)) := cell_atT hR2 0; have p1 : w2.cell? ⟨R, 1, none⟩ = some (.slice a3 n3 c3) := cell_atT hR2 1; have p2 : w2.cell? ⟨R, 2, none⟩ = some (.bool q.cl) := cell_atT hR2 2; have pf := free_atT hR2; clear hR2 hg2)
        all_goals (
          go_wp2_with fail
          go_roundw
          case rel => exact ⟨k + 1, F', _, _, by omega, by go_num, HG2⟩
          case measure => simp [intOf]; omega)
      · obtain rfl : k = n := by omega
        have HF2 := hidK (HFi.out wr hg.out.below)
        obtain ⟨z0, z1, z2, zf⟩ := res_cells HF2.out.2
        have hne2 : R ≠ N0 := Ne.symm hne
        have HSd := hidK hg.out.side
        clear hg
        go_wp2_with fail
        go_region
        all_goals (try go_wp2_with fail)
        all_goals (have SF := stored3 (w := wr) (x := .int .i64 (q.lim : Int)) (y := .slice a3 n3 c3) (z := .bool q.cl) HF2.out.2)
        all_goals (have t0 := cell_atT SF.1 0; have t1 := cell_atT SF.1 1; have t2 := cell_atT SF.1 2)
        all_goals refine bodyPost_ret (v := .tuple #[.pointer (some ⟨b, 0, none⟩), .agg #[.int .i64 (q.lim : Int), .slice a3 n3 c3, .bool q.cl], .bool true]) (by simp [results, Try.results12, go_sem, t0, t1, t2]) rfl ?_
        all_goals (have hsd := (HSd.out.down HB0.out).stored HF2.out.2 (by have := HN0.out; omega) SF.2.1 SF.2.2)
        all_goals exact ⟨(HF2.out.1.trans (SF.2.2 _ (by have := HN0.out; omega))).drew, .inr ⟨F, b, a3, n3, c3, q, rfl, hsd.more ((Below.refl _ _).drew)⟩⟩

end Go.Proofs.Ytkpnolkbheoocaa
