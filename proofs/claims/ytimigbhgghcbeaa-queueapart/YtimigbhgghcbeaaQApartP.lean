/-
  Two queues that are used in turns: what is carried.
-/
import Derived.Test.YtimigbhgghcbeaaQGame
namespace Go.Proofs.Ytimigbhgghcbeaa
open Go.RowKit
set_option linter.unusedVariables false
set_option maxRecDepth 100000

/-- Two of them, apart. -/
structure Games (w W : World) (R : Nat) (F : List Nat) (b : Nat) (vi : Value) (q : Qs) (R' : Nat) (F' : List Nat) (b' : Nat) (vi' : Value) (q' : Qs) : Prop where
  one : Game w W R F b vi q
  two : Game w W R' F' b' vi' q'
  apart : ∀ k ∈ F, k ∉ F'
  ne : R ≠ R'
theorem Games.turn {w W : World} {R : Nat} {F : List Nat} {b : Nat} {vi : Value} {q : Qs} {R' : Nat} {F' : List Nat} {b' : Nat} {vi' : Value} {q' : Qs} (h : Games w W R F b vi q R' F' b' vi' q') : Games w W R' F' b' vi' q' R F b vi q := ⟨h.two, h.one, fun k h1 h2 => h.apart k h2 h1, Ne.symm h.ne⟩
theorem Games.drew {w W : World} {R : Nat} {F : List Nat} {b : Nat} {vi : Value} {q : Qs} {R' : Nat} {F' : List Nat} {b' : Nat} {vi' : Value} {q' : Qs} (h : Games w W R F b vi q R' F' b' vi' q') : Games w W.drew R F b vi q R' F' b' vi' q' := ⟨h.one.drew, h.two.drew, h.apart, h.ne⟩
theorem Games.more {w W W' : World} {R : Nat} {F : List Nat} {b : Nat} {vi : Value} {q : Qs} {R' : Nat} {F' : List Nat} {b' : Nat} {vi' : Value} {q' : Qs} (h : Games w W R F b vi q R' F' b' vi' q') (hb : Below W.heap.size W W') : Games w W' R F b vi q R' F' b' vi' q' := ⟨h.one.more hb, h.two.more hb, h.apart, h.ne⟩
/-- step to the first of them. -/
theorem step_games {w W : World} {R : Nat} {F : List Nat} {b : Nat} {vi : Value} {q : Qs} {R' : Nat} {F' : List Nat} {b' : Nat} {vi' : Value} {q' : Qs} (h : Games w W R F b vi q R' F' b' vi' q') (o : OpD) (ho : o.Ok w) :
    Calls Try.prog 16 #[.pointer (some ⟨b, 0, none⟩), .agg #[.int .i64 (q.lim : Int), vi, .bool q.cl], .agg o.vals] W fun x w' => ∃ F2 a n c, x = .returned (.tuple #[.agg #[.int .i64 ((stepQ q o).lim : Int), .slice a n c, .bool (stepQ q o).cl], .bool true]) ∧ w'.heap[R]? = some (.cells #[.int .i64 (q.lim : Int), vi, .bool q.cl] 26 (0, 0)) ∧ Games w (((w'.setCell ⟨R, 0, none⟩ (.int .i64 ((stepQ q o).lim : Int))).setCell ⟨R, 1, none⟩ (.slice a n c)).setCell ⟨R, 2, none⟩ (.bool (stepQ q o).cl)) R F2 b (.slice a n c) (stepQ q o) R' F' b' vi' q' := by
  refine (step_any o h.one.side (ho.below h.one.below) (fun hne => ho.strs.low hne)).mono ?_
  intro x w' hx
  obtain ⟨F2, vi2, e, k1, k2, k3⟩ := hx
  have hR := h.one.side.play.at_.not_mem h.one.ref ⟨by decide, by decide, by decide⟩
  have hr2 := (k2.block R (lt_of_block h.one.ref) hR).trans h.one.ref
  obtain ⟨its, hr⟩ := k1.ref
  obtain ⟨a, n, c, rfl, _⟩ := hr.shape
  have ST := stored3 (x := .int .i64 ((stepQ q o).lim : Int)) (y := .slice a n c) (z := .bool (stepQ q o).cl) hr2
  obtain ⟨its', hr'⟩ := h.two.side.ref
  have hI : ∀ g, vi'.ownBlock = some g → g ∉ F := hr'.off h.one.side.play.at_
  have hR' := h.one.side.play.at_.not_mem h.two.ref ⟨by decide, by decide, by decide⟩
  have hp' := h.two.side.play
  have s2 : Side w w' F' b' vi' q' := ⟨⟨hp'.at_.keep fun g hg => k2.block g (hp'.at_.lt g hg) (fun hh => h.apart g hh hg), k1.play.below, hp'.young⟩, ⟨its', hr'.keep fun g hg => k2.block g (hr'.row.lt g hg) (hI g hg)⟩, h.two.side.off⟩
  have r2' := (k2.block R' (lt_of_block h.two.ref) hR').trans h.two.ref
  refine ⟨F2, a, n, c, e, hr2, ⟨k1.stored hr2 h.one.young ST.2.1 ST.2.2, ST.1, h.one.young⟩, ⟨s2.stored hr2 h.one.young ST.2.1 ST.2.2, (ST.2.1 R' (Ne.symm h.ne)).trans r2', h.two.young⟩, fun k hk hk' => ?_, h.ne⟩
  rcases k3 k hk with e1 | e1
  · exact h.apart k e1 hk'
  · have := hp'.at_.lt k hk'
    omega
theorem games_as {w W : World} {R : Nat} {F : List Nat} {b : Nat} {vi : Value} {q : Qs} {R' : Nat} {F' : List Nat} {b' : Nat} {vi' : Value} {q' : Qs} (h : Games w W R F b vi q R' F' b' vi' q') (x : Int) : Calls Try.prog 18 #[.pointer (some ⟨b, 0, none⟩), .agg #[.int .i64 (q.lim : Int), vi, .bool q.cl], .int .i64 x] W fun e w' => e = .returned (.bool true) ∧ Games w w' R F b vi q R' F' b' vi' q' := by
  obtain ⟨its, hr⟩ := h.one.side.ref
  exact (as_any h.one.side.play.at_ hr x).mono fun e w' k => ⟨k.1, h.more k.2⟩

end Go.Proofs.Ytimigbhgghcbeaa
