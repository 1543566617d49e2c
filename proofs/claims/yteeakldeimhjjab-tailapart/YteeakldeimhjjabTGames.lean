/-
  The tail: two Logs beside one another, each with the document's.
-/
import Derived.Test.YteeakldeimhjjabTPlayP
namespace Go.Proofs.Yteeakldeimhjjab
open Go.RowKit Go.Lib
set_option linter.unusedVariables false

structure Games (w W : World) (R b : Nat) (v : Value) (lim st : Nat) (l : List UInt8) (R' b' : Nat) (v' : Value) (lim' st' : Nat) (l' : List UInt8) : Prop where
  one : Game w W R b v lim st l
  two : Game w W R' b' v' lim' st' l'
  refs : R ≠ R'
  apart : ∀ k ∈ foot b v, k ∉ foot b' v'
theorem Games.flip {w W : World} {R b : Nat} {v : Value} {lim st : Nat} {l : List UInt8} {R' b' : Nat} {v' : Value} {lim' st' : Nat} {l' : List UInt8} (h : Games w W R b v lim st l R' b' v' lim' st' l') : Games w W R' b' v' lim' st' l' R b v lim st l :=
  ⟨h.two, h.one, Ne.symm h.refs, fun k hk hk2 => h.apart k hk2 hk⟩
theorem Games.more {w W X : World} {R b : Nat} {v : Value} {lim st : Nat} {l : List UInt8} {R' b' : Nat} {v' : Value} {lim' st' : Nat} {l' : List UInt8} (h : Games w W R b v lim st l R' b' v' lim' st' l') (hb : Below W.heap.size W X) : Games w X R b v lim st l R' b' v' lim' st' l' :=
  ⟨h.one.more hb, h.two.more hb, h.refs, h.apart⟩
theorem Games.drew {w W : World} {R b : Nat} {v : Value} {lim st : Nat} {l : List UInt8} {R' b' : Nat} {v' : Value} {lim' st' : Nat} {l' : List UInt8} (h : Games w W R b v lim st l R' b' v' lim' st' l') : Games w W.drew R b v lim st l R' b' v' lim' st' l' :=
  ⟨h.one.drew, h.two.drew, h.refs, h.apart⟩
/-- A call to the first pair. -/
theorem Games.stepped {w W X : World} {R b : Nat} {v : Value} {lim st st2 : Nat} {l l2 : List UInt8} {R' b' : Nat} {v' : Value} {lim' st' : Nat} {l' : List UInt8} (h : Games w W R b v lim st l R' b' v' lim' st' l') (hw : Went W X b v lim st2 l2) :
    ∃ v2, Games w (((X.setCell ⟨R, 0, none⟩ (.int .i64 (lim : Int))).setCell ⟨R, 1, none⟩ (.int .i64 (st2 : Int))).setCell ⟨R, 2, none⟩ (.string (str l2))) R b v2 lim st2 l2 R' b' v' lim' st' l' ∧ X.heap[R]? = some (.cells (refC lim st l) 27 (0, 0)) := by
  obtain ⟨v2, h1, h2, h3⟩ := hw
  have hn := h.one.side.log.not_mem h.one.ref
  have hR : X.heap[R]? = some (.cells (refC lim st l) 27 (0, 0)) := (h2.block R h.one.lt hn).trans h.one.ref
  have ST := stored3 (x := .int .i64 (lim : Int)) (y := .int .i64 (st2 : Int)) (z := .string (str l2)) hR
  have hbX := h2.under h.one.below h.one.size h.one.foot
  have hf2 := foot_new h.one.foot h3 h.one.size
  have hkeep : ∀ k, k < W.heap.size → k ∉ foot b v → k ≠ R → (((X.setCell ⟨R, 0, none⟩ (.int .i64 (lim : Int))).setCell ⟨R, 1, none⟩ (.int .i64 (st2 : Int))).setCell ⟨R, 2, none⟩ (.string (str l2))).heap[k]? = W.heap[k]? := fun k hk hm hkR => (ST.2.1 k hkR).trans (h2.block k hk hm)
  have hn2 := h.two.side.log.not_mem h.one.ref
  refine ⟨v2, ⟨Game.stored h1 hR hbX hf2 h.one.young ST.1 ST.2.1 ST.2.2, ⟨?_, ?_, hbX.trans (ST.2.2 _ h.one.young), h.two.foot, h.two.young⟩, h.refs, ?_⟩, hR⟩
  · exact h.two.side.keep fun k hk => hkeep k (h.two.side.log.lt k hk) (fun hm => h.apart k hm hk) (fun e => hn2 (e ▸ hk))
  · exact (hkeep R' h.two.lt (fun hm => h.one.side.log.not_mem h.two.ref hm) (Ne.symm h.refs)).trans h.two.ref
  · intro k hk hk2
    rcases List.mem_cons.1 hk with rfl | hk
    · exact h.apart _ (by simp [foot]) hk2
    · have hk3 : v2.ownBlock = some k := by simpa using hk
      rcases h3 with h3 | h3
      · exact h.apart k (by simp [foot, ← h3, hk3]) hk2
      · have := h3 k hk3
        have := h.two.side.log.lt k hk2
        omega

theorem step_games {w W : World} {R b : Nat} {v : Value} {lim st : Nat} {l : List UInt8} {R' b' : Nat} {v' : Value} {lim' st' : Nat} {l' : List UInt8} (h : Games w W R b v lim st l R' b' v' lim' st' l') (o : OpD) (ho : o.Ok) {st2 : Nat} {l2 : List UInt8} (hst : stepS o.k lim st l o.t = st2) (hl2 : stepL o.k lim st l o.t = l2) :
    Calls Try.prog 6 #[.pointer (some ⟨b, 0, none⟩), .agg #[.int .i64 (lim : Int), .int .i64 (st : Int), .string (str l)], .agg #[.int .i64 o.k, .string o.t, .int .i64 o.a, .int .i64 o.b]] W fun x X => x = .returned (.tuple #[.agg #[.int .i64 (lim : Int), .int .i64 (st2 : Int), .string (str l2)], .bool true]) ∧
      X.heap[R]? = some (.cells (refC lim st l) 27 (0, 0)) ∧ ∃ v2, Games w (((X.setCell ⟨R, 0, none⟩ (.int .i64 (lim : Int))).setCell ⟨R, 1, none⟩ (.int .i64 (st2 : Int))).setCell ⟨R, 2, none⟩ (.string (str l2))) R b v2 lim st2 l2 R' b' v' lim' st' l' := by
  refine (step_any o.k o.t o.a o.b h.one.side ho.t ho.a.1 ho.a.2 ho.b.1 ho.b.2).mono ?_
  rintro x X ⟨rfl, hw⟩
  rw [hst, hl2] at hw ⊢
  obtain ⟨v2, hg, hR⟩ := h.stepped hw
  exact ⟨rfl, hR, v2, hg⟩
/-- A list of calls, as a walk wants it. -/
def Calls4 (w : World) (ao : Option Addr) (n : Nat) (ops : List OpD) : Prop := ops.length = n ∧ n ≤ 9223372036854775807 ∧ (∀ o ∈ ops, o.Ok) ∧ (0 < n → ∃ sb so, ao = some ⟨sb, so, none⟩ ∧ ∀ W, Below w.heap.size w W → ∀ k (hk : k < ops.length), W.cell? ⟨sb, so + k * 4, none⟩ = some (.int .i64 ops[k].k) ∧ W.cell? ⟨sb, so + k * 4 + 1, none⟩ = some (.string ops[k].t) ∧ W.cell? ⟨sb, so + k * 4 + 2, none⟩ = some (.int .i64 ops[k].a) ∧ W.cell? ⟨sb, so + k * 4 + 3, none⟩ = some (.int .i64 ops[k].b))
theorem OpsArg.calls {w : World} {sv : Value} {ops : List OpD} (hops : OpsArg w sv ops) (hok : ∀ o ∈ ops, o.Ok) : ∃ ao n cp, sv = .slice ao n cp ∧ Calls4 w ao n ops := by
  rcases hops with ⟨a, c, rfl, rfl⟩ | ⟨sb, so, cap, rfl, hb, hl, hc⟩
  · exact ⟨a, 0, c, rfl, rfl, by decide, hok, fun h => absurd h (Nat.lt_irrefl _)⟩
  · exact ⟨_, _, _, rfl, rfl, hl, hok, fun _ => ⟨sb, so, rfl, fun W hW k hk => OpsArg.at hc hb hW hk⟩⟩
theorem Calls4.under {w W : World} {ao : Option Addr} {n : Nat} {ops : List OpD} (h : Calls4 w ao n ops) (hb : Below w.heap.size w W) : Calls4 W ao n ops :=
  ⟨h.1, h.2.1, h.2.2.1, fun hn => by
    obtain ⟨sb, so, e, hc⟩ := h.2.2.2 hn
    exact ⟨sb, so, e, fun X hX k hk => hc X (hb.trans (hX.mono hb.size)) k hk⟩⟩
theorem Pair.game1 {W w1 : World} (hb : Below W.heap.size W w1) {b : Nat} {v : Value} {lim st : Nat} {l : List UInt8} (hs : Side w1 b v lim st l) (hf : ∀ k ∈ foot b v, W.heap.size ≤ k) :
    Game W (w1.alloc (.cells (refC lim st l) 27)) w1.heap.size b v lim st l := by
  have hA : Below w1.heap.size w1 (w1.alloc (.cells (refC lim st l) 27)) := (Below.refl _ _).alloc (Nat.le_refl _) _
  exact ⟨hs.below hA, heap_alloc_new w1 _, hb.trans (hA.mono hb.size), hf, hb.size⟩
/-- A second pair, made behind the first. -/
theorem Game.second {w W w1 : World} {R b : Nat} {v : Value} {lim st : Nat} {l : List UInt8} (h : Game w W R b v lim st l) (hb : Below W.heap.size W w1) {b' : Nat} {v' : Value} {lim' st' : Nat} {l' : List UInt8} (hs : Side w1 b' v' lim' st' l') (hf : ∀ k ∈ Go.Proofs.Yteeakldeimhjjab.foot b' v', W.heap.size ≤ k) :
    Games w (w1.alloc (.cells (refC lim' st' l') 27)) R b v lim st l w1.heap.size b' v' lim' st' l' := by
  have hA : Below w1.heap.size w1 (w1.alloc (.cells (refC lim' st' l') 27)) := (Below.refl _ _).alloc (Nat.le_refl _) _
  have h1 := (h.more hb).more hA
  refine ⟨h1, ⟨hs.below hA, heap_alloc_new w1 _, h1.below, fun g hg => Nat.le_trans h.size (hf g hg), (h.more hb).size⟩, ?_, fun k hk hk2 => ?_⟩
  · have := (h.more hb).lt
    omega
  · have e1 := h.side.log.lt k hk
    have e2 := hf k hk2
    omega

end Go.Proofs.Yteeakldeimhjjab
