/-
  The tail: what a play's loop carries from round to round.
-/
import Derived.Test.YteeakldeimhjjabTStepL
import Derived.Test.YteeakldeimhjjabTOpen
namespace Go.Proofs.Yteeakldeimhjjab
open Go.RowKit Go.Lib
set_option linter.unusedVariables false

/-- A block of the law's own is none of the Log's. -/
theorem LogAt.not_mem {w : World} {b : Nat} {v : Value} {lim e : Nat} {l : List UInt8} (h : LogAt w b v lim e l) {R : Nat} {cs : Array Value} (hR : w.heap[R]? = some (.cells cs 27 (0, 0))) : R ∉ foot b v := by
  intro hm
  rcases List.mem_cons.1 hm with rfl | hm
  · have := hR.symm.trans h.cells
    simp at this
  · have hm2 : v.ownBlock = some R := by simpa using hm
    rcases h.bytes with ⟨rfl, _⟩ | ⟨g, o, cap, cur, rfl, hg, _⟩
    · cases hm2
    · cases hm2
      have := hR.symm.trans hg
      simp at this

def refC (lim st : Nat) (l : List UInt8) : Array Value := #[.int .i64 (lim : Int), .int .i64 (st : Int), .string (str l)]
/-- A Log and the document's, the latter in block R; all of it younger than w. -/
structure Game (w W : World) (R b : Nat) (v : Value) (lim st : Nat) (l : List UInt8) : Prop where
  side : Side W b v lim st l
  ref : W.heap[R]? = some (.cells (refC lim st l) 27 (0, 0))
  below : Below w.heap.size w W
  foot : ∀ g ∈ foot b v, w.heap.size ≤ g
  young : w.heap.size ≤ R

theorem Game.drew {w W : World} {R b : Nat} {v : Value} {lim st : Nat} {l : List UInt8} (h : Game w W R b v lim st l) : Game w W.drew R b v lim st l :=
  ⟨⟨⟨h.side.log.cells, h.side.log.bytes, h.side.log.low, h.side.log.high, h.side.log.len, h.side.log.most⟩, h.side.most⟩, h.ref, h.below.drew, h.foot, h.young⟩
theorem Game.cell0 {w W : World} {R b : Nat} {v : Value} {lim st : Nat} {l : List UInt8} (h : Game w W R b v lim st l) : W.cell? ⟨R, 0, none⟩ = some (.int .i64 (lim : Int)) := cell_atT h.ref 0
theorem Game.cell1 {w W : World} {R b : Nat} {v : Value} {lim st : Nat} {l : List UInt8} (h : Game w W R b v lim st l) : W.cell? ⟨R, 1, none⟩ = some (.int .i64 (st : Int)) := cell_atT h.ref 1
theorem Game.cell2 {w W : World} {R b : Nat} {v : Value} {lim st : Nat} {l : List UInt8} (h : Game w W R b v lim st l) : W.cell? ⟨R, 2, none⟩ = some (.string (str l)) := cell_atT h.ref 2
theorem Game.lt {w W : World} {R b : Nat} {v : Value} {lim st : Nat} {l : List UInt8} (h : Game w W R b v lim st l) : R < W.heap.size := lt_of_block h.ref
theorem Game.size {w W : World} {R b : Nat} {v : Value} {lim st : Nat} {l : List UInt8} (h : Game w W R b v lim st l) : w.heap.size ≤ W.heap.size := h.below.size

/-- Behind what makes memory alone. -/
theorem Game.more {w W W' : World} {R b : Nat} {v : Value} {lim st : Nat} {l : List UInt8} (h : Game w W R b v lim st l) (hb : Below W.heap.size W W') : Game w W' R b v lim st l :=
  ⟨h.side.below hb, (hb.block R h.lt).trans h.ref, h.below.trans (hb.mono h.size), h.foot, h.young⟩
/-- Behind a call to both, before the document's Log is stored. -/
theorem Game.went {w W W' : World} {R b : Nat} {v : Value} {lim st st' : Nat} {l l' : List UInt8} (h : Game w W R b v lim st l) (hw : Went W W' b v lim st' l') :
    ∃ v', Side W' b v' lim st' l' ∧ W'.heap[R]? = some (.cells (refC lim st l) 27 (0, 0)) ∧ Below w.heap.size w W' ∧ ∀ g ∈ Go.Proofs.Yteeakldeimhjjab.foot b v', w.heap.size ≤ g := by
  obtain ⟨v', h1, h2, h3⟩ := hw
  have hn := h.side.log.not_mem h.ref
  exact ⟨v', h1, (h2.block R h.lt hn).trans h.ref, h2.under h.below h.size h.foot, foot_new h.foot h3 h.size⟩
/-- .. and behind the store. -/
theorem Game.stored {w W : World} {R b : Nat} {v : Value} {lim st : Nat} {l : List UInt8} {cs : Array Value} {W' : World} (hs : Side W b v lim st l) (hR : W.heap[R]? = some (.cells cs 27 (0, 0))) (hb : Below w.heap.size w W) (hf : ∀ g ∈ Go.Proofs.Yteeakldeimhjjab.foot b v, w.heap.size ≤ g) (hy : w.heap.size ≤ R)
    (h1 : W'.heap[R]? = some (.cells (refC lim st l) 27 (0, 0))) (h2 : ∀ k, k ≠ R → W'.heap[k]? = W.heap[k]?) (h3 : ∀ B, B ≤ R → Below B W W') : Game w W' R b v lim st l := by
  have hn := hs.log.not_mem hR
  exact ⟨hs.keep fun g hg => h2 g (fun e => hn (e ▸ hg)), h1, hb.trans (h3 _ hy), hf, hy⟩
/-- .. in one. -/
theorem Game.stepped {w W W' : World} {R b : Nat} {v : Value} {lim st st' : Nat} {l l' : List UInt8} (h : Game w W R b v lim st l) (hw : Went W W' b v lim st' l') :
    ∃ v', Game w (((W'.setCell ⟨R, 0, none⟩ (.int .i64 (lim : Int))).setCell ⟨R, 1, none⟩ (.int .i64 (st' : Int))).setCell ⟨R, 2, none⟩ (.string (str l'))) R b v' lim st' l' ∧ W'.heap[R]? = some (.cells (refC lim st l) 27 (0, 0)) := by
  obtain ⟨v', h1, h2, h3, h4⟩ := h.went hw
  have ST := stored3 (x := .int .i64 (lim : Int)) (y := .int .i64 (st' : Int)) (z := .string (str l')) h2
  exact ⟨v', Game.stored h1 h2 h3 h4 h.young ST.1 ST.2.1 ST.2.2, h2⟩

/-- A call's cells, in a later world. -/
theorem OpsArg.at {w W : World} {b off : Nat} {l : List OpD} {k : Nat} (h : ∀ i (hi : i < l.length) j, j < 4 → w.cell? ⟨b, off + i * 4 + j, none⟩ = l[i].vals[j]?) (hb : b < w.heap.size) (hbel : Below w.heap.size w W) (hk : k < l.length) :
    W.cell? ⟨b, off + k * 4, none⟩ = some (.int .i64 l[k].k) ∧ W.cell? ⟨b, off + k * 4 + 1, none⟩ = some (.string l[k].t) ∧ W.cell? ⟨b, off + k * 4 + 2, none⟩ = some (.int .i64 l[k].a) ∧ W.cell? ⟨b, off + k * 4 + 3, none⟩ = some (.int .i64 l[k].b) :=
  ⟨(hbel.cell (p := ⟨b, off + k * 4, none⟩) hb).trans (h k hk 0 (by decide)), (hbel.cell (p := ⟨b, off + k * 4 + 1, none⟩) hb).trans (h k hk 1 (by decide)), (hbel.cell (p := ⟨b, off + k * 4 + 2, none⟩) hb).trans (h k hk 2 (by decide)), (hbel.cell (p := ⟨b, off + k * 4 + 3, none⟩) hb).trans (h k hk 3 (by decide))⟩

/-- step, the Log in block R's company. -/
theorem step_game {w W : World} {R b : Nat} {v : Value} {lim st : Nat} {l : List UInt8} (h : Game w W R b v lim st l) (o : OpD) (ho : o.Ok) :
    Calls Try.prog 6 #[.pointer (some ⟨b, 0, none⟩), .agg #[.int .i64 (lim : Int), .int .i64 (st : Int), .string (str l)], .agg #[.int .i64 o.k, .string o.t, .int .i64 o.a, .int .i64 o.b]] W fun x w' => ∃ st' l' v', st' = stepS o.k lim st l o.t ∧ l' = stepL o.k lim st l o.t ∧ x = .returned (.tuple #[.agg #[.int .i64 (lim : Int), .int .i64 (st' : Int), .string (str l')], .bool true]) ∧
      w'.heap[R]? = some (.cells (refC lim st l) 27 (0, 0)) ∧ Went W w' b v lim st' l' ∧ Game w (((w'.setCell ⟨R, 0, none⟩ (.int .i64 (lim : Int))).setCell ⟨R, 1, none⟩ (.int .i64 (st' : Int))).setCell ⟨R, 2, none⟩ (.string (str l'))) R b v' lim st' l' := by
  refine (step_any o.k o.t o.a o.b h.side ho.t ho.a.1 ho.a.2 ho.b.1 ho.b.2).mono ?_
  rintro x w' ⟨rfl, hw⟩
  obtain ⟨v', hg, hR⟩ := h.stepped hw
  exact ⟨_, _, v', rfl, rfl, rfl, hR, hw, hg⟩

end Go.Proofs.Yteeakldeimhjjab
