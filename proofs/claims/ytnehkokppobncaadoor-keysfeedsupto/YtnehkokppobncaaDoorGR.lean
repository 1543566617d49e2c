/-
  Keys: the law of feeding.
  What a key that comes in is.
  What texts that come in are.
-/
import Derived.Test.YtnehkokppobncaaDoorGQ
import Derived.Test.YtnehkokppobncaaDoorGL
import Derived.Test.YtnehkokppobncaaDoorRows
import Derived.Test.YtnehkokppobncaaDoorProg
import Derived.Deep.RegionHeld3
import Derived.OpenShut
import Derived.WideShapes
import Derived.Deep.Slices
import Derived.ChangeArms
import Derived.Carry
namespace Go.Proofs.YtnehkokppobncaaDoor
open Go.RowKit
set_option linter.unusedVariables false
set_option maxRecDepth 100000

theorem fl_len : ∀ (f : Nat) (s : List UInt8), (flD f s).length ≤ f
  | 0, s => Nat.zero_le _
  | f + 1, s => by
    unfold flD
    split
    · exact Nat.zero_le _
    · split
      · exact Nat.zero_le _
      · have := fl_len f (s.drop (flP s).2)
        rw [List.length_append]
        split
        · simp only [List.length_nil]; omega
        · simp only [List.length_singleton]; omega
/-- A block that holds no bytes is written to: the decoder stands. -/
theorem Dc.other {B d : Nat} {w0 w : World} {v : Value} {l : List UInt8} (h : Dc B d w0 w v l) {b i : Nat} {T : TypeId} {cs : Array Value} {fr : Nat × Nat} (hb : w.heap[b]? = some (.cells cs T fr)) (hT : T ≠ 5) (hd : b ≠ d) (hB : B ≤ b) (u : Value) : Dc B d w0 (w.setCell ⟨b, i, none⟩ u) v l := by
  refine ⟨⟨h.ap.os, h.ap.tape, h.ap.output, by simpa [World.setCell] using h.ap.size, fun k hk hkd => ?_⟩, ?_, h.own.keep fun g hg => ?_, h.bs, h.lo⟩
  · rw [Below.heap_setCell _ _ _ _ (fun e => by have : k = b := by simpa using e
                                                omega)]
    exact h.ap.block k hk hkd
  · rw [Below.heap_setCell _ _ _ _ (fun e => hd (by have : d = b := by simpa using e
                                                    exact this.symm))]
    exact h.blk
  · rcases h.own.2 with ⟨e, _⟩ | ⟨g', cap, cur, e, _, hk, _⟩
    · rw [e] at hg; cases hg
    · rw [e] at hg; cases hg
      rw [Below.heap_setCell _ _ _ _ (fun e => by
        have e2 : g' = b := by simpa using e
        rw [e2, hb] at hk
        simp only [Option.some.injEq, Obj.cells.injEq] at hk
        exact hT hk.2.1)]
theorem below_ap {w W1 X : World} {B d : Nat} (b : Below w.heap.size w W1) (k : Ap B d W1 X) (hB : w.heap.size ≤ B) (hd : w.heap.size ≤ d) : Below w.heap.size w X :=
  ⟨k.os.trans b.os, k.tape.trans b.tape, k.output.trans b.output, Nat.le_trans b.size k.size, fun i hi => (k.block i (by omega) (by omega)).trans (b.block i hi)⟩
theorem SeeK.put {w : World} {v : Value} {ks : List (Int × Int)} (h : SeeK w v ks) {b i : Nat} (hb : ∀ g, v.ownBlock = some g → g ≠ b) (u : Value) : SeeK (w.setCell ⟨b, i, none⟩ u) v ks := by
  obtain ⟨a, c, rfl, hc⟩ := h
  refine ⟨a, c, rfl, fun hne => ?_⟩
  obtain ⟨g, o, rfl, hcell⟩ := hc hne
  refine ⟨g, o, rfl, fun j hj => ?_⟩
  have hg : g ≠ b := hb g rfl
  have hh : (w.setCell ⟨b, i, none⟩ u).heap[g]? = w.heap[g]? := Below.heap_setCell _ _ _ _ (fun e => hg (by simpa using e))
  have h1 := hcell j hj
  exact ⟨(World.cell?_of_block (a := ⟨g, o + j * 2, none⟩) hh).trans h1.1, (World.cell?_of_block (a := ⟨g, o + j * 2 + 1, none⟩) hh).trans h1.2⟩
/-- Both decoders, holding the same. -/
structure Ks (w : World) (B d Rb : Nat) (X : World) (h : List UInt8) : Prop where
  dc : ∃ v, Dc B d X X v h
  rb : X.heap[Rb]? = some (.cells #[.string (str h)] 26 (0, 0))
  below : Below w.heap.size w X
  held : feedF [] h = (h, [])
  len : h.length ≤ 255
  nums : w.heap.size ≤ d ∧ d < B ∧ B ≤ Rb ∧ w.heap.size ≤ B
theorem Ks.more {w : World} {B d Rb : Nat} {X X' : World} {h : List UInt8} (k : Ks w B d Rb X h) (hb : Below X.heap.size X X') : Ks w B d Rb X' h := by
  obtain ⟨v, hd⟩ := k.dc
  exact ⟨⟨v, (hd.more hb).rebase⟩, (hb.block _ (lt_block k.rb)).trans k.rb, below_step k.below hb, k.held, k.len, k.nums⟩
/-- Behind both calls: the one decoder's call, the other's, and what it told kept. -/
theorem Ks.next {w : World} {B d Rb : Nat} {X w1 w2 : World} {h h' : List UInt8} {lv v2 : Value} {ks : List (Int × Int)} (k : Ks w B d Rb X h) (hf : Fd B d X X w1 lv h' ks) (hb : Below w1.heap.size w1 w2) (h2 : SeeK w2 v2 ks) (hy : ∀ g, v2.ownBlock = some g → w1.heap.size ≤ g) (hh : feedF [] h' = (h', [])) (hl : h'.length ≤ 255) :
    Ks w B d Rb (w2.setCell ⟨Rb, 0, none⟩ (.string (str h'))) h' ∧ KeysAt (w2.setCell ⟨Rb, 0, none⟩ (.string (str h'))) X.heap.size lv ks ∧ SeeK (w2.setCell ⟨Rb, 0, none⟩ (.string (str h'))) v2 ks ∧ w2.cell? ⟨Rb, 0, none⟩ = some (.string (str h)) ∧ w2.frozen? ⟨Rb, 0, none⟩ = false ∧ X.heap.size ≤ w2.heap.size := by
  obtain ⟨v, hd⟩ := k.dc
  obtain ⟨v', hd'⟩ := hf.dc
  obtain ⟨n1, n2, n3, n4⟩ := k.nums
  have hlt := lt_block k.rb
  have r1 : w1.heap[Rb]? = some (.cells #[.string (str h)] 26 (0, 0)) := hf.ft Rb _ _ _ k.rb (by decide) (by omega)
  have r2 := (hb.block Rb (lt_block r1)).trans r1
  have hd2 := hd'.more hb
  refine ⟨⟨⟨v', (hd2.other r2 (by decide) (by omega) n3 _).rebase⟩, put_at r2 0 _, (below_ap k.below hd2.ap n4 n1).setCell (p := ⟨Rb, 0, none⟩) (by simp only; omega) _, hh, hl, k.nums⟩, (hf.keys.below hb).keep fun g hg => ?_, h2.put (fun g hg => ?_) _, cell_at r2 0, free_at r2 0, hd2.ap.size⟩
  · have h9 := ((hf.keys.below hb).blk hg).1
    rw [Below.heap_setCell _ _ _ _ (fun e => by have : g = Rb := by simpa using e
                                                omega)]
  · have h9 := hy g hg
    have := lt_block r1
    omega
/-- A list that is written over. -/
structure Kw (w : World) (B d Rb : Nat) (X : World) (h : List UInt8) (a : Option Addr) (n : Nat) : Prop where
  ks : Ks w B d Rb X h
  row : n ≠ 0 → ∃ g o cur, a = some ⟨g, o, none⟩ ∧ X.heap[g]? = some (.cells cur 36 (0, 0)) ∧ o + n * 2 ≤ cur.size ∧ B ≤ g
theorem Kw.put {w : World} {B d Rb : Nat} {X : World} {h : List UInt8} {g o n : Nat} (hn : n ≠ 0) (k : Kw w B d Rb X h (some ⟨g, o, none⟩) n) (i : Nat) (u : Value) : Kw w B d Rb (X.setCell ⟨g, i, none⟩ u) h (some ⟨g, o, none⟩) n := by
  obtain ⟨g', o', cur, e, hg, hsz, hB⟩ := k.row hn
  cases e
  obtain ⟨v, hd⟩ := k.ks.dc
  obtain ⟨n1, n2, n3, n4⟩ := k.ks.nums
  have hne : Rb ≠ g := fun e => by
    have h1 := k.ks.rb
    rw [e, hg] at h1
    simp only [Option.some.injEq, Obj.cells.injEq] at h1
    exact absurd h1.2.1 (by decide)
  refine ⟨⟨⟨v, (hd.other hg (by decide) (by omega) hB u).rebase⟩, ?_, k.ks.below.setCell (p := ⟨g, i, none⟩) (by simp only; omega) _, k.ks.held, k.ks.len, k.ks.nums⟩, fun _ => ⟨g, o, _, rfl, put_at hg i u, by simpa using hsz, hB⟩⟩
  rw [Below.heap_setCell _ _ _ _ (fun e => hne (by simpa using e))]
  exact k.ks.rb
theorem Kw.of {w : World} {B d Rb : Nat} {X : World} {h : List UInt8} (k : Ks w B d Rb X h) {C : Nat} {a : Option Addr} {n c : Nat} {ks : List (Int × Int)} (hk : KeysAt X C (.slice a n c) ks) (hC : B ≤ C) (hn : ks.length = n) : Kw w B d Rb X h a n := by
  refine ⟨k, fun h0 => ?_⟩
  rcases hk.2 with ⟨e, e0⟩ | ⟨g, cap, cur, e, hb, hg, h1, h2, h3, h4⟩
  · exact absurd (hn.symm.trans e0) h0
  · cases e
    exact ⟨g, 0, cur, rfl, hg, by have := Nat.mul_le_mul_right 2 h1; omega, Nat.le_trans hC hb⟩
end Go.Proofs.YtnehkokppobncaaDoor

namespace Go.Proofs.YtnehkokppobncaaDoor
open Go.RowKit Go.ChangeShapes Go.WideShapes
set_option linter.unusedVariables false
set_option maxRecDepth 100000

theorem laidOutV : laidOutB Tryd.prog = true := by kernel_rfl
theorem cellsKeyU : Tryd.prog.cellsOf 36 = 2 := by kernel_rfl
theorem cells3U : Tryd.prog.cellsOf 3 = 1 := by kernel_rfl
theorem fieldsKey : Tryd.prog.underlying 36 = some (.struct #[⟨"Code", 3, 0, false, "", "", 0⟩, ⟨"Mods", 3, 1, false, "", "", 8⟩]) := by kernel_rfl
theorem array2V {α : Type} {cs : Array α} (h : cs.size = 2) : ∃ a b, cs = #[a, b] := by
  obtain ⟨l⟩ := cs
  match l, h with
  | [a, b], _ => exact ⟨a, b, rfl⟩
theorem open_key {H : Type} {enc : TypeId × Value → H} {W : World} {r : Reach} {b0 base : Nat} {spare : Nat → Bool} {held : Bool} {v : Value} {d : DataW H} {p : List MemPlace} (hv : Value.okWide Tryd.prog W r b0 36 v) (h : DataW.Trod enc Tryd.prog W base spare held 36 v d p) :
    ∃ x y : Int, v = .agg #[.int .i64 x, .int .i64 y] ∧ p = [] := by
  obtain ⟨cs, rfl, hsz⟩ := okWide_struct fieldsKey hv
  obtain ⟨c0, c1, rfl⟩ := array2V (hsz.trans cellsKeyU)
  obtain ⟨fuel, hf⟩ := h
  obtain ⟨xs, n, _, hx, hl, hlen, hfs⟩ := DataW.trod_struct fieldsKey hf
  match xs, hlen with
  | [y0, y1], _ =>
    have t0 : DataW.trod enc Tryd.prog W base spare held n 3 [c0] = some y0 := by have h := hfs 0 _ rfl; simpa [Value.cells, cells3U] using h
    have t1 : DataW.trod enc Tryd.prog W base spare held n 3 [c1] = some y1 := by have h := hfs 1 _ rfl; simpa [Value.cells, cells3U] using h
    obtain ⟨z0, e0, rfl, w0⟩ := DataW.trod_int Tryd.underlying3 t0
    obtain ⟨z1, e1, rfl, w1⟩ := DataW.trod_int Tryd.underlying3 t1
    obtain rfl := (List.cons.inj e0).1
    obtain rfl := (List.cons.inj e1).1
    simp only [Prod.mk.injEq] at hx
    exact ⟨z0, z1, rfl, by simpa using hx.2⟩
end Go.Proofs.YtnehkokppobncaaDoor

namespace Go.Proofs.YtnehkokppobncaaDoor
open Go.RowKit Go.ChangeShapes Go.WideShapes
set_option linter.unusedVariables false
set_option maxRecDepth 100000

def wordsB (c : List (List UInt8)) : Nat := (c.map fun x => x.length + 1).sum
theorem words_mem {c : List (List UInt8)} {x : List UInt8} (h : x ∈ c) : x.length + 1 ≤ wordsB c := by
  unfold wordsB
  induction c with
  | nil => cases h
  | cons y c ih =>
    rw [List.map_cons, List.sum_cons]
    rcases List.mem_cons.1 h with e | e
    · rw [e]; omega
    · have := ih e; omega
theorem words_len (c : List (List UInt8)) : c.length ≤ wordsB c := by
  unfold wordsB
  induction c with
  | nil => exact Nat.zero_le _
  | cons y c ih => rw [List.map_cons, List.sum_cons, List.length_cons]; omega
theorem cell_blockO {w : World} {a : Addr} {v : Value} (h : w.cell? a = some v) : a.block < w.heap.size := by
  rcases Nat.lt_or_ge a.block w.heap.size with h1 | h1
  · exact h1
  · simp [World.cell?, Array.getElem?_eq_none h1] at h
theorem cellsOne : Tryd.prog.cellsOf 9 = 1 := by kernel_rfl
theorem underStrsO : Tryd.prog.underlying 22 = some (.slice 9) := by kernel_rfl
theorem add_plainO (b o j : Nat) : (⟨b, o, none⟩ : Addr).add j = ⟨b, o + j, none⟩ := by unfold Addr.add; split <;> simp_all
def StrSeeG (w : World) (v : Value) (c : List (List UInt8)) : Prop := ∃ a cap, v = .slice a c.length cap ∧ (c ≠ [] → ∃ g o, a = some ⟨g, o, none⟩ ∧ g < w.heap.size ∧ ∀ i x, c[i]? = some x → w.cell? ⟨g, o + i, none⟩ = some (.string (str x)))
theorem bulk_map {H : Type} (D : Nat → DataW H) (f : Nat → Nat) : ∀ L : List Nat, (∀ i ∈ L, f i ≤ Rows.uptoBulk (D i)) → (L.map f).sum ≤ Rows.uptoBulkAll (L.map D)
  | [], _ => Nat.zero_le _
  | i :: L, h => by
    have h1 := h i List.mem_cons_self
    have h2 := bulk_map D f L fun j hj => h j (List.mem_cons_of_mem _ hj)
    simp only [List.map_cons, List.sum_cons, Rows.uptoBulkAll]
    omega
theorem range_get {α : Type} {n i : Nat} {f : Nat → α} {x : α} (h : ((List.range n).map f)[i]? = some x) : i < n ∧ f i = x := by
  have hi := (List.getElem?_eq_some_iff.1 h).1
  rw [List.length_map, List.length_range] at hi
  refine ⟨hi, ?_⟩
  simpa [hi] using h

theorem open_words {H : Type} {enc : TypeId × Value → H} {W : World} {base : Nat} {spare : Nat → Bool} {held : Bool} {fuel : Nat} {V : Value} {D : DataW H} {Pl : List MemPlace} (h : DataW.trod enc Tryd.prog W base spare held fuel 22 [V] = some (D, Pl)) :
    ∃ c : List (List UInt8), StrSeeG W V c ∧ wordsB c + 1 ≤ Rows.uptoBulk D ∧ ∀ x ∈ Pl, x.block < W.heap.size := by
  rcases Deep.open_slice1 underStrsO cellsOne h with ⟨h0, hx⟩ | ⟨a, len, cap, m, n, V', D', Pl', h0, hb, hl, hm, hmm, hx, hall⟩
  · have hV : V = .slice none 0 0 := (List.cons.inj h0).1
    subst hV
    simp only [Prod.mk.injEq] at hx
    obtain ⟨rfl, rfl⟩ := hx
    exact ⟨[], ⟨_, _, rfl, fun hne => absurd rfl hne⟩, Nat.le_refl _, fun x hx => absurd hx List.not_mem_nil⟩
  · have hV : V = .slice (some a) len cap := (List.cons.inj h0).1
    subst hV
    simp only [Prod.mk.injEq] at hx
    obtain ⟨rfl, rfl⟩ := hx
    have hlm : len ≤ m := by rw [hmm]; split <;> omega
    have each : ∀ i, i < m → ∃ o : ByteArray, Pl' i = [] ∧ W.cell? (a.add i) = some (.string o) ∧ o.data.toList.length + 1 ≤ Rows.uptoBulk (D' i) := fun i hi => by
      obtain ⟨h1, h2⟩ := hall i hi
      obtain ⟨z, e1, e2, w1⟩ := DataW.trod_string Tryd.underlying9 h2
      simp only [Prod.mk.injEq] at e2
      refine ⟨z, e2.2, ?_, ?_⟩
      · rw [h1, (List.cons.inj e1).1]
      · rw [e2.1]
        simp [Rows.uptoBulk]
    haveI : Inhabited ByteArray := ⟨⟨#[]⟩⟩
    obtain ⟨E, hE⟩ := Deep.choose_lt each
    refine ⟨(List.range len).map fun i => (E i).data.toList, ⟨some a, cap, by rw [List.length_map, List.length_range], fun hne => ?_⟩, ?_, ?_⟩
    · have hl0 : 0 < len := by
        rcases Nat.eq_zero_or_pos len with h | h
        · subst h; exact absurd rfl hne
        · exact h
      obtain ⟨b, off, spot⟩ := a
      have g0 := (hE 0 (by omega)).2.1
      have hspot : spot = none := by
        have := World.cell?_spot g0
        simpa [Addr.add] using this
      subst hspot
      refine ⟨b, off, rfl, ?_, fun i x hx => ?_⟩
      · have := cell_blockO g0
        simpa [Addr.add] using this
      · obtain ⟨hi, e⟩ := range_get hx
        have h2 := (hE i (by omega)).2.1
        rw [add_plainO] at h2
        rw [h2, ← e]
        rfl
    · have h1 := bulk_map D' (fun i => (E i).data.toList.length + 1) (List.range len) fun i hi => (hE i (by have := List.mem_range.1 hi; omega)).2.2
      unfold wordsB
      rw [List.map_map]
      simp only [Rows.uptoBulk]
      have e : ((fun x : List UInt8 => x.length + 1) ∘ fun i => (E i).data.toList) = fun i => (E i).data.toList.length + 1 := rfl
      rw [e]
      omega
    · intro x hx
      rcases List.mem_append.1 hx with hx | hx
      · obtain ⟨i, hi, rfl⟩ := MemPlace.mem_row.1 hx
        have h0 := cell_blockO (hE 0 (by omega)).2.1
        show a.block < W.heap.size
        simpa [Addr.add] using h0
      · obtain ⟨i, hi, hx⟩ := List.mem_flatMap.1 hx
        rw [(hE i (List.mem_range.1 hi)).1] at hx
        cases hx

theorem open_lines {H : Type} {enc : TypeId × Value → H} {W : World} {r : Reach} {b0 base : Nat} {spare : Nat → Bool} {held : Bool} {v : Value} {d : DataW H} {p : List MemPlace} (hv : Value.okWide Tryd.prog W r b0 22 v) (h : DataW.Trod enc Tryd.prog W base spare held 22 v d p) :
    ∃ ls : List (List UInt8), StrSeeG W v ls ∧ wordsB ls + 1 ≤ Rows.uptoBulk d ∧ ∀ x ∈ p, x.block < W.heap.size := by
  obtain ⟨ad, len, cap, rfl⟩ := okWide_slice underStrsO hv
  obtain ⟨fuel, hf⟩ := h
  exact open_words hf
end Go.Proofs.YtnehkokppobncaaDoor
