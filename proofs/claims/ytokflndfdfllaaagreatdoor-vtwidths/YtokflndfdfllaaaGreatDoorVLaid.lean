/-
  The table of widths, as it is laid.
-/
import Derived.Test.YtokflndfdfllaaaGreatDoorRows
import Derived.Test.YtokflndfdfllaaaGreatDoorVWid
import Derived.Deep.Slices
import Derived.Deep.MidRow
import Derived.LaidLaws
import Derived.Lib.LaidTab
import Derived.Stop.LaidErr
namespace Go.Proofs.YtokflndfdfllaaaGreatDoor
open Go.RowKit
set_option linter.unusedVariables false
set_option maxRecDepth 100000

theorem gSp : Tryz.prog.globalNamed "mullion/vt.spans" = some 0 := by kernel_rfl
theorem gSpType : (Tryz.prog.globals[0]?).map (·.type) = some 51 := by kernel_rfl
theorem cellsSp : Tryz.prog.cellsOf 52 = 3 := by kernel_rfl
theorem cells21V : Tryz.prog.cellsOf 21 = 1 := by kernel_rfl
theorem cells3V : Tryz.prog.cellsOf 3 = 1 := by kernel_rfl
def spD {H : Type} (q : Int × Int × Int) : DataW H := .agg [.lit (.int .i32 q.1), .lit (.int .i32 q.2.1), .lit (.int .i64 q.2.2)]
theorem open_span {H : Type} {enc : TypeId × Value → H} {W : World} {base : Nat} {spare : Nat → Bool} {held : Bool} {fuel : Nat} {cs : List Value} {q : Int × Int × Int} {p : List MemPlace} (h : DataW.trod enc Tryz.prog W base spare held fuel 52 cs = some (spD q, p)) :
    cs = [.int .i32 q.1, .int .i32 q.2.1, .int .i64 q.2.2] := by
  obtain ⟨xs, n, _, hx, hl, hlen, hfs⟩ := DataW.trod_struct Tryz.underlying52 h
  rw [cellsSp] at hl
  match cs, hl, xs, hlen with
  | [c0, c1, c2], _, [y0, y1, y2], _ =>
    have t0 : DataW.trod enc Tryz.prog W base spare held n 21 [c0] = some y0 := by have h := hfs 0 _ rfl; simpa [cells21V] using h
    have t1 : DataW.trod enc Tryz.prog W base spare held n 21 [c1] = some y1 := by have h := hfs 1 _ rfl; simpa [cells21V] using h
    have t2 : DataW.trod enc Tryz.prog W base spare held n 3 [c2] = some y2 := by have h := hfs 2 _ rfl; simpa [cells3V] using h
    obtain ⟨z0, e0, rfl, w0⟩ := DataW.trod_int Tryz.underlying21 t0
    obtain ⟨z1, e1, rfl, w1⟩ := DataW.trod_int Tryz.underlying21 t1
    obtain ⟨z2, e2, rfl, w2⟩ := DataW.trod_int Tryz.underlying3 t2
    obtain rfl := (List.cons.inj e0).1
    obtain rfl := (List.cons.inj e1).1
    obtain rfl := (List.cons.inj e2).1
    simp [spD] at hx
    obtain ⟨⟨h0, h1, h2⟩, _⟩ := hx
    rw [h0, h1, h2]
theorem spans_laid {W : World} {rest : List (String × DataW Unit)} (h : laidMet Tryz.prog (("mullion/vt.spans", .slice (spanL.map spD) []) :: rest) W) : ∃ g o cap, SpIn W g o cap := by
  obtain ⟨ps, ⟨g', t', cs, fuel, p, q, hg', ht', hvar, hd, _, _⟩, _⟩ := h
  obtain rfl := Option.some.inj (gSp.symm.trans hg')
  obtain rfl := Option.some.inj (gSpType.symm.trans ht')
  rcases Deep.open_slice Tryz.underlying51 hd with ⟨h0, hx⟩ | ⟨a, len, cap, m, n, D, Pl, h0, hb, hl, hm, hmm, hx, hall⟩
  · simp at hx
  · simp only [Prod.mk.injEq, DataW.slice.injEq] at hx
    obtain ⟨⟨hD, _⟩, _⟩ := hx
    have hlen : len = 24 := by
      have := congrArg List.length hD
      simp [spanL, sp, spA, spB, spC] at this
      omega
    subst hlen
    have hlm : 24 ≤ m := by rw [hmm]; split <;> omega
    rw [cellsSp] at hall
    have each : ∀ i x y z, spanL[i]? = some (x, y, z) → W.cell? ((a.add (i * 3)).add 0) = some (.int .i32 x) ∧ W.cell? ((a.add (i * 3)).add 1) = some (.int .i32 y) ∧ W.cell? ((a.add (i * 3)).add 2) = some (.int .i64 z) := fun i x y z hi => by
      have hlt : i < 24 := (List.getElem?_eq_some_iff.1 hi).1
      obtain ⟨cs', h1, h2⟩ := hall i (by omega)
      obtain ⟨_, _, hcell⟩ := World.cells?_some h1
      have hDi : D i = spD (x, y, z) := by
        have := congrArg (·[i]?) hD
        simp only [List.getElem?_map, hi, Option.map_some] at this
        rw [List.getElem?_range hlt] at this
        simpa using this.symm
      rw [hDi] at h2
      have hcs := open_span h2
      subst hcs
      exact ⟨by rw [hcell 0 (by decide)]; rfl, by rw [hcell 1 (by decide)]; rfl, by rw [hcell 2 (by decide)]; rfl⟩
    obtain ⟨b, off, spot⟩ := a
    have z0 := (each 0 _ _ _ rfl).1
    have hspot : spot = none := by
      have := World.cell?_spot z0
      simpa [Addr.add] using this
    subst hspot
    have hv := World.var?_cell gSp hvar 0
    have hv2 : cs[0]? = some (.slice (some ⟨b, off, none⟩) 24 cap) := by
      have := congrArg (·[0]?) h0
      simpa using this
    refine ⟨b, off, cap, hv.trans hv2, ?_, World.block_lt_of_cell? W _ (hv.trans hv2), fun i x y z hi => ?_⟩
    · have := World.block_lt_of_cell? W _ z0
      simpa [Addr.add] using this
    · have h3 := each i x y z hi
      simp only [Addr.add_mid, Nat.add_zero] at h3
      exact h3
end Go.Proofs.YtokflndfdfllaaaGreatDoor
