/-
  The law's own functions: step.
-/
import Derived.Test.YtkpnolkbheoocaaQMade
import Derived.Test.YtkpnolkbheoocaaQRefE
import Derived.WalkKit
import Derived.Deep.RegionLaw
import Derived.Deep.RegionHeld3
namespace Go.Proofs.Ytkpnolkbheoocaa
open Go.RowKit
set_option linter.unusedVariables false
set_option maxRecDepth 100000

/-- A call, as it is handed in. -/
structure OpD where
  k : Int
  line : List UInt8
  lv : Value
  lines : List (List UInt8)
  pane : Int
  tick : Int
  n : Int
def OpD.vals (o : OpD) : Array Value := #[.int .i64 o.k, .string (str o.line), o.lv, .int .i64 o.pane, .int .i64 o.tick, .int .i64 o.n]
structure OpD.Ok (w : World) (o : OpD) : Prop where
  k : -9223372036854775808 ≤ o.k ∧ o.k ≤ 9223372036854775807
  line : o.line.length ≤ 9223372036854775807
  strs : Strs w o.lv o.lines
  pane : -9223372036854775808 ≤ o.pane ∧ o.pane ≤ 9223372036854775807
  tick : -9223372036854775808 ≤ o.tick ∧ o.tick ≤ 9223372036854775807
  n : -9223372036854775808 ≤ o.n ∧ o.n ≤ 9223372036854775807
/-- What a call does. -/
def stepQ (q : Qs) (o : OpD) : Qs := if o.k = 0 then putQ q [o.line] else if o.k = 1 then putQ q o.lines else if o.k = 2 then outQ q o.pane o.tick o.lines else if o.k = 3 then endQ q o.line else drainQ q o.n.toNat

/-- A queue and the document's stand side by side, younger than w. -/
structure Side (w W : World) (F : List Nat) (b : Nat) (vi : Value) (q : Qs) : Prop where
  play : Play w W F b q
  ref : ∃ its, RIn W vi its q
  off : ∀ g, vi.ownBlock = some g → w.heap.size ≤ g
theorem Side.more {w W W' : World} {F : List Nat} {b : Nat} {vi : Value} {q : Qs} (h : Side w W F b vi q) (hb : Below W.heap.size W W') : Side w W' F b vi q := by
  obtain ⟨its, hr⟩ := h.ref
  exact ⟨h.play.more hb, ⟨its, hr.below hb⟩, h.off⟩
/-- Items lie off the queue's own blocks. -/
theorem RIn.off {w : World} {F : List Nat} {b : Nat} {vi : Value} {its : List Item} {q q' : Qs} (h : RIn w vi its q) (hq : QAt w F b q') : ∀ g, vi.ownBlock = some g → g ∉ F := fun g hg => by
  obtain ⟨cur, hc⟩ := h.row.block hg
  exact hq.not_mem hc ⟨by decide, by decide, by decide⟩

theorem Strs.keep2 {w w' : World} {v : Value} {ls : List (List UInt8)} (h : Strs w v ls) (hk : ls ≠ [] → ∀ g, v.ownBlock = some g → g < w.heap.size → w'.heap[g]? = w.heap[g]?) (hs : w.heap.size ≤ w'.heap.size) : Strs w' v ls := by
  obtain ⟨ad, cap, rfl, h1, h2, h3, h4, h5⟩ := h
  refine ⟨ad, cap, rfl, h1, h2, h3, h4, fun hne => ?_⟩
  obtain ⟨g, o, rfl, h6, h7⟩ := h5 hne
  refine ⟨g, o, rfl, by omega, fun i l hl => ?_⟩
  have h8 := hk hne g rfl h6
  rw [← h7 i l hl]
  simp only [World.cell?, h8]
theorem Strs.but2 {w w' : World} {S : List Nat} {v : Value} {ls : List (List UInt8)} (h : Strs w v ls) (hb : But S w w') (hS : ls ≠ [] → ∀ g, v.ownBlock = some g → g ∉ S) : Strs w' v ls := h.keep2 (fun hne g h1 hg => hb.block g hg (hS hne g h1)) hb.size
/-- step's own three blocks, and what was there. -/
structure Own3 (W X : World) (N : Nat) (R O Z : Obj) (S : List Nat) : Prop where
  n : W.heap.size = N
  r : X.heap[N]? = some R
  o : X.heap[N + 1]? = some O
  z : X.heap[N + 2]? = some Z
  but : But S W X
theorem heap_three (w : World) (o p q : Obj) : (((w.alloc o).alloc p).alloc q).heap[w.heap.size]? = some o ∧ (((w.alloc o).alloc p).alloc q).heap[w.heap.size + 1]? = some p ∧ (((w.alloc o).alloc p).alloc q).heap[w.heap.size + 2]? = some q ∧ (((w.alloc o).alloc p).alloc q).heap.size = w.heap.size + 3 ∧ Below w.heap.size w (((w.alloc o).alloc p).alloc q) := by
  obtain ⟨h1, h2, h3, h4⟩ := heap_two w o p
  refine ⟨?_, ?_, ?_, by simp, h4.alloc (by rw [h3]; omega) q⟩
  · rw [Below.heap_alloc _ _ _ (by rw [h3]; omega)]; exact h1
  · rw [Below.heap_alloc _ _ _ (by rw [h3]; omega)]; exact h2
  · have := heap_alloc_new ((w.alloc o).alloc p) q
    rw [h3] at this
    exact this
theorem Own3.below {W X Y : World} {N : Nat} {R O Z : Obj} {S : List Nat} (h : Own3 W X N R O Z S) (hb : Below X.heap.size X Y) : Own3 W Y N R O Z S :=
  ⟨h.n, (hb.block _ (Array.getElem?_eq_some_iff.1 h.r).1).trans h.r, (hb.block _ (Array.getElem?_eq_some_iff.1 h.o).1).trans h.o, (hb.block _ (Array.getElem?_eq_some_iff.1 h.z).1).trans h.z, h.but.trans (.of hb)⟩
/-- .. behind what turns the queue alone. -/
theorem Own3.went {W X Y : World} {N : Nat} {R O Z : Obj} {F : List Nat} (h : Own3 W X N R O Z F) (hF : ∀ k ∈ F, k < W.heap.size) (hb : But F X Y) : Own3 W Y N R O Z F := by
  have hn := h.n
  have k : ∀ j, N ≤ j → j ∉ F := fun j hj hh => by have := hF j hh; omega
  exact ⟨h.n, (hb.block _ (Array.getElem?_eq_some_iff.1 h.r).1 (k _ (Nat.le_refl _))).trans h.r, (hb.block _ (Array.getElem?_eq_some_iff.1 h.o).1 (k _ (by omega))).trans h.o, (hb.block _ (Array.getElem?_eq_some_iff.1 h.z).1 (k _ (by omega))).trans h.z, h.but.trans hb⟩
/-- The situation behind the calls: both queues, step's blocks, the copy of the list. -/
structure Mid (w W X : World) (N : Nat) (F0 F : List Nat) (b : Nat) (vi : Value) (q : Qs) (vl lv : Value) (lines : List (List UInt8)) (O Z : Obj) : Prop where
  side : Side w X F b vi q
  n : w.heap.size ≤ N
  r : X.heap[N]? = some (.cells #[.int .i64 (q.lim : Int), vi, .bool q.cl] 26 (0, 0))
  o : X.heap[N + 1]? = some O
  z : X.heap[N + 2]? = some Z
  row : Row X 9 1 vl lines.length (strsV lines)
  young : ∀ g, vl.ownBlock = some g → N + 3 ≤ g
  strs : Strs X lv lines
  low : lines ≠ [] → ∀ g, lv.ownBlock = some g → g < w.heap.size
  but : But F0 W X
  hN : W.heap.size ≤ N
  new : ∀ k ∈ F, k ∈ F0 ∨ W.heap.size ≤ k
/-- .. while the copy is written over. -/
structure Over (X Y : World) (vl : Value) (lines : List (List UInt8)) (i : Nat) : Prop where
  but : But vl.ownBlock.toList X Y
  row : ∃ xs, Row Y 9 1 vl lines.length xs ∧ ∀ j, i ≤ j → xs[j]? = (strsV lines)[j]?
theorem Over.start {X : World} {vl : Value} {lines : List (List UInt8)} (h : Row X 9 1 vl lines.length (strsV lines)) : Over X X vl lines 0 := ⟨But.refl _ _, _, h, fun _ _ => rfl⟩
theorem Over.drew {X Y : World} {vl : Value} {lines : List (List UInt8)} {i : Nat} (h : Over X Y vl lines i) : Over X Y.drew vl lines i := by
  obtain ⟨xs, h1, h2⟩ := h.row
  exact ⟨h.but.drewN 1, xs, h1.drew, h2⟩
theorem Over.next {X Y : World} {g o n cap : Nat} {lines : List (List UInt8)} {i : Nat} (h : Over X Y (.slice (some ⟨g, o, none⟩) n cap) lines i) (hn : lines.length = n) (hi : i < n) (u : Value) : Over X (Y.setCell ⟨g, o + i, none⟩ u) (.slice (some ⟨g, o, none⟩) n cap) lines (i + 1) := by
  obtain ⟨xs, h1, h2⟩ := h.row
  subst hn
  refine ⟨h.but.setCell (.inl (by simp [Value.ownBlock])) _, xs.set i u, h1.set (by omega) u, fun j hj => ?_⟩
  rw [List.getElem?_set_ne (by omega)]
  exact h2 j (by omega)
theorem Over.cell {X Y : World} {ad : Option Addr} {n cap : Nat} {lines : List (List UInt8)} {i : Nat} {l : List UInt8} (h : Over X Y (.slice ad n cap) lines i) (hn : lines.length = n) (hl : lines[i]? = some l) : ∃ g o, ad = some ⟨g, o, none⟩ ∧ Y.cell? ⟨g, o + i, none⟩ = some (.string (str l)) ∧ Y.frozen? ⟨g, o + i, none⟩ = false := by
  obtain ⟨xs, h1, h2⟩ := h.row
  obtain ⟨ad', cap', e, k1, k2, k3, k4⟩ := h1.shape
  cases e
  have hlt := (List.getElem?_eq_some_iff.1 hl).1
  cases ad with
  | none => have := (k3 rfl).1; omega
  | some a =>
    obtain ⟨g, o, rfl, _, k6, k7⟩ := k4 a rfl
    obtain ⟨k8, k9⟩ := k7 Y rfl
    refine ⟨g, o, rfl, k8 i _ ?_, k9 _⟩
    rw [h2 i (Nat.le_refl _)]
    unfold strsV
    rw [List.getElem?_map, hl]
    rfl
/-- What is untouched meanwhile. -/
theorem Mid.over {w W X Y : World} {N : Nat} {F0 F : List Nat} {b : Nat} {vi : Value} {q : Qs} {vl lv : Value} {lines : List (List UInt8)} {O Z : Obj} {i : Nat} (h : Mid w W X N F0 F b vi q vl lv lines O Z) (k : Over X Y vl lines i) :
    Side w Y F b vi q ∧ Y.heap[N]? = some (.cells #[.int .i64 (q.lim : Int), vi, .bool q.cl] 26 (0, 0)) ∧ Y.heap[N + 1]? = some O ∧ Y.heap[N + 2]? = some Z ∧ Strs Y lv lines ∧ But F0 W Y := by
  obtain ⟨its, hr⟩ := h.side.ref
  have hy : ∀ g, g ∈ vl.ownBlock.toList → N + 3 ≤ g := fun g hg => h.young g (by simpa using hg)
  have hn := h.n
  have hrow : ∀ g, vl.ownBlock = some g → ∃ cur, X.heap[g]? = some (.cells cur 9 (0, 0)) := fun g hg => h.row.block hg
  have hF : ∀ g ∈ F, g ∉ vl.ownBlock.toList := fun g hg hh => by
    obtain ⟨cur, hc⟩ := hrow g (by simpa using hh)
    exact h.side.play.at_.not_mem hc ⟨by decide, by decide, by decide⟩ hg
  have hI : ∀ g, vi.ownBlock = some g → g ∉ vl.ownBlock.toList := fun g hg hh => by
    obtain ⟨cur, hc⟩ := hrow g (by simpa using hh)
    obtain ⟨cur', hc'⟩ := hr.row.block hg
    have := hc.symm.trans hc'
    simp at this
  have lt : ∀ {j o}, X.heap[j]? = some o → j < X.heap.size := fun h => (Array.getElem?_eq_some_iff.1 h).1
  refine ⟨⟨⟨h.side.play.at_.keep fun g hg => k.but.block g (h.side.play.at_.lt g hg) (hF g hg), ?_, h.side.play.young⟩, ⟨its, hr.keep fun g hg => k.but.block g (hr.row.lt g hg) (hI g hg)⟩, h.side.off⟩, ?_, ?_, ?_, ?_, ?_⟩
  · exact k.but.under h.side.play.below h.side.play.below.size (fun g hg => by have := hy g hg; omega)
  · exact (k.but.block N (lt h.r) (fun hh => by have := hy N hh; omega)).trans h.r
  · exact (k.but.block (N + 1) (lt h.o) (fun hh => by have := hy _ hh; omega)).trans h.o
  · exact (k.but.block (N + 2) (lt h.z) (fun hh => by have := hy _ hh; omega)).trans h.z
  · exact h.strs.but2 k.but fun hne g hg hh => by have h1 := hy g hh; have h2 := h.low hne g hg; omega
  · exact h.but.chain k.but fun g hg => .inr (by have h1 := hy g hg; have h2 := h.hN; omega)

/-- What step leaves. -/
def Stepped (w W w' : World) (F : List Nat) (b : Nat) (q : Qs) (x : Ending) : Prop := ∃ F' vi', x = .returned (.tuple #[refV q vi', .bool true]) ∧ Side w w' F' b vi' q ∧ But F W w' ∧ ∀ k ∈ F', k ∈ F ∨ W.heap.size ≤ k

end Go.Proofs.Ytkpnolkbheoocaa
