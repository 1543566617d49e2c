/-
  Layouts: what stands when a changed tree is laid down, on both sides.
  Layouts: Resize in the program.
  Layouts: Resize in the document.
-/
import Derived.Test.YtnepemlagnnngaaCSm
import Derived.Test.YtnepemlagnnngaaCWa
namespace Go.Proofs.Ytnepemlagnnngaa
open Go.RowKit
set_option linter.unusedVariables false
set_option maxRecDepth 20000

/-- A list and an error are answered. -/
def Ans2 (er : Int) (r : List CellV) (X : World) (e : Ending) (w' : World) : Prop := ∃ q, e = .returned (.tuple #[q, .int .i64 er]) ∧ CeOwns w' X.heap.size q r ∧ Below X.heap.size X w'
theorem below_but {W0 w1 w2 : World} {fp : List Nat} (h : Below W0.heap.size W0 w1) (hb : But fp w1 w2) (hge : ∀ q ∈ fp, W0.heap.size ≤ q) : Below W0.heap.size W0 w2 :=
  ⟨hb.os.trans h.os, hb.tape.trans h.tape, hb.output.trans h.output, Nat.le_trans h.size hb.size, fun q hq => (hb.block q (Nat.lt_of_lt_of_le hq h.size) fun e => by have := hge q e; omega).trans (h.block q hq)⟩
theorem But.drewN {S : List Nat} {w w' : World} (m : Nat) (h : But S (w.drewN m) w') : But S w w' := ⟨h.os, h.tape, h.output, h.size, h.block⟩
/-- The list of a tree, from its place on. -/
def laidL (t : Tree) : List CellV := (t.moved 0 0).tell 0
theorem lay_end {t : Tree} {v : Value} {fp : List Nat} {W0 w1 w3 : World} (h1 : Below W0.heap.size W0 w1) (hb : But fp w1 w3) (hge : ∀ q ∈ fp, W0.heap.size ≤ q) (hnd : fp.Nodup) (hA : t.At w3 0 v fp) (hs : t.sound = true) (hk : t.kinds) (hz : t.size ≤ 200) :
    Calls Try.prog 31 #[v] w3 fun e w' => ∃ u, e = .returned u ∧ CeOwns w' W0.heap.size u (laidL t) ∧ Below W0.heap.size W0 w' := by
  have h3 := below_but h1 hb hge
  refine (lay_any t 0 v fp w3 hA hnd hs (kinds_fine t hk hz) (by omega)).mono ?_
  rintro e w' ⟨u, he, hu, _, hb2⟩
  exact ⟨u, he, hu.lower h3.size, below_but h3 hb2 hge⟩
mutual
theorem cnt_of : ∀ (t : Tree), (nodeOf t).cnt = t.size
  | .leaf b p => rfl
  | .split b k ts => by
    show 1 + cnts (nodesOf ts) = 1 + sizes ts
    rw [cnts_of ts]
theorem cnts_of : ∀ (ts : List Tree), cnts (nodesOf ts) = sizes ts
  | [] => rfl
  | t :: ts => by
    show (nodeOf t).cnt + cnts (nodesOf ts) = t.size + sizes ts
    rw [cnt_of t, cnts_of ts]
end
theorem list_end {t : Tree} {W : World} {sa : Option Addr} {sn sc : Nat} {fp : List Nat} (hs : t.sound = true) (hk : t.kinds) (hz : t.size ≤ 200) (hIn : (nodeOf t).In W (.slice sa sn sc) fp) :
    Calls Try.prog 41 #[.agg (nodeV (nodeOf t) (.slice sa sn sc))] W fun e w' => ∃ u, e = .returned u ∧ CeOwns w' W.heap.size u (laidL t) ∧ Below W.heap.size W w' := by
  have hsd := t.sound_sides hs
  have h := ref_list (nodeOf t) (by rw [cnt_of]; omega) (sound_ok t hk hs) (by rw [nodeOf_w]; exact hsd.1.2) (by rw [nodeOf_h]; exact hsd.2.2) sa sn sc fp W hIn
  rw [lay_told] at h
  exact h

end Go.Proofs.Ytnepemlagnnngaa

namespace Go.Proofs.Ytnepemlagnnngaa
open Go.RowKit
set_option linter.unusedVariables false
set_option maxRecDepth 100000

/-- A tree of a list is given another size. -/
structure Resized (l : List CellV) (t t1 t2 : Tree) (a b : Int) : Prop where
  lay : IsLay l t
  one : Str t 2 (a - t.box.w) t1
  two : Str t1 3 (b - t.box.h) t2
  h1 : t1.box.h = t.box.h
  s2 : t2.sound = true
  k2 : t2.kinds
  z2 : t2.size = t.size
  low : leastT t 2 ≤ a ∧ leastT t 3 ≤ b
  side : sideB a = true ∧ sideB b = true

theorem resized_any {l : List CellV} {t : Tree} (hr : readF l = some t) (a b : Int) (ha : sideB a = true) (hb : sideB b = true) (h2 : leastT t 2 ≤ a) (h3 : leastT t 3 ≤ b) : ∃ t1 t2, Resized l t t1 t2 a b := by
  have hl := readF_lay hr
  have hz := lay_size hl
  have ha' := ha
  have hb' := hb
  simp only [sideB, Bool.and_eq_true, decide_eq_true_eq] at ha hb
  unfold leastT at h2 h3
  have hsd := t.sound_sides hl.sound
  obtain ⟨t1, e1, g1⟩ := can_str t 2 (a - t.box.w) (.inl rfl) hl.sound hl.kinds (by omega) (by change t.box.w - t.room 2 ≤ a at h2; omega) (by show t.box.w + (a - t.box.w) ≤ 1000; omega)
  have hbx : t1.box.h = t.box.h := by rw [g1.box]; rfl
  have hro := g1.other 3 (.inr rfl) (by decide)
  obtain ⟨t2, e2, g2⟩ := can_str t1 3 (b - t.box.h) (.inr rfl) g1.sound g1.kinds (by rw [g1.size]; omega) (by rw [hro]; change t.box.h - t.room 3 ≤ b at h3; omega) (by show t1.box.h + (b - t.box.h) ≤ 1000; omega)
  exact ⟨t1, t2, hl, e1, e2, hbx, g2.sound, g2.kinds, g2.size.trans g1.size, ⟨by unfold leastT; exact h2, by unfold leastT; exact h3⟩, ha', hb'⟩

theorem resP_none (v : Value) (l : List CellV) (a b : Int) (w : World) (h : CellsIn w v l) (hF : readF l = none) : Calls Try.prog 48 #[v, .int .i64 a, .int .i64 b] w (Ans2 40 [] w) := by
  have HR : Hid (Calls Try.prog 24 #[v] w fun e w' => e = .returned nilPart ∧ Below w.heap.size w w') := (read_any v l w h).mono fun e w' h => by
    rcases h with ⟨_, h1, h2⟩ | ⟨t, T, g, fp, h1, _⟩
    · exact ⟨h1, h2⟩
    · rw [hF] at h1
      cases h1
  clear h hF
  go_enter Try.func48, Try.ntmps48
  go_wp2_with fail
  refine HR.out.mono ?_
  rintro e w1 ⟨rfl, hb⟩
  unfold nilPart
  go_wp2
  go_ret2
  exact ⟨_, rfl, World.ownsRow_nil _ _ _ _, hb⟩

/-- What read answers of a layout. -/
def ReadYes (t : Tree) (w : World) (e : Ending) (w' : World) : Prop := ∃ T g fp, e = .returned (.iface T (.pointer (some ⟨g, 0, none⟩))) ∧ t.At w' 0 (.iface T (.pointer (some ⟨g, 0, none⟩))) fp ∧ fp.Nodup ∧ (∀ q ∈ fp, w.heap.size ≤ q) ∧ Below w.heap.size w w'
theorem read_yes (v : Value) (l : List CellV) (w : World) (h : CellsIn w v l) {t : Tree} (hF : readF l = some t) : Calls Try.prog 24 #[v] w (ReadYes t w) := (read_any v l w h).mono fun e w' h => by
  rcases h with ⟨h1, _⟩ | ⟨t', T, g, fp, h1, h2, h3, h4, h5, h6⟩
  · rw [hF] at h1
    cases h1
  · rw [hF] at h1
    cases h1
    exact ⟨T, g, fp, h2, h3, h4, h5, h6⟩
theorem read_no (v : Value) (l : List CellV) (w : World) (h : CellsIn w v l) (hF : readF l = none) : Calls Try.prog 24 #[v] w fun e w' => e = .returned nilPart ∧ Below w.heap.size w w' := (read_any v l w h).mono fun e w' h => by
  rcases h with ⟨_, h1, h2⟩ | ⟨t, T, g, fp, h1, _⟩
  · exact ⟨h1, h2⟩
  · rw [hF] at h1
    cases h1

theorem resP_side (v : Value) (l : List CellV) (a b : Int) (w : World) (h : CellsIn w v l) {t : Tree} (hF : readF l = some t) (hab : ¬ (sideB a = true ∧ sideB b = true)) : Calls Try.prog 48 #[v, .int .i64 a, .int .i64 b] w (Ans2 41 [] w) := by
  have HR : Hid (Calls Try.prog 24 #[v] w (ReadYes t w)) := read_yes v l w h hF
  have HI : Hid (∀ n W, Calls Try.prog 43 #[.int .i64 n] W fun e w' => e = .returned (.bool (sideB n)) ∧ W = w') := isSide_any
  obtain ⟨sa, ha⟩ : ∃ s, sideB a = s := ⟨_, rfl⟩
  obtain ⟨sb, hb⟩ : ∃ s, sideB b = s := ⟨_, rfl⟩
  have HA : Hid (∀ W, Calls Try.prog 43 #[.int .i64 a] W fun e w' => e = .returned (.bool sa) ∧ W = w') := fun W => ha ▸ isSide_any a W
  have HB : Hid (∀ W, Calls Try.prog 43 #[.int .i64 b] W fun e w' => e = .returned (.bool sb) ∧ W = w') := fun W => hb ▸ isSide_any b W
  have hab' : sa = false ∨ (sa = true ∧ sb = false) := by
    rw [ha, hb] at hab
    cases sa <;> cases sb <;> simp_all
  clear h hF ha hb hab
  go_enter Try.func48, Try.ntmps48
  go_wp2_with fail
  refine HR.out.mono ?_
  rintro e w1 ⟨T, g, fp, rfl, hAt, hnd, hge, hb⟩
  have HBl : Hid (Below w.heap.size w w1) := hb
  clear hAt hnd hge hb HR
  go_wp2_with fail
  refine (HA.out _).mono ?_
  rintro e w2 ⟨rfl, rfl⟩
  rcases hab' with rfl | ⟨rfl, rfl⟩
  · go_wp2
    go_ret2
    exact ⟨_, rfl, World.ownsRow_nil _ _ _ _, HBl.out⟩
  · go_wp2_with fail
    refine (HB.out _).mono ?_
    rintro e w2 ⟨rfl, rfl⟩
    go_wp2
    go_ret2
    exact ⟨_, rfl, World.ownsRow_nil _ _ _ _, HBl.out⟩

theorem resP_small (v : Value) (l : List CellV) (a b : Int) (w : World) (h : CellsIn w v l) {t : Tree} (hF : readF l = some t) (ha : sideB a = true) (hb : sideB b = true) (hs : a < leastT t 2 ∨ b < leastT t 3) : Calls Try.prog 48 #[v, .int .i64 a, .int .i64 b] w (Ans2 44 [] w) := by
  have HR : Hid (Calls Try.prog 24 #[v] w (ReadYes t w)) := read_yes v l w h hF
  have HA : Hid (∀ W, Calls Try.prog 43 #[.int .i64 a] W fun e w' => e = .returned (.bool true) ∧ W = w') := fun W => ha ▸ isSide_any a W
  have HB : Hid (∀ W, Calls Try.prog 43 #[.int .i64 b] W fun e w' => e = .returned (.bool true) ∧ W = w') := fun W => hb ▸ isSide_any b W
  have hl := readF_lay hF
  have hz := lay_size hl
  obtain ⟨la, hla⟩ : ∃ x, leastT t 2 = x := ⟨_, rfl⟩
  obtain ⟨lb, hlb⟩ : ∃ x, leastT t 3 = x := ⟨_, rfl⟩
  have HL2 : Hid (∀ T g fp W, t.At W 0 (.iface T (.pointer (some ⟨g, 0, none⟩))) fp → Calls Try.prog 71 #[.iface T (.pointer (some ⟨g, 0, none⟩)), .int .i64 2] W fun e w' => e = .returned (.int .i64 la) ∧ W = w') := fun T g fp W hA => hla ▸ least_any t T g fp 2 W hA hl.sound hz
  have HL3 : Hid (∀ T g fp W, t.At W 0 (.iface T (.pointer (some ⟨g, 0, none⟩))) fp → Calls Try.prog 71 #[.iface T (.pointer (some ⟨g, 0, none⟩)), .int .i64 3] W fun e w' => e = .returned (.int .i64 lb) ∧ W = w') := fun T g fp W hA => hlb ▸ least_any t T g fp 3 W hA hl.sound hz
  have hs' : a < la ∨ (¬ a < la ∧ b < lb) := by
    rw [hla, hlb] at hs
    by_cases h : a < la
    · exact .inl h
    · exact .inr ⟨h, hs.resolve_left h⟩
  clear h hF ha hb hs hl hz hla hlb
  go_enter Try.func48, Try.ntmps48
  go_wp2_with fail
  refine HR.out.mono ?_
  rintro e w1 ⟨T, g, fp, rfl, hAt, hnd, hge, hb⟩
  have HBl : Hid (Below w.heap.size w w1) := hb
  have HAt : Hid (t.At w1 0 (.iface T (.pointer (some ⟨g, 0, none⟩))) fp) := hAt
  clear hAt hnd hge hb HR
  go_wp2_with fail
  refine (HA.out _).mono ?_
  rintro e w2 ⟨rfl, rfl⟩
  go_wp2_with fail
  refine (HB.out _).mono ?_
  rintro e w2 ⟨rfl, rfl⟩
  go_wp2_with fail
  refine (HL2.out T g fp w1 HAt.out).mono ?_
  rintro e w2 ⟨rfl, rfl⟩
  rcases hs' with h | ⟨h, h'⟩
  · have hd : decide (a < la) = true := decide_eq_true (by omega)
    go_wp2
    go_ret2
    exact ⟨_, rfl, World.ownsRow_nil _ _ _ _, HBl.out⟩
  · have hd : decide (a < la) = false := decide_eq_false (by omega)
    have hd' : decide (b < lb) = true := decide_eq_true (by omega)
    go_wp2_with fail
    refine (HL3.out T g fp w1 HAt.out).mono ?_
    rintro e w2 ⟨rfl, rfl⟩
    go_wp2
    go_ret2
    exact ⟨_, rfl, World.ownsRow_nil _ _ _ _, HBl.out⟩

set_option maxHeartbeats 1000000 in
theorem resP_ok (v : Value) (l : List CellV) (a b : Int) (w : World) (h : CellsIn w v l) {t t1 t2 : Tree} (hF : readF l = some t) (hR : Resized l t t1 t2 a b) : Calls Try.prog 48 #[v, .int .i64 a, .int .i64 b] w (Ans2 0 (laidL t2) w) := by
  have HR : Hid (Calls Try.prog 24 #[v] w (ReadYes t w)) := read_yes v l w h hF
  have HA : Hid (∀ W, Calls Try.prog 43 #[.int .i64 a] W fun e w' => e = .returned (.bool true) ∧ W = w') := fun W => hR.side.1 ▸ isSide_any a W
  have HB : Hid (∀ W, Calls Try.prog 43 #[.int .i64 b] W fun e w' => e = .returned (.bool true) ∧ W = w') := fun W => hR.side.2 ▸ isSide_any b W
  have hl := hR.lay
  have hz := lay_size hl
  have hlo := hR.low
  have hsd := t.sound_sides hl.sound
  have hn1 := hR.one.ok
  have hn2 := hR.two.ok
  obtain ⟨la, hla⟩ : ∃ x, leastT t 2 = x := ⟨_, rfl⟩
  obtain ⟨lb, hlb⟩ : ∃ x, leastT t 3 = x := ⟨_, rfl⟩
  have HL2 : Hid (∀ T g fp W, t.At W 0 (.iface T (.pointer (some ⟨g, 0, none⟩))) fp → Calls Try.prog 71 #[.iface T (.pointer (some ⟨g, 0, none⟩)), .int .i64 2] W fun e w' => e = .returned (.int .i64 la) ∧ W = w') := fun T g fp W hA => hla ▸ least_any t T g fp 2 W hA hl.sound hz
  have HL3 : Hid (∀ T g fp W, t.At W 0 (.iface T (.pointer (some ⟨g, 0, none⟩))) fp → Calls Try.prog 71 #[.iface T (.pointer (some ⟨g, 0, none⟩)), .int .i64 3] W fun e w' => e = .returned (.int .i64 lb) ∧ W = w') := fun T g fp W hA => hlb ▸ least_any t T g fp 3 W hA hl.sound hz
  have hd2 : decide (a < la) = false := decide_eq_false (by omega)
  have hd3 : decide (b < lb) = false := decide_eq_false (by omega)
  obtain ⟨W0, hW0⟩ : ∃ x, t.box.w = x := ⟨_, rfl⟩
  obtain ⟨H0, hH0⟩ : ∃ x, t.box.h = x := ⟨_, rfl⟩
  have HX1 : Hid (∀ T g fp W, t.At W 0 (.iface T (.pointer (some ⟨g, 0, none⟩))) fp → fp.Nodup → ∃ Fx, (∀ X, (method 279 T (.pointer (some ⟨g, 0, none⟩)) "mullion/layout.stretch").run Try.prog X = .ok (Fx, .pointer (some ⟨g, 0, none⟩)) X) ∧ (∀ X, (nilAhead 279 T (.pointer (some ⟨g, 0, none⟩)) "mullion/layout.stretch").run Try.prog X = .ok (some false) X) ∧ (∀ a c d X, (callFunc Fx #[a, c, d]).run Try.prog X = .ok (.enter Fx #[a, c, d]) X) ∧ (∀ X, (method 279 T (.pointer (some ⟨g, 0, none⟩)) "mullion/layout.extent").run Try.prog X = .ok (27, .pointer (some ⟨g, 0, none⟩)) X) ∧ (∀ q, Calls Try.prog 27 #[.pointer (some ⟨g, 0, none⟩), .int .i64 2] (W.drewN q) fun e w' => e = .returned (.int .i64 W0) ∧ W.drewN q = w') ∧ (∀ q, Calls Try.prog Fx #[.pointer (some ⟨g, 0, none⟩), .int .i64 2, .int .i64 (a - W0)] (W.drewN q) fun e w' => e = .returned (.tuple #[]) ∧ t1.At w' 0 (.iface T (.pointer (some ⟨g, 0, none⟩))) fp ∧ But fp W w')) := by
    intro T g fp W hAt hnd
    obtain ⟨T', gi, Fx, hX⟩ := t.stretches 0 _ fp W hAt hnd
    have hv := hX.val
    cases hv
    have hbq : ∀ q, Below W.heap.size W (W.drewN q) := fun q => below_drewN (Below.refl _ _) q
    refine ⟨Fx, hX.mX, hX.nX, hX.fX, ?_, fun q => ?_, fun q => ?_⟩
    · obtain ⟨g', hv, _, _⟩ := hAt.own
      rcases hv with hv | hv
      · cases hv; exact l_extent _
      · cases hv; exact s_extent _
    · have := (leaf_or_split hAt 2 _ (hbq q)).2
      rw [show t.box.ext 2 = W0 from hW0] at this
      exact this
    · refine (hX.cX (W.drewN q) 2 (a - W0) t1 (hAt.below (hbq q)) (hW0 ▸ hR.one)).mono fun e w' h => ⟨h.1, h.2.1, h.2.2.drewN q⟩
  have HX2 : Hid (∀ T g fp W, t1.At W 0 (.iface T (.pointer (some ⟨g, 0, none⟩))) fp → fp.Nodup → ∃ Fx, (∀ X, (method 279 T (.pointer (some ⟨g, 0, none⟩)) "mullion/layout.stretch").run Try.prog X = .ok (Fx, .pointer (some ⟨g, 0, none⟩)) X) ∧ (∀ a c d X, (callFunc Fx #[a, c, d]).run Try.prog X = .ok (.enter Fx #[a, c, d]) X) ∧ (∀ q, Calls Try.prog 27 #[.pointer (some ⟨g, 0, none⟩), .int .i64 3] (W.drewN q) fun e w' => e = .returned (.int .i64 H0) ∧ W.drewN q = w') ∧ (∀ q, Calls Try.prog Fx #[.pointer (some ⟨g, 0, none⟩), .int .i64 3, .int .i64 (b - H0)] (W.drewN q) fun e w' => e = .returned (.tuple #[]) ∧ t2.At w' 0 (.iface T (.pointer (some ⟨g, 0, none⟩))) fp ∧ But fp W w')) := by
    intro T g fp W hAt hnd
    obtain ⟨T', gi, Fx, hX⟩ := t1.stretches 0 _ fp W hAt hnd
    have hv := hX.val
    cases hv
    have hbq : ∀ q, Below W.heap.size W (W.drewN q) := fun q => below_drewN (Below.refl _ _) q
    refine ⟨Fx, hX.mX, hX.fX, fun q => ?_, fun q => ?_⟩
    · have := (leaf_or_split hAt 3 _ (hbq q)).2
      rw [show t1.box.ext 3 = H0 from hR.h1.trans hH0] at this
      exact this
    · refine (hX.cX (W.drewN q) 3 (b - H0) t2 (hAt.below (hbq q)) (hH0 ▸ hR.two)).mono fun e w' h => ⟨h.1, h.2.1, h.2.2.drewN q⟩
  have HLay : Hid (∀ T g fp w1 w3, Below w.heap.size w w1 → But fp w1 w3 → (∀ q ∈ fp, w.heap.size ≤ q) → fp.Nodup → t2.At w3 0 (.iface T (.pointer (some ⟨g, 0, none⟩))) fp → Calls Try.prog 31 #[.iface T (.pointer (some ⟨g, 0, none⟩))] w3 fun e w' => ∃ u, e = .returned u ∧ CeOwns w' w.heap.size u (laidL t2) ∧ Below w.heap.size w w') := fun T g fp w1 w3 e1 e2 e3 e4 e5 => lay_end e1 e2 e3 e4 e5 hR.s2 hR.k2 (by rw [hR.z2]; omega)
  have hw1 : IntKind.i64.wrap (a - W0) = a - W0 := by have := hn1.low; have := hn1.high; rw [hW0] at *; rw [IntKind.wrap_i64]; omega
  have hw2 : IntKind.i64.wrap (b - H0) = b - H0 := by have := hn2.low; have := hn2.high; rw [hH0] at *; rw [IntKind.wrap_i64]; omega
  clear h hF hR hl hz hlo hsd hn1 hn2 hla hlb hW0 hH0
  go_enter Try.func48, Try.ntmps48
  go_wp2_with fail
  refine HR.out.mono ?_
  rintro e w1 ⟨T, g, fp, rfl, hAt, hnd, hge, hb⟩
  have HBl : Hid (Below w.heap.size w w1) := hb
  have HAt : Hid (t.At w1 0 (.iface T (.pointer (some ⟨g, 0, none⟩))) fp) := hAt
  have Hnd : Hid fp.Nodup := hnd
  have Hge : Hid (∀ q ∈ fp, w.heap.size ≤ q) := hge
  clear hAt hnd hge hb HR
  go_wp2_with fail
  refine (HA.out _).mono ?_
  rintro e w2 ⟨rfl, rfl⟩
  go_wp2_with fail
  refine (HB.out _).mono ?_
  rintro e w2 ⟨rfl, rfl⟩
  go_wp2_with fail
  refine (HL2.out T g fp w1 HAt.out).mono ?_
  rintro e w2 ⟨rfl, rfl⟩
  go_wp2_with fail
  refine (HL3.out T g fp w1 HAt.out).mono ?_
  rintro e w2 ⟨rfl, rfl⟩
  obtain ⟨Fx, m1, m2, m3, m4, hE1, hC1⟩ := HX1.out T g fp w1 HAt.out Hnd.out
  have HE1 : Hid (∀ q, Calls Try.prog 27 #[.pointer (some ⟨g, 0, none⟩), .int .i64 2] (w1.drewN q) fun e w' => e = .returned (.int .i64 W0) ∧ w1.drewN q = w') := hE1
  have HC1 : Hid (∀ q, Calls Try.prog Fx #[.pointer (some ⟨g, 0, none⟩), .int .i64 2, .int .i64 (a - W0)] (w1.drewN q) fun e w' => e = .returned (.tuple #[]) ∧ t1.At w' 0 (.iface T (.pointer (some ⟨g, 0, none⟩))) fp ∧ But fp w1 w') := hC1
  clear hE1 hC1 HX1 HA HB HL2 HL3
  go_wp2_with fail
  clear hd2 hd3
  refine wp_region_quiet_last 8 _ (by rfl) (by rfl) (by kernel_rfl) (by kernel_rfl) (by kernel_rfl) ?_
  simp only [List.take_succ_cons, List.take_zero]
  repeat (quiet_step ((go_at_call 27; exact Calls.quiet_of_same ((HE1.out _).mono fun e w' h => ⟨h.1, h.2.symm⟩))))
  refine wpQuiet_nil ?_
  intro m7 K hK
  go_simp
  refine (HC1.out m7).mono ?_
  rintro e w3 ⟨rfl, hAt1, hbt1⟩
  refine hK _ _ ?_
  clear hK
  clear K
  have HAt1 : Hid (t1.At w3 0 (.iface T (.pointer (some ⟨g, 0, none⟩))) fp) := hAt1
  have HBt1 : Hid (But fp w1 w3) := hbt1
  clear hAt1 hbt1 HC1 HE1 m1 m3
  obtain ⟨Fx2, m1, m3, hE1, hC1⟩ := HX2.out T g fp w3 HAt1.out Hnd.out
  have HE1 : Hid (∀ q, Calls Try.prog 27 #[.pointer (some ⟨g, 0, none⟩), .int .i64 3] (w3.drewN q) fun e w' => e = .returned (.int .i64 H0) ∧ w3.drewN q = w') := hE1
  have HC1 : Hid (∀ q, Calls Try.prog Fx2 #[.pointer (some ⟨g, 0, none⟩), .int .i64 3, .int .i64 (b - H0)] (w3.drewN q) fun e w' => e = .returned (.tuple #[]) ∧ t2.At w' 0 (.iface T (.pointer (some ⟨g, 0, none⟩))) fp ∧ But fp w3 w') := hC1
  clear hE1 hC1 HX2
  go_wp2_with fail
  refine wp_region_quiet_last 8 _ (by rfl) (by rfl) (by kernel_rfl) (by kernel_rfl) (by kernel_rfl) ?_
  simp only [List.take_succ_cons, List.take_zero]
  repeat (quiet_step ((go_at_call 27; exact Calls.quiet_of_same ((HE1.out _).mono fun e w' h => ⟨h.1, h.2.symm⟩))))
  refine wpQuiet_nil ?_
  intro m8 K hK
  go_simp
  refine (HC1.out m8).mono ?_
  rintro e w5 ⟨rfl, hAt2, hbt2⟩
  refine hK _ _ ?_
  clear hK
  clear K
  have HLy : Hid (Calls Try.prog 31 #[.iface T (.pointer (some ⟨g, 0, none⟩))] w5 fun e w' => ∃ u, e = .returned u ∧ CeOwns w' w.heap.size u (laidL t2) ∧ Below w.heap.size w w') := HLay.out T g fp w1 w5 HBl.out (HBt1.out.trans hbt2) Hge.out Hnd.out hAt2
  clear hAt2 hbt2 HC1 HE1 m1 m2 m3 m4
  go_wp2_with fail
  refine HLy.out.mono ?_
  rintro e w6 ⟨u, rfl, hu, hb6⟩
  have HU : Hid (CeOwns w6 w.heap.size u (laidL t2)) := hu
  have HB6 : Hid (Below w.heap.size w w6) := hb6
  clear hu hb6 HLy
  go_wp2
  go_ret2
  exact ⟨u, rfl, HU.out, HB6.out⟩

end Go.Proofs.Ytnepemlagnnngaa

namespace Go.Proofs.Ytnepemlagnnngaa
open Go.RowKit
set_option linter.unusedVariables false
set_option maxRecDepth 100000

/-- What Tree answers of a layout. -/
def TreeYes (t : Tree) (w : World) (e : Ending) (w' : World) : Prop := ∃ sa sn sc fp, e = .returned (.tuple #[.agg (nodeV (nodeOf t) (.slice sa sn sc)), .bool true]) ∧ (nodeOf t).In w' (.slice sa sn sc) fp ∧ Below w.heap.size w w'
theorem tree_yes (v : Value) (l : List CellV) (w : World) (h : CellsIn w v l) {t : Tree} (hF : readF l = some t) : Calls Try.prog 35 #[v] w (TreeYes t w) := (tree_any v l w h).mono fun e w' h => by
  obtain ⟨hb, ⟨h1, _⟩ | ⟨t', sa, sn, sc, fp, h1, h2, h3⟩⟩ := h
  · rw [hF] at h1
    cases h1
  · rw [hF] at h1
    cases h1
    exact ⟨sa, sn, sc, fp, h2, h3, hb⟩
theorem tree_no (v : Value) (l : List CellV) (w : World) (h : CellsIn w v l) (hF : readF l = none) : Calls Try.prog 35 #[v] w fun e w' => e = .returned (.tuple #[.agg zeroN, .bool false]) ∧ Below w.heap.size w w' := (tree_any v l w h).mono fun e w' h => by
  obtain ⟨hb, ⟨_, h1⟩ | ⟨t', sa, sn, sc, fp, h1, h2, h3⟩⟩ := h
  · exact ⟨h1, hb⟩
  · rw [hF] at h1
    cases h1
theorem alloc_below {W w1 : World} (h : Below W.heap.size W w1) (o : Obj) : Below W.heap.size W (w1.alloc o) := below_step h ((Below.refl _ _).alloc (Nat.le_refl _) o)

end Go.Proofs.Ytnepemlagnnngaa
