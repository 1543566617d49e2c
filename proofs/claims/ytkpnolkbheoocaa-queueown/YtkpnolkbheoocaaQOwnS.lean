/-
  Two rows of numbers and what was grown out of each.
-/
import Derived.Test.YtkpnolkbheoocaaQOwnM
namespace Go.Proofs.Ytkpnolkbheoocaa
open Go.RowKit
set_option linter.unusedVariables false
set_option maxRecDepth 20000

theorem own_slice (ad : Option Addr) (n m cap : Nat) : (Value.slice ad n cap).ownBlock = (Value.slice ad m cap).ownBlock := by cases ad <;> rfl
/-- A row, and what was grown out of it. -/
structure Track (W : World) (va vc : Value) (n j : Nat) (x y : Int) : Prop where
  ra : ∃ xs, Row W 3 1 va n xs ∧ ∀ k, k < n → xs[k]? = some (.int .i64 x)
  rc : ∃ xs, Row W 3 1 vc (n + j) xs ∧ (∀ k, k < n → xs[k]? = some (.int .i64 x)) ∧ ∀ k, n ≤ k → k < n + j → xs[k]? = some (.int .i64 y)
  base : (∃ ad cap, va = .slice ad n cap ∧ vc = .slice ad (n + j) cap) ∨ ∀ g, vc.ownBlock = some g → va.ownBlock = some g → False
def OnT (va vc : Value) (g : Nat) : Prop := va.ownBlock = some g ∨ vc.ownBlock = some g
theorem Track.lt {W : World} {va vc : Value} {n j : Nat} {x y : Int} (h : Track W va vc n j x y) {g : Nat} (hg : OnT va vc g) : g < W.heap.size := by
  obtain ⟨_, a1, _⟩ := h.ra
  obtain ⟨_, c1, _⟩ := h.rc
  rcases hg with hg | hg
  · exact a1.lt g hg
  · exact c1.lt g hg
theorem Track.keep {W W' : World} {va vc : Value} {n j : Nat} {x y : Int} (h : Track W va vc n j x y) (hk : ∀ g, OnT va vc g → W'.heap[g]? = W.heap[g]?) : Track W' va vc n j x y := by
  obtain ⟨xa, a1, a2⟩ := h.ra
  obtain ⟨xc, c1, c2⟩ := h.rc
  exact ⟨⟨xa, a1.keep fun g hg => hk g (.inl hg), a2⟩, ⟨xc, c1.keep fun g hg => hk g (.inr hg), c2⟩, h.base⟩
theorem Track.start {W : World} {va : Value} {n : Nat} {x : Int} (y : Int) (h : ∃ xs, Row W 3 1 va n xs ∧ ∀ k, k < n → xs[k]? = some (.int .i64 x)) : Track W va va n 0 x y := by
  obtain ⟨xa, a1, a2⟩ := h
  refine ⟨⟨xa, a1, a2⟩, ⟨xa, a1, a2, fun k h1 h2 => by omega⟩, ?_⟩
  obtain ⟨ad, cap, rfl⟩ := a1.sliced
  exact .inl ⟨ad, cap, rfl, rfl⟩
theorem Track.grow {W W' : World} {va vc v' : Value} {n j : Nat} {x y : Int} (h : Track W va vc n j x y) {xs : List Value} (hx : xs.length = n + j) (hx1 : ∀ k, k < n → xs[k]? = some (.int .i64 x)) (hx2 : ∀ k, n ≤ k → k < n + j → xs[k]? = some (.int .i64 y)) (hr : Row W' 3 1 v' (n + j + 1) (xs ++ [.int .i64 y])) (hg : GrownB W W' vc v') : Track W' va v' n (j + 1) x y := by
  have m1 : ∀ k, k < n → (xs ++ [Value.int .i64 y])[k]? = some (.int .i64 x) := fun k hk => by rw [List.getElem?_append_left (by omega)]; exact hx1 k hk
  have m2 : ∀ k, n ≤ k → k < n + (j + 1) → (xs ++ [Value.int .i64 y])[k]? = some (.int .i64 y) := fun k h1 h2 => by
    by_cases e : k < n + j
    · rw [List.getElem?_append_left (by omega)]
      exact hx2 k h1 e
    · rw [List.getElem?_append_right (by omega), show k - xs.length = 0 by omega]
      rfl
  obtain ⟨xa, a1, a2⟩ := h.ra
  obtain ⟨xc, c1, _⟩ := h.rc
  obtain ⟨ad', cap', e'⟩ := hr.sliced
  obtain ⟨ad, cap, e⟩ := c1.sliced
  rcases hg with ⟨ad0, n0, cap0, n1, e0, e1, hbut⟩ | ⟨hnew, hbut⟩
  · rw [e'] at e1
    rw [e] at e0
    cases e0
    cases e1
    subst e e'
    rcases h.base with ⟨ad2, cap2, e2, e3⟩ | hno
    · cases e3
      subst e2
      exact ⟨⟨_, hr.front (by omega) (by omega), fun k hk => by rw [List.getElem?_take, if_pos hk]; exact m1 k hk⟩, ⟨_, hr, m1, m2⟩, .inl ⟨_, _, rfl, rfl⟩⟩
    · refine ⟨⟨xa, a1.but hbut fun g hg hm => ?_, a2⟩, ⟨_, hr, m1, m2⟩, .inr fun g h1 h2 => hno g ((own_slice _ _ _ _).trans h1) h2⟩
      exact hno g (by simpa using hm) hg
  · refine ⟨⟨xa, a1.but hbut fun g _ hm => (by cases hm), a2⟩, ⟨_, hr, m1, m2⟩, .inr fun g h1 h2 => ?_⟩
    rw [hnew] at h1
    cases h1
    have := a1.lt _ h2
    omega

structure Own4 (w W : World) (R : Nat) (F : List Nat) (b : Nat) (vi : Value) (q : Qs) (va vc vb vd : Value) (n j j' : Nat) (x y x' y' : Int) : Prop where
  game : Game w W R F b vi q
  ta : Track W va vc n j x y
  tb : Track W vb vd n j' x' y'
  ya : ∀ g, OnT va vc g → w.heap.size ≤ g
  yb : ∀ g, OnT vb vd g → w.heap.size ≤ g
  ap : ∀ g, OnT va vc g → OnT vb vd g → False
section
variable {w W W' : World} {R : Nat} {F : List Nat} {b : Nat} {vi : Value} {q : Qs} {va vc vb vd : Value} {n j j' : Nat} {x y x' y' : Int}
theorem Own4.swap (h : Own4 w W R F b vi q va vc vb vd n j j' x y x' y') : Own4 w W R F b vi q vb vd va vc n j' j x' y' x y := ⟨h.game, h.tb, h.ta, h.yb, h.ya, fun g h1 h2 => h.ap g h2 h1⟩
theorem Own4.more (h : Own4 w W R F b vi q va vc vb vd n j j' x y x' y') (hb : Below W.heap.size W W') : Own4 w W' R F b vi q va vc vb vd n j j' x y x' y' :=
  ⟨h.game.more hb, h.ta.keep fun g hg => hb.block g (h.ta.lt hg), h.tb.keep fun g hg => hb.block g (h.tb.lt hg), h.ya, h.yb, h.ap⟩
theorem Own4.below (h : Own4 w W R F b vi q va vc vb vd n j j' x y x' y') : Below w.heap.size w W := h.game.below
theorem Own4.grow {v' : Value} (h : Own4 w W R F b vi q va vc vb vd n j j' x y x' y') {xs : List Value} (hx : Row W 3 1 vc (n + j) xs) (hx1 : ∀ k, k < n → xs[k]? = some (.int .i64 x)) (hx2 : ∀ k, n ≤ k → k < n + j → xs[k]? = some (.int .i64 y)) (hr : Row W' 3 1 v' (n + j + 1) (xs ++ [.int .i64 y])) (hg : GrownB W W' vc v') : Own4 w W' R F b vi q va v' vb vd n (j + 1) j' x y x' y' := by
  have hta := h.ta.grow (by rw [hx.1]; omega) hx1 hx2 hr hg
  rcases hg with ⟨ad0, n0, cap0, n1, e0, e1, hbut⟩ | ⟨hnew, hbut⟩
  · have eo : v'.ownBlock = vc.ownBlock := by rw [e0, e1]; exact own_slice _ _ _ _
    have eT : ∀ g, OnT va v' g ↔ OnT va vc g := fun g => by unfold OnT; rw [eo]
    refine ⟨h.game.numb (numb_but hx h.below h.below.size (fun g hg => h.ya g (.inr hg)) hbut), hta, h.tb.keep fun g hg => hbut.block g (h.tb.lt hg) fun hm => ?_, fun g hg => h.ya g ((eT g).1 hg), h.yb, fun g h1 h2 => h.ap g ((eT g).1 h1) h2⟩
    exact h.ap g (.inr (by simpa using hm)) hg
  · have hnb : Numb w.heap.size w W W' := ⟨hbut.under h.below h.below.size (fun k hk => by cases hk), fun g cs t hg _ => hbut.block g (lt_of_block hg) fun hm => by cases hm⟩
    refine ⟨h.game.numb hnb, hta, h.tb.keep fun g hg => hbut.block g (h.tb.lt hg) fun hm => (by cases hm), fun g hg => ?_, h.yb, fun g h1 h2 => ?_⟩
    · rcases hg with hg | hg
      · exact h.ya g (.inl hg)
      · rw [hnew] at hg
        cases hg
        exact h.below.size
    · rcases h1 with h1 | h1
      · exact h.ap g (.inl h1) h2
      · rw [hnew] at h1
        cases h1
        have := h.tb.lt h2
        omega
theorem Duo.four (h : Duo w W R F b vi q va vb n n) : Own4 w W R F b vi q va va vb vb n 0 0 (-1) (-3) (-2) (-4) :=
  ⟨h.game, .start _ h.ra, .start _ h.rb, fun g hg => by rcases hg with hg | hg <;> exact h.ya g hg, fun g hg => by rcases hg with hg | hg <;> exact h.yb g hg, fun g h1 h2 => h.ap g (by rcases h1 with h1 | h1 <;> exact h1) (by rcases h2 with h2 | h2 <;> exact h2)⟩
/-- What is read in the last loop. -/
theorem Track.cellA {W : World} {va vc : Value} {n j : Nat} {x y : Int} (h : Track W va vc n j x y) {k : Nat} (hk : k < n) : ∃ g o cap, va = .slice (some ⟨g, o, none⟩) n cap ∧ W.cell? ⟨g, o + k, none⟩ = some (.int .i64 x) := by
  obtain ⟨xa, a1, a2⟩ := h.ra
  obtain ⟨g, o, cap, e, c, _, _⟩ := a1.place (a2 k hk)
  exact ⟨g, o, cap, e, c⟩
theorem Track.cellC {W : World} {va vc : Value} {n j : Nat} {x y : Int} (h : Track W va vc n j x y) {k : Nat} (hk : k < n + j) : ∃ g o cap, vc = .slice (some ⟨g, o, none⟩) (n + j) cap ∧ W.cell? ⟨g, o + k, none⟩ = some (.int .i64 (if k < n then x else y)) := by
  obtain ⟨xc, c1, c2, c3⟩ := h.rc
  by_cases e : k < n
  · obtain ⟨g, o, cap, e1, c, _, _⟩ := c1.place (c2 k e)
    exact ⟨g, o, cap, e1, by rw [if_pos e]; exact c⟩
  · obtain ⟨g, o, cap, e1, c, _, _⟩ := c1.place (c3 k (by omega) hk)
    exact ⟨g, o, cap, e1, by rw [if_neg e]; exact c⟩
theorem told3 {w1 w2 w3 w4 : World} {os : List (Int × Int)} {va vb vw : Value} (ha : Told w1 w2 os va) (hb : Told w2 w3 os vb) (hw : Told w3 w4 os vw) :
    ∃ zs, Ints w4 va zs ∧ Ints w4 vb zs ∧ Ints w4 vw zs ∧ zs.length ≤ 1000000 ∧ Below w1.heap.size w1 w4 ∧ (∀ g, va.ownBlock = some g → w1.heap.size ≤ g) ∧ (∀ g, vb.ownBlock = some g → w1.heap.size ≤ g) ∧ ∀ g, va.ownBlock = some g → vb.ownBlock = some g → False := by
  obtain ⟨za, a1, a2, a3, a4, a5, a6⟩ := ha
  obtain ⟨zb, b1, b2, b3, b4, b5, b6⟩ := hb
  obtain ⟨zw, c1, c2, c3, c4, c5, c6⟩ := hw
  have e : za = zb := rising_eq a2 b2 fun x => (a3 x).trans (b3 x).symm
  have e2 : za = zw := rising_eq a2 c2 fun x => (a3 x).trans (c3 x).symm
  subst e
  subst e2
  refine ⟨za, Row.below (Row.below a1 b4) c4, Row.below b1 c4, c1, a6, (a4.trans (b4.mono a4.size)).trans (c4.mono (a4.trans (b4.mono a4.size)).size), a5, fun g hg => Nat.le_trans a4.size (b5 g hg), fun g h1 h2 => ?_⟩
  have h3 := Row.lt a1 g h1
  have h4 := b5 g h2
  omega
theorem duo_start (h : Game w W R F b vi q) {W' : World} (hb : Below W.heap.size W W') {zs : List Int} (ha : Ints W' va zs) (hc : Ints W' vb zs) (ya : ∀ g, va.ownBlock = some g → W.heap.size ≤ g) (yb : ∀ g, vb.ownBlock = some g → W.heap.size ≤ g) (ap : ∀ g, va.ownBlock = some g → vb.ownBlock = some g → False) : Duo w W' R F b vi q va vb zs.length 0 :=
  ⟨h.more hb, ⟨_, ha, fun k hk => by omega⟩, ⟨_, hc, fun k hk => by omega⟩, fun g hg => Nat.le_trans h.below.size (ya g hg), fun g hg => Nat.le_trans h.below.size (yb g hg), ap⟩
end
end Go.Proofs.Ytkpnolkbheoocaa
