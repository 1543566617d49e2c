/-
  Layouts: draw, in the program.
  Layouts: border, and what push takes of the shelf: Clone and Reverse of parts.
  Layouts: push of a split's border, in the program.
  Layouts: the nearest split of a kind, in memory.
  Layouts: nearest, walked.
  Layouts: nearest, where there is one.
-/
import Derived.Test.YtnepemlagnnngaaCFj
import Derived.Test.YtnepemlagnnngaaCWa
import Derived.Test.YtnepemlagnnngaaCFi
import Derived.Laws.OwnMore
namespace Go.Proofs.Ytnepemlagnnngaa
open Go.RowKit
set_option linter.unusedVariables false
set_option maxRecDepth 100000

/-- How a split stands when so many lines are to be drawn from these parts. -/
structure DrawAt (w : World) (g : Nat) (b : Box) (k : Int) (sl : Value) (vs : List Value) (fs : List Nat) (B N : Nat) (c : Nat) (rs : List Tree) (js : List Nat) (n got : Int) (us : List Tree) (wr : World) : Prop where
  draw : Draw k c js n us rs got
  at_ : StandsX w g b k sl vs fs B us wr
  small : ∀ t ∈ us, t.size ≤ N
  len : us.length = rs.length
  lt : c < us.length
theorem DrawAt.below {w : World} {g : Nat} {b : Box} {k : Int} {sl : Value} {vs : List Value} {fs : List Nat} {B N c : Nat} {rs : List Tree} {js : List Nat} {n got : Int} {us : List Tree} {wr X : World} (h : DrawAt w g b k sl vs fs B N c rs js n got us wr) (hb : Below wr.heap.size wr X) : DrawAt w g b k sl vs fs B N c rs js n got us X := ⟨h.draw, h.at_.below hb, h.small, h.len, h.lt⟩

/-- What one part's turn is. -/
structure DrawOn (w : World) (g : Nat) (b : Box) (k : Int) (sl : Value) (vs : List Value) (fs : List Nat) (B N : Nat) (c : Nat) (rs : List Tree) (js : List Nat) (n got : Int) (wr : World) (vc : Value) (T : TypeId) (gi : Nat) (Fr Fx : FuncId) (r d : Int) : Prop where
  mX : ∀ W, (method 279 T (.pointer (some ⟨gi, 0, none⟩)) "mullion/layout.stretch").run Try.prog W = .ok (Fx, .pointer (some ⟨gi, 0, none⟩)) W
  fX : ∀ a c d W, (callFunc Fx #[a, c, d]).run Try.prog W = .ok (.enter Fx #[a, c, d]) W
  mR : ∀ W, (method 279 T (.pointer (some ⟨gi, 0, none⟩)) "mullion/layout.room").run Try.prog W = .ok (Fr, .pointer (some ⟨gi, 0, none⟩)) W
  fR : ∀ a c W, (callFunc Fr #[a, c]).run Try.prog W = .ok (.enter Fr #[a, c]) W
  cR : Calls Try.prog Fr #[.pointer (some ⟨gi, 0, none⟩), .int .i64 k] wr fun e w' => e = .returned (.int .i64 r) ∧ wr = w'
  num : d = min n r
  lim : 0 ≤ d ∧ d ≤ 1000
  cX : Calls Try.prog Fx #[.pointer (some ⟨gi, 0, none⟩), .int .i64 k, .int .i64 (-d)] wr fun e w' => e = .returned (.tuple #[]) ∧ But (g :: fs) w w' ∧ ∃ T2 g2 Fx2, vc = .iface T2 (.pointer (some ⟨g2, 0, none⟩)) ∧ (∀ W, (method 279 T2 (.pointer (some ⟨g2, 0, none⟩)) "mullion/layout.stretch").run Try.prog W = .ok (Fx2, .pointer (some ⟨g2, 0, none⟩)) W) ∧ (∀ a c d W, (callFunc Fx2 #[a, c, d]).run Try.prog W = .ok (.enter Fx2 #[a, c, d]) W) ∧ Calls Try.prog Fx2 #[.pointer (some ⟨g2, 0, none⟩), .int .i64 k, .int .i64 d] w' fun e w'' => e = .returned (.tuple #[]) ∧ ∃ us got', got = d + got' ∧ DrawAt w g b k sl vs fs B N c rs js (n - d) got' us w''

theorem draw_next {w : World} {g : Nat} {b : Box} {k : Int} {sl : Value} {vs : List Value} {fs : List Nat} {B N c : Nat} {rs : List Tree} {j : Nat} {js : List Nat} {n got : Int} {us : List Tree} {wr : World} {vc : Value} (hnd : (g :: (sl.ownBlock.toList ++ fs)).Nodup) (hvc : vs[c]? = some vc) (h : DrawAt w g b k sl vs fs B N c rs (j :: js) n got us wr) :
    ∃ T gi Fr Fx r d, vs[j]? = some (.iface T (.pointer (some ⟨gi, 0, none⟩))) ∧ DrawOn w g b k sl vs fs B N c rs js n got wr vc T gi Fr Fx r d := by
  obtain ⟨hd, hat, hsm, hln, hlt⟩ := h
  cases hd with
  | cons _ _ _ d _ _ t t' s s' got' h1 h2 h3 h4 h5 h6 h7 h8 h9 h10 h11 h12 h13 =>
    obtain ⟨v, f, e1, e2, e3, e4⟩ := hat.one hnd h1
    obtain ⟨T, gi, Fx, hX⟩ := t.stretches B v f wr e2 e3
    obtain ⟨T', gi', Fr, hR⟩ := e2.partR h2 (by omega)
    have hv := hX.val
    subst hv
    have hv := hR.val
    cases hv
    refine ⟨T, gi, Fr, Fx, t.room k, d, e1, { mX := hX.mX, fX := hX.fX, mR := hR.mR, fR := hR.fR, cR := hR.cR k wr (Below.refl _ _), num := h5, lim := ⟨h6, h7⟩, cX := ?_ }⟩
    refine (hX.cX wr k (-d) t' e2 h9).mono fun e w' h5 => ⟨h5.1, ?_, ?_⟩
    · exact (e4 t' w' h5.2.1 h5.2.2).but
    · have hat2 := e4 t' w' h5.2.1 h5.2.2
      obtain ⟨v2, f2, a1, a2, a3, a4⟩ := hat2.one hnd h10
      rw [hvc] at a1
      obtain rfl := Option.some.inj a1
      obtain ⟨T2, g2, Fx2, hX2⟩ := s.stretches B vc f2 w' a2 a3
      refine ⟨T2, g2, Fx2, hX2.val, hX2.mX, hX2.fX, (hX2.cX w' k d s' a2 h12).mono fun e w'' h6 => ⟨h6.1, _, got', rfl, h13, a4 s' w'' h6.2.1 h6.2.2, ?_, by rw [List.length_set, List.length_set]; exact hln, by rw [List.length_set, List.length_set]; exact hlt⟩⟩
      exact small_set (small_set hsm h1 h8) h10 h11

set_option maxHeartbeats 1000000 in
theorem draw_any (g : Nat) (b : Box) (k : Int) (sl : Value) (vs : List Value) (fs : List Nat) (B N : Nat) (c : Nat) (ts rs : List Tree) (js : List Nat) (n got : Int) (w : World) (Tc : TypeId) (gc : Nat) (pb off cap : Nat) (hnd : (g :: (sl.ownBlock.toList ++ fs)).Nodup) (hvc : vs[c]? = some (.iface Tc (.pointer (some ⟨gc, 0, none⟩)))) (hn : 0 ≤ n ∧ n ≤ 9223372036854775807) (hjl : js.length ≤ 1000) (hfrom : ∀ X, But (g :: fs) w X → ∀ (i j : Nat) v, js[i]? = some j → vs[j]? = some v → X.cell? ⟨pb, off + i, none⟩ = some v) (h : DrawAt w g b k sl vs fs B N c rs js n got ts w) :
    Calls Try.prog 84 #[.iface Tc (.pointer (some ⟨gc, 0, none⟩)), .slice (some ⟨pb, off, none⟩) js.length cap, .int .i64 k, .int .i64 n] w fun e w' => e = .returned (.int .i64 got) ∧ StandsX w g b k sl vs fs B rs w' := by
  obtain ⟨L, hL⟩ : ∃ L, js.length = L := ⟨_, rfl⟩
  have HL : Hid (js.length = L) := hL
  have Hnd : Hid ((g :: (sl.ownBlock.toList ++ fs)).Nodup) := hnd
  have HV : Hid (vs[c]? = some (.iface Tc (.pointer (some ⟨gc, 0, none⟩)))) := hvc
  have HFm : Hid (∀ X, But (g :: fs) w X → ∀ (i j : Nat) v, js[i]? = some j → vs[j]? = some v → X.cell? ⟨pb, off + i, none⟩ = some v) := hfrom
  have HD : Hid (DrawAt w g b k sl vs fs B N c rs js n got ts w) := h
  rw [hL] at hjl ⊢
  clear h hfrom hvc hnd hL
  go_enter Try.func84, Try.ntmps84
  go_wp2
  go_loopw [9, 15] (fun vd vi wr => ∃ (i : Nat) (x gl : Int) (us : List Tree), i ≤ L ∧ vd = .int .i64 (got - gl) ∧ vi = .int .i64 i ∧ (0 ≤ x ∧ x = n - (got - gl) ∧ x ≤ n) ∧ Hid (DrawAt w g b k sl vs fs B N c rs (js.drop i) x gl us wr)) (fun _ vi _ => L - (intOf vi).toNat)
  case atStart => exact ⟨0, n, got, ts, Nat.zero_le _, by rw [Int.sub_self], rfl, ⟨hn.1, by omega, Int.le_refl _⟩, HD⟩
  case round =>
    obtain ⟨i, x, gl, us, hi, rfl, rfl, hx, HDr⟩ := hrel
    clear HD
    by_cases hlt : i < L
    · obtain ⟨j, hj⟩ : ∃ j, js[i]? = some j := ⟨_, List.getElem?_eq_getElem (by rw [HL.out]; exact hlt)⟩
      have hdrop : js.drop i = j :: js.drop (i + 1) := by
        have hil : i < js.length := by rw [HL.out]; exact hlt
        rw [List.drop_eq_getElem_cons hil]
        congr 1
        rw [List.getElem?_eq_getElem hil] at hj
        exact Option.some.inj hj
      have hD := HDr.out
      rw [hdrop] at hD
      obtain ⟨T, gi, Fr, Fx, r, d, hvj, hO⟩ := draw_next Hnd.out HV.out hD
      have ri := HFm.out wr hD.at_.but i j _ hj hvj
      have m1 := hO.mX
      have m2 := hO.fX
      have m3 := hO.mR
      have m4 := hO.fR
      have hnum := hO.num
      have hlim := hO.lim
      have HcR : Hid (Calls Try.prog Fr #[.pointer (some ⟨gi, 0, none⟩), .int .i64 k] wr fun e w' => e = .returned (.int .i64 r) ∧ wr = w') := hO.cR
      have HcX : Hid (Calls Try.prog Fx #[.pointer (some ⟨gi, 0, none⟩), .int .i64 k, .int .i64 (-d)] wr fun e w' => e = .returned (.tuple #[]) ∧ But (g :: fs) w w' ∧ ∃ T2 g2 Fx2, Value.iface Tc (.pointer (some ⟨gc, 0, none⟩)) = .iface T2 (.pointer (some ⟨g2, 0, none⟩)) ∧ (∀ W, (method 279 T2 (.pointer (some ⟨g2, 0, none⟩)) "mullion/layout.stretch").run Try.prog W = .ok (Fx2, .pointer (some ⟨g2, 0, none⟩)) W) ∧ (∀ a c d W, (callFunc Fx2 #[a, c, d]).run Try.prog W = .ok (.enter Fx2 #[a, c, d]) W) ∧ Calls Try.prog Fx2 #[.pointer (some ⟨g2, 0, none⟩), .int .i64 k, .int .i64 d] w' fun e w'' => e = .returned (.tuple #[]) ∧ ∃ us got', gl = d + got' ∧ DrawAt w g b k sl vs fs B N c rs (js.drop (i + 1)) (x - d) got' us w'') := hO.cX
      have y1 : IntKind.i64.wrap (n - (got - gl)) = x := by rw [IntKind.wrap_i64]; omega
      have HMin : Hid (min x r = d) := hnum.symm
      have y2 : IntKind.i64.wrap (-(min x r)) = -(min x r) := by rw [← hnum, IntKind.wrap_i64]; omega
      have HX2 : Hid (x = n - (got - gl) ∧ x ≤ n) := hx.2
      have HX1 : Hid (0 ≤ x - d) := by
        show 0 ≤ x - d
        omega
      have Hlim : Hid (0 ≤ d ∧ d ≤ 1000) := hlim
      clear hO hD hdrop hj hvj hnum hlim hx HDr
      go_wp2_with fail
      refine HcR.out.mono ?_
      rintro e w1 ⟨rfl, rfl⟩
      go_wp2_with fail
      rw [HMin.out]
      clear y2
      refine HcX.out.mono ?_
      rintro e w2 ⟨rfl, hbt, T2, g2, Fx2, hve, m5, m6, hc2⟩
      cases hve
      have HcY : Hid (Calls Try.prog Fx2 #[.pointer (some ⟨gc, 0, none⟩), .int .i64 k, .int .i64 d] w2 fun e w'' => e = .returned (.tuple #[]) ∧ ∃ us got', gl = d + got' ∧ DrawAt w g b k sl vs fs B N c rs (js.drop (i + 1)) (x - d) got' us w'') := hc2
      clear hbt hc2 HcX HcR m1 m2 m3 m4 ri
      go_wp2_with fail
      refine HcY.out.mono ?_
      rintro e w3 ⟨rfl, us3, gl3, hgl, hD3⟩
      have HD3 : Hid (DrawAt w g b k sl vs fs B N c rs (js.drop (i + 1)) (x - d) gl3 us3 w3) := hD3
      have HGl : Hid (gl = d + gl3) := hgl
      have y3 : IntKind.i64.wrap (got - gl + d) = got - gl3 := by
        have h1 := Hlim.out
        have h2 := HX2.out
        have h3 := HX1.out
        rw [IntKind.wrap_i64]
        omega
      clear hD3 HcY hgl m5 m6
      go_wp2
      go_roundw
      case rel => exact ⟨i + 1, x - d, gl3, us3, by omega, rfl, by go_num, ⟨HX1.out, by have := HX2.out; have := HGl.out; omega, by have := HX2.out; have := Hlim.out; omega⟩, HD3⟩
      case measure => simp [intOf]; omega
    · have hin : i = L := by omega
      subst hin
      have hD := HDr.out
      rw [List.drop_eq_nil_of_le (by rw [HL.out]; exact Nat.le_refl _)] at hD
      have hend : us = rs ∧ gl = 0 := by
        cases hD.draw
        exact ⟨rfl, rfl⟩
      obtain ⟨rfl, rfl⟩ := hend
      have HS : Hid (StandsX w g b k sl vs fs B us wr) := hD.at_
      clear hD HDr hx
      go_wp2
      go_ret
      exact ⟨by rw [Int.sub_zero]; rfl, HS.out⟩

end Go.Proofs.Ytnepemlagnnngaa

namespace Go.Proofs.Ytnepemlagnnngaa
open Go.RowKit
set_option linter.unusedVariables false
set_option maxRecDepth 100000

theorem border_any (g pg L cap at_ : Nat) (w : World) (h5 : w.cell? ⟨g, 5, none⟩ = some (.slice (some ⟨pg, 0, none⟩) L cap)) (hL : 2 ≤ L) (hL2 : L ≤ 1000) (hat : at_ < L) : Calls Try.prog 74 #[.agg #[.pointer (some ⟨g, 0, none⟩), .int .i64 at_]] w fun e w' => e = .returned (.int .i64 ((min at_ (L - 2) : Nat) : Int)) ∧ Below w.heap.size w w' := by
  obtain ⟨W, hW⟩ : ∃ W, w.alloc (.cells #[.pointer (some ⟨g, 0, none⟩), .int .i64 at_] 98) = W := ⟨_, rfl⟩
  have hbW : Below w.heap.size w W := by rw [← hW]; exact (Below.refl _ _).alloc (Nat.le_refl _) _
  have hM : W.heap[w.heap.size]? = some (.cells #[.pointer (some ⟨g, 0, none⟩), .int .i64 at_] 98 (0, 0)) := by rw [← hW]; exact heap_alloc_new _ _
  have hg : g < w.heap.size := World.block_lt_of_cell? w _ h5
  have HC : Hid (∀ X, Below W.heap.size W X → X.cell? ⟨w.heap.size, 0, none⟩ = some (.pointer (some ⟨g, 0, none⟩)) ∧ X.cell? ⟨w.heap.size, 1, none⟩ = some (.int .i64 at_) ∧ X.cell? ⟨g, 5, none⟩ = some (.slice (some ⟨pg, 0, none⟩) L cap)) := fun X hX => by
    have h := (hX.block _ (lt_of_block hM)).trans hM
    have hb := below_step hbW hX
    exact ⟨cell_atL h 0, cell_atL h 1, (hb.cell (p := ⟨g, 5, none⟩) hg).trans h5⟩
  have HW : Hid (w.alloc (.cells #[.pointer (some ⟨g, 0, none⟩), .int .i64 at_] 98) = W) := hW
  have HBW : Hid (Below w.heap.size w W) := hbW
  have hw : IntKind.i64.wrap ((L : Int) - 2) = (L : Int) - 2 := by rw [IntKind.wrap_i64]; omega
  have HMn : Hid (min (at_ : Int) ((L : Int) - 2) = ((min at_ (L - 2) : Nat) : Int)) := by
    show _ = _
    omega
  obtain ⟨m, hm⟩ : ∃ m, min at_ (L - 2) = m := ⟨_, rfl⟩
  rw [hm] at HMn ⊢
  clear hW hbW hM hg h5 hL2 hat hm
  go_enter Try.func74, Try.ntmps74
  go_wp2_with fail
  rw [HW.out]
  refine wp_region_qw (fun X => Below W.heap.size W X) (by kernel_rfl) (by kernel_rfl) (Below.refl _ _).drew ?_
  repeat (
    refine qw_take (v := ?_) (by rfl) (fun X hX => ?_) ?_
    rotate_left
    · obtain ⟨c0, c1, c5⟩ := HC.out X hX
      go_simp
      all_goals with_reducible rfl
    intro K hK
    go_simp
    refine hK.out _ ?_
    clear hK K)
  refine qw_nil ?_
  intro w4 hB4
  have HB4 : Hid (Below w.heap.size w w4) := below_step HBW.out hB4
  clear hB4
  try rw [HMn.out]
  go_wp2
  go_ret
  exact ⟨by first | rfl | (rw [HMn.out]; rfl), HB4.out⟩

theorem not_nil (pg n cap : Nat) (W : World) : (binOp .eql 76 (.slice (some ⟨pg, 0, none⟩) n cap) (.slice none 0 0)).run Try.prog W = .ok (.bool false) W := by kernel_rfl
theorem clone_any (pg n cap : Nat) (xs : List Value) (w : World) (h : w.ownsRow 0 56 1 (.slice (some ⟨pg, 0, none⟩) n cap) n xs) (hone : ∀ x ∈ xs, x.oneCell' = true) (hn : n ≤ 1000) (h1 : 1 ≤ n) : Calls Try.prog 85 #[.slice (some ⟨pg, 0, none⟩) n cap] w fun e w' => ∃ g c, e = .returned (.slice (some ⟨g, 0, none⟩) n c) ∧ w'.ownsRow w.heap.size 56 1 (.slice (some ⟨g, 0, none⟩) n c) n xs ∧ Below w.heap.size w w' := by
  have HOw : Hid (∀ o, (w.alloc o).ownsRow 0 56 1 (.slice (some ⟨pg, 0, none⟩) n cap) n xs) := fun o => h.alloc o
  have HO0 : Hid ((w.alloc (.cells #[] 56)).ownsRow w.heap.size 56 1 (.slice (some ⟨w.heap.size, 0, none⟩) 0 0) 0 []) := World.ownsRow_lit w #[] 0 (Nat.le_refl _) (by decide) (by simp)
  have HOne : Hid (∀ x ∈ xs, x.oneCell' = true) := hone
  have HEnd : Hid (∀ v' w', w'.ownsRow w.heap.size 56 1 v' n xs → (w.alloc (.cells #[] 56)).grownBy w' (some w.heap.size) → ∃ g c, v' = .slice (some ⟨g, 0, none⟩) n c ∧ w'.ownsRow w.heap.size 56 1 (.slice (some ⟨g, 0, none⟩) n c) n xs ∧ Below w.heap.size w w') := fun v' w' a1 a2 => by
    rcases a1.2 with ⟨_, h0⟩ | ⟨g, c, cur, rfl, r⟩
    · omega
    · exact ⟨g, c, rfl, a1, below_grown ((Below.refl _ _).alloc (Nat.le_refl _) _) a2 (Nat.le_refl _)⟩
  have eqn := not_nil pg n cap
  clear h hone
  go_enter Try.func85, Try.ntmps85
  go_wp2_with (at_builtin; refine wpList_append_row _ rfl (.tmp 5) (.tmp 6) 76 56 rfl .nilIface 1 16 Try.underlying76 infoPart rfl (by decide) (by decide) w.heap.size (.slice (some ⟨w.heap.size, 0, none⟩) 0 0) 0 [] ?y1 HO0.out 0 (.slice (some ⟨pg, 0, none⟩) n cap) n xs rfl (HOw.out _) HOne.out ?x1 ?x2 ?_; (case y1 => simp [Act.eval]); (case x1 => omega); (case x2 => simp); intro v' w6 a1 a2; rw [Nat.zero_add, List.nil_append] at a1; have he := HEnd.out v' w6 a1 a2; obtain ⟨g, c, hv', ho, hb⟩ := he; subst hv'; have HE : Hid (w6.ownsRow w.heap.size 56 1 (.slice (some ⟨g, 0, none⟩) n c) n xs ∧ Below w.heap.size w w6) := ⟨ho, hb⟩; clear a1 a2 ho hb)
  go_ret
  exact ⟨_, _, rfl, HE.out.1, HE.out.2⟩

/-- A list whose first and last so many have changed places. -/
def RevTo (xs ys : List Value) (i : Nat) : Prop := ys.length = xs.length ∧ ∀ q, q < xs.length → ys[q]? = if q < i ∨ xs.length ≤ q + i then xs[xs.length - 1 - q]? else xs[q]?
theorem RevTo.step {xs ys : List Value} {i : Nat} (h : RevTo xs ys i) (hi : 2 * i + 1 < xs.length) {a b : Value} (ha : ys[i]? = some a) (hb : ys[xs.length - 1 - i]? = some b) : RevTo xs ((ys.set i b).set (xs.length - 1 - i) a) (i + 1) := by
  obtain ⟨h1, h2⟩ := h
  have ea := h2 i (by omega)
  have eb := h2 (xs.length - 1 - i) (by omega)
  rw [if_neg (by omega)] at ea
  rw [if_neg (by omega)] at eb
  refine ⟨by rw [List.length_set, List.length_set]; exact h1, fun q hq => ?_⟩
  by_cases e1 : q = xs.length - 1 - i
  · subst e1
    rw [List.getElem?_set_self (by rw [List.length_set]; omega), if_pos (.inr (by omega)), ← ha, ea]
    congr 1
    omega
  · rw [List.getElem?_set_ne (Ne.symm e1)]
    by_cases e2 : q = i
    · subst e2
      rw [List.getElem?_set_self (by omega), if_pos (.inl (by omega)), ← hb, eb]
    · rw [List.getElem?_set_ne (Ne.symm e2), h2 q hq]
      by_cases h3 : q < i ∨ xs.length ≤ q + i
      · rw [if_pos h3, if_pos (by omega)]
      · rw [if_neg h3, if_neg (by omega)]
theorem RevTo.done {xs ys : List Value} {i : Nat} (h : RevTo xs ys i) (hi : xs.length ≤ 2 * i + 1) : ys = xs.reverse := by
  obtain ⟨h1, h2⟩ := h
  apply List.ext_getElem?
  intro q
  by_cases hq : q < xs.length
  · rw [h2 q hq, List.getElem?_reverse hq]
    by_cases h3 : q < i ∨ xs.length ≤ q + i
    · rw [if_pos h3]
    · rw [if_neg h3]
      congr 1
      omega
  · rw [List.getElem?_eq_none (by omega), List.getElem?_eq_none (by rw [List.length_reverse]; omega)]

set_option maxHeartbeats 1000000 in
theorem reverse_any (g n cap B : Nat) (xs : List Value) (w : World) (h : w.ownsRow B 56 1 (.slice (some ⟨g, 0, none⟩) n cap) n xs) (hx : xs.length = n) (hn : n ≤ 1000) (hif : ∀ (q : Nat) x, xs[q]? = some x → ∃ T gi, x = .iface T (.pointer (some ⟨gi, 0, none⟩))) : Calls Try.prog 86 #[.slice (some ⟨g, 0, none⟩) n cap] w fun e w' => e = .returned (.tuple #[]) ∧ w'.ownsRow B 56 1 (.slice (some ⟨g, 0, none⟩) n cap) n xs.reverse ∧ But [g] w w' := by
  have HO : Hid (w.ownsRow B 56 1 (.slice (some ⟨g, 0, none⟩) n cap) n xs) := h
  have HX : Hid (xs.length = n) := hx
  have HIf : Hid (∀ (q : Nat) x, xs[q]? = some x → ∃ T gi, x = .iface T (.pointer (some ⟨gi, 0, none⟩))) := hif
  have hw : IntKind.i64.wrap ((n : Int) - 1) = (n : Int) - 1 := by rw [IntKind.wrap_i64]; omega
  clear h hx hif
  go_enter Try.func86, Try.ntmps86
  go_wp2
  go_loopw [2, 3] (fun vi vj wr => ∃ (i : Nat) (ys : List Value), vi = .int .i64 i ∧ vj = .int .i64 ((n : Int) - 1 - i) ∧ 2 * i ≤ n + 1 ∧ Hid (RevTo xs ys i ∧ wr.ownsRow B 56 1 (.slice (some ⟨g, 0, none⟩) n cap) n ys ∧ But [g] w wr)) (fun vi _ _ => 2000 - (intOf vi).toNat)
  case atStart => exact ⟨0, xs, rfl, by simp, by omega, ⟨⟨rfl, fun q hq => by rw [if_neg (by omega)]⟩, HO.out, But.refl _ _⟩⟩
  case round =>
    obtain ⟨i, ys, rfl, rfl, hi, HR⟩ := hrel
    clear HO
    by_cases hlt : 2 * i + 1 < n
    · obtain ⟨hrev, hown, hbut⟩ := HR.out
      have hyl : ys.length = n := hrev.1.trans HX.out
      obtain ⟨a, ha⟩ : ∃ a, ys[i]? = some a := ⟨_, List.getElem?_eq_getElem (by omega)⟩
      obtain ⟨b, hb⟩ : ∃ b, ys[n - 1 - i]? = some b := ⟨_, List.getElem?_eq_getElem (by omega)⟩
      have ea := hrev.2 i (by rw [HX.out]; omega)
      have eb := hrev.2 (n - 1 - i) (by rw [HX.out]; omega)
      rw [if_neg (by rw [HX.out]; omega), ha] at ea
      rw [if_neg (by rw [HX.out]; omega), hb] at eb
      obtain ⟨Ta, ga, hae⟩ := HIf.out _ _ ea.symm
      obtain ⟨Tb, gb, hbe⟩ := HIf.out _ _ eb.symm
      subst hae hbe
      clear ea eb
      have q1 : wr.cell? ⟨g, i, none⟩ = some (.iface Ta (.pointer (some ⟨ga, 0, none⟩))) := (World.ownsRow.cellAt hown i (by omega)).trans ha
      obtain ⟨j, hj⟩ : ∃ j : Nat, n - 1 - i = j := ⟨_, rfl⟩
      rw [hj] at hb
      have q2 : wr.cell? ⟨g, j, none⟩ = some (.iface Tb (.pointer (some ⟨gb, 0, none⟩))) := (World.ownsRow.cellAt hown j (by omega)).trans hb
      have hji : (n : Int) - 1 - i = (j : Int) := by omega
      have f1 := World.ownsRow.frozenAt hown i
      have f2 := World.ownsRow.frozenAt hown j
      have hne : i ≠ j := by omega
      have hij : (i : Int) < (j : Int) := by omega
      have hjn : j < n := by omega
      have hin : i < n := by omega
      have HN1 : Hid (RevTo xs ((ys.set i (.iface Tb (.pointer (some ⟨gb, 0, none⟩)))).set j (.iface Ta (.pointer (some ⟨ga, 0, none⟩)))) (i + 1) ∧ ((wr.setCell ⟨g, i, none⟩ (.iface Tb (.pointer (some ⟨gb, 0, none⟩)))).setCell ⟨g, j, none⟩ (.iface Ta (.pointer (some ⟨ga, 0, none⟩)))).drew.ownsRow B 56 1 (.slice (some ⟨g, 0, none⟩) n cap) n ((ys.set i (.iface Tb (.pointer (some ⟨gb, 0, none⟩)))).set j (.iface Ta (.pointer (some ⟨ga, 0, none⟩)))) ∧ But [g] w ((wr.setCell ⟨g, i, none⟩ (.iface Tb (.pointer (some ⟨gb, 0, none⟩)))).setCell ⟨g, j, none⟩ (.iface Ta (.pointer (some ⟨ga, 0, none⟩)))).drew) := by
        have h1 := hrev.step (by rw [HX.out]; exact hlt) ha (by rw [HX.out, hj]; exact hb)
        rw [HX.out, hj] at h1
        have h2 := World.ownsRow.stored hown i (.iface Tb (.pointer (some ⟨gb, 0, none⟩)))
        have h3 := World.ownsRow.stored h2.1 j (.iface Ta (.pointer (some ⟨ga, 0, none⟩)))
        exact ⟨h1, own_below h3.1 (Below.refl _ _).drew, ((hbut.trans (But.grown h2.2)).trans (But.grown h3.2)).drew⟩
      have HJ : Hid (j = n - 1 - i) := hj.symm
      rw [hji]
      clear hrev hown hbut hyl ha hb hj hji HR
      go_wp2_with fail
      go_region
      all_goals (
        have y1 : IntKind.i64.wrap ((j : Int) - 1) = (j : Int) - 1 := by rw [IntKind.wrap_i64]; omega
        clear q1 q2 f1 f2
        go_wp2
        go_roundw
        case rel => exact ⟨i + 1, _, by go_num, by have := HJ.out; congr 1; omega, by omega, HN1⟩
        case measure => simp [intOf]; omega)
    · have HE : Hid (wr.ownsRow B 56 1 (.slice (some ⟨g, 0, none⟩) n cap) n xs.reverse ∧ But [g] w wr) := by
        obtain ⟨hrev, hown, hbut⟩ := HR.out
        rw [← hrev.done (by rw [HX.out]; omega)]
        exact ⟨hown, hbut⟩
      have hge : ¬ (i : Int) < (n : Int) - 1 - i := by omega
      clear HR
      go_wp2
      exact ⟨rfl, .tuple #[], (by simp [results, Try.results86, go_sem]), rfl, HE.out.1, HE.out.2⟩

end Go.Proofs.Ytnepemlagnnngaa

namespace Go.Proofs.Ytnepemlagnnngaa
open Go.RowKit
set_option linter.unusedVariables false
set_option maxRecDepth 100000

/-- A split with its row, while a border is pushed. -/
structure SplitIn (w : World) (g : Nat) (b : Box) (k : Int) (pg L cap : Nat) (vs : List Value) (fs : List Nat) (B : Nat) (ts : List Tree) : Prop where
  own : SplitAt w g b k (.slice (some ⟨pg, 0, none⟩) L cap)
  row : w.ownsRow B 56 1 (.slice (some ⟨pg, 0, none⟩) L cap) vs.length vs
  parts : partsAt w B ts vs fs
  nd : (g :: ((Value.slice (some ⟨pg, 0, none⟩) L cap).ownBlock.toList ++ fs)).Nodup
  len : ts.length = L
theorem SplitIn.below {w X : World} {g : Nat} {b : Box} {k : Int} {pg L cap : Nat} {vs : List Value} {fs : List Nat} {B : Nat} {ts : List Tree} (h : SplitIn w g b k pg L cap vs fs B ts) (hb : Below w.heap.size w X) : SplitIn X g b k pg L cap vs fs B ts := ⟨h.own.below hb, own_below h.row hb, h.parts.below hb, h.nd, h.len⟩
theorem SplitIn.vlen {w : World} {g : Nat} {b : Box} {k : Int} {pg L cap : Nat} {vs : List Value} {fs : List Nat} {B : Nat} {ts : List Tree} (h : SplitIn w g b k pg L cap vs fs B ts) : vs.length = L := h.parts.length.trans h.len
theorem SplitIn.stands {w : World} {g : Nat} {b : Box} {k : Int} {pg L cap : Nat} {vs : List Value} {fs : List Nat} {B : Nat} {ts : List Tree} (h : SplitIn w g b k pg L cap vs fs B ts) : StandsX w g b k (.slice (some ⟨pg, 0, none⟩) L cap) vs fs B ts w := ⟨h.own, h.row, h.parts, But.refl _ _⟩
theorem SplitIn.cell {w : World} {g : Nat} {b : Box} {k : Int} {pg L cap : Nat} {vs : List Value} {fs : List Nat} {B : Nat} {ts : List Tree} (h : SplitIn w g b k pg L cap vs fs B ts) {X : World} (hX : But (g :: fs) w X) (j : Nat) (v : Value) (hj : vs[j]? = some v) : X.cell? ⟨pg, j, none⟩ = some v := by
  have hlt : j < vs.length := (List.getElem?_eq_some_iff.1 hj).1
  have hv := h.vlen
  have hr := h.row
  rw [hv] at hr
  have h1 := World.ownsRow.cellAt hr j (by omega)
  obtain ⟨n1, n2⟩ := List.nodup_cons.1 h.nd
  obtain ⟨n3, n4, n5⟩ := List.nodup_append.1 n2
  have hpg : pg ∉ g :: fs := fun e => by
    rcases List.mem_cons.1 e with e | e
    · exact n1 (List.mem_append_left _ (by simp [Value.ownBlock, e]))
    · exact n5 pg (by simp [Value.ownBlock]) pg e rfl
  have hb := hX.block pg (World.ownsRow.lt hr pg (by simp [Value.ownBlock])).2 hpg
  rw [show X.cell? ⟨pg, j, none⟩ = w.cell? ⟨pg, j, none⟩ by unfold World.cell?; rw [hb], h1, hj]
theorem SplitIn.iface {w : World} {g : Nat} {b : Box} {k : Int} {pg L cap : Nat} {vs : List Value} {fs : List Nat} {B : Nat} {ts : List Tree} (h : SplitIn w g b k pg L cap vs fs B ts) (j : Nat) (v : Value) (hj : vs[j]? = some v) : ∃ T gi, v = .iface T (.pointer (some ⟨gi, 0, none⟩)) := by
  have hlt : j < vs.length := (List.getElem?_eq_some_iff.1 hj).1
  have hv := h.vlen
  obtain ⟨t, ht⟩ : ∃ t, ts[j]? = some t := ⟨_, List.getElem?_eq_getElem (by have := h.len; omega)⟩
  obtain ⟨v', f, e1, e2, _⟩ := partsAt.get h.parts j t ht
  rw [hj] at e1
  obtain rfl := Option.some.inj e1
  obtain ⟨gi, hvv, _⟩ := e2.own
  rcases hvv with rfl | rfl
  · exact ⟨_, _, rfl⟩
  · exact ⟨_, _, rfl⟩

set_option maxHeartbeats 1000000 in
theorem push_pos (g : Nat) (b : Box) (k : Int) (pg L cap : Nat) (vs : List Value) (fs : List Nat) (B : Nat) (ts rs : List Tree) (at_ c : Nat) (n got : Int) (w : World) (hI : SplitIn w g b k pg L cap vs fs B ts) (hL : 2 ≤ L) (hL2 : L ≤ 1000) (hcap : L ≤ cap) (hat : at_ < L) (hc : c = min at_ (L - 2)) (hn : 0 ≤ n ∧ n ≤ 9223372036854775807) (hrl : rs.length = L) (hD : Draw k c (List.range' (c + 1) (L - 1 - c)) n ts rs got) :
    Calls Try.prog 73 #[.agg #[.pointer (some ⟨g, 0, none⟩), .int .i64 at_], .int .i64 n] w fun e w' => e = .returned (.int .i64 got) ∧ StandsX w g b k (.slice (some ⟨pg, 0, none⟩) L cap) vs fs B rs w' := by
  obtain ⟨W, hW⟩ : ∃ W, w.alloc (.cells #[.pointer (some ⟨g, 0, none⟩), .int .i64 at_] 98) = W := ⟨_, rfl⟩
  have hbW : Below w.heap.size w W := by rw [← hW]; exact (Below.refl _ _).alloc (Nat.le_refl _) _
  have hM : W.heap[w.heap.size]? = some (.cells #[.pointer (some ⟨g, 0, none⟩), .int .i64 at_] 98 (0, 0)) := by rw [← hW]; exact heap_alloc_new _ _
  have hvl := hI.vlen
  obtain ⟨vc, hvc⟩ : ∃ v, vs[c]? = some v := ⟨_, List.getElem?_eq_getElem (by omega)⟩
  obtain ⟨Tc, gc, hvce⟩ := hI.iface c vc hvc
  subst hvce
  have HC : Hid (∀ X, Below W.heap.size W X → X.cell? ⟨w.heap.size, 0, none⟩ = some (.pointer (some ⟨g, 0, none⟩)) ∧ X.cell? ⟨w.heap.size, 1, none⟩ = some (.int .i64 at_) ∧ X.cell? ⟨g, 4, none⟩ = some (.int .i64 k) ∧ X.cell? ⟨g, 5, none⟩ = some (.slice (some ⟨pg, 0, none⟩) L cap) ∧ X.cell? ⟨pg, c, none⟩ = some (.iface Tc (.pointer (some ⟨gc, 0, none⟩)))) := fun X hX => by
    have h := (hX.block _ (lt_of_block hM)).trans hM
    have hI2 := hI.below (below_step hbW hX)
    exact ⟨cell_atL h 0, cell_atL h 1, cell_atL hI2.own 4, cell_atL hI2.own 5, hI2.cell (But.refl _ _) c _ hvc⟩
  have HBd : Hid (∀ X, Below W.heap.size W X → Calls Try.prog 74 #[.agg #[.pointer (some ⟨g, 0, none⟩), .int .i64 at_]] X fun e w' => e = .returned (.int .i64 c) ∧ Below W.heap.size W w') := fun X hX => by
    have h := border_any g pg L cap at_ X (HC.out X hX).2.2.2.1 hL hL2 hat
    rw [← hc] at h
    exact h.mono fun e w' h => ⟨h.1, below_step hX h.2⟩
  have HDr : Hid (∀ X, Below W.heap.size W X → Calls Try.prog 84 #[.iface Tc (.pointer (some ⟨gc, 0, none⟩)), .slice (some ⟨pg, c + 1, none⟩) (L - (c + 1)) (cap - (c + 1)), .int .i64 k, .int .i64 n] X fun e w' => e = .returned (.int .i64 got) ∧ StandsX w g b k (.slice (some ⟨pg, 0, none⟩) L cap) vs fs B rs w') := fun X hX => by
    have hbX := below_step hbW hX
    have hI2 := hI.below hbX
    have hjl : (List.range' (c + 1) (L - 1 - c)).length = L - (c + 1) := by
      rw [List.length_range']
      omega
    have h := draw_any g b k (.slice (some ⟨pg, 0, none⟩) L cap) vs fs B (sizes ts) c ts rs (List.range' (c + 1) (L - 1 - c)) n got X Tc gc pg (c + 1) (cap - (c + 1)) hI.nd hvc hn (by omega) (fun Y hY i j v hij hj => by
      have hi : i < L - 1 - c := by
        have := (List.getElem?_eq_some_iff.1 hij).1
        rw [List.length_range'] at this
        exact this
      rw [List.getElem?_range' hi] at hij
      have hji : j = c + 1 + i := by
        have := Option.some.inj hij
        omega
      subst hji
      exact hI2.cell hY _ v hj) ⟨hD, hI2.stands, fun t ht => by
        obtain ⟨i, hi⟩ := List.getElem?_of_mem ht
        exact sizes_at ts i t hi, by rw [hrl]; exact hI.len, by have := hI.len; omega⟩
    rw [hjl] at h
    refine h.mono fun e w' h2 => ⟨h2.1, h2.2.own, h2.2.row, h2.2.parts, But.trans ⟨hbX.os, hbX.tape, hbX.output, hbX.size, fun q hq _ => hbX.block q hq⟩ h2.2.but⟩
  have HW : Hid (w.alloc (.cells #[.pointer (some ⟨g, 0, none⟩), .int .i64 at_] 98) = W) := hW
  have hw1 : IntKind.i64.wrap ((c : Int) + 1) = (c : Int) + 1 := by rw [IntKind.wrap_i64]; omega
  have hn0 : (0 : Int) ≤ n := hn.1
  have hc1 : c + 1 ≤ L := by omega
  have hc2 : c + 1 ≤ cap := by omega
  have hc3 : c < c + 1 := Nat.lt_succ_self c
  have s1 : ((0 : Int) ≤ (c : Int) + 1 ∧ (c : Int) + 1 ≤ (cap : Int)) = True := by simp; omega
  have s2 : ((0 : Int) ≤ (c : Int) + 1 ∧ (c : Int) + 1 ≤ (L : Int)) = True := by simp; omega
  have s3 : (cap = c + 1) = False := by simp; omega
  clear hI hD hvc hvl hM hbW hW hrl hat hn hL hc
  go_enter Try.func73, Try.ntmps73
  go_wp2_with fail
  rw [HW.out]
  refine wp_region_qw (fun X => Below W.heap.size W X) (by kernel_rfl) (by kernel_rfl) (Below.refl _ _).drew ?_
  repeat (
    refine qw_take (v := ?_) (by rfl) (fun X hX => ?_) ?_
    rotate_left
    · obtain ⟨c0, c1, c4, c5, cc⟩ := HC.out X hX
      go_simp
      all_goals first | with_reducible rfl | with_reducible exact HBd.out X hX
    intro K hK
    go_simp
    refine hK.out _ ?_
    clear hK K)
  refine qw_nil ?_
  intro w4 hB4
  go_wp2_with fail
  refine wp_region_qw (fun X => Below W.heap.size W X) (by kernel_rfl) (by kernel_rfl) hB4.drew ?_
  repeat (
    refine qw_take (v := ?_) (by rfl) (fun X hX => ?_) ?_
    rotate_left
    · obtain ⟨c0, c1, c4, c5, cc⟩ := HC.out X hX
      go_simp
      all_goals with_reducible rfl
    intro K hK
    go_simp
    refine hK.out _ ?_
    clear hK K)
  refine qw_nil ?_
  intro w5 hB5
  obtain ⟨c0, c1, c4, c5, cc⟩ := HC.out w5 hB5
  go_wp2_with fail
  refine (HDr.out w5 hB5).mono ?_
  rintro e w6 ⟨rfl, hS⟩
  have HS : Hid (StandsX w g b k (.slice (some ⟨pg, 0, none⟩) L cap) vs fs B rs w6) := hS
  clear hS hB4 hB5 c0 c1 c4 c5 cc
  go_wp2
  go_ret
  exact ⟨rfl, HS.out⟩

set_option maxHeartbeats 1000000 in
theorem push_neg (g : Nat) (b : Box) (k : Int) (pg L cap : Nat) (vs : List Value) (fs : List Nat) (B : Nat) (ts rs : List Tree) (at_ c : Nat) (n got : Int) (w : World) (hI : SplitIn w g b k pg L cap vs fs B ts) (hL : 2 ≤ L) (hL2 : L ≤ 1000) (hcap : L ≤ cap) (hat : at_ < L) (hc : c = min at_ (L - 2)) (hn : n < 0) (hrl : rs.length = L) (hgot : 0 ≤ got ∧ got ≤ 1000000) (hD : Draw k (c + 1) (List.range (c + 1)).reverse (-(max n (-1000))) ts rs got) :
    Calls Try.prog 73 #[.agg #[.pointer (some ⟨g, 0, none⟩), .int .i64 at_], .int .i64 n] w fun e w' => e = .returned (.int .i64 (-got)) ∧ StandsX w g b k (.slice (some ⟨pg, 0, none⟩) L cap) vs fs B rs w' := by
  obtain ⟨W, hW⟩ : ∃ W, w.alloc (.cells #[.pointer (some ⟨g, 0, none⟩), .int .i64 at_] 98) = W := ⟨_, rfl⟩
  have hbW : Below w.heap.size w W := by rw [← hW]; exact (Below.refl _ _).alloc (Nat.le_refl _) _
  have hM : W.heap[w.heap.size]? = some (.cells #[.pointer (some ⟨g, 0, none⟩), .int .i64 at_] 98 (0, 0)) := by rw [← hW]; exact heap_alloc_new _ _
  have hvl := hI.vlen
  obtain ⟨vc, hvc⟩ : ∃ v, vs[c + 1]? = some v := ⟨_, List.getElem?_eq_getElem (by omega)⟩
  obtain ⟨Tc, gc, hvce⟩ := hI.iface (c + 1) vc hvc
  subst hvce
  have HC : Hid (∀ X, Below W.heap.size W X → X.cell? ⟨w.heap.size, 0, none⟩ = some (.pointer (some ⟨g, 0, none⟩)) ∧ X.cell? ⟨w.heap.size, 1, none⟩ = some (.int .i64 at_) ∧ X.cell? ⟨g, 4, none⟩ = some (.int .i64 k) ∧ X.cell? ⟨g, 5, none⟩ = some (.slice (some ⟨pg, 0, none⟩) L cap) ∧ X.cell? ⟨pg, c + 1, none⟩ = some (.iface Tc (.pointer (some ⟨gc, 0, none⟩)))) := fun X hX => by
    have h := (hX.block _ (lt_of_block hM)).trans hM
    have hI2 := hI.below (below_step hbW hX)
    exact ⟨cell_atL h 0, cell_atL h 1, cell_atL hI2.own 4, cell_atL hI2.own 5, hI2.cell (But.refl _ _) (c + 1) _ hvc⟩
  have HBd : Hid (∀ X, Below W.heap.size W X → Calls Try.prog 74 #[.agg #[.pointer (some ⟨g, 0, none⟩), .int .i64 at_]] X fun e w' => e = .returned (.int .i64 c) ∧ Below W.heap.size W w') := fun X hX => by
    have h := border_any g pg L cap at_ X (HC.out X hX).2.2.2.1 hL hL2 hat
    rw [← hc] at h
    exact h.mono fun e w' h => ⟨h.1, below_step hX h.2⟩
  obtain ⟨N, hN⟩ : ∃ N, max n (-1000) = N := ⟨_, rfl⟩
  have hNb : -1000 ≤ N ∧ N < 0 := by omega
  rw [hN] at hD
  have HCl : Hid (∀ X, Below W.heap.size W X → Calls Try.prog 85 #[.slice (some ⟨pg, 0, none⟩) (c + 1) cap] X fun e w' => ∃ g2 c2, e = .returned (.slice (some ⟨g2, 0, none⟩) (c + 1) c2) ∧ Below W.heap.size W w' ∧ Calls Try.prog 86 #[.slice (some ⟨g2, 0, none⟩) (c + 1) c2] w' fun e w'' => e = .returned (.tuple #[]) ∧ Below W.heap.size W w'' ∧ Calls Try.prog 84 #[.iface Tc (.pointer (some ⟨gc, 0, none⟩)), .slice (some ⟨g2, 0, none⟩) (c + 1) c2, .int .i64 k, .int .i64 (-N)] w'' fun e w3 => e = .returned (.int .i64 got) ∧ StandsX w g b k (.slice (some ⟨pg, 0, none⟩) L cap) vs fs B rs w3) := fun X hX => by
    have hbX := below_step hbW hX
    have hI2 := hI.below hbX
    have hpre : X.ownsRow 0 56 1 (.slice (some ⟨pg, 0, none⟩) (c + 1) cap) (c + 1) (vs.take (c + 1)) := by
      have hr := hI2.row
      rcases hr.2 with ⟨h0, _⟩ | ⟨g0, cap0, cur, e, hb0, hg0, h1, h2, h3, h4⟩
      · cases h0
      · cases e
        refine ⟨by rw [List.length_take]; omega, .inr ⟨pg, cap, cur, rfl, Nat.zero_le _, hg0, by omega, h2, h3, ?_⟩⟩
        rw [← h4, List.take_take]
        congr 1
        omega
    have hone : ∀ x ∈ vs.take (c + 1), x.oneCell' = true := fun x hx => by
      obtain ⟨q, hq⟩ := List.getElem?_of_mem (List.mem_of_mem_take hx)
      obtain ⟨T, gi, rfl⟩ := hI.iface q x hq
      rfl
    have hlen : (vs.take (c + 1)).length = c + 1 := by rw [List.length_take]; omega
    refine (clone_any pg (c + 1) cap (vs.take (c + 1)) X hpre hone (by omega) (by omega)).mono ?_
    rintro e w' ⟨g2, c2, he, ho, hb'⟩
    have hg2 : X.heap.size ≤ g2 := (World.ownsRow.lt ho g2 (by simp [Value.ownBlock])).1
    refine ⟨g2, c2, he, below_step hX hb', ?_⟩
    refine (reverse_any g2 (c + 1) c2 _ (vs.take (c + 1)) w' ho hlen (by omega) (fun q x hx => hI.iface q x (by
      have hq : q < c + 1 := by have := (List.getElem?_eq_some_iff.1 hx).1; omega
      rw [List.getElem?_take_of_lt hq] at hx
      exact hx))).mono ?_
    rintro e2 w'' ⟨he2, ho2, hbt⟩
    have hbw : Below W.heap.size W w'' := below_but (below_step hX hb') hbt (fun q hq => by
      have : q = g2 := by simpa using hq
      have := hX.size
      omega)
    refine ⟨he2, hbw, ?_⟩
    have hbY := below_step hbW hbw
    have hI3 := hI.below hbY
    have hjl : (List.range (c + 1)).reverse.length = c + 1 := by simp
    have hg2n : g2 ∉ g :: fs := fun e => by
      have h1 := hX.size
      have h2 := hbW.size
      rcases List.mem_cons.1 e with e | e
      · have := lt_of_block hI.own
        omega
      · have := hI.parts.lt g2 e
        omega
    have h := draw_any g b k (.slice (some ⟨pg, 0, none⟩) L cap) vs fs B (sizes ts) (c + 1) ts rs (List.range (c + 1)).reverse (-N) got w'' Tc gc g2 0 c2 hI.nd hvc (by omega) (by omega) (fun Y hY i j v hij hj => by
      have hi : i < c + 1 := by
        have := (List.getElem?_eq_some_iff.1 hij).1
        omega
      have hji : j = c - i := by
        rw [List.getElem?_reverse (by simpa using hi), List.length_range, List.getElem?_range (by omega)] at hij
        have := Option.some.inj hij
        omega
      subst hji
      rw [Nat.zero_add]
      have hk2 : Y.cell? ⟨g2, i, none⟩ = w''.cell? ⟨g2, i, none⟩ := by
        have hb3 := hY.block g2 (World.ownsRow.lt ho2 g2 (by simp [Value.ownBlock])).2 hg2n
        unfold World.cell?
        rw [hb3]
      rw [hk2, World.ownsRow.cellAt ho2 i (by omega), List.getElem?_reverse (by omega), hlen, List.getElem?_take_of_lt (by omega), ← hj]
      congr 1
      ) ⟨hD, hI3.stands, fun t ht => by
        obtain ⟨i, hi⟩ := List.getElem?_of_mem ht
        exact sizes_at ts i t hi, by rw [hrl]; exact hI.len, by have := hI.len; omega⟩
    rw [hjl] at h
    exact h.mono fun e w' h2 => ⟨h2.1, h2.2.own, h2.2.row, h2.2.parts, But.trans ⟨hbY.os, hbY.tape, hbY.output, hbY.size, fun q hq _ => hbY.block q hq⟩ h2.2.but⟩
  have HW : Hid (w.alloc (.cells #[.pointer (some ⟨g, 0, none⟩), .int .i64 at_] 98) = W) := hW
  have hw1 : IntKind.i64.wrap ((c : Int) + 1) = (c : Int) + 1 := by rw [IntKind.wrap_i64]; omega
  have hn0 : ¬ (0 : Int) ≤ n := by omega
  have HMx : Hid (max n (-1000) = N) := hN
  have y2 : IntKind.i64.wrap (-(max n (-1000))) = -(max n (-1000)) := by rw [hN, IntKind.wrap_i64]; omega
  have hgb : 0 ≤ got ∧ got ≤ 1000000 := hgot
  have y3 : IntKind.i64.wrap (-got) = -got := by rw [IntKind.wrap_i64]; omega
  have hb0 : 0 < L - (c + 1) := by omega
  have hc1 : c + 1 ≤ L := by omega
  have hc2 : c + 1 ≤ cap := by omega
  have hc3 : c < c + 1 := Nat.lt_succ_self c
  have s1 : ((0 : Int) ≤ (c : Int) + 1 ∧ (c : Int) + 1 ≤ (cap : Int)) = True := by simp; omega
  have s2 : ((0 : Int) ≤ (c : Int) + 1 ∧ (c : Int) + 1 ≤ (L : Int)) = True := by simp; omega
  have s3 : (cap = c + 1) = False := by simp; omega
  clear hI hD hvc hvl hM hbW hW hrl hat hn hL hc hN hgb hgot
  go_enter Try.func73, Try.ntmps73
  go_wp2_with fail
  rw [HW.out]
  refine wp_region_qw (fun X => Below W.heap.size W X) (by kernel_rfl) (by kernel_rfl) (Below.refl _ _).drew ?_
  repeat (
    refine qw_take (v := ?_) (by rfl) (fun X hX => ?_) ?_
    rotate_left
    · obtain ⟨c0, c1, c4, c5, cc⟩ := HC.out X hX
      go_simp
      all_goals first | with_reducible rfl | with_reducible exact HBd.out X hX
    intro K hK
    go_simp
    refine hK.out _ ?_
    clear hK K)
  refine qw_nil ?_
  intro w4 hB4
  go_wp2_with fail
  refine wp_region_qw (fun X => Below W.heap.size W X) (by kernel_rfl) (by kernel_rfl) hB4.drew ?_
  repeat (
    refine qw_take (v := ?_) (by rfl) (fun X hX => ?_) ?_
    rotate_left
    · obtain ⟨c0, c1, c4, c5, cc⟩ := HC.out X hX
      go_simp
      all_goals with_reducible rfl
    intro K hK
    go_simp
    refine hK.out _ ?_
    clear hK K)
  refine qw_nil ?_
  intro w5 hB5
  obtain ⟨c0, c1, c4, c5, cc⟩ := HC.out w5 hB5
  go_wp2_with fail
  refine (HCl.out w5 hB5).mono ?_
  rintro e w6 ⟨g2, c2, rfl, hb6, hR⟩
  have HRv : Hid (Calls Try.prog 86 #[.slice (some ⟨g2, 0, none⟩) (c + 1) c2] w6 fun e w'' => e = .returned (.tuple #[]) ∧ Below W.heap.size W w'' ∧ Calls Try.prog 84 #[.iface Tc (.pointer (some ⟨gc, 0, none⟩)), .slice (some ⟨g2, 0, none⟩) (c + 1) c2, .int .i64 k, .int .i64 (-N)] w'' fun e w3 => e = .returned (.int .i64 got) ∧ StandsX w g b k (.slice (some ⟨pg, 0, none⟩) L cap) vs fs B rs w3) := hR
  clear hR hb6 hB4 hB5 c0 c1 c4 c5 cc
  go_wp2_with fail
  refine HRv.out.mono ?_
  rintro e w7 ⟨rfl, hb7, hDd⟩
  have HDd : Hid (Calls Try.prog 84 #[.iface Tc (.pointer (some ⟨gc, 0, none⟩)), .slice (some ⟨g2, 0, none⟩) (c + 1) c2, .int .i64 k, .int .i64 (-N)] w7 fun e w3 => e = .returned (.int .i64 got) ∧ StandsX w g b k (.slice (some ⟨pg, 0, none⟩) L cap) vs fs B rs w3) := hDd
  obtain ⟨c0, c1, c4, c5, cc⟩ := HC.out w7 hb7
  clear hDd hb7 HRv
  go_wp2_with fail
  rw [HMx.out]
  refine HDd.out.mono ?_
  rintro e w6 ⟨rfl, hS⟩
  have HS : Hid (StandsX w g b k (.slice (some ⟨pg, 0, none⟩) L cap) vs fs B rs w6) := hS
  clear hS c0 c1 c4 c5 cc
  go_wp2
  go_ret
  exact ⟨rfl, HS.out⟩

end Go.Proofs.Ytnepemlagnnngaa

namespace Go.Proofs.Ytnepemlagnnngaa
open Go.RowKit
set_option linter.unusedVariables false
set_option maxRecDepth 20000

theorem partsAt.oneK {W : World} {B : Nat} : ∀ {ts : List Tree} {vs : List Value} {fp : List Nat}, partsAt W B ts vs fp → fp.Nodup → ∀ (i : Nat) t, ts[i]? = some t →
    ∃ v f, vs[i]? = some v ∧ t.At W B v f ∧ f.Nodup ∧ (∀ x ∈ f, x ∈ fp) ∧ ∀ W' t', (∀ q ∈ fp, q ∉ f → W'.heap[q]? = W.heap[q]?) → t'.At W' B v f → partsAt W' B (ts.set i t') vs fp
  | [], vs, fp, h, _, i, t, hi => by cases hi
  | t :: ts, vs, fp, h, hn, 0, t', hi => by
    obtain ⟨v, vs', f, f', rfl, h2, h3, rfl⟩ := h
    cases hi
    obtain ⟨n1, n2, n3⟩ := List.nodup_append.1 hn
    refine ⟨v, f, rfl, h2, n1, fun x hx => List.mem_append_left _ hx, fun W' t' hb ht => ⟨v, vs', f, f', rfl, ht, h3.keep fun g hg => hb g (List.mem_append_right _ hg) fun hf => n3 g hf g hg rfl, rfl⟩⟩
  | t :: ts, vs, fp, h, hn, i + 1, t', hi => by
    obtain ⟨v, vs', f, f', rfl, h2, h3, rfl⟩ := h
    obtain ⟨n1, n2, n3⟩ := List.nodup_append.1 hn
    obtain ⟨v1, f1, e1, e2, e3, e4, e5⟩ := partsAt.oneK h3 n2 i t' hi
    exact ⟨v1, f1, e1, e2, e3, fun x hx => List.mem_append_right _ (e4 x hx), fun W' t'' hb ht => ⟨v, vs', f, f', rfl, h2.keep fun g hg => hb g (List.mem_append_left _ hg) fun hf => n3 g hg g (e4 g hf) rfl, e5 W' t'' (fun q hq hnq => hb q (List.mem_append_right _ hq) hnq) ht, rfl⟩⟩

/-- A split in memory is not of this kind. -/
def OtherK (W : World) (k : Int) (g : Nat) : Prop := ∃ k', W.cell? ⟨g, 4, none⟩ = some (.int .i64 k') ∧ k' ≠ k
/-- Where the nearest one stands. -/
structure NearAt (W : World) (k : Int) (t : Tree) (v : Value) (fp : List Nat) (st : List (Nat × Nat)) (qs : List Nat) (a : Nat) (j g : Nat) (b : Box) (ts : List Tree) (f' : List Nat) : Prop where
  at_ : st[j]? = some (g, a)
  ahead : ∀ (i : Nat) (s : Nat × Nat), i < j → st[i]? = some s → OtherK W k s.1
  kind : W.cell? ⟨g, 4, none⟩ = some (.int .i64 k)
  sub : t.subAt qs = some (.split b k ts)
  here : (Tree.split b k ts).At W 0 (splitI g) f'
  nd : f'.Nodup
  inn : ∀ q ∈ f', q ∈ fp
  put : ∀ W' s', (∀ q ∈ fp, q ∉ f' → W'.heap[q]? = W.heap[q]?) → s'.At W' 0 (splitI g) f' → (t.putAt qs s').At W' 0 v fp

theorem near_at {W : World} {k : Int} : ∀ (ps : List Nat) {t : Tree} {v v' : Value} {fp : List Nat} {st : List (Nat × Nat)}, t.At W 0 v fp → fp.Nodup → Reach W v ps v' st →
    (nearF k t ps = none → ∀ (i : Nat) (s : Nat × Nat), st[i]? = some s → OtherK W k s.1) ∧ (∀ qs a, nearF k t ps = some (qs, a) → ∃ j g b ts f', NearAt W k t v fp st qs a j g b ts f')
  | [], t, v, v', fp, st, h, hnd, hr => by
    obtain ⟨_, rfl⟩ := hr
    exact ⟨fun _ i s hi => by simp at hi, fun qs a hn => by simp [nearF] at hn⟩
  | i :: ps, .leaf b p, v, v', fp, st, h, hnd, hr => by
    obtain ⟨g, pg, n, cap, vi, st', rfl, _⟩ := hr
    obtain ⟨g', e, _⟩ := h
    cases e
  | i :: ps, .split b k' ts, v, v', fp, st, h, hnd, hr => by
    have hAt := h
    obtain ⟨g, pg, n, cap, vi, st', rfl, h1, h2, h3, h4, rfl⟩ := hr
    obtain ⟨g', sl, vs, fs, e, k2, k3, k4, rfl⟩ := h
    cases e
    have hsl : sl = .slice (some ⟨pg, 0, none⟩) n cap := by
      have := cell_atL k2 5
      rw [h1] at this
      exact (Option.some.inj this).symm
    subst hsl
    have hvn : vs.length = n := by
      rcases k3.2 with ⟨e, _⟩ | ⟨g0, cap0, cur, e, _⟩
      · cases e
      · injection e with _ e2 _
        exact e2.symm
    have hvl := k4.length
    obtain ⟨u, hu⟩ : ∃ u, ts[i]? = some u := ⟨_, List.getElem?_eq_getElem (by omega)⟩
    obtain ⟨n1, n2⟩ := List.nodup_cons.1 hnd
    obtain ⟨n3, n4, n5⟩ := List.nodup_append.1 n2
    obtain ⟨v1, f1, e1, e2, e3, e4, e5⟩ := partsAt.oneK k4 n4 i u hu
    have hvi : vi = v1 := by
      have hr3 := k3
      rw [hvn] at hr3
      have := World.ownsRow.cellAt hr3 i (by omega)
      rw [h3, e1] at this
      exact Option.some.inj this
    subst hvi
    have hk4 : W.cell? ⟨g, 4, none⟩ = some (.int .i64 k') := cell_atL k2 4
    obtain ⟨ih1, ih2⟩ := near_at (k := k) ps e2 e3 h4
    cases hn : nearF k u ps with
    | some r =>
      obtain ⟨qs', a'⟩ := r
      have hnf : nearF k (.split b k' ts) (i :: ps) = some (i :: qs', a') := by simp only [nearF, hu, hn]
      rw [hnf]
      refine ⟨fun e => (by cases e), fun qs a e => ?_⟩
      cases e
      obtain ⟨j, gg, bb, tt, f', hN⟩ := ih2 _ _ hn
      refine ⟨j, gg, bb, tt, f', ?_, ?_, hN.kind, ?_, hN.here, hN.nd, fun q hq => List.mem_cons_of_mem _ (List.mem_append_right _ (e4 q (hN.inn q hq))), fun W' s' hb hs' => ?_⟩
      · rw [List.getElem?_append_left (List.getElem?_eq_some_iff.1 hN.at_).1]
        exact hN.at_
      · intro i2 s hi2 hs
        have hjl := (List.getElem?_eq_some_iff.1 hN.at_).1
        rw [List.getElem?_append_left (by omega)] at hs
        exact hN.ahead i2 s hi2 hs
      · simp only [Tree.subAt, hu]
        exact hN.sub
      · have hput : (Tree.split b k' ts).putAt (i :: qs') s' = .split b k' (ts.set i (u.putAt qs' s')) := by simp [Tree.putAt, hu]
        rw [hput]
        refine ⟨g, _, vs, fs, rfl, ?_, ?_, e5 W' _ (fun q hq hnq => hb q (List.mem_cons_of_mem _ (List.mem_append_right _ hq)) fun e => hnq (hN.inn q e)) (hN.put W' s' (fun q hq hnq => hb q (List.mem_cons_of_mem _ (List.mem_append_right _ (e4 q hq))) hnq) hs'), rfl⟩
        · exact (hb g List.mem_cons_self fun e => n1 (List.mem_append_right _ (e4 g (hN.inn g e)))).trans k2
        · exact own_kept k3 fun q hq => hb q (List.mem_cons_of_mem _ (List.mem_append_left _ hq)) fun e => n5 q hq q (e4 q (hN.inn q e)) rfl
    | none =>
      have ih := ih1 hn
      by_cases hkk : k' = k
      · subst hkk
        have hnf : nearF k' (.split b k' ts) (i :: ps) = some ([], i) := by simp only [nearF, hu, hn, if_true]
        rw [hnf]
        refine ⟨fun e => (by cases e), fun qs a e => ?_⟩
        cases e
        refine ⟨st'.length, g, b, ts, _, by simp, ?_, hk4, rfl, hAt, hnd, fun q hq => hq, fun W' s' _ hs' => hs'⟩
        intro i2 s hi2 hs
        rw [List.getElem?_append_left hi2] at hs
        exact ih i2 s hs
      · have hnf : nearF k (.split b k' ts) (i :: ps) = none := by simp only [nearF, hu, hn, if_neg hkk]
        rw [hnf]
        refine ⟨fun _ i2 s hs => ?_, fun qs a e => (by cases e)⟩
        by_cases hi2 : i2 < st'.length
        · rw [List.getElem?_append_left hi2] at hs
          exact ih i2 s hs
        · rw [List.getElem?_append_right (by omega)] at hs
          have : i2 - st'.length = 0 := by
            have := (List.getElem?_eq_some_iff.1 hs).1
            simp at this
            omega
          rw [this] at hs
          cases hs
          exact ⟨k', hk4, hkk⟩

end Go.Proofs.Ytnepemlagnnngaa

namespace Go.Proofs.Ytnepemlagnnngaa
open Go.RowKit
set_option linter.unusedVariables false
set_option maxRecDepth 100000

theorem stepL_get : ∀ (st : List (Nat × Nat)) (i : Nat) (s : Nat × Nat), st[i]? = some s → (stepL st)[i * 2]? = some (.pointer (some ⟨s.1, 0, none⟩)) ∧ (stepL st)[i * 2 + 1]? = some (.int .i64 s.2)
  | [], i, s, h => by simp at h
  | a :: st, 0, s, h => by
    simp at h
    subst h
    exact ⟨rfl, rfl⟩
  | a :: st, i + 1, s, h => by
    have ih := stepL_get st i s (by simpa using h)
    have e : stepL (a :: st) = [.pointer (some ⟨a.1, 0, none⟩), .int .i64 a.2] ++ stepL st := rfl
    rw [e, show (i + 1) * 2 = i * 2 + 2 by omega, show i * 2 + 2 + 1 = i * 2 + 1 + 2 by omega]
    exact ih
/-- What nearest answers: a tree, a step, an error. -/
def NearErr (er : Int) (w : World) (e : Ending) (w' : World) : Prop := e = .returned (.tuple #[.nilIface, .agg #[.pointer none, .int .i64 0], .int .i64 er]) ∧ Below w.heap.size w w'

theorem near_none (v : Value) (l : List CellV) (q k : Int) (w : World) (h : CellsIn w v l) (hF : readF l = none) : Calls Try.prog 72 #[v, .int .i64 q, .int .i64 k] w (NearErr 40 w) := by
  obtain ⟨W, hW⟩ : ∃ W, w.alloc (.cells #[.pointer none, .int .i64 0] 98) = W := ⟨_, rfl⟩
  have hbW : Below w.heap.size w W := by rw [← hW]; exact (Below.refl _ _).alloc (Nat.le_refl _) _
  have hM : W.heap[w.heap.size]? = some (.cells #[.pointer none, .int .i64 0] 98 (0, 0)) := by rw [← hW]; exact heap_alloc_new _ _
  have HR : Hid (Calls Try.prog 24 #[v] W fun e w' => e = .returned nilPart ∧ Below W.heap.size W w') := read_no v l W (h.below hbW) hF
  have HX : Hid (∀ X, Below W.heap.size W X → X.heap[w.heap.size]? = some (.cells #[.pointer none, .int .i64 0] 98 (0, 0))) := fun X hX => (hX.block _ (lt_of_block hM)).trans hM
  have HW : Hid (w.alloc (.cells #[.pointer none, .int .i64 0] 98) = W) := hW
  have HBW : Hid (Below w.heap.size w W) := hbW
  clear h hF hW hbW hM
  go_enter Try.func72, Try.ntmps72
  go_upto_region 1 with fail
  rw [HW.out]
  go_wp2_with fail
  refine HR.out.mono ?_
  rintro e w1 ⟨rfl, hb⟩
  have c0 : w1.cell? ⟨w.heap.size, 0, none⟩ = some (.pointer none) := cell_atL (HX.out w1 hb) 0
  have c1 : w1.cell? ⟨w.heap.size, 1, none⟩ = some (.int .i64 0) := cell_atL (HX.out w1 hb) 1
  have f0 : w1.frozen? ⟨w.heap.size, 0, none⟩ = false := free_atL (HX.out w1 hb) 0
  have f1 : w1.frozen? ⟨w.heap.size, 1, none⟩ = false := free_atL (HX.out w1 hb) 1
  have HB : Hid (Below w.heap.size w w1) := below_step HBW.out hb
  unfold nilPart
  clear hb
  go_wp2
  exact bodyPost_ret (v := .tuple #[.nilIface, .agg #[.pointer none, .int .i64 0], .int .i64 40]) (by simp [results, Try.results72, go_sem, c0, c1]) rfl ⟨rfl, below_grown (below_grown HB.out (grownBy_set _ _ _ _) (Nat.le_refl _)) (grownBy_set _ _ _ _) (Nat.le_refl _)⟩

theorem near_arg (v : Value) (l : List CellV) (q k : Int) (w : World) (h : CellsIn w v l) {t : Tree} (hF : readF l = some t) (hk : ¬ (k = 2 ∨ k = 3)) : Calls Try.prog 72 #[v, .int .i64 q, .int .i64 k] w (NearErr 1 w) := by
  obtain ⟨W, hW⟩ : ∃ W, w.alloc (.cells #[.pointer none, .int .i64 0] 98) = W := ⟨_, rfl⟩
  have hbW : Below w.heap.size w W := by rw [← hW]; exact (Below.refl _ _).alloc (Nat.le_refl _) _
  have hM : W.heap[w.heap.size]? = some (.cells #[.pointer none, .int .i64 0] 98 (0, 0)) := by rw [← hW]; exact heap_alloc_new _ _
  have HR : Hid (Calls Try.prog 24 #[v] W (ReadYes t W)) := read_yes v l W (h.below hbW) hF
  have HX : Hid (∀ X, Below W.heap.size W X → X.heap[w.heap.size]? = some (.cells #[.pointer none, .int .i64 0] 98 (0, 0))) := fun X hX => (hX.block _ (lt_of_block hM)).trans hM
  have HW : Hid (w.alloc (.cells #[.pointer none, .int .i64 0] 98) = W) := hW
  have HBW : Hid (Below w.heap.size w W) := hbW
  have HC : Hid (∀ W, Calls Try.prog 25 #[.int .i64 k] W fun e w' => e = .returned (.bool false) ∧ W = w') := fun W => (decide_eq_false hk) ▸ isCut_any k W
  clear h hF hW hbW hM hk
  go_enter Try.func72, Try.ntmps72
  go_upto_region 1 with fail
  rw [HW.out]
  go_wp2_with fail
  refine HR.out.mono ?_
  rintro e w1 ⟨T, g, fp, rfl, hAt, hnd, hge, hb⟩
  have HBa : Hid (Below W.heap.size W w1) := hb
  clear hAt hnd hge hb HR
  go_wp2_with fail
  refine (HC.out _).mono ?_
  rintro e w2 ⟨rfl, rfl⟩
  have c0 : w1.cell? ⟨w.heap.size, 0, none⟩ = some (.pointer none) := cell_atL (HX.out w1 HBa.out) 0
  have c1 : w1.cell? ⟨w.heap.size, 1, none⟩ = some (.int .i64 0) := cell_atL (HX.out w1 HBa.out) 1
  have f0 : w1.frozen? ⟨w.heap.size, 0, none⟩ = false := free_atL (HX.out w1 HBa.out) 0
  have f1 : w1.frozen? ⟨w.heap.size, 1, none⟩ = false := free_atL (HX.out w1 HBa.out) 1
  have HB : Hid (Below w.heap.size w w1) := below_step HBW.out HBa.out
  go_wp2
  exact bodyPost_ret (v := .tuple #[.nilIface, .agg #[.pointer none, .int .i64 0], .int .i64 1]) (by simp [results, Try.results72, go_sem, c0, c1]) rfl ⟨rfl, below_grown (below_grown HB.out (grownBy_set _ _ _ _) (Nat.le_refl _)) (grownBy_set _ _ _ _) (Nat.le_refl _)⟩

theorem near_pane (v : Value) (l : List CellV) (q k : Int) (w : World) (h : CellsIn w v l) {t : Tree} (hF : readF l = some t) (hk : k = 2 ∨ k = 3) (hp : t.path q = none) : Calls Try.prog 72 #[v, .int .i64 q, .int .i64 k] w (NearErr 42 w) := by
  obtain ⟨W, hW⟩ : ∃ W, w.alloc (.cells #[.pointer none, .int .i64 0] 98) = W := ⟨_, rfl⟩
  have hbW : Below w.heap.size w W := by rw [← hW]; exact (Below.refl _ _).alloc (Nat.le_refl _) _
  have hM : W.heap[w.heap.size]? = some (.cells #[.pointer none, .int .i64 0] 98 (0, 0)) := by rw [← hW]; exact heap_alloc_new _ _
  have HR : Hid (Calls Try.prog 24 #[v] W (ReadYes t W)) := read_yes v l W (h.below hbW) hF
  have HX : Hid (∀ X, Below W.heap.size W X → X.heap[w.heap.size]? = some (.cells #[.pointer none, .int .i64 0] 98 (0, 0))) := fun X hX => (hX.block _ (lt_of_block hM)).trans hM
  have HW : Hid (w.alloc (.cells #[.pointer none, .int .i64 0] 98) = W) := hW
  have HBW : Hid (Below w.heap.size w W) := hbW
  have HC : Hid (∀ W, Calls Try.prog 25 #[.int .i64 k] W fun e w' => e = .returned (.bool true) ∧ W = w') := fun W => (decide_eq_true hk) ▸ isCut_any k W
  have hl := readF_lay hF
  have hz := lay_size hl
  have HWy : Hid (∀ T g fp X, t.At X 0 (.iface T (.pointer (some ⟨g, 0, none⟩))) fp → ∃ Fw, (∀ Y, (method 279 T (.pointer (some ⟨g, 0, none⟩)) "mullion/layout.way").run Try.prog Y = .ok (Fw, .pointer (some ⟨g, 0, none⟩)) Y) ∧ (∀ a c Y, (callFunc Fw #[a, c]).run Try.prog Y = .ok (.enter Fw #[a, c]) Y) ∧ Calls Try.prog Fw #[.pointer (some ⟨g, 0, none⟩), .int .i64 q] X (WayGood X (.iface T (.pointer (some ⟨g, 0, none⟩))) t q X)) := fun T g fp X hA => by
    obtain ⟨T', gi, Fw, hP⟩ := hA.partW hl.sound (by omega)
    have hv := hP.val
    cases hv
    exact ⟨Fw, hP.mW, hP.fW, hP.cW q X (Below.refl _ _)⟩
  have HP : Hid (t.path q = none) := hp
  clear h hF hW hbW hM hk hl hz hp
  go_enter Try.func72, Try.ntmps72
  go_upto_region 1 with fail
  rw [HW.out]
  go_wp2_with fail
  refine HR.out.mono ?_
  rintro e w1 ⟨T, g, fp, rfl, hAt, hnd, hge, hb⟩
  have HBa : Hid (Below W.heap.size W w1) := hb
  obtain ⟨Fw, m1, m2, hcw⟩ := HWy.out T g fp w1 hAt
  have HcW : Hid (Calls Try.prog Fw #[.pointer (some ⟨g, 0, none⟩), .int .i64 q] w1 (WayGood w1 (.iface T (.pointer (some ⟨g, 0, none⟩))) t q w1)) := hcw
  have HAt : Hid (t.At w1 0 (.iface T (.pointer (some ⟨g, 0, none⟩))) fp ∧ fp.Nodup ∧ ∀ q ∈ fp, W.heap.size ≤ q) := ⟨hAt, hnd, hge⟩
  clear hAt hnd hge hb HR hcw HWy
  go_wp2_with fail
  refine (HC.out _).mono ?_
  rintro e w2 ⟨rfl, rfl⟩
  go_wp2_with fail
  refine HcW.out.mono ?_
  rintro e w2 ⟨hb2, ⟨hp2, rfl⟩ | ⟨ps, gl, st, sa, sn, sc, hp2, _⟩⟩
  · have hb3 := below_step HBa.out hb2
    have c0 : w2.cell? ⟨w.heap.size, 0, none⟩ = some (.pointer none) := cell_atL (HX.out w2 hb3) 0
    have c1 : w2.cell? ⟨w.heap.size, 1, none⟩ = some (.int .i64 0) := cell_atL (HX.out w2 hb3) 1
    have f0 : w2.frozen? ⟨w.heap.size, 0, none⟩ = false := free_atL (HX.out w2 hb3) 0
    have f1 : w2.frozen? ⟨w.heap.size, 1, none⟩ = false := free_atL (HX.out w2 hb3) 1
    have HB : Hid (Below w.heap.size w w2) := below_step HBW.out hb3
    clear hb2 hb3 hp2
    go_wp2
    exact bodyPost_ret (v := .tuple #[.nilIface, .agg #[.pointer none, .int .i64 0], .int .i64 42]) (by simp [results, Try.results72, go_sem, c0, c1]) rfl ⟨rfl, below_grown (below_grown HB.out (grownBy_set _ _ _ _) (Nat.le_refl _)) (grownBy_set _ _ _ _) (Nat.le_refl _)⟩
  · rw [HP.out] at hp2
    cases hp2

set_option maxHeartbeats 1000000 in
theorem near_alone (v : Value) (l : List CellV) (q k : Int) (w : World) (h : CellsIn w v l) {t : Tree} (hF : readF l = some t) (hk : k = 2 ∨ k = 3) (ps : List Nat) (hp : t.path q = some ps) (hpl : ps.length ≤ 1000) (hn : nearF k t ps = none) : Calls Try.prog 72 #[v, .int .i64 q, .int .i64 k] w (NearErr 47 w) := by
  obtain ⟨W, hW⟩ : ∃ W, w.alloc (.cells #[.pointer none, .int .i64 0] 98) = W := ⟨_, rfl⟩
  have hbW : Below w.heap.size w W := by rw [← hW]; exact (Below.refl _ _).alloc (Nat.le_refl _) _
  have hM : W.heap[w.heap.size]? = some (.cells #[.pointer none, .int .i64 0] 98 (0, 0)) := by rw [← hW]; exact heap_alloc_new _ _
  have HR : Hid (Calls Try.prog 24 #[v] W (ReadYes t W)) := read_yes v l W (h.below hbW) hF
  have HX : Hid (∀ X, Below W.heap.size W X → X.heap[w.heap.size]? = some (.cells #[.pointer none, .int .i64 0] 98 (0, 0))) := fun X hX => (hX.block _ (lt_of_block hM)).trans hM
  have HW : Hid (w.alloc (.cells #[.pointer none, .int .i64 0] 98) = W) := hW
  have HBW : Hid (Below w.heap.size w W) := hbW
  have HC : Hid (∀ W, Calls Try.prog 25 #[.int .i64 k] W fun e w' => e = .returned (.bool true) ∧ W = w') := fun W => (decide_eq_true hk) ▸ isCut_any k W
  have hl := readF_lay hF
  have hz := lay_size hl
  have HWy : Hid (∀ T g fp X, t.At X 0 (.iface T (.pointer (some ⟨g, 0, none⟩))) fp → ∃ Fw, (∀ Y, (method 279 T (.pointer (some ⟨g, 0, none⟩)) "mullion/layout.way").run Try.prog Y = .ok (Fw, .pointer (some ⟨g, 0, none⟩)) Y) ∧ (∀ a c Y, (callFunc Fw #[a, c]).run Try.prog Y = .ok (.enter Fw #[a, c]) Y) ∧ Calls Try.prog Fw #[.pointer (some ⟨g, 0, none⟩), .int .i64 q] X (WayGood X (.iface T (.pointer (some ⟨g, 0, none⟩))) t q X)) := fun T g fp X hA => by
    obtain ⟨T', gi, Fw, hP⟩ := hA.partW hl.sound (by omega)
    have hv := hP.val
    cases hv
    exact ⟨Fw, hP.mW, hP.fW, hP.cW q X (Below.refl _ _)⟩
  have HP : Hid (t.path q = some ps) := hp
  have HPl : Hid (ps.length ≤ 1000) := hpl
  have HNf : Hid (nearF k t ps = none) := hn
  clear h hF hW hbW hM hk hl hz hp hpl hn
  go_enter Try.func72, Try.ntmps72
  go_upto_region 1 with fail
  rw [HW.out]
  go_wp2_with fail
  refine HR.out.mono ?_
  rintro e w1 ⟨T, g, fp, rfl, hAt, hnd, hge, hb⟩
  have HBa : Hid (Below W.heap.size W w1) := hb
  obtain ⟨Fw, m1, m2, hcw⟩ := HWy.out T g fp w1 hAt
  have HcW : Hid (Calls Try.prog Fw #[.pointer (some ⟨g, 0, none⟩), .int .i64 q] w1 (WayGood w1 (.iface T (.pointer (some ⟨g, 0, none⟩))) t q w1)) := hcw
  have HAt : Hid (t.At w1 0 (.iface T (.pointer (some ⟨g, 0, none⟩))) fp ∧ fp.Nodup ∧ ∀ q ∈ fp, W.heap.size ≤ q) := ⟨hAt, hnd, hge⟩
  clear hAt hnd hge hb HR hcw HWy
  go_wp2_with fail
  refine (HC.out _).mono ?_
  rintro e w2 ⟨rfl, rfl⟩
  go_wp2_with fail
  refine HcW.out.mono ?_
  rintro e w2 ⟨hb2, ⟨hp2, rfl⟩ | ⟨ps2, gl, st, sa, sn, sc, hp2, hre, rfl, hst⟩⟩
  · rw [HP.out] at hp2
    cases hp2
  · rw [HP.out] at hp2
    cases hp2
    have hb3 := below_step HBa.out hb2
    have hre0 := hre
    have HNr : Hid _ := near_at (k := k) ps HAt.out.1 HAt.out.2.1 hre
    have hsn : sn = st.length := by
      obtain ⟨a', c', e⟩ := own_sl5 hst
      injection e with _ e2 _
    obtain ⟨m, hm⟩ : ∃ m, st.length = m := ⟨_, rfl⟩
    have hps : m ≤ 1000 := by
      rw [← hm, hre.len]
      exact HPl.out
    rw [hm] at hsn
    have hsn' := hsn.symm
    subst hsn'
    have HM : Hid (st.length = m) := hm
    have HSt : Hid (∀ X, Below w2.heap.size w2 X → ∀ (i : Nat) s, st[i]? = some s → ∃ sg, sa = some ⟨sg, 0, none⟩ ∧ X.cell? ⟨sg, i * 2, none⟩ = some (.pointer (some ⟨s.1, 0, none⟩)) ∧ X.cell? ⟨sg, i * 2 + 1, none⟩ = some (.int .i64 s.2)) := fun X hX i s hs => by
      have hi : i < m := by rw [← hm]; exact (List.getElem?_eq_some_iff.1 hs).1
      have hst' := hst
      unfold Steps at hst'
      rw [hm] at hst'
      rcases hst'.2 with ⟨_, h0⟩ | ⟨sg, cp, cur, e, hb0, hg0, r⟩
      · omega
      · have he : sa = some ⟨sg, 0, none⟩ := by injection e
        refine ⟨sg, he, ?_, ?_⟩
        · subst he
          have h1 := World.ownsRow.cellAt hst' (i * 2) (by omega)
          rw [(stepL_get st i s hs).1] at h1
          exact (hX.cell (p := ⟨sg, i * 2, none⟩) (World.block_lt_of_cell? w2 _ h1)).trans h1
        · subst he
          have h1 := World.ownsRow.cellAt hst' (i * 2 + 1) (by omega)
          rw [(stepL_get st i s hs).2] at h1
          exact (hX.cell (p := ⟨sg, i * 2 + 1, none⟩) (World.block_lt_of_cell? w2 _ h1)).trans h1
    have HKd : Hid (∀ X, Below w2.heap.size w2 X → ∀ (gg : Nat) x, w1.cell? ⟨gg, 4, none⟩ = some x → X.cell? ⟨gg, 4, none⟩ = some x) := fun X hX gg x hx => ((below_step hb2 hX).cell (p := ⟨gg, 4, none⟩) (World.block_lt_of_cell? w1 _ hx)).trans hx
    have HB2 : Hid (Below W.heap.size W w2) := hb3
    have HCs : Hid (∀ X, Below w2.heap.size w2 X → X.cell? ⟨w.heap.size, 0, none⟩ = some (.pointer none) ∧ X.cell? ⟨w.heap.size, 1, none⟩ = some (.int .i64 0) ∧ X.frozen? ⟨w.heap.size, 0, none⟩ = false ∧ X.frozen? ⟨w.heap.size, 1, none⟩ = false) := fun X hX => by
      have hbx := HX.out X (below_step hb3 hX)
      exact ⟨cell_atL hbx 0, cell_atL hbx 1, free_atL hbx 0, free_atL hbx 1⟩
    have HOt : Hid (∀ (i : Nat) (s : Nat × Nat), st[i]? = some s → OtherK w1 k s.1) := HNr.out.1 HNf.out
    clear hb2 hb3 hre hre0 hst hm HNr HcW m1 m2 HAt
    go_wp2
    go_loopw [34] (fun vi wr => ∃ i : Nat, i ≤ m ∧ vi = .int .i64 i ∧ Hid (Below w2.heap.size w2 wr)) (fun vi _ => m - (intOf vi).toNat)
    case atStart => exact ⟨0, Nat.zero_le _, rfl, Below.refl _ _⟩
    case round =>
      obtain ⟨i, hi, rfl, HBr⟩ := hrel
      by_cases hlt : i < m
      · obtain ⟨s, hs⟩ : ∃ s, st[i]? = some s := ⟨_, List.getElem?_eq_getElem (by rw [HM.out]; exact hlt)⟩
        obtain ⟨sg, hsa, q0, q1⟩ := HSt.out wr HBr.out i s hs
        obtain ⟨k', hk', hne⟩ := HOt.out i s hs
        subst hsa
        obtain ⟨s1, s2⟩ := s
        have HK2 : Hid (∀ o, (wr.alloc o).cell? ⟨s1, 4, none⟩ = some (.int .i64 k')) := fun o => HKd.out _ (below_step HBr.out ((Below.refl _ _).alloc (Nat.le_refl _) o)) s1 _ hk'
        have k4 := HK2.out
        have hne' : (k' == k) = false := by simpa using hne
        have HB5 : Hid (∀ o, Below w2.heap.size w2 (wr.alloc o)) := fun o => below_step HBr.out ((Below.refl _ _).alloc (Nat.le_refl _) o)
        clear hs hk' hne
        go_wp2
        go_roundw
        case rel => exact ⟨i + 1, by omega, by go_num, HB5.out _⟩
        case measure => simp [intOf]; omega
      · have hin : i = m := by omega
        subst hin
        obtain ⟨c0, c1, f0, f1⟩ := HCs.out wr HBr.out
        have HB : Hid (Below w.heap.size w wr) := below_step HBW.out (below_step HB2.out HBr.out)
        go_wp2
        exact bodyPost_ret (v := .tuple #[.nilIface, .agg #[.pointer none, .int .i64 0], .int .i64 47]) (by simp [results, Try.results72, go_sem, c0, c1]) rfl ⟨rfl, below_grown (below_grown HB.out (grownBy_set _ _ _ _) (Nat.le_refl _)) (grownBy_set _ _ _ _) (Nat.le_refl _)⟩

end Go.Proofs.Ytnepemlagnnngaa

namespace Go.Proofs.Ytnepemlagnnngaa
open Go.RowKit
set_option linter.unusedVariables false
set_option maxRecDepth 100000

/-- What nearest answers where there is one. -/
def NearYes (k : Int) (t : Tree) (qs : List Nat) (a : Nat) (w : World) (e : Ending) (w' : World) : Prop := ∃ T g fp st j gg b ts f' w1, e = .returned (.tuple #[.iface T (.pointer (some ⟨g, 0, none⟩)), .agg #[.pointer (some ⟨gg, 0, none⟩), .int .i64 a], .int .i64 0]) ∧ t.At w1 0 (.iface T (.pointer (some ⟨g, 0, none⟩))) fp ∧ fp.Nodup ∧ (∀ q ∈ fp, w.heap.size + 1 ≤ q) ∧ NearAt w1 k t (.iface T (.pointer (some ⟨g, 0, none⟩))) fp st qs a j gg b ts f' ∧ But [w.heap.size] w1 w' ∧ Below w.heap.size w w'

set_option maxHeartbeats 1000000 in
theorem near_found (v : Value) (l : List CellV) (q k : Int) (w : World) (h : CellsIn w v l) {t : Tree} (hF : readF l = some t) (hk : k = 2 ∨ k = 3) (ps : List Nat) (hp : t.path q = some ps) (hpl : ps.length ≤ 1000) (qs : List Nat) (a : Nat) (hn : nearF k t ps = some (qs, a)) : Calls Try.prog 72 #[v, .int .i64 q, .int .i64 k] w (NearYes k t qs a w) := by
  obtain ⟨W, hW⟩ : ∃ W, w.alloc (.cells #[.pointer none, .int .i64 0] 98) = W := ⟨_, rfl⟩
  have hbW : Below w.heap.size w W := by rw [← hW]; exact (Below.refl _ _).alloc (Nat.le_refl _) _
  have hM : W.heap[w.heap.size]? = some (.cells #[.pointer none, .int .i64 0] 98 (0, 0)) := by rw [← hW]; exact heap_alloc_new _ _
  have HR : Hid (Calls Try.prog 24 #[v] W (ReadYes t W)) := read_yes v l W (h.below hbW) hF
  have HX : Hid (∀ X, Below W.heap.size W X → X.heap[w.heap.size]? = some (.cells #[.pointer none, .int .i64 0] 98 (0, 0))) := fun X hX => (hX.block _ (lt_of_block hM)).trans hM
  have HW : Hid (w.alloc (.cells #[.pointer none, .int .i64 0] 98) = W) := hW
  have HBW : Hid (Below w.heap.size w W) := hbW
  have HC : Hid (∀ W, Calls Try.prog 25 #[.int .i64 k] W fun e w' => e = .returned (.bool true) ∧ W = w') := fun W => (decide_eq_true hk) ▸ isCut_any k W
  have hl := readF_lay hF
  have hz := lay_size hl
  have HWy : Hid (∀ T g fp X, t.At X 0 (.iface T (.pointer (some ⟨g, 0, none⟩))) fp → ∃ Fw, (∀ Y, (method 279 T (.pointer (some ⟨g, 0, none⟩)) "mullion/layout.way").run Try.prog Y = .ok (Fw, .pointer (some ⟨g, 0, none⟩)) Y) ∧ (∀ a c Y, (callFunc Fw #[a, c]).run Try.prog Y = .ok (.enter Fw #[a, c]) Y) ∧ Calls Try.prog Fw #[.pointer (some ⟨g, 0, none⟩), .int .i64 q] X (WayGood X (.iface T (.pointer (some ⟨g, 0, none⟩))) t q X)) := fun T g fp X hA => by
    obtain ⟨T', gi, Fw, hP⟩ := hA.partW hl.sound (by omega)
    have hv := hP.val
    cases hv
    exact ⟨Fw, hP.mW, hP.fW, hP.cW q X (Below.refl _ _)⟩
  have HP : Hid (t.path q = some ps) := hp
  have HPl : Hid (ps.length ≤ 1000) := hpl
  have HNf : Hid (nearF k t ps = some (qs, a)) := hn
  have hWs : W.heap.size = w.heap.size + 1 := by rw [← hW]; simp
  have HWs : Hid (W.heap.size = w.heap.size + 1) := hWs
  clear h hF hW hbW hM hk hl hz hp hpl hn hWs
  go_enter Try.func72, Try.ntmps72
  go_upto_region 1 with fail
  rw [HW.out]
  go_wp2_with fail
  refine HR.out.mono ?_
  rintro e w1 ⟨T, g, fp, rfl, hAt, hnd, hge, hb⟩
  have HBa : Hid (Below W.heap.size W w1) := hb
  obtain ⟨Fw, m1, m2, hcw⟩ := HWy.out T g fp w1 hAt
  have HcW : Hid (Calls Try.prog Fw #[.pointer (some ⟨g, 0, none⟩), .int .i64 q] w1 (WayGood w1 (.iface T (.pointer (some ⟨g, 0, none⟩))) t q w1)) := hcw
  have HAt : Hid (t.At w1 0 (.iface T (.pointer (some ⟨g, 0, none⟩))) fp ∧ fp.Nodup ∧ ∀ q ∈ fp, W.heap.size ≤ q) := ⟨hAt, hnd, hge⟩
  clear hAt hnd hge hb HR hcw HWy
  go_wp2_with fail
  refine (HC.out _).mono ?_
  rintro e w2 ⟨rfl, rfl⟩
  go_wp2_with fail
  refine HcW.out.mono ?_
  rintro e w2 ⟨hb2, ⟨hp2, rfl⟩ | ⟨ps2, gl, st, sa, sn, sc, hp2, hre, rfl, hst⟩⟩
  · rw [HP.out] at hp2
    cases hp2
  · rw [HP.out] at hp2
    cases hp2
    have hb3 := below_step HBa.out hb2
    have hre0 := hre
    have HNr : Hid _ := near_at (k := k) ps HAt.out.1 HAt.out.2.1 hre
    have hsn : sn = st.length := by
      obtain ⟨a', c', e⟩ := own_sl5 hst
      injection e with _ e2 _
    obtain ⟨m, hm⟩ : ∃ m, st.length = m := ⟨_, rfl⟩
    have hps : m ≤ 1000 := by
      rw [← hm, hre.len]
      exact HPl.out
    rw [hm] at hsn
    have hsn' := hsn.symm
    subst hsn'
    have HM : Hid (st.length = m) := hm
    have HSt : Hid (∀ X, Below w2.heap.size w2 X → ∀ (i : Nat) s, st[i]? = some s → ∃ sg, sa = some ⟨sg, 0, none⟩ ∧ X.cell? ⟨sg, i * 2, none⟩ = some (.pointer (some ⟨s.1, 0, none⟩)) ∧ X.cell? ⟨sg, i * 2 + 1, none⟩ = some (.int .i64 s.2)) := fun X hX i s hs => by
      have hi : i < m := by rw [← hm]; exact (List.getElem?_eq_some_iff.1 hs).1
      have hst' := hst
      unfold Steps at hst'
      rw [hm] at hst'
      rcases hst'.2 with ⟨_, h0⟩ | ⟨sg, cp, cur, e, hb0, hg0, r⟩
      · omega
      · have he : sa = some ⟨sg, 0, none⟩ := by injection e
        refine ⟨sg, he, ?_, ?_⟩
        · subst he
          have h1 := World.ownsRow.cellAt hst' (i * 2) (by omega)
          rw [(stepL_get st i s hs).1] at h1
          exact (hX.cell (p := ⟨sg, i * 2, none⟩) (World.block_lt_of_cell? w2 _ h1)).trans h1
        · subst he
          have h1 := World.ownsRow.cellAt hst' (i * 2 + 1) (by omega)
          rw [(stepL_get st i s hs).2] at h1
          exact (hX.cell (p := ⟨sg, i * 2 + 1, none⟩) (World.block_lt_of_cell? w2 _ h1)).trans h1
    have HKd : Hid (∀ X, Below w2.heap.size w2 X → ∀ (gg : Nat) x, w1.cell? ⟨gg, 4, none⟩ = some x → X.cell? ⟨gg, 4, none⟩ = some x) := fun X hX gg x hx => ((below_step hb2 hX).cell (p := ⟨gg, 4, none⟩) (World.block_lt_of_cell? w1 _ hx)).trans hx
    have HB2 : Hid (Below W.heap.size W w2) := hb3
    have HCs : Hid (∀ X, Below w2.heap.size w2 X → X.cell? ⟨w.heap.size, 0, none⟩ = some (.pointer none) ∧ X.cell? ⟨w.heap.size, 1, none⟩ = some (.int .i64 0) ∧ X.frozen? ⟨w.heap.size, 0, none⟩ = false ∧ X.frozen? ⟨w.heap.size, 1, none⟩ = false) := fun X hX => by
      have hbx := HX.out X (below_step hb3 hX)
      exact ⟨cell_atL hbx 0, cell_atL hbx 1, free_atL hbx 0, free_atL hbx 1⟩
    obtain ⟨j, gg, bb, ts, f', hN⟩ := HNr.out.2 qs a HNf.out
    have hjm : j < m := by rw [← hm]; exact (List.getElem?_eq_some_iff.1 hN.at_).1
    have HEnd : Hid (∀ X, But [w.heap.size] w2 X → NearYes k t qs a w (.returned (.tuple #[.iface T (.pointer (some ⟨g, 0, none⟩)), .agg #[.pointer (some ⟨gg, 0, none⟩), .int .i64 a], .int .i64 0])) X) := fun X hX => by
      have h12 : But [w.heap.size] w1 w2 := ⟨hb2.os, hb2.tape, hb2.output, hb2.size, fun q hq _ => hb2.block q hq⟩
      have hw2 := below_step HBW.out hb3
      exact ⟨T, g, fp, st, j, gg, bb, ts, f', w1, rfl, HAt.out.1, HAt.out.2.1, fun q hq => by have := HAt.out.2.2 q hq; have := HWs.out; omega, hN, h12.trans hX, below_but hw2 hX (fun q hq => Nat.le_of_eq (by simpa using hq : q = w.heap.size).symm)⟩
    have HAh : Hid (∀ (i : Nat) (s : Nat × Nat), i < j → st[i]? = some s → OtherK w1 k s.1) := hN.ahead
    have HAe : Hid (st[j]? = some (gg, a)) := hN.at_
    have HKk : Hid (w1.cell? ⟨gg, 4, none⟩ = some (.int .i64 k)) := hN.kind
    clear hb2 hb3 hre hre0 hst hm HNr HcW m1 m2 HAt hN
    go_wp2
    go_loopw [34] (fun vi wr => ∃ i : Nat, i ≤ j ∧ vi = .int .i64 i ∧ Hid (Below w2.heap.size w2 wr)) (fun vi _ => m - (intOf vi).toNat)
    case atStart => exact ⟨0, Nat.zero_le _, rfl, Below.refl _ _⟩
    case round =>
      obtain ⟨i, hi, rfl, HBr⟩ := hrel
      by_cases hlt : i < j
      · obtain ⟨s, hs⟩ : ∃ s, st[i]? = some s := ⟨_, List.getElem?_eq_getElem (by rw [HM.out]; omega)⟩
        obtain ⟨sg, hsa, q0, q1⟩ := HSt.out wr HBr.out i s hs
        obtain ⟨k', hk', hne⟩ := HAh.out i s hlt hs
        subst hsa
        obtain ⟨s1, s2⟩ := s
        have HK2 : Hid (∀ o, (wr.alloc o).cell? ⟨s1, 4, none⟩ = some (.int .i64 k')) := fun o => HKd.out _ (below_step HBr.out ((Below.refl _ _).alloc (Nat.le_refl _) o)) s1 _ hk'
        have k4 := HK2.out
        have hne' : (k' == k) = false := by simpa using hne
        have him : i < m := by omega
        have HB5 : Hid (∀ o, Below w2.heap.size w2 (wr.alloc o)) := fun o => below_step HBr.out ((Below.refl _ _).alloc (Nat.le_refl _) o)
        clear hs hk' hne
        go_wp2
        go_roundw
        case rel => exact ⟨i + 1, by omega, by go_num, HB5.out _⟩
        case measure => simp [intOf]; omega
      · have hin : i = j := by omega
        subst hin
        obtain ⟨sg, hsa, q0, q1⟩ := HSt.out wr HBr.out i _ HAe.out
        subst hsa
        have HK2 : Hid (∀ o, (wr.alloc o).cell? ⟨gg, 4, none⟩ = some (.int .i64 k)) := fun o => HKd.out _ (below_step HBr.out ((Below.refl _ _).alloc (Nat.le_refl _) o)) gg _ HKk.out
        have k4 := HK2.out
        obtain ⟨Y, hY⟩ : ∃ Y, wr.alloc (.cells #[.pointer (some ⟨gg, 0, none⟩), .int .i64 a] 98) = Y := ⟨_, rfl⟩
        have hbY : Below w2.heap.size w2 Y := by rw [← hY]; exact below_step HBr.out ((Below.refl _ _).alloc (Nat.le_refl _) _)
        have hMY : Y.heap[wr.heap.size]? = some (.cells #[.pointer (some ⟨gg, 0, none⟩), .int .i64 a] 98 (0, 0)) := by rw [← hY]; exact heap_alloc_new _ _
        have HY : Hid (wr.alloc (.cells #[.pointer (some ⟨gg, 0, none⟩), .int .i64 a] 98) = Y) := hY
        obtain ⟨c0, c1, f0, f1⟩ := HCs.out Y hbY
        have y0 : Y.cell? ⟨wr.heap.size, 0, none⟩ = some (.pointer (some ⟨gg, 0, none⟩)) := cell_atL hMY 0
        have y1 : Y.cell? ⟨wr.heap.size, 1, none⟩ = some (.int .i64 a) := cell_atL hMY 1
        have HF : Hid (∀ X, But [w.heap.size] Y X → NearYes k t qs a w (.returned (.tuple #[.iface T (.pointer (some ⟨g, 0, none⟩)), .agg #[.pointer (some ⟨gg, 0, none⟩), .int .i64 a], .int .i64 0])) X) := fun X hX => HEnd.out X (But.trans ⟨hbY.os, hbY.tape, hbY.output, hbY.size, fun q hq _ => hbY.block q hq⟩ hX)
        clear hY hbY hMY HEnd
        go_upto_region 13 with fail
        rw [HY.out]
        go_region
        all_goals go_wp2
        all_goals exact bodyPost_ret (v := .tuple #[.iface T (.pointer (some ⟨g, 0, none⟩)), .agg #[.pointer (some ⟨gg, 0, none⟩), .int .i64 a], .int .i64 0]) (by simp [results, Try.results72, go_sem, c0, c1]) rfl (HF.out _ (((But.grown (grownBy_set _ _ _ _)).trans (But.grown (grownBy_set _ _ _ _))).drew))

end Go.Proofs.Ytnepemlagnnngaa
