/-
  Layouts: Close in the program, walked.
-/
import Derived.Test.YtnepemlagnnngaaCDl
namespace Go.Proofs.Ytnepemlagnnngaa
open Go.RowKit Go.Lib
set_option linter.unusedVariables false
set_option maxRecDepth 100000

theorem cloP_none (v : Value) (l : List CellV) (q : Int) (w : World) (h : CellsIn w v l) (hF : readF l = none) : Calls Try.prog 22 #[v, .int .i64 q] w (Ans2 40 [] w) := by
  have HR : Hid (Calls Try.prog 24 #[v] w fun e w' => e = .returned nilPart ∧ Below w.heap.size w w') := read_no v l w h hF
  clear h hF
  go_enter Try.func22, Try.ntmps22
  go_wp2_with fail
  refine HR.out.mono ?_
  rintro e w1 ⟨rfl, hb⟩
  unfold nilPart
  go_wp2
  go_ret2
  exact ⟨_, rfl, World.ownsRow_nil _ _ _ _, hb⟩

/-- What way answers of a tree's root, in the words of the walk. -/
theorem way_root {t : Tree} {w : World} {T : TypeId} {g : Nat} {fp : List Nat} (hA : t.At w 0 (.iface T (.pointer (some ⟨g, 0, none⟩))) fp) (hs : t.sound = true) (hz : t.size ≤ 900) (q : Int) : ∃ Fw, (∀ W, (method 279 T (.pointer (some ⟨g, 0, none⟩)) "mullion/layout.way").run Try.prog W = .ok (Fw, .pointer (some ⟨g, 0, none⟩)) W) ∧ (∀ a c W, (callFunc Fw #[a, c]).run Try.prog W = .ok (.enter Fw #[a, c]) W) ∧ ∀ X, Below w.heap.size w X → Calls Try.prog Fw #[.pointer (some ⟨g, 0, none⟩), .int .i64 q] X (WayGood w (.iface T (.pointer (some ⟨g, 0, none⟩))) t q X) := by
  obtain ⟨T', gi, Fw, hW⟩ := hA.partW hs (by omega)
  have hv := hW.val
  cases hv
  exact ⟨Fw, hW.mW, hW.fW, fun X hX => hW.cW q X hX⟩

set_option maxHeartbeats 1000000 in
theorem cloP_miss (v : Value) (l : List CellV) (q : Int) (w : World) (h : CellsIn w v l) {t : Tree} (hF : readF l = some t) (hp : t.path q = none) : Calls Try.prog 22 #[v, .int .i64 q] w (Ans2 42 [] w) := by
  have HR : Hid (Calls Try.prog 24 #[v] w (ReadYes t w)) := read_yes v l w h hF
  have hl := readF_lay hF
  have hz := lay_size hl
  have HW : Hid (∀ T g fp w1, t.At w1 0 (.iface T (.pointer (some ⟨g, 0, none⟩))) fp → ∃ Fw, (∀ W, (method 279 T (.pointer (some ⟨g, 0, none⟩)) "mullion/layout.way").run Try.prog W = .ok (Fw, .pointer (some ⟨g, 0, none⟩)) W) ∧ (∀ a c W, (callFunc Fw #[a, c]).run Try.prog W = .ok (.enter Fw #[a, c]) W) ∧ Calls Try.prog Fw #[.pointer (some ⟨g, 0, none⟩), .int .i64 q] w1 fun e w' => Below w1.heap.size w1 w' ∧ e = .returned (.tuple #[.slice none 0 0, .pointer none])) := fun T g fp w1 hA => by
    obtain ⟨Fw, m1, m2, hc⟩ := way_root hA hl.sound (by omega) q
    refine ⟨Fw, m1, m2, (hc w1 (Below.refl _ _)).mono fun e w' h => ?_⟩
    obtain ⟨hb, ⟨_, he⟩ | ⟨ps, gl, st, sa, sn, sc, h1, _⟩⟩ := h
    · exact ⟨hb, he⟩
    · rw [hp] at h1
      cases h1
  clear h hF hl hz hp
  go_enter Try.func22, Try.ntmps22
  go_wp2_with fail
  refine HR.out.mono ?_
  rintro e w1 ⟨T, g, fp, rfl, hAt, hnd, hge, hb⟩
  have HB : Hid (Below w.heap.size w w1) := hb
  obtain ⟨Fw, m1, m2, hc⟩ := HW.out T g fp w1 hAt
  have HC : Hid (Calls Try.prog Fw #[.pointer (some ⟨g, 0, none⟩), .int .i64 q] w1 fun e w' => Below w1.heap.size w1 w' ∧ e = .returned (.tuple #[.slice none 0 0, .pointer none])) := hc
  clear hAt hnd hge hb hc HR HW
  go_wp2_with fail
  refine HC.out.mono ?_
  rintro e w2 ⟨hb2, rfl⟩
  have HB2 : Hid (Below w.heap.size w w2) := below_step HB.out hb2
  clear hb2 HC
  go_wp2
  go_ret2
  exact ⟨_, rfl, World.ownsRow_nil _ _ _ _, HB2.out⟩

set_option maxHeartbeats 1000000 in
theorem cloP_last (v : Value) (l : List CellV) (q : Int) (w : World) (h : CellsIn w v l) {t : Tree} (hF : readF l = some t) (hp : t.path q = some []) : Calls Try.prog 22 #[v, .int .i64 q] w (Ans2 46 [] w) := by
  have HR : Hid (Calls Try.prog 24 #[v] w (ReadYes t w)) := read_yes v l w h hF
  have hl := readF_lay hF
  have hz := lay_size hl
  have HW : Hid (∀ T g fp w1, t.At w1 0 (.iface T (.pointer (some ⟨g, 0, none⟩))) fp → ∃ Fw, (∀ W, (method 279 T (.pointer (some ⟨g, 0, none⟩)) "mullion/layout.way").run Try.prog W = .ok (Fw, .pointer (some ⟨g, 0, none⟩)) W) ∧ (∀ a c W, (callFunc Fw #[a, c]).run Try.prog W = .ok (.enter Fw #[a, c]) W) ∧ Calls Try.prog Fw #[.pointer (some ⟨g, 0, none⟩), .int .i64 q] w1 fun e w' => Below w1.heap.size w1 w' ∧ ∃ gl sa sc, e = .returned (.tuple #[.slice sa 0 sc, .pointer (some ⟨gl, 0, none⟩)])) := fun T g fp w1 hA => by
    obtain ⟨Fw, m1, m2, hc⟩ := way_root hA hl.sound (by omega) q
    refine ⟨Fw, m1, m2, (hc w1 (Below.refl _ _)).mono fun e w' h => ?_⟩
    obtain ⟨hb, ⟨h1, _⟩ | ⟨ps, gl, st, sa, sn, sc, h1, h2, he, h3⟩⟩ := h
    · rw [hp] at h1
      cases h1
    · rw [hp] at h1
      cases h1
      obtain ⟨_, rfl⟩ := h2
      obtain ⟨a', c', e0⟩ := own_sl5 h3
      cases e0
      exact ⟨hb, gl, sa, sc, he⟩
  clear h hF hl hz hp
  go_enter Try.func22, Try.ntmps22
  go_wp2_with fail
  refine HR.out.mono ?_
  rintro e w1 ⟨T, g, fp, rfl, hAt, hnd, hge, hb⟩
  have HB : Hid (Below w.heap.size w w1) := hb
  obtain ⟨Fw, m1, m2, hc⟩ := HW.out T g fp w1 hAt
  have HC : Hid (Calls Try.prog Fw #[.pointer (some ⟨g, 0, none⟩), .int .i64 q] w1 fun e w' => Below w1.heap.size w1 w' ∧ ∃ gl sa sc, e = .returned (.tuple #[.slice sa 0 sc, .pointer (some ⟨gl, 0, none⟩)])) := hc
  clear hAt hnd hge hb hc HR HW
  go_wp2_with fail
  refine HC.out.mono ?_
  rintro e w2 ⟨hb2, gl, sa, sc, rfl⟩
  have HB2 : Hid (Below w.heap.size w w2) := below_step HB.out hb2
  clear hb2 HC
  go_wp2
  go_ret2
  exact ⟨_, rfl, World.ownsRow_nil _ _ _ _, HB2.out⟩

/-- The list of a tree is laid down. -/
def Fin (r : List CellV) (w : World) (e : Ending) (w' : World) : Prop := ∃ u, e = .returned u ∧ CeOwns w' w.heap.size u r ∧ Below w.heap.size w w'
/-- What the walk of Close leans on, from the way on. -/
structure CloseD (w : World) (T' : List CellV) (w2 : World) (r : Value) (gl wg wn wc : Nat) (g a : Nat) (k : Int) (pg M cap : Nat) (Tc : TypeId) (gi : Nat) (Fx : FuncId) (E : Int) (P1 P2 : World → Prop) : Prop where
  len : 1 ≤ wn ∧ wn ≤ 1000 ∧ wn ≤ wc ∧ wc ≤ 9223372036854775807
  up : w2.cell? ⟨wg, 0, none⟩ = some (.pointer (some ⟨g, 0, none⟩)) ∧ w2.cell? ⟨wg, 1, none⟩ = some (.int .i64 a)
  parts : w2.cell? ⟨g, 5, none⟩ = some (.slice (some ⟨pg, 0, none⟩) (M + 1) cap)
  lt : a < M + 1 ∧ 1 ≤ M ∧ M ≤ 900 ∧ M + 1 ≤ cap ∧ cap ≤ 9223372036854775807
  del : ∀ X, Below w2.heap.size w2 X → Calls Try.prog 55 #[.slice (some ⟨pg, 0, none⟩) (M + 1) cap, .int .i64 a, .int .i64 ((a : Int) + 1)] X fun e Y => e = .returned (.slice (some ⟨pg, 0, none⟩) M cap) ∧ Y.cell? ⟨g, 5, none⟩ = some (.slice (some ⟨pg, 0, none⟩) (M + 1) cap) ∧ Y.frozen? ⟨g, 5, none⟩ = false ∧ P1 (Y.setCell ⟨g, 5, none⟩ (.slice (some ⟨pg, 0, none⟩) M cap))
  one : ∀ Y, P1 Y → Y.cell? ⟨g, 4, none⟩ = some (.int .i64 k) ∧ Y.cell? ⟨g, 5, none⟩ = some (.slice (some ⟨pg, 0, none⟩) M cap) ∧ Y.cell? ⟨pg, a - 1, none⟩ = some (.iface Tc (.pointer (some ⟨gi, 0, none⟩)))
  ext : ∀ Y m, P1 Y → Calls Try.prog 27 #[.pointer (some ⟨gl, 0, none⟩), .int .i64 k] (Y.drewN m) fun e w' => e = .returned (.int .i64 E) ∧ Y.drewN m = w'
  lim : 1 ≤ E ∧ E ≤ 1000
  mX : ∀ W, (method 279 Tc (.pointer (some ⟨gi, 0, none⟩)) "mullion/layout.stretch").run Try.prog W = .ok (Fx, .pointer (some ⟨gi, 0, none⟩)) W
  nX : ∀ W, (nilAhead 279 Tc (.pointer (some ⟨gi, 0, none⟩)) "mullion/layout.stretch").run Try.prog W = .ok (some false) W
  fX : ∀ a c d W, (callFunc Fx #[a, c, d]).run Try.prog W = .ok (.enter Fx #[a, c, d]) W
  cX : ∀ Y m, P1 Y → Calls Try.prog Fx #[.pointer (some ⟨gi, 0, none⟩), .int .i64 k, .int .i64 (E + 1)] (Y.drewN m) fun e Z => e = .returned (.tuple #[]) ∧ P2 Z
  two : ∀ Z, P2 Z → Z.cell? ⟨g, 5, none⟩ = some (.slice (some ⟨pg, 0, none⟩) M cap)
  many : ∀ Z, P2 Z → M ≠ 1 → Calls Try.prog 31 #[r] Z (Fin T' w)
  alone : ∀ Z, P2 Z → M = 1 → ∃ Tu gu, Z.cell? ⟨pg, 0, none⟩ = some (.iface Tu (.pointer (some ⟨gu, 0, none⟩))) ∧ ∀ m, Calls Try.prog 32 #[r, .slice (some (if wc = 1 then ⟨wg, 0, none⟩ else ⟨wg, 2, none⟩)) (wn - 1) (wc - 1), .iface Tu (.pointer (some ⟨gu, 0, none⟩))] (Z.drewN m) fun e Z' => ∃ T3 g3, e = .returned (.iface T3 (.pointer (some ⟨g3, 0, none⟩))) ∧ Calls Try.prog 31 #[.iface T3 (.pointer (some ⟨g3, 0, none⟩))] Z' (Fin T' w)

set_option maxHeartbeats 1000000 in
theorem cloP_walk (v : Value) (l : List CellV) (q : Int) (w : World) (h : CellsIn w v l) {t : Tree} (hF : readF l = some t) (T' : List CellV)
    (hD : ∀ T g0 fp w1, t.At w1 0 (.iface T (.pointer (some ⟨g0, 0, none⟩))) fp → fp.Nodup → (∀ x ∈ fp, w.heap.size ≤ x) → Below w.heap.size w w1 → ∃ Fw, (∀ W, (method 279 T (.pointer (some ⟨g0, 0, none⟩)) "mullion/layout.way").run Try.prog W = .ok (Fw, .pointer (some ⟨g0, 0, none⟩)) W) ∧ (∀ a c W, (callFunc Fw #[a, c]).run Try.prog W = .ok (.enter Fw #[a, c]) W) ∧ Calls Try.prog Fw #[.pointer (some ⟨g0, 0, none⟩), .int .i64 q] w1 fun e w2 => ∃ gl wg wn wc g a k pg M cap Tc gi Fx E P1 P2, e = .returned (.tuple #[.slice (some ⟨wg, 0, none⟩) wn wc, .pointer (some ⟨gl, 0, none⟩)]) ∧ CloseD w T' w2 (.iface T (.pointer (some ⟨g0, 0, none⟩))) gl wg wn wc g a k pg M cap Tc gi Fx E P1 P2) :
    Calls Try.prog 22 #[v, .int .i64 q] w (Ans2 0 T' w) := by
  have HR : Hid (Calls Try.prog 24 #[v] w (ReadYes t w)) := read_yes v l w h hF
  have HD : Hid (∀ T g0 fp w1, t.At w1 0 (.iface T (.pointer (some ⟨g0, 0, none⟩))) fp → fp.Nodup → (∀ x ∈ fp, w.heap.size ≤ x) → Below w.heap.size w w1 → ∃ Fw, (∀ W, (method 279 T (.pointer (some ⟨g0, 0, none⟩)) "mullion/layout.way").run Try.prog W = .ok (Fw, .pointer (some ⟨g0, 0, none⟩)) W) ∧ (∀ a c W, (callFunc Fw #[a, c]).run Try.prog W = .ok (.enter Fw #[a, c]) W) ∧ Calls Try.prog Fw #[.pointer (some ⟨g0, 0, none⟩), .int .i64 q] w1 fun e w2 => ∃ gl wg wn wc g a k pg M cap Tc gi Fx E P1 P2, e = .returned (.tuple #[.slice (some ⟨wg, 0, none⟩) wn wc, .pointer (some ⟨gl, 0, none⟩)]) ∧ CloseD w T' w2 (.iface T (.pointer (some ⟨g0, 0, none⟩))) gl wg wn wc g a k pg M cap Tc gi Fx E P1 P2) := hD
  clear h hF hD
  go_enter Try.func22, Try.ntmps22
  go_wp2_with fail
  refine HR.out.mono ?_
  rintro e w1 ⟨T, g0, fp, rfl, hAt, hnd, hge, hb⟩
  obtain ⟨Fw, m1, m2, hc⟩ := HD.out T g0 fp w1 hAt hnd hge hb
  have HC : Hid (Calls Try.prog Fw #[.pointer (some ⟨g0, 0, none⟩), .int .i64 q] w1 fun e w2 => ∃ gl wg wn wc g a k pg M cap Tc gi Fx E P1 P2, e = .returned (.tuple #[.slice (some ⟨wg, 0, none⟩) wn wc, .pointer (some ⟨gl, 0, none⟩)]) ∧ CloseD w T' w2 (.iface T (.pointer (some ⟨g0, 0, none⟩))) gl wg wn wc g a k pg M cap Tc gi Fx E P1 P2) := hc
  clear hAt hnd hge hb hc HR HD
  go_wp2_with fail
  refine HC.out.mono ?_
  rintro e w2 ⟨gl, wg, wn, wc, g, a, k, pg, M, cap, Tc, gi, Fx, E, P1, P2, rfl, hd⟩
  have HD : Hid (CloseD w T' w2 (.iface T (.pointer (some ⟨g0, 0, none⟩))) gl wg wn wc g a k pg M cap Tc gi Fx E P1 P2) := hd
  obtain ⟨l1, l2, l3, l4⟩ := hd.len
  obtain ⟨u0, u1⟩ := hd.up
  have u5 := hd.parts
  obtain ⟨d1, d2, d3, d4, d5⟩ := hd.lt
  have HDel : Hid (∀ X, Below w2.heap.size w2 X → Calls Try.prog 55 #[.slice (some ⟨pg, 0, none⟩) (M + 1) cap, .int .i64 a, .int .i64 ((a : Int) + 1)] X _) := hd.del
  have hwr : IntKind.i64.wrap ((a : Int) + 1) = (a : Int) + 1 := by rw [IntKind.wrap_i64]; omega
  clear hd HC m1 m2
  go_wp2_with fail
  go_region
  go_wp2_with fail
  refine (HDel.out _ (Below.refl _ _).drew).mono ?_
  rintro e Y ⟨rfl, y5, yf, hp1⟩
  obtain ⟨Y1, hY1⟩ : ∃ Y1, Y.setCell ⟨g, 5, none⟩ (.slice (some ⟨pg, 0, none⟩) M cap) = Y1 := ⟨_, rfl⟩
  have HY1 : Hid (Y.setCell ⟨g, 5, none⟩ (.slice (some ⟨pg, 0, none⟩) M cap) = Y1) := hY1
  rw [hY1] at hp1
  have HP1 : Hid (P1 Y1) := hp1
  clear hY1 hp1 u0 u1 u5 HDel hwr
  go_wp2_with fail
  rw [HY1.out]
  clear y5 yf HY1
  obtain ⟨y4, y5, y6⟩ := HD.out.one Y1 HP1.out
  have m1 := HD.out.mX
  have m2 := HD.out.nX
  have m3 := HD.out.fX
  obtain ⟨e1, e2⟩ := HD.out.lim
  have HE : Hid (∀ m, Calls Try.prog 27 #[.pointer (some ⟨gl, 0, none⟩), .int .i64 k] (Y1.drewN m) fun e w' => e = .returned (.int .i64 E) ∧ Y1.drewN m = w') := fun m => HD.out.ext Y1 m HP1.out
  have HX : Hid (∀ m, Calls Try.prog Fx #[.pointer (some ⟨gi, 0, none⟩), .int .i64 k, .int .i64 (E + 1)] (Y1.drewN m) fun e Z => e = .returned (.tuple #[]) ∧ P2 Z) := fun m => HD.out.cX Y1 m HP1.out
  have hwE : IntKind.i64.wrap (E + 1) = E + 1 := by rw [IntKind.wrap_i64]; omega
  have hca : a = 0 ∨ ∃ c, a = c + 1 := by
    cases a with
    | zero => exact .inl rfl
    | succ c => exact .inr ⟨c, rfl⟩
  rcases hca with rfl | ⟨c, rfl⟩
  all_goals simp only [Nat.zero_sub, Nat.add_sub_cancel] at y6
  all_goals have hM0 : (0 : Int) < (M : Int) := by omega
  all_goals have hM00 : 0 < M := by omega
  all_goals try have hcM : (c : Int) < (M : Int) := by omega
  all_goals have hmx0 : max (IntKind.i64.wrap (-1)) 0 = 0 := by rw [IntKind.wrap_i64]; decide
  all_goals try have hmxw : max (IntKind.i64.wrap (c : Int)) 0 = (c : Int) := by rw [IntKind.wrap_i64]; omega
  all_goals try have hmxc : max (c : Int) 0 = (c : Int) := by omega
  all_goals try have hmxd : max ((c : Int) + 1 - 1) 0 = (c : Int) := by omega
  all_goals refine wp_region_quiet_last 24 _ (by rfl) (by rfl) (by kernel_rfl) (by kernel_rfl) (by kernel_rfl) ?_
  all_goals simp only [List.take_succ_cons, List.take_zero]
  all_goals (repeat (quiet_step ((go_at_call 27; exact Calls.quiet_of_same ((HE.out _).mono fun e w' h => ⟨h.1, h.2.symm⟩)))))
  all_goals refine wpQuiet_nil ?_
  all_goals intro m7 K hK
  all_goals go_simp
  all_goals refine (HX.out m7).mono ?_
  all_goals rintro e Z ⟨rfl, hP2⟩
  all_goals refine hK _ _ ?_
  all_goals clear hK
  all_goals clear K
  all_goals have HP2 : Hid (P2 Z) := hP2
  all_goals have z5 := HD.out.two Z hP2
  all_goals clear hP2 y4 y5 y6 m1 m2 m3 HE HX HP1
  all_goals by_cases hM1 : M = 1
  · obtain ⟨Tu, gu, zc, hrep⟩ := HD.out.alone Z HP2.out hM1
    subst hM1
    by_cases hwc : wc = 1
    · rw [if_pos hwc] at hrep
      have hwn : wn = 1 := by omega
      subst hwn hwc
      have HRep : Hid (Calls Try.prog 32 #[.iface T (.pointer (some ⟨g0, 0, none⟩)), .slice (some ⟨wg, 0, none⟩) 0 0, .iface Tu (.pointer (some ⟨gu, 0, none⟩))] Z.drew fun e Z' => ∃ T3 g3, e = .returned (.iface T3 (.pointer (some ⟨g3, 0, none⟩))) ∧ Calls Try.prog 31 #[.iface T3 (.pointer (some ⟨g3, 0, none⟩))] Z' (Fin T' w)) := hrep 1
      clear HD HP2 hrep
      go_wp2_with fail
      go_region_with (go_at_call 32; refine HRep.out.mono ?_; rintro e Z' ⟨T3, g3, rfl, hL⟩; have HL : Hid (Calls Try.prog 31 #[.iface T3 (.pointer (some ⟨g3, 0, none⟩))] Z' (Fin T' w)) := hL; clear hL)
      all_goals (
        go_wp2_with fail
        refine HL.out.mono ?_
        rintro e w9 ⟨u, rfl, hu, hb9⟩
        have HU : Hid (CeOwns w9 w.heap.size u T') := hu
        have HB9 : Hid (Below w.heap.size w w9) := hb9
        clear hu hb9 HL
        go_wp2
        go_ret2
        exact ⟨u, rfl, HU.out, HB9.out⟩)
    · rw [if_neg hwc] at hrep
      have HRep : Hid (Calls Try.prog 32 #[.iface T (.pointer (some ⟨g0, 0, none⟩)), .slice (some ⟨wg, 2, none⟩) (wn - 1) (wc - 1), .iface Tu (.pointer (some ⟨gu, 0, none⟩))] Z.drew fun e Z' => ∃ T3 g3, e = .returned (.iface T3 (.pointer (some ⟨g3, 0, none⟩))) ∧ Calls Try.prog 31 #[.iface T3 (.pointer (some ⟨g3, 0, none⟩))] Z' (Fin T' w)) := hrep 1
      have hl1 : (1 : Int) ≤ (wn : Int) := by omega
      clear HD HP2 hrep
      go_wp2_with fail
      go_region_with (go_at_call 32; refine HRep.out.mono ?_; rintro e Z' ⟨T3, g3, rfl, hL⟩; have HL : Hid (Calls Try.prog 31 #[.iface T3 (.pointer (some ⟨g3, 0, none⟩))] Z' (Fin T' w)) := hL; clear hL)
      all_goals (
        go_wp2_with fail
        refine HL.out.mono ?_
        rintro e w9 ⟨u, rfl, hu, hb9⟩
        have HU : Hid (CeOwns w9 w.heap.size u T') := hu
        have HB9 : Hid (Below w.heap.size w w9) := hb9
        clear hu hb9 HL
        go_wp2
        go_ret2
        exact ⟨u, rfl, HU.out, HB9.out⟩)
  · have HL : Hid (Calls Try.prog 31 #[.iface T (.pointer (some ⟨g0, 0, none⟩))] Z (Fin T' w)) := HD.out.many Z HP2.out hM1
    have hM2 : ¬ ((M : Int) = 1) := by omega
    clear HD HP2
    go_wp2_with fail
    refine HL.out.mono ?_
    rintro e w9 ⟨u, rfl, hu, hb9⟩
    have HU : Hid (CeOwns w9 w.heap.size u T') := hu
    have HB9 : Hid (Below w.heap.size w w9) := hb9
    clear hu hb9 HL
    go_wp2
    go_ret2
    exact ⟨u, rfl, HU.out, HB9.out⟩
  · obtain ⟨Tu, gu, zc, hrep⟩ := HD.out.alone Z HP2.out hM1
    subst hM1
    by_cases hwc : wc = 1
    · rw [if_pos hwc] at hrep
      have hwn : wn = 1 := by omega
      subst hwn hwc
      have HRep : Hid (Calls Try.prog 32 #[.iface T (.pointer (some ⟨g0, 0, none⟩)), .slice (some ⟨wg, 0, none⟩) 0 0, .iface Tu (.pointer (some ⟨gu, 0, none⟩))] Z.drew fun e Z' => ∃ T3 g3, e = .returned (.iface T3 (.pointer (some ⟨g3, 0, none⟩))) ∧ Calls Try.prog 31 #[.iface T3 (.pointer (some ⟨g3, 0, none⟩))] Z' (Fin T' w)) := hrep 1
      clear HD HP2 hrep
      go_wp2_with fail
      go_region_with (go_at_call 32; refine HRep.out.mono ?_; rintro e Z' ⟨T3, g3, rfl, hL⟩; have HL : Hid (Calls Try.prog 31 #[.iface T3 (.pointer (some ⟨g3, 0, none⟩))] Z' (Fin T' w)) := hL; clear hL)
      all_goals (
        go_wp2_with fail
        refine HL.out.mono ?_
        rintro e w9 ⟨u, rfl, hu, hb9⟩
        have HU : Hid (CeOwns w9 w.heap.size u T') := hu
        have HB9 : Hid (Below w.heap.size w w9) := hb9
        clear hu hb9 HL
        go_wp2
        go_ret2
        exact ⟨u, rfl, HU.out, HB9.out⟩)
    · rw [if_neg hwc] at hrep
      have HRep : Hid (Calls Try.prog 32 #[.iface T (.pointer (some ⟨g0, 0, none⟩)), .slice (some ⟨wg, 2, none⟩) (wn - 1) (wc - 1), .iface Tu (.pointer (some ⟨gu, 0, none⟩))] Z.drew fun e Z' => ∃ T3 g3, e = .returned (.iface T3 (.pointer (some ⟨g3, 0, none⟩))) ∧ Calls Try.prog 31 #[.iface T3 (.pointer (some ⟨g3, 0, none⟩))] Z' (Fin T' w)) := hrep 1
      have hl1 : (1 : Int) ≤ (wn : Int) := by omega
      clear HD HP2 hrep
      go_wp2_with fail
      go_region_with (go_at_call 32; refine HRep.out.mono ?_; rintro e Z' ⟨T3, g3, rfl, hL⟩; have HL : Hid (Calls Try.prog 31 #[.iface T3 (.pointer (some ⟨g3, 0, none⟩))] Z' (Fin T' w)) := hL; clear hL)
      all_goals (
        go_wp2_with fail
        refine HL.out.mono ?_
        rintro e w9 ⟨u, rfl, hu, hb9⟩
        have HU : Hid (CeOwns w9 w.heap.size u T') := hu
        have HB9 : Hid (Below w.heap.size w w9) := hb9
        clear hu hb9 HL
        go_wp2
        go_ret2
        exact ⟨u, rfl, HU.out, HB9.out⟩)
  · have HL : Hid (Calls Try.prog 31 #[.iface T (.pointer (some ⟨g0, 0, none⟩))] Z (Fin T' w)) := HD.out.many Z HP2.out hM1
    have hM2 : ¬ ((M : Int) = 1) := by omega
    clear HD HP2
    go_wp2_with fail
    refine HL.out.mono ?_
    rintro e w9 ⟨u, rfl, hu, hb9⟩
    have HU : Hid (CeOwns w9 w.heap.size u T') := hu
    have HB9 : Hid (Below w.heap.size w w9) := hb9
    clear hu hb9 HL
    go_wp2
    go_ret2
    exact ⟨u, rfl, HU.out, HB9.out⟩

end Go.Proofs.Ytnepemlagnnngaa
