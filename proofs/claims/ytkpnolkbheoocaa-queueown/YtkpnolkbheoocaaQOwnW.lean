/-
  The walk of QueueOwn.
-/
import Derived.Test.YtkpnolkbheoocaaQOwnS
import Derived.WalkKit
import Derived.Deep.RegionLaw
import Derived.Deep.RegionHeld3
namespace Go.Proofs.Ytkpnolkbheoocaa
open Go.RowKit
set_option linter.unusedVariables false
set_option maxRecDepth 100000

theorem game_of {w W : World} {F : List Nat} {b : Nat} {vi : Value} {q : Qs} (h : Side w W F b vi q) : Game w (W.alloc (.cells #[.int .i64 (q.lim : Int), vi, .bool q.cl] 26)) W.heap.size F b vi q :=
  ⟨h.more ((Below.refl _ _).alloc (Nat.le_refl _) _), heap_alloc_new W _, h.play.below.size⟩
theorem game_as {w W : World} {R : Nat} {F : List Nat} {b : Nat} {vi : Value} {q : Qs} (h : Game w W R F b vi q) : Calls Try.prog 16 #[.pointer (some ⟨b, 0, none⟩), .agg #[.int .i64 (q.lim : Int), vi, .bool q.cl], .int .i64 0] W fun e w' => e = .returned (.bool true) ∧ Below w.heap.size w w' := by
  obtain ⟨its, hr⟩ := h.side.ref
  exact (as_any h.side.play.at_ hr 0).mono fun e w' k => ⟨k.1, h.below.trans (k.2.mono h.below.size)⟩
theorem game_panes {w W : World} {R : Nat} {F : List Nat} {b : Nat} {vi : Value} {q : Qs} (h : Game w W R F b vi q) : Calls Try.prog 14 #[.agg #[.int .i64 (q.lim : Int), vi, .bool q.cl]] W fun e w' => ∃ v, e = .returned v ∧ Told W w' q.os v := by
  obtain ⟨its, hr⟩ := h.side.ref
  exact refPanes_any hr h.side.play.at_.ok
theorem Told.below {w w' : World} {os : List (Int × Int)} {v : Value} (h : Told w w' os v) : Below w.heap.size w w' := by
  obtain ⟨_, _, _, _, h, _⟩ := h
  exact h
theorem Row.count {w : World} {T : TypeId} {k n m c : Nat} {a : Option Addr} {xs : List Value} (h : Row w T k (.slice a m c) n xs) : m = n := by
  obtain ⟨ad, cap, e, _⟩ := h.shape
  cases e
  rfl
theorem Told.slice {w w' : World} {os : List (Int × Int)} {v : Value} (h : Told w w' os v) : ∃ a n c, v = .slice a n c := by
  obtain ⟨_, h, _⟩ := h
  obtain ⟨ad, cap, e, _⟩ := Row.shape h
  exact ⟨ad, _, cap, e⟩

set_option maxHeartbeats 4000000 in
theorem queueOwn_walk (lim : Int) (sv : Value) (ops : List OpD) (w : World) (hops : OpsArg w sv ops) :
    Calls Try.prog 5 #[.int .i64 lim, sv] w fun x w' => x = .returned (.bool true) ∧ Below w.heap.size w w' := by
  have HM := hidK (behind_any lim sv ops w hops)
  obtain ⟨ao, no, co, rfl, -, -, -, -⟩ := hops.open_
  clear hops
  go_enter Try.func5, Try.ntmps5
  go_wp2_with fail
  refine HM.out.mono ?_
  rintro x w1 ⟨hb1, rfl | ⟨F, b, a, m, c, q, rfl, hs⟩⟩
  · have HB1 := hidK hb1
    clear hb1
    go_wp2_with fail
    all_goals go_ret
    all_goals exact ⟨rfl, by have h2 := HB1.out.size; repeat (first | exact HB1.out | apply Below.drew | refine Below.setCell ?_ (by first | omega | (simp <;> omega)) _ | refine Below.alloc ?_ (by first | omega | (simp <;> omega)) _)⟩
  · have HG := hidK (game_of hs)
    obtain ⟨W0, hW0⟩ : ∃ W0, w1.alloc (.cells #[.int .i64 (q.lim : Int), .slice a m c, .bool q.cl] 26) = W0 := ⟨_, rfl⟩
    obtain ⟨R, hR⟩ : ∃ R, w1.heap.size = R := ⟨_, rfl⟩
    have HW0 : Hid (w1.alloc (.cells #[.int .i64 (q.lim : Int), .slice a m c, .bool q.cl] 26) = W0) := hW0
    have HR : Hid (w1.heap.size = R) := hR
    rw [hW0, hR] at HG
    clear hs hb1 hW0 hR HM
    go_wp2_with fail
    rw [HW0.out]
    try rw [HR.out]
    refine (panes_any HG.out.side.play.at_).mono ?_
    rintro x w2 ⟨va, rfl, ht2⟩
    have HG2 := hidK (HG.out.more ht2.below)
    have HT2 := hidK ht2
    obtain ⟨aa, na, ca, rfl⟩ := ht2.slice
    clear ht2
    go_wp2_with fail
    refine (panes_any HG2.out.side.play.at_).mono ?_
    rintro x w3 ⟨vb, rfl, ht3⟩
    have HG3 := hidK (HG2.out.more ht3.below)
    have HT3 := hidK ht3
    obtain ⟨ab, nb, cb, rfl⟩ := ht3.slice
    obtain ⟨r0, r1, r2, r3⟩ := HG3.out.cells
    clear ht3
    go_wp2_with fail
    refine (game_panes HG3.out).mono ?_
    rintro x w4 ⟨vw, rfl, ht4⟩
    obtain ⟨aw, nw, cw, rfl⟩ := ht4.slice
    obtain ⟨zs, i1, i2, i3, i4, i5, i6, i7, i8⟩ := told3 HT2.out HT3.out ht4
    have HDu := hidK (fun X (hX : Below w4.heap.size w4 X) => duo_start HG.out (i5.trans (hX.mono i5.size)) (Row.below i1 hX) (Row.below i2 hX) i6 i7 i8)
    have HS1 := hidK (fun X (hX : Below w4.heap.size w4 X) => same_any (Row.below i1 hX) (Row.below i3 hX) i4)
    have HS2 := hidK (fun X (hX : Below w4.heap.size w4 X) => same_any (Row.below i2 hX) (Row.below i3 hX) i4)
    have ea := Row.count i1
    have eb := Row.count i2
    have ew := Row.count i3
    clear ht4 r0 r1 r2 r3 i1 i2 i3 i5 i6 i7 i8 HT2 HT3 HG2 HG3
    obtain ⟨n, hn⟩ : ∃ n, zs.length = n := ⟨_, rfl⟩
    rw [hn] at HDu i4 ea eb ew
    replace ea := ea.symm
    replace eb := eb.symm
    replace ew := ew.symm
    subst na
    subst nb
    subst nw
    clear hn
    go_wp2_with fail
    refine (HS1.out _ (Below.refl _ _)).mono ?_
    rintro x w5 ⟨rfl, hb5⟩
    have HB5 := hidK hb5
    clear hb5
    go_wp2_with fail
    refine (HS2.out _ (by first | exact HB5.out | exact HB5.out.drew)).mono ?_
    rintro x w6 ⟨rfl, hb6⟩
    have HB6 := hidK (HB5.out.trans (hb6.mono HB5.out.size))
    clear hb6
    go_wp2_with fail
    go_loopw [11] (fun s11 wx => ∃ i : Nat, i ≤ n ∧ s11 = .int .i64 (i : Int) ∧ Hid (Duo w wx R F b (.slice a m c) q (.slice aa n ca) (.slice ab n cb) n i)) (fun v _ => n - (intOf v).toNat)
    case atStart => exact ⟨0, Nat.zero_le _, rfl, HDu.out _ HB6.out⟩
    case round =>
      obtain ⟨i, hi, rfl, HD⟩ := hrel
      by_cases hlt : i < n
      · obtain ⟨ga, oa, ca', gb, ob, cb', ua, ub, ea, eb, c1, c2, f1, f2, hne, hd⟩ := HD.out.places hlt
        cases ea
        cases eb
        have HD2 := hidK hd
        have c2' : ∀ u, (wr.setCell ⟨ga, oa + i, none⟩ u).cell? ⟨gb, ob + i, none⟩ = some ub := fun u => (World.cell?_of_block (Below.heap_setCell _ _ _ _ (fun e => hne e.symm))).trans c2
        clear hd c2
        go_wp2_with fail
        go_roundw
        case rel => exact ⟨i + 1, by omega, by go_num, HD2.out⟩
        case measure => simp [intOf]; omega
      · obtain rfl : i = n := by omega
        have HO := hidK HD.out.four
        clear HD HDu HS1 HS2
        go_wp2_with fail
        go_loopw [12, 13, 14] (fun s12 s13 s14 wx => ∃ j : Nat, j ≤ 20 ∧ s14 = .int .i64 (j : Int) ∧ Hid (Own4 w wx R F b (.slice a m c) q (.slice aa i ca) s12 (.slice ab i cb) s13 i j j (-1) (-3) (-2) (-4))) (fun _ _ v _ => 20 - (intOf v).toNat)
        case atStart => exact ⟨0, Nat.zero_le _, rfl, HO.out⟩
        case round =>
          obtain ⟨j, hj, rfl, HO⟩ := hrel
          obtain ⟨sc, hsc⟩ : ∃ sc, u12 = sc := ⟨_, rfl⟩
          obtain ⟨sd, hsd⟩ : ∃ sd, u13 = sd := ⟨_, rfl⟩
          rw [hsc, hsd] at HO
          rw [hsc, hsd]
          clear hsc hsd
          by_cases hlt : j < 20
          · obtain ⟨xc, x1, x2, x3⟩ := HO.out.ta.rc
            have X1 := hidK x1
            have X2 := hidK x2
            have X3 := hidK x3
            clear x1 x2 x3
            go_wp2_with (refine wpList_append_rowB (wr.alloc (.cells #[.int .i64 (-3)] 3)) rfl _ _ 41 41 rfl underInts infoIntQ rfl (v := sc) (by simp [Act.eval]) (u := .slice (some ⟨wr.heap.size, 0, none⟩) 1 1) (by simp [Act.eval]) (X1.out.below ((Below.refl _ _).alloc (Nat.le_refl _) _)) (Src.block underInts _ _ [.int .i64 (-3)] _ 1 (heap_alloc_new wr _) rfl rfl) ?y1 ?y2 ?y3)
            case y1 => omega
            case y2 => unfold maxLen; omega
            case y3 =>
              intro v7 w7 hr7 hg7
              have HO7 := hidK ((HO.out.more ((Below.refl _ _).alloc (Nat.le_refl _) _)).grow (X1.out.below ((Below.refl _ _).alloc (Nat.le_refl _) _)) X2.out X3.out hr7.out hg7.out)
              obtain ⟨xd, z1, z2, z3⟩ := HO7.out.tb.rc
              have Z1 := hidK z1
              have Z2 := hidK z2
              have Z3 := hidK z3
              clear z1 z2 z3 hr7 hg7 HO X1 X2 X3
              go_wp2_with (refine wpList_append_rowB (w7.alloc (.cells #[.int .i64 (-4)] 3)) rfl _ _ 41 41 rfl underInts infoIntQ rfl (v := sd) (by simp [Act.eval]) (u := .slice (some ⟨w7.heap.size, 0, none⟩) 1 1) (by simp [Act.eval]) (Z1.out.below ((Below.refl _ _).alloc (Nat.le_refl _) _)) (Src.block underInts _ _ [.int .i64 (-4)] _ 1 (heap_alloc_new w7 _) rfl rfl) ?t1 ?t2 ?t3)
              case t1 => omega
              case t2 => unfold maxLen; omega
              case t3 =>
                intro v8 w8 hr8 hg8
                have HO8 := hidK ((HO7.out.more ((Below.refl _ _).alloc (Nat.le_refl _) _)).swap.grow (Z1.out.below ((Below.refl _ _).alloc (Nat.le_refl _) _)) Z2.out Z3.out hr8.out hg8.out).swap
                clear hr8 hg8 Z1 Z2 Z3 HO7
                go_wp2_with fail
                go_roundw
                case rel => exact ⟨j + 1, by omega, by go_num, HO8.out⟩
                case measure => simp [intOf]; omega
          · obtain rfl : j = 20 := by omega
            obtain ⟨xc, x1, -⟩ := HO.out.ta.rc
            obtain ⟨xd, z1, -⟩ := HO.out.tb.rc
            obtain ⟨ac, cc, rfl⟩ := x1.sliced
            obtain ⟨ad, cd, rfl⟩ := z1.sliced
            clear x1 z1
            go_wp2_with fail
            go_loopw [15] (fun s15 wx => ∃ k : Nat, k ≤ i + 20 ∧ s15 = .int .i64 (k : Int) ∧ Hid (Own4 w wx R F b (.slice a m c) q (.slice aa i ca) (.slice ac (i + 20) cc) (.slice ab i cb) (.slice ad (i + 20) cd) i 20 20 (-1) (-3) (-2) (-4))) (fun v _ => i + 20 - (intOf v).toNat)
            case atStart => exact ⟨0, Nat.zero_le _, rfl, HO.out⟩
            case round =>
              obtain ⟨k, hk, rfl, HO⟩ := hrel
              by_cases hlt : k < i + 20
              · obtain ⟨gc, oc, cc', ec, c3⟩ := HO.out.ta.cellC hlt
                obtain ⟨gd, od, cd', ed, c4⟩ := HO.out.tb.cellC hlt
                cases ec
                cases ed
                by_cases hki : k < i
                · rw [if_pos hki] at c3 c4
                  obtain ⟨ga, oa, ca', ea, c1⟩ := HO.out.ta.cellA hki
                  obtain ⟨gb, ob, cb', eb, c2⟩ := HO.out.tb.cellA hki
                  cases ea
                  cases eb
                  go_wp2_with fail
                  all_goals (
                    go_roundw
                    case rel => exact ⟨k + 1, by omega, by go_num, HO.out⟩
                    case measure => simp [intOf]; omega)
                · rw [if_neg hki] at c3 c4
                  go_wp2_with fail
                  all_goals (
                    go_roundw
                    case rel => exact ⟨k + 1, by omega, by go_num, HO.out⟩
                    case measure => simp [intOf]; omega)
              · obtain rfl : k = i + 20 := by omega
                obtain ⟨r0, r1, r2, r3⟩ := HO.out.game.cells
                go_wp2_with fail
                refine (game_as HO.out.game).mono ?_
                rintro x w9 ⟨rfl, hb9⟩
                go_wp2_with fail
                all_goals go_ret
                all_goals exact ⟨rfl, hb9⟩

end Go.Proofs.Ytkpnolkbheoocaa
