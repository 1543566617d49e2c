/-
  Layouts: the grid, and rows of panes, in the program.
  Layouts: rows of panes in the program.
  Layouts: Arrange in the program.
  Layouts: Arrange in the program, as a whole.
-/
import Derived.Test.YtnepemlagnnngaaCAe
namespace Go.Proofs.Ytnepemlagnnngaa
open Go.RowKit
set_option linter.unusedVariables false
set_option maxRecDepth 100000

theorem gridT_end (f n r c : Nat) (h : ¬ r * c < n) : gridT f n r c = (r, c) := by
  cases f with
  | zero => rfl
  | succ f => unfold gridT; rw [if_neg h]
set_option maxHeartbeats 1000000 in
theorem grid_any (n : Nat) (w : World) (hn : n ≤ 32) : Calls Try.prog 94 #[.int .i64 n] w fun e w' => e = .returned (.tuple #[.int .i64 (gridF n).1, .int .i64 (gridF n).2]) ∧ w = w' := by
  obtain ⟨G, hG⟩ : ∃ G, gridF n = G := ⟨_, rfl⟩
  have HG : Hid (gridT 40 n 1 1 = G) := hG
  rw [hG]
  clear hG
  go_enter Try.func94, Try.ntmps94
  go_wp2
  go_loopw [4, 5] (fun vr vc wr => ∃ r c : Nat, 1 ≤ r ∧ r ≤ 33 ∧ 1 ≤ c ∧ c ≤ r ∧ vr = .int .i64 r ∧ vc = .int .i64 c ∧ Hid (gridT (41 - r) n r c = G) ∧ w = wr) (fun vr _ _ => 40 - (intOf vr).toNat)
  case atStart => exact ⟨1, 1, by omega, by omega, by omega, by omega, rfl, rfl, HG, rfl⟩
  case round =>
    obtain ⟨r, c, hr1, hr2, hc1, hc2, rfl, rfl, HT, rfl⟩ := hrel
    have hm : r * c ≤ 33 * 33 := Nat.mul_le_mul hr2 (Nat.le_trans hc2 hr2)
    have hm2 : (r + 1) * c ≤ 34 * 33 := Nat.mul_le_mul (by omega) (Nat.le_trans hc2 hr2)
    have e1 : ((r : Int) * (c : Int)) = ((r * c : Nat) : Int) := by simp
    have e2 : (((r : Int) + 1) * (c : Int)) = (((r + 1) * c : Nat) : Int) := by simp
    have w1 : IntKind.i64.wrap ((r : Int) * (c : Int)) = ((r * c : Nat) : Int) := by rw [e1, IntKind.wrap_i64]; omega
    have w2 : IntKind.i64.wrap (((r : Int) + 1) * (c : Int)) = (((r + 1) * c : Nat) : Int) := by rw [e2, IntKind.wrap_i64]; omega
    have hrc : r ≤ r * c := Nat.le_mul_of_pos_right r hc1
    by_cases h : r * c < n
    · have HF : Hid (gridT (41 - r) n r c = if (r + 1) * c < n then gridT (41 - (r + 1)) n (r + 1) (c + 1) else gridT (41 - (r + 1)) n (r + 1) c) := by
        show _ = _
        rw [show 41 - r = (41 - (r + 1)) + 1 by omega]
        show (if r * c < n then _ else _) = _
        rw [if_pos h]
      have hd : decide (((r * c : Nat) : Int) < (n : Int)) = true := decide_eq_true (by omega)
      obtain ⟨m, hme⟩ : ∃ m, r * c = m := ⟨_, rfl⟩
      obtain ⟨m2, hm2e⟩ : ∃ m, (r + 1) * c = m := ⟨_, rfl⟩
      rw [hme] at w1 hd hm hrc h
      rw [hm2e] at w2 hm2
      have HM2 : Hid ((r + 1) * c = m2) := hm2e
      clear e1 e2 hme hm2e
      by_cases h2 : m2 < n
      · have hd2 : decide ((m2 : Int) < (n : Int)) = true := decide_eq_true (by omega)
        have HF2 : Hid (gridT (41 - (r + 1)) n (r + 1) (c + 1) = G) := by
          have := HT.out
          rw [HF.out, HM2.out, if_pos h2] at this
          exact this
        go_wp2
        go_roundw
        case rel => exact ⟨r + 1, c + 1, by omega, by omega, by omega, by omega, by go_num, by go_num, HF2, by first | exact trivial | rfl⟩
        case measure => simp [intOf]; omega
      · have hd2 : decide ((m2 : Int) < (n : Int)) = false := decide_eq_false (by omega)
        have HF2 : Hid (gridT (41 - (r + 1)) n (r + 1) c = G) := by
          have := HT.out
          rw [HF.out, HM2.out, if_neg h2] at this
          exact this
        go_wp2
        go_roundw
        case rel => exact ⟨r + 1, c, by omega, by omega, by omega, by omega, by go_num, rfl, HF2, by first | exact trivial | rfl⟩
        case measure => simp [intOf]; omega
    · have hd : decide (((r * c : Nat) : Int) < (n : Int)) = false := decide_eq_false (by omega)
      have HE : Hid (G = (r, c)) := by
        show _ = _
        rw [← HT.out]
        exact gridT_end _ _ _ _ h
      obtain ⟨m, hme⟩ : ∃ m, r * c = m := ⟨_, rfl⟩
      rw [hme] at w1 hd hm hrc h
      clear e1 e2 hme w2 hm2
      go_wp2
      rw [HE.out]
      exact bodyPost_ret (v := .tuple #[.int .i64 r, .int .i64 c]) (by simp [results, Try.results94, go_sem]) rfl ⟨rfl, rfl⟩

theorem slice_ids (g o n cap lo m : Nat) (h1 : lo ≤ m) (h3 : m ≤ cap) (h4 : lo < cap) (W : World) : (Instr.slice 42 (.slice (some ⟨g, o, none⟩) n cap) (some (.int .i64 (lo : Int))) (some (.int .i64 (m : Int))) none).run Try.prog W = .ok (.slice (some ⟨g, o + lo, none⟩) (m - lo) (cap - lo)) W := by
  have hs : (sizeOf (Try.prog.elem 42)).run Try.prog W = .ok 1 W := by kernel_rfl
  have h := run_slice_lh (P := Try.prog) (w := W) 42 (some ⟨g, o, none⟩) n cap (by kernel_rfl) .i64 .i64 (lo : Int) (m : Int) (by omega) (by omega) (by omega)
  rw [h, hs]
  show Result.ok (sliced (some ⟨g, o, none⟩) lo m cap 1) W = _
  unfold sliced
  rw [if_neg (by omega)]
  show Result.ok (Value.slice (some ((⟨g, o, none⟩ : Addr).add (lo * 1))) (m - lo) (cap - lo)) W = _
  rw [show (⟨g, o, none⟩ : Addr).add (lo * 1) = ⟨g, o + lo, none⟩ by rw [Nat.mul_one]; unfold Addr.add; split <;> simp_all]
theorem share_fine {wh n i : Int} (hw : 1 ≤ wh ∧ wh ≤ 1000) (hn : 2 ≤ n ∧ n ≤ 100) : -1000 ≤ shareF wh n i ∧ shareF wh n i ≤ 1000 := by
  unfold shareF
  obtain ⟨L, hL⟩ : ∃ L, wh - (n - 1) = L := ⟨_, rfl⟩
  rw [hL]
  have h : -100 ≤ L.tdiv n ∧ L.tdiv n ≤ 999 := by
    by_cases h0 : 0 ≤ L
    · rw [Int.tdiv_eq_ediv_of_nonneg h0]
      have h1 : 0 ≤ L / n := Int.ediv_nonneg h0 (by omega)
      have h2 : L / n ≤ L := Int.ediv_le_self n h0
      omega
    · have h1 : 0 ≤ (-L) / n := Int.ediv_nonneg (by omega) (by omega)
      have h2 : (-L) / n ≤ -L := Int.ediv_le_self n (by omega)
      have h3 : (-L).tdiv n = (-L) / n := Int.tdiv_eq_ediv_of_nonneg (by omega)
      rw [Int.neg_tdiv] at h3
      omega
  split <;> omega

end Go.Proofs.Ytnepemlagnnngaa

namespace Go.Proofs.Ytnepemlagnnngaa
open Go.RowKit
set_option linter.unusedVariables false
set_option maxRecDepth 100000

theorem row_length (zs : List Int) (n lo hi c : Nat) (hn : zs.length = n) (hl : lo < n) (hh : hi = lo + c) : ((zs.drop lo).take c).length = min hi n - lo := by
  rw [List.length_take, List.length_drop, hn]
  omega
set_option maxHeartbeats 4000000 in
theorem tiled_any (zs : List Int) (b : Box) (v : Value) (w : World) (hI : IdsIn w v zs) (h2 : 2 ≤ zs.length) (h3 : zs.length ≤ 32) (hw : 1 ≤ b.w ∧ b.w ≤ 1000) (hh : 1 ≤ b.h ∧ b.h ≤ 1000) : Calls Try.prog 89 #[v, boxV b] w (ReadYes (tileT b (gridF zs.length).1 (gridF zs.length).2 zs) w) := by
  obtain ⟨g, o, cap, rfl, hcap, hz⟩ := hI
  obtain ⟨W, hW⟩ : ∃ x, w.alloc (.cells #[.int .i64 b.x, .int .i64 b.y, .int .i64 b.w, .int .i64 b.h] 66) = x := ⟨_, rfl⟩
  have hB : BoxAt W w.heap.size b := by rw [← hW]; exact box_handed w b
  have hWs : W.heap.size = w.heap.size + 1 := by rw [← hW]; simp
  obtain ⟨c0, c1, c2, c3, _⟩ := hB
  obtain ⟨V, hV⟩ : ∃ x, W.alloc (.cells #[.int .i64 b.x, .int .i64 b.y, .int .i64 b.w, .int .i64 b.h, .int .i64 3, .slice none 0 0] 101) = x := ⟨_, rfl⟩
  have HS0 : Hid (EvenTo w 3 b [] (.slice none 0 0) [] [] V) := by rw [← hV, ← hW]; exact EvenTo.start w 3 b
  have HW : Hid (w.alloc (.cells #[.int .i64 b.x, .int .i64 b.y, .int .i64 b.w, .int .i64 b.h] 66) = W) := hW
  have HV : Hid (W.alloc (.cells #[.int .i64 b.x, .int .i64 b.y, .int .i64 b.w, .int .i64 b.h, .int .i64 3, .slice none 0 0] 101) = V) := hV
  obtain ⟨n, hn⟩ : ∃ n, zs.length = n := ⟨_, rfl⟩
  have HN : Hid (zs.length = n) := hn
  rw [hn] at h2 h3 hcap ⊢
  obtain ⟨f1, f2, f3, f4, f5, f6⟩ := grid_facts n (by omega) h2
  have HG : Hid (∀ X, Calls Try.prog 94 #[.int .i64 n] X fun e w' => e = .returned (.tuple #[.int .i64 (gridF n).1, .int .i64 (gridF n).2]) ∧ X = w') := fun X => grid_any n X (by omega)
  obtain ⟨r, hr⟩ : ∃ r, (gridF n).1 = r := ⟨_, rfl⟩
  obtain ⟨c, hc⟩ : ∃ c, (gridF n).2 = c := ⟨_, rfl⟩
  rw [hr, hc] at HG f3 f4 ⊢
  rw [hr] at f1 f5
  rw [hc] at f2 f6
  unfold tileT
  obtain ⟨ts, hts⟩ : ∃ ts, tileL b r c zs r 0 = ts := ⟨_, rfl⟩
  have HTl : Hid (ts.length = r) := by show _ = _; rw [← hts, tileL_length]
  have HT : Hid (∀ i : Nat, i < r → ts[i]? = some (evenT 2 ((zs.drop (i * c)).take c) (b.with 3 (shareF b.h r i)))) := fun i h => by
    rw [← hts]
    have := tileL_get b r c r zs 0 i h
    rw [Int.zero_add] at this
    exact this
  rw [hts]
  have HZ : Hid (∀ X, Below w.heap.size w X → ∀ (i : Nat) z, zs[i]? = some z → X.cell? ⟨g, o + i, none⟩ = some (.int .i64 z)) := fun X hX i z h => (hX.cell (p := ⟨g, o + i, none⟩) (World.block_lt_of_cell? w _ (hz i z h))).trans (hz i z h)
  have HSh : Hid (∀ (i : Nat) X, Calls Try.prog 93 #[.int .i64 b.h, .int .i64 r, .int .i64 i] X fun e w' => e = .returned (.int .i64 (shareF b.h r i)) ∧ X = w') := fun i X => share_any b.h r i X (by omega) (by omega)
  have HSf : Hid (∀ i : Nat, -1000 ≤ shareF b.h r i ∧ shareF b.h r i ≤ 1000) := fun i => share_fine hh (by omega)
  have HWi : Hid (∀ (q : Int) X, -1000 ≤ q ∧ q ≤ 1000 → BoxAt X w.heap.size b → Calls Try.prog 29 #[.pointer (some ⟨w.heap.size, 0, none⟩), .int .i64 3, .int .i64 q] X fun e w' => e = .returned (.agg #[.int .i64 (b.with 3 q).x, .int .i64 (b.with 3 q).y, .int .i64 (b.with 3 q).w, .int .i64 (b.with 3 q).h]) ∧ Below X.heap.size X w') := fun q X hq hX => box_withG _ b 3 _ X hX (by omega) (by omega) (by omega)
  have HIx : Hid (∀ i : Nat, i < r → i * c < n ∧ (i + 1) * c ≤ 2000) := fun i hi => by
    have e1 : i * c ≤ (r - 1) * c := Nat.mul_le_mul_right c (by omega)
    have e2 : (i + 1) * c ≤ 32 * 32 := Nat.mul_le_mul (by omega) f6
    exact ⟨by omega, by omega⟩
  unfold boxV
  clear hW hV hz hn hts hr hc f3 f4 f6
  go_enter Try.func89, Try.ntmps89
  go_upto_region 1 with fail
  rw [HW.out]
  go_wp2_with fail
  refine (HG.out _).mono ?_
  rintro e w9 ⟨rfl, rfl⟩
  go_upto_region 3 with fail
  rw [HV.out]
  go_wp2
  go_loopw [20] (fun vi wr => ∃ i : Nat, i ≤ r ∧ vi = .int .i64 i ∧ ∃ sl vs fs, Hid (EvenTo w 3 b (ts.take i) sl vs fs wr)) (fun vi _ => r - (intOf vi).toNat)
  case atStart => exact ⟨0, Nat.zero_le _, rfl, _, _, _, HS0⟩
  case round =>
    obtain ⟨i, hi, rfl, sl, vs, fs, HJ⟩ := hrel
    by_cases hlt : i < r
    · have hti := HT.out i hlt
      obtain ⟨x1, x2⟩ := HIx.out i hlt
      obtain ⟨q, hq⟩ : ∃ q, shareF b.h r i = q := ⟨_, rfl⟩
      have hqf := HSf.out i
      have HSi : Hid (∀ X, Calls Try.prog 93 #[.int .i64 b.h, .int .i64 r, .int .i64 i] X fun e w' => e = .returned (.int .i64 q) ∧ X = w') := fun X => by rw [← hq]; exact HSh.out i X
      rw [hq] at hti hqf
      obtain ⟨B', hB'⟩ : ∃ B', b.with 3 q = B' := ⟨_, rfl⟩
      have HWI : Hid (∀ X, BoxAt X w.heap.size b → Calls Try.prog 29 #[.pointer (some ⟨w.heap.size, 0, none⟩), .int .i64 3, .int .i64 q] X fun e w' => e = .returned (.agg #[.int .i64 B'.x, .int .i64 B'.y, .int .i64 B'.w, .int .i64 B'.h]) ∧ Below X.heap.size X w') := fun X hX => by rw [← hB']; exact HWi.out q X hqf hX
      have hbw : (-1000 ≤ B'.w ∧ B'.w ≤ 1000) ∧ (-1000 ≤ B'.h ∧ B'.h ≤ 1000) := by
        rw [← hB']
        exact ⟨by show -1000 ≤ b.w ∧ b.w ≤ 1000; omega, by show -1000 ≤ b.h + (q - b.h) ∧ b.h + (q - b.h) ≤ 1000; omega⟩
      have e1 : ((i : Int) * (c : Int)) = ((i * c : Nat) : Int) := by simp
      have e2 : (((i : Int) + 1) * (c : Int)) = (((i + 1) * c : Nat) : Int) := by simp
      have hhl : (i + 1) * c = i * c + c := by rw [Nat.add_mul]; omega
      obtain ⟨lo, hlo⟩ : ∃ x, i * c = x := ⟨_, rfl⟩
      obtain ⟨hi2, hhi2⟩ : ∃ x, (i + 1) * c = x := ⟨_, rfl⟩
      rw [hlo] at e1 x1 hti hhl
      rw [hhi2] at e2 x2 hhl
      have v1 : IntKind.i64.wrap ((i : Int) * (c : Int)) = (lo : Int) := by rw [e1, IntKind.wrap_i64]; omega
      have v2 : IntKind.i64.wrap (((i : Int) + 1) * (c : Int)) = (hi2 : Int) := by rw [e2, IntKind.wrap_i64]; omega
      obtain ⟨m, hm⟩ : ∃ m, min hi2 n = m := ⟨_, rfl⟩
      have v3 : min (hi2 : Int) (n : Int) = (m : Int) := by omega
      have hsl := slice_ids g o n cap lo m (by omega) (by omega) (by omega)
      obtain ⟨L, hL⟩ : ∃ L, m - lo = L := ⟨_, rfl⟩
      rw [hL] at hsl
      obtain ⟨row, hrow⟩ : ∃ row, (zs.drop lo).take c = row := ⟨_, rfl⟩
      have hrl : row.length = L := by
        rw [← hrow, row_length zs n lo hi2 c HN.out x1 hhl, hm, hL]
      have HEv : Hid (∀ X, Below w.heap.size w X → Calls Try.prog 87 #[.int .i64 2, .slice (some ⟨g, o + lo, none⟩) L (cap - lo), .agg #[.int .i64 B'.x, .int .i64 B'.y, .int .i64 B'.w, .int .i64 B'.h]] X (ReadYes (evenT 2 row B') X)) := fun X hX => even_any 2 (.inl rfl) row B' _ X ⟨g, o + lo, cap - lo, by rw [hrl], by omega, by rw [← hrow]; exact IdsIn.cut (n := n) (cap := cap) (HZ.out X hX) lo c⟩ (fun e => by rw [e] at hrl; simp at hrl; omega) (by omega) hbw.1 hbw.2
      rw [hrow, hB'] at hti
      have HTk : Hid (ts.take (i + 1) = ts.take i ++ [evenT 2 row B']) := take_more _ _ _ hti
      obtain ⟨ET, hET⟩ : ∃ t, evenT 2 row B' = t := ⟨_, rfl⟩
      rw [hET] at HEv HTk
      have d5 : wr.cell? ⟨w.heap.size + 1, 5, none⟩ = some sl := cell_atL HJ.out.own 5
      obtain ⟨sa, sn, sc, hsl'⟩ := own_slice HJ.out.row
      subst hsl'
      have HBd : Hid (BoxAt wr.drew w.heap.size b) := by obtain ⟨x0, x1, x2, x3, x4⟩ := HJ.out.box; exact ⟨x0, x1, x2, x3, x4⟩
      have b3 : wr.cell? ⟨w.heap.size, 3, none⟩ = some (.int .i64 b.h) := HJ.out.box.h
      have HD5 : Hid (wr.drew.cell? ⟨w.heap.size + 1, 5, none⟩ = some (.slice sa sn sc)) := d5
      have HLv : Hid (vs.length = i) := by
        show _ = _
        rw [HJ.out.parts.length, List.length_take, HTl.out]
        omega
      have hlen : vs.length ≤ 1000000 := by rw [HLv.out]; omega
      clear hti hq hqf hB' hbw e1 e2 hhl hlo hhi2 hm hL hrow hrl hET x2
      go_wp2
      go_region_law (first
        | (refine step_append_partB X3 rfl (.tmp 39) (.tmp 48) rfl (w.heap.size + 2) (.slice sa sn sc) vs T3 g3 (by simp [Act.eval]) (HJ.out.below' H3.out.2.2.2).row (by simp [Act.eval]) hlen H3.out.2.1 ?_; intro sl' w3 a1 a2 a3; have hsl3 := own_slice a1; have hj := HJ.out.next H3.out.2.2.2 H3.out.1.1 H3.out.1.2.1 H3.out.1.2.2 a1 a2 a3; have c5 : w3.cell? ⟨w.heap.size + 1, 5, none⟩ = some (.slice sa sn sc) := cell_atL hj.1 5; have f5 : w3.frozen? ⟨w.heap.size + 1, 5, none⟩ = false := free_atL hj.1 5; have HJ3 : Hid (EvenTo w 3 b (ts.take i ++ [ET]) sl' (vs ++ [.iface T3 (.pointer (some ⟨g3, 0, none⟩))]) (fs ++ f3) (w3.setCell ⟨w.heap.size + 1, 5, none⟩ sl')) := hj.2; clear a1 a2 a3 hj; obtain ⟨sa', sn', sc', hsl4⟩ := hsl3; subst hsl4)
        | (go_simp; go_at_call 93; refine (HSi.out _).mono ?_; rintro e w1 ⟨rfl, rfl⟩)
        | (go_simp; go_at_call 29; refine (HWI.out _ HBd.out).mono ?_; rintro e X ⟨rfl, hbX⟩; have HX : Hid (Below wr.heap.size wr X) := ⟨hbX.os, hbX.tape, hbX.output, hbX.size, hbX.block⟩; have dX := (part_kept HD5.out hbX).1; clear hbX)
        | (go_simp; go_at_call 87; refine (HEv.out _ (below_step HJ.out.below HX.out)).mono ?_; rintro e X3 ⟨T3, g3, f3, rfl, hA3, hnd3, hge3, hb3⟩; have H3 : Hid ((ET.At X3 0 (.iface T3 (.pointer (some ⟨g3, 0, none⟩))) f3 ∧ f3.Nodup ∧ ∀ q ∈ f3, wr.heap.size ≤ q) ∧ w.heap.size + 2 ≤ X3.heap.size ∧ Below X.heap.size X X3 ∧ Below wr.heap.size wr X3) := ⟨⟨hA3, hnd3, fun q hq => Nat.le_trans HX.out.size (hge3 q hq)⟩, Nat.le_trans HJ.out.lt (Nat.le_trans HX.out.size hb3.size), hb3, below_step HX.out hb3⟩; obtain ⟨dX3, dX3a, _⟩ := part_kept dX hb3; clear hA3 hnd3 hge3 hb3))
      all_goals (
        go_wp2
        go_roundw
        case rel => exact ⟨i + 1, by omega, by go_num, _, _, _, by rw [HTk.out]; exact HJ3⟩
        case measure => simp [intOf]; omega)
    · have HM : Hid (ReadYes (.split b 3 ts) w (.returned (splitI (w.heap.size + 1))) wr) := by
        have h := HJ.out.made
        rw [List.take_of_length_le (by rw [HTl.out]; omega)] at h
        exact h
      unfold splitI at HM
      go_wp2
      go_ret
      exact HM.out

end Go.Proofs.Ytnepemlagnnngaa

namespace Go.Proofs.Ytnepemlagnnngaa
open Go.RowKit
set_option linter.unusedVariables false
set_option maxRecDepth 100000

mutual
theorem sound_ids : ∀ (t : Tree), t.kinds → t.sound = true → ∀ z ∈ (nodeOf t).ids, idB z = true
  | .leaf b p, _, hs, z, hz => by
    have h : ((sideB b.w && sideB b.h) && idB p) = true := hs
    have h2 : z ∈ [p] := hz
    rw [List.mem_singleton.1 h2]
    exact (Bool.and_eq_true_iff.1 h).2
  | .split b k ts, hk, hs, z, hz => by
    have h : ((decide (2 ≤ ts.length) && (sideB b.w && sideB b.h)) && (soundAll ts b k && decide (extAll ts k = b.ext k))) = true := hs
    have h3 : k ≠ 1 := by rcases hk.1 with e | e <;> omega
    have h2 : z ∈ (if k = 1 then [(0 : Int)] else idsAll (nodesOf ts)) := hz
    rw [if_neg h3] at h2
    exact sounds_ids ts b k hk.2 (Bool.and_eq_true_iff.1 (Bool.and_eq_true_iff.1 h).2).1 z h2
theorem sounds_ids : ∀ (ts : List Tree) (b : Box) (k : Int), kindsAll ts → soundAll ts b k = true → ∀ z ∈ idsAll (nodesOf ts), idB z = true
  | [], _, _, _, _, z, hz => by cases hz
  | t :: ts, b, k, hk, hs, z, hz => by
    have h : ((t.sound && (!t.kindIs k && decide (t.box.ext (acrossK k) = b.ext (acrossK k)))) && soundAll ts b k) = true := hs
    have h2 : z ∈ (nodeOf t).ids ++ idsAll (nodesOf ts) := hz
    obtain ⟨h3, h4⟩ := Bool.and_eq_true_iff.1 h
    rcases List.mem_append.1 h2 with h5 | h5
    · exact sound_ids t hk.1 (Bool.and_eq_true_iff.1 h3).1 z h5
    · exact sounds_ids ts b k hk.2 h4 z h5
end
/-- What Arrange lays down. -/
def arrT (how : Int) (z0 : Int) (zs : List Int) (b : Box) (sz : Int) : Tree := if how = 1 then evenT 2 (z0 :: zs) b else if how = 2 then evenT 3 (z0 :: zs) b else if how = 3 then firstT 3 z0 zs b sz else if how = 4 then firstT 2 z0 zs b sz else tileT b (gridF (z0 :: zs).length).1 (gridF (z0 :: zs).length).2 (z0 :: zs)
theorem first_kinds (k : Int) (hk : k = 2 ∨ k = 3) (z0 : Int) (zs : List Int) (b : Box) (sz : Int) : (firstT k z0 zs b sz).kinds := ⟨hk, trivial, even_kinds _ (across_two k hk).2.1 _ _, trivial⟩
theorem first_size (k : Int) (z0 : Int) (zs : List Int) (b : Box) (sz : Int) : (firstT k z0 zs b sz).size ≤ zs.length + 4 := by
  have h := even_size (acrossK k) zs (b.with k (othersF (b.ext k) sz))
  show 1 + (1 + ((evenT (acrossK k) zs (b.with k (othersF (b.ext k) sz))).size + 0)) ≤ _
  omega
theorem arr_kinds (how : Int) (z0 : Int) (zs : List Int) (b : Box) (sz : Int) : (arrT how z0 zs b sz).kinds := by
  unfold arrT
  split
  · exact even_kinds 2 (.inl rfl) _ _
  · split
    · exact even_kinds 3 (.inr rfl) _ _
    · split
      · exact first_kinds 3 (.inr rfl) _ _ _ _
      · split
        · exact first_kinds 2 (.inl rfl) _ _ _ _
        · exact ⟨.inr rfl, tileL_kinds _ _ _ _ _ _⟩
theorem arr_size (how : Int) (z0 : Int) (zs : List Int) (b : Box) (sz : Int) (h1 : 1 ≤ zs.length) (h : zs.length ≤ 31) : (arrT how z0 zs b sz).size ≤ 100 := by
  unfold arrT
  split
  · have := even_size 2 (z0 :: zs) b; rw [List.length_cons] at this; omega
  · split
    · have := even_size 3 (z0 :: zs) b; rw [List.length_cons] at this; omega
    · split
      · have := first_size 3 z0 zs b sz; omega
      · split
        · have := first_size 2 z0 zs b sz; omega
        · have h2 := tileL_sizes b (gridF (z0 :: zs).length).1 (gridF (z0 :: zs).length).2 (gridF (z0 :: zs).length).1 (z0 :: zs) 0
          have h3 := grid_facts (z0 :: zs).length (by rw [List.length_cons]; omega) (by rw [List.length_cons]; omega)
          show 1 + sizes _ ≤ _
          rw [List.length_cons] at h2 h3 ⊢
          omega
theorem ReadYes.up {t : Tree} {w W : World} {e : Ending} {w' : World} (h : ReadYes t W e w') (hb : Below w.heap.size w W) : ReadYes t w e w' := by
  obtain ⟨T, g, fp, h1, h2, h3, h4, h5⟩ := h
  exact ⟨T, g, fp, h1, h2, h3, fun q hq => Nat.le_trans hb.size (h4 q hq), below_step hb h5⟩

set_option maxHeartbeats 4000000 in
theorem arranged_any (how : Int) (hh5 : 1 ≤ how ∧ how ≤ 5) (z0 : Int) (zs : List Int) (b : Box) (sz : Int) (v : Value) (w : World) (hI : IdsIn w v (z0 :: zs)) (h1 : 1 ≤ zs.length) (h3 : zs.length ≤ 31) (hw : 1 ≤ b.w ∧ b.w ≤ 1000) (hh : 1 ≤ b.h ∧ b.h ≤ 1000) (hsz : -9223372036854775808 ≤ sz ∧ sz ≤ 9223372036854775807) : Calls Try.prog 75 #[.int .i64 how, v, boxV b, .int .i64 sz] w (ReadYes (arrT how z0 zs b sz) w) := by
  obtain ⟨W, hW⟩ : ∃ x, w.alloc (.cells #[.int .i64 b.x, .int .i64 b.y, .int .i64 b.w, .int .i64 b.h] 66) = x := ⟨_, rfl⟩
  have hbW : Below w.heap.size w W := by rw [← hW]; exact (Below.refl _ _).alloc (Nat.le_refl _) _
  have HBW : Hid (Below w.heap.size w W) := hbW
  have hB : BoxAt W w.heap.size b := by rw [← hW]; exact box_handed w b
  obtain ⟨c0, c1, c2, c3, _⟩ := hB
  have HW : Hid (w.alloc (.cells #[.int .i64 b.x, .int .i64 b.y, .int .i64 b.w, .int .i64 b.h] 66) = W) := hW
  have hne : zs ≠ [] := fun e => by rw [e] at h1; simp at h1
  have hIW := hI.below hbW
  have HE2 : Hid (Calls Try.prog 87 #[.int .i64 2, v, .agg #[.int .i64 b.x, .int .i64 b.y, .int .i64 b.w, .int .i64 b.h]] W (ReadYes (evenT 2 (z0 :: zs) b) W)) := even_any 2 (.inl rfl) _ b v W hIW (by simp) (by rw [List.length_cons]; omega) (by omega) (by omega)
  have HE3 : Hid (Calls Try.prog 87 #[.int .i64 3, v, .agg #[.int .i64 b.x, .int .i64 b.y, .int .i64 b.w, .int .i64 b.h]] W (ReadYes (evenT 3 (z0 :: zs) b) W)) := even_any 3 (.inr rfl) _ b v W hIW (by simp) (by rw [List.length_cons]; omega) (by omega) (by omega)
  have HF3 : Hid (Calls Try.prog 88 #[.int .i64 3, v, .agg #[.int .i64 b.x, .int .i64 b.y, .int .i64 b.w, .int .i64 b.h], .int .i64 sz] W (ReadYes (firstT 3 z0 zs b sz) W)) := first_any 3 (.inr rfl) z0 zs b sz v W hIW hne (by omega) hw hh hsz
  have HF2 : Hid (Calls Try.prog 88 #[.int .i64 2, v, .agg #[.int .i64 b.x, .int .i64 b.y, .int .i64 b.w, .int .i64 b.h], .int .i64 sz] W (ReadYes (firstT 2 z0 zs b sz) W)) := first_any 2 (.inl rfl) z0 zs b sz v W hIW hne (by omega) hw hh hsz
  have HTi : Hid (Calls Try.prog 89 #[v, .agg #[.int .i64 b.x, .int .i64 b.y, .int .i64 b.w, .int .i64 b.h]] W (ReadYes (tileT b (gridF (z0 :: zs).length).1 (gridF (z0 :: zs).length).2 (z0 :: zs)) W)) := tiled_any (z0 :: zs) b v W hIW (by rw [List.length_cons]; omega) (by rw [List.length_cons]; omega) hw hh
  unfold boxV
  clear hW hbW hI hIW hne h1 h3 hw hh hsz
  have hcases : how = 1 ∨ how = 2 ∨ how = 3 ∨ how = 4 ∨ how = 5 := by omega
  clear hh5
  rcases hcases with rfl | rfl | rfl | rfl | rfl
  · show Calls _ _ _ _ (ReadYes (evenT 2 (z0 :: zs) b) w)
    obtain ⟨T, hT⟩ : ∃ T, evenT 2 (z0 :: zs) b = T := ⟨_, rfl⟩
    rw [hT] at HE2 ⊢
    go_enter Try.func75, Try.ntmps75
    go_upto_region 1 with fail
    rw [HW.out]
    go_wp2_with fail
    refine HE2.out.mono ?_
    rintro e w1 h
    have h2 := h.up HBW.out
    obtain ⟨T1, g1, f1, rfl, h3⟩ := h
    have HR : Hid (ReadYes T w _ w1) := h2
    clear h2 h3
    go_wp2
    go_ret
    exact HR.out
  · show Calls _ _ _ _ (ReadYes (evenT 3 (z0 :: zs) b) w)
    obtain ⟨T, hT⟩ : ∃ T, evenT 3 (z0 :: zs) b = T := ⟨_, rfl⟩
    rw [hT] at HE3 ⊢
    go_enter Try.func75, Try.ntmps75
    go_upto_region 1 with fail
    rw [HW.out]
    go_wp2_with fail
    refine HE3.out.mono ?_
    rintro e w1 h
    have h2 := h.up HBW.out
    obtain ⟨T1, g1, f1, rfl, h3⟩ := h
    have HR : Hid (ReadYes T w _ w1) := h2
    clear h2 h3
    go_wp2
    go_ret
    exact HR.out
  · show Calls _ _ _ _ (ReadYes (firstT 3 z0 zs b sz) w)
    obtain ⟨T, hT⟩ : ∃ T, firstT 3 z0 zs b sz = T := ⟨_, rfl⟩
    rw [hT] at HF3 ⊢
    go_enter Try.func75, Try.ntmps75
    go_upto_region 1 with fail
    rw [HW.out]
    go_wp2_with fail
    refine HF3.out.mono ?_
    rintro e w1 h
    have h2 := h.up HBW.out
    obtain ⟨T1, g1, f1, rfl, h3⟩ := h
    have HR : Hid (ReadYes T w _ w1) := h2
    clear h2 h3
    go_wp2
    go_ret
    exact HR.out
  · show Calls _ _ _ _ (ReadYes (firstT 2 z0 zs b sz) w)
    obtain ⟨T, hT⟩ : ∃ T, firstT 2 z0 zs b sz = T := ⟨_, rfl⟩
    rw [hT] at HF2 ⊢
    go_enter Try.func75, Try.ntmps75
    go_upto_region 1 with fail
    rw [HW.out]
    go_wp2_with fail
    refine HF2.out.mono ?_
    rintro e w1 h
    have h2 := h.up HBW.out
    obtain ⟨T1, g1, f1, rfl, h3⟩ := h
    have HR : Hid (ReadYes T w _ w1) := h2
    clear h2 h3
    go_wp2
    go_ret
    exact HR.out
  · show Calls _ _ _ _ (ReadYes (tileT b (gridF (z0 :: zs).length).1 (gridF (z0 :: zs).length).2 (z0 :: zs)) w)
    obtain ⟨T, hT⟩ : ∃ T, tileT b (gridF (z0 :: zs).length).1 (gridF (z0 :: zs).length).2 (z0 :: zs) = T := ⟨_, rfl⟩
    rw [hT] at HTi ⊢
    go_enter Try.func75, Try.ntmps75
    go_upto_region 1 with fail
    rw [HW.out]
    go_wp2_with fail
    refine HTi.out.mono ?_
    rintro e w1 h
    have h2 := h.up HBW.out
    obtain ⟨T1, g1, f1, rfl, h3⟩ := h
    have HR : Hid (ReadYes T w _ w1) := h2
    clear h2 h3
    go_wp2
    go_ret
    exact HR.out

end Go.Proofs.Ytnepemlagnnngaa

namespace Go.Proofs.Ytnepemlagnnngaa
open Go.RowKit
set_option linter.unusedVariables false
set_option maxRecDepth 100000

theorem IOwns.ids {w : World} {B : Nat} {v : Value} {zs : List Int} (h : IOwns w B v zs) (hne : zs ≠ []) : IdsIn w v zs := by
  rcases h.2 with ⟨_, h0⟩ | ⟨g, cap, cur, e, hb, hg, h1, h2, h3, h4⟩
  · exact absurd (List.length_eq_zero_iff.1 h0) hne
  · refine ⟨g, 0, cap, e, h1, fun i z hz => ?_⟩
    rw [Nat.zero_add, cell_atL hg i]
    have h5 : (zs.map (Value.int .i64))[i]? = some (.int .i64 z) := by rw [List.getElem?_map, hz]; rfl
    rw [← h4, List.getElem?_take] at h5
    split at h5
    · simpa using h5
    · cases h5
/-- What Arrange starts from. -/
structure ArrOf (l : List CellV) (t : Tree) (b : Box) : Prop where
  lay : IsLay l t
  head : ∃ c r, l = c :: r ∧ c.w = b.w ∧ c.h = b.h
  box : b = ⟨0, 0, t.box.w, t.box.h⟩
  sides : (1 ≤ b.w ∧ b.w ≤ 1000) ∧ (1 ≤ b.h ∧ b.h ≤ 1000)
  ids : ∀ z ∈ idsOf l, idB z = true
  few : (idsOf l).length ≤ 32
  some : 1 ≤ (idsOf l).length
theorem arr_of {l : List CellV} {t : Tree} (h : readF l = some t) : ArrOf l t ⟨0, 0, t.box.w, t.box.h⟩ := by
  have hl := readF_lay h
  have hs := t.sound_sides hl.sound
  refine ⟨hl, ?_, rfl, hs, fun z hz => ?_, (few_len hl.few).1, ?_⟩
  · have ht := hl.tell
    cases t with
    | leaf b p => exact ⟨_, _, ht.symm, rfl, rfl⟩
    | split b k ts => exact ⟨_, _, ht.symm, rfl, rfl⟩
  · have h2 := ids_told t 0 hl.kinds
    rw [hl.tell] at h2
    rw [← h2] at hz
    exact sound_ids t hl.kinds hl.sound z hz
  · have h1 := size_ids t hl.kinds hl.sound
    rw [ids_told t 0 hl.kinds, hl.tell] at h1
    have : 1 ≤ t.size := by cases t <;> (unfold Tree.size; omega)
    omega
theorem arrP_none (v : Value) (l : List CellV) (how sz : Int) (w : World) (h : CellsIn w v l) (hF : readF l = none) : Calls Try.prog 51 #[v, .int .i64 how, .int .i64 sz] w (Ans2 40 [] w) := by
  have HR : Hid (Calls Try.prog 24 #[v] w fun e w' => e = .returned nilPart ∧ Below w.heap.size w w') := read_no v l w h hF
  unfold nilPart at HR
  clear hF h
  go_enter Try.func51, Try.ntmps51
  go_wp2_with fail
  refine HR.out.mono ?_
  rintro e w1 ⟨rfl, hb⟩
  have HB : Hid (Below w.heap.size w w1) := hb
  clear hb
  go_wp2
  refine bodyPost_ret (v := .tuple #[.slice none 0 0, .int .i64 40]) (by simp [results, Try.results51, go_sem]) rfl ?_
  exact ⟨_, rfl, World.ownsRow_nil _ _ _ _, HB.out⟩
theorem arrP_arg (v : Value) (l : List CellV) (how sz : Int) (w : World) (h : CellsIn w v l) {t : Tree} (hF : readF l = some t) (hh : ¬ (1 ≤ how ∧ how ≤ 5)) : Calls Try.prog 51 #[v, .int .i64 how, .int .i64 sz] w (Ans2 1 [] w) := by
  have HR : Hid (Calls Try.prog 24 #[v] w (ReadYes t w)) := read_yes v l w h hF
  clear hF h
  by_cases h1 : how < 1
  · have d1 : decide (how < (1 : Int)) = true := decide_eq_true h1
    go_enter Try.func51, Try.ntmps51
    go_wp2_with fail
    refine HR.out.mono ?_
    rintro e w1 ⟨T, g, fp, rfl, _, _, _, hb⟩
    have HB : Hid (Below w.heap.size w w1) := hb
    clear hb
    go_wp2
    refine bodyPost_ret (v := .tuple #[.slice none 0 0, .int .i64 1]) (by simp [results, Try.results51, go_sem]) rfl ?_
    exact ⟨_, rfl, World.ownsRow_nil _ _ _ _, HB.out⟩
  · have d1 : decide (how < (1 : Int)) = false := decide_eq_false h1
    have d2 : decide ((5 : Int) < how) = true := decide_eq_true (by omega)
    go_enter Try.func51, Try.ntmps51
    go_wp2_with fail
    refine HR.out.mono ?_
    rintro e w1 ⟨T, g, fp, rfl, _, _, _, hb⟩
    have HB : Hid (Below w.heap.size w w1) := hb
    clear hb
    go_wp2
    refine bodyPost_ret (v := .tuple #[.slice none 0 0, .int .i64 1]) (by simp [results, Try.results51, go_sem]) rfl ?_
    exact ⟨_, rfl, World.ownsRow_nil _ _ _ _, HB.out⟩
/-- What is answered of a tree that was made. -/
def ArrAns (T : Tree) (w : World) (e : Ending) (w' : World) : Prop := if T.sound = true then Ans2 0 (laidL T) w e w' else Ans2 44 [] w e w'
/-- What is left to be done with a tree. -/
structure LeftOf (T : Tree) (w w3 : World) (Ty : TypeId) (g : Nat) (Fs : FuncId) : Prop where
  mS : ∀ W, (method 279 Ty (.pointer (some ⟨g, 0, none⟩)) "mullion/layout.sound").run Try.prog W = .ok (Fs, .pointer (some ⟨g, 0, none⟩)) W
  fS : ∀ a W, (callFunc Fs #[a]).run Try.prog W = .ok (.enter Fs #[a]) W
  cS : Calls Try.prog Fs #[.pointer (some ⟨g, 0, none⟩)] w3 fun e w4 => e = .returned (.bool T.sound) ∧ Below w.heap.size w w4 ∧ (T.sound = true → Calls Try.prog 31 #[.iface Ty (.pointer (some ⟨g, 0, none⟩))] w4 fun e w5 => ∃ u, e = .returned u ∧ CeOwns w5 w.heap.size u (laidL T) ∧ Below w.heap.size w w5)
theorem left_of {T : Tree} {w w3 : World} {Ty : TypeId} {g : Nat} {fp : List Nat} (hA : T.At w3 0 (.iface Ty (.pointer (some ⟨g, 0, none⟩))) fp) (hnd : fp.Nodup) (hge : ∀ q ∈ fp, w.heap.size ≤ q) (hb : Below w.heap.size w w3) (hk : T.kinds) (hz : T.size ≤ 200) : ∃ Fs, LeftOf T w w3 Ty g Fs := by
  obtain ⟨T', gi, Fs, Fa, hp⟩ := hA.partS (kinds_fine T hk hz)
  have e := hp.val
  cases e
  refine ⟨Fs, hp.mS, hp.fS, (hp.cS w3 (Below.refl _ _)).mono fun e w4 h => ⟨h.1, below_step hb h.2, fun hs => ?_⟩⟩
  exact lay_end (below_step hb h.2) (But.refl _ _) hge hnd (hA.below h.2) hs hk hz

set_option maxHeartbeats 4000000 in
theorem arrP_one (v : Value) (l : List CellV) (how sz : Int) (w : World) (h : CellsIn w v l) {t : Tree} (hF : readF l = some t) (hh : 1 ≤ how ∧ how ≤ 5) (h1 : (idsOf l).length = 1) : Calls Try.prog 51 #[v, .int .i64 how, .int .i64 sz] w (ArrAns t w) := by
  have hO := arr_of hF
  have HR : Hid (Calls Try.prog 24 #[v] w (ReadYes t w)) := read_yes v l w h hF
  have HI : Hid (∀ X, Below w.heap.size w X → Calls Try.prog 52 #[v] X fun e w' => ∃ u, e = .returned u ∧ IOwns w' X.heap.size u (idsOf l) ∧ Below X.heap.size X w') := fun X hX => paneIds_any v l X (h.below hX) (by have := hO.lay.size; omega)
  have HK : Hid (t.kinds ∧ t.size ≤ 200 ∧ t.sound = true) := ⟨hO.lay.kinds, by have := lay_size hO.lay; omega, hO.lay.sound⟩
  have H1 : Hid ((idsOf l).length = 1) := h1
  have d1 : decide (how < (1 : Int)) = false := decide_eq_false (by omega)
  have d2 : decide ((5 : Int) < how) = false := decide_eq_false (by omega)
  have hAns : ArrAns t w = Ans2 0 (laidL t) w := by funext e w'; unfold ArrAns; rw [if_pos HK.out.2.2]
  rw [hAns]
  clear hF h hO h1 hh hAns
  go_enter Try.func51, Try.ntmps51
  go_wp2_with fail
  refine HR.out.mono ?_
  rintro e w1 ⟨T, g, fp, rfl, hA, hnd, hge, hb⟩
  have HA : Hid (t.At w1 0 (.iface T (.pointer (some ⟨g, 0, none⟩))) fp ∧ fp.Nodup ∧ (∀ q ∈ fp, w.heap.size ≤ q) ∧ Below w.heap.size w w1) := ⟨hA, hnd, hge, hb⟩
  clear hA hnd hge hb
  go_wp2_with fail
  refine (HI.out _ HA.out.2.2.2).mono ?_
  rintro e w2 ⟨u, rfl, hu, hb2⟩
  obtain ⟨ua, uc, rfl⟩ : ∃ a c, u = .slice a 1 c := by
    have h2 : w2.ownsRow w1.heap.size 3 1 u (idsOf l).length ((idsOf l).map (Value.int .i64)) := hu
    rw [H1.out] at h2
    rcases h2.2 with ⟨_, h0⟩ | ⟨g', cap, cur, e, _⟩
    · cases h0
    · exact ⟨_, _, e⟩
  have HLe := left_of (HA.out.1.below hb2) HA.out.2.1 HA.out.2.2.1 (below_step HA.out.2.2.2 hb2) HK.out.1 HK.out.2.1
  obtain ⟨Fs, hle⟩ := HLe
  have HL : Hid (LeftOf t w w2 T g Fs) := hle
  have m1 := hle.mS
  have m2 := hle.fS
  clear hu hb2 hle
  go_wp2_with fail
  refine HL.out.cS.mono ?_
  rintro e w4 ⟨rfl, hb4, hc4⟩
  have HC4 : Hid (Calls Try.prog 31 #[.iface T (.pointer (some ⟨g, 0, none⟩))] w4 fun e w5 => ∃ u, e = .returned u ∧ CeOwns w5 w.heap.size u (laidL t) ∧ Below w.heap.size w w5) := hc4 HK.out.2.2
  rw [HK.out.2.2]
  clear hb4 hc4 m1 m2 HL
  go_wp2_with fail
  refine HC4.out.mono ?_
  rintro e w5 ⟨q, rfl, hq, hb5⟩
  have H5 : Hid (CeOwns w5 w.heap.size q (laidL t) ∧ Below w.heap.size w w5) := ⟨hq, hb5⟩
  clear hq hb5
  go_wp2
  refine bodyPost_ret (v := .tuple #[q, .int .i64 0]) (by simp [results, Try.results51, go_sem]) rfl ?_
  exact ⟨_, rfl, H5.out.1, H5.out.2⟩

set_option maxHeartbeats 4000000 in
theorem arrP_many (v : Value) (l : List CellV) (how sz : Int) (w : World) (h : CellsIn w v l) {t : Tree} (hF : readF l = some t) (hh : 1 ≤ how ∧ how ≤ 5) (hsz : -9223372036854775808 ≤ sz ∧ sz ≤ 9223372036854775807) (z0 : Int) (zs : List Int) (hids : idsOf l = z0 :: zs) (h1 : 1 ≤ zs.length) : Calls Try.prog 51 #[v, .int .i64 how, .int .i64 sz] w (ArrAns (arrT how z0 zs ⟨0, 0, t.box.w, t.box.h⟩ sz) w) := by
  have hO := arr_of hF
  have HR : Hid (Calls Try.prog 24 #[v] w (ReadYes t w)) := read_yes v l w h hF
  have HI : Hid (∀ X, Below w.heap.size w X → Calls Try.prog 52 #[v] X fun e w' => ∃ u, e = .returned u ∧ IOwns w' X.heap.size u (idsOf l) ∧ Below X.heap.size X w') := fun X hX => paneIds_any v l X (h.below hX) (by have := hO.lay.size; omega)
  have hfew := hO.few
  rw [hids, List.length_cons] at hfew
  obtain ⟨b, hb⟩ : ∃ b : Box, b = ⟨0, 0, t.box.w, t.box.h⟩ := ⟨_, rfl⟩
  rw [← hb] at hO ⊢
  have hx : b.x = 0 := by rw [hb]
  have hy : b.y = 0 := by rw [hb]
  obtain ⟨c, r, rfl, hcw, hch⟩ := hO.head
  obtain ⟨gb, off, cap, rfl, hcap, hseen⟩ := h.seen (by simp)
  have HSe : Hid (∀ X, Below w.heap.size w X → X.cell? ⟨gb, off + 4, none⟩ = some (.int .i64 b.w) ∧ X.cell? ⟨gb, off + 5, none⟩ = some (.int .i64 b.h)) := fun X hX => by
    have hd := (hseen.below hX).at0
    exact ⟨by rw [← hcw]; exact hd.q4, by rw [← hch]; exact hd.q5⟩
  obtain ⟨n, hn⟩ : ∃ n, (c :: r).length = n := ⟨_, rfl⟩
  rw [hn] at HR HI hcap ⊢
  have hn1 : 1 ≤ n := by rw [← hn]; simp
  have hn0 : 0 < n := by omega
  have HArr : Hid (∀ u X, IdsIn X u (z0 :: zs) → Calls Try.prog 75 #[.int .i64 how, u, .agg #[.int .i64 0, .int .i64 0, .int .i64 b.w, .int .i64 b.h], .int .i64 sz] X (ReadYes (arrT how z0 zs b sz) X)) := fun u X hX => by
    have := arranged_any how hh z0 zs b sz u X hX h1 (by omega) hO.sides.1 hO.sides.2 hsz
    unfold boxV at this
    rw [hx, hy] at this
    exact this
  have HK : Hid ((arrT how z0 zs b sz).kinds ∧ (arrT how z0 zs b sz).size ≤ 200) := ⟨arr_kinds _ _ _ _ _, by have := arr_size how z0 zs b sz h1 (by omega); omega⟩
  have HId : Hid (idsOf (c :: r) = z0 :: zs) := hids
  obtain ⟨m, hm⟩ : ∃ m, zs.length = m := ⟨_, rfl⟩
  have HM : Hid (zs.length = m) := hm
  rw [hm] at h1 hfew
  have d1 : decide (how < (1 : Int)) = false := decide_eq_false (by omega)
  have d2 : decide ((5 : Int) < how) = false := decide_eq_false (by omega)
  obtain ⟨AT, hAT⟩ : ∃ T, arrT how z0 zs b sz = T := ⟨_, rfl⟩
  rw [hAT] at HArr HK ⊢
  clear hF h hO hids hh hb hx hy hcw hch hseen hn hm hAT
  go_enter Try.func51, Try.ntmps51
  go_wp2_with fail
  refine HR.out.mono ?_
  rintro e w1 ⟨T, g, fp, rfl, hA, hnd, hge, hb⟩
  have HB1 : Hid (Below w.heap.size w w1) := hb
  clear hA hnd hge hb
  go_wp2_with fail
  refine (HI.out _ HB1.out).mono ?_
  rintro e w2 ⟨u, rfl, hu, hb2⟩
  rw [HId.out] at hu
  have HU : Hid (IdsIn w2 u (z0 :: zs)) := hu.ids (by simp)
  obtain ⟨gu, ou, cu, hue, _⟩ := HU.out
  rw [List.length_cons, HM.out] at hue
  subst hue
  have HB2 : Hid (Below w.heap.size w w2) := below_step HB1.out hb2
  obtain ⟨q4, q5⟩ := HSe.out w2 HB2.out
  have h2m : (1 : Int) < (m : Int) + 1 := by omega
  clear hu hb2
  go_wp2_with fail
  go_region_law (first
    | (go_simp; go_at_call 75; refine (HArr.out _ _ (by obtain ⟨a1, a2, a3, a4, a5, a6⟩ := HU.out; exact ⟨a1, a2, a3, a4, a5, a6⟩)).mono ?_; rintro e w3 ⟨T3, g3, f3, rfl, hA3, hnd3, hge3, hb3⟩; have hL3 := left_of (w := w) hA3 hnd3 (fun q hq => Nat.le_trans HB2.out.size (hge3 q hq)) (below_step HB2.out ⟨hb3.os, hb3.tape, hb3.output, hb3.size, hb3.block⟩) HK.out.1 HK.out.2; obtain ⟨Fs, hle⟩ := hL3; have HL : Hid (LeftOf AT w w3 T3 g3 Fs) := hle; have m1 := hle.mS; have m2 := hle.fS; clear hA3 hnd3 hge3 hb3 hle))
  all_goals (
    go_wp2_with fail
    refine HL.out.cS.mono ?_
    rintro e w4 ⟨rfl, hb4, hc4⟩
    have HB4 : Hid (Below w.heap.size w w4) := hb4
    have HC4 : Hid (AT.sound = true → Calls Try.prog 31 #[.iface T3 (.pointer (some ⟨g3, 0, none⟩))] w4 fun e w5 => ∃ u, e = .returned u ∧ CeOwns w5 w.heap.size u (laidL AT) ∧ Below w.heap.size w w5) := hc4
    obtain ⟨sd, hsd⟩ : ∃ s, AT.sound = s := ⟨_, rfl⟩
    have HSd : Hid (AT.sound = sd) := hsd
    rw [hsd] at HC4 ⊢
    clear hb4 hc4 m1 m2 HL hsd
    cases sd
    · go_wp2
      refine bodyPost_ret (v := .tuple #[.slice none 0 0, .int .i64 44]) (by simp [results, Try.results51, go_sem]) rfl ?_
      unfold ArrAns
      rw [if_neg (by rw [HSd.out]; decide)]
      exact ⟨_, rfl, World.ownsRow_nil _ _ _ _, HB4.out⟩
    · have HC5 : Hid (Calls Try.prog 31 #[.iface T3 (.pointer (some ⟨g3, 0, none⟩))] w4 fun e w5 => ∃ u, e = .returned u ∧ CeOwns w5 w.heap.size u (laidL AT) ∧ Below w.heap.size w w5) := HC4.out rfl
      clear HC4
      go_wp2_with fail
      refine HC5.out.mono ?_
      rintro e w5 ⟨q, rfl, hq, hb5⟩
      have H5 : Hid (CeOwns w5 w.heap.size q (laidL AT) ∧ Below w.heap.size w w5) := ⟨hq, hb5⟩
      clear hq hb5
      go_wp2
      refine bodyPost_ret (v := .tuple #[q, .int .i64 0]) (by simp [results, Try.results51, go_sem]) rfl ?_
      unfold ArrAns
      rw [if_pos HSd.out]
      exact ⟨_, rfl, H5.out.1, H5.out.2⟩)

end Go.Proofs.Ytnepemlagnnngaa
