/-
  Layouts: the law's own tiled.
-/
import Derived.Test.YtnepemlagnnngaaCTb
namespace Go.Proofs.Ytnepemlagnnngaa
open Go.RowKit
set_option linter.unusedVariables false
set_option maxRecDepth 100000

theorem contr_bound {l : List CellV} {W H : Int} (hT : Tiled l W H) (i : Nat) (c : CellV) (hi : l[i]? = some c) : (-1000000 ≤ contr c (l.drop (i + 1)) ∧ contr c (l.drop (i + 1)) ≤ 1000000) ∧ fillL (l.drop i) = contr c (l.drop (i + 1)) + fillL (l.drop (i + 1)) := by
  obtain ⟨_, _, hw⟩ := hT.cell c (List.mem_of_getElem? hi)
  have hsd := hT.side
  unfold Within at hw
  have hk := kidsF_le c.depth (l.drop (i + 1))
  have hl := hT.len
  rw [List.length_drop] at hk
  have hlt := (List.getElem?_eq_some_iff.1 hi).1
  constructor
  · have hmul : ∀ a b : Int, -1 ≤ a → a ≤ 1000 → 1 ≤ b → b ≤ 1000 → -1000000 ≤ a * b ∧ a * b ≤ 1000000 := fun a b h1 h2 h3 h4 => by
      constructor
      · have : (-1) * b ≤ a * b := Int.mul_le_mul_of_nonneg_right h1 (by omega)
        omega
      · have h5 : a * b ≤ 1000 * b := Int.mul_le_mul_of_nonneg_right h2 (by omega)
        omega
    unfold contr
    split
    · exact hmul _ _ (by omega) (by omega) (by omega) (by omega)
    · split
      · exact hmul _ _ (by omega) (by omega) (by omega) (by omega)
      · exact hmul _ _ (by omega) (by omega) (by omega) (by omega)
  · rw [List.drop_eq_getElem_cons hlt, (List.getElem?_eq_some_iff.1 hi).2]
    rfl
theorem pair_at {l : List CellV} {R : CellV → CellV → Prop} (h : l.Pairwise R) (k i : Nat) (a c : CellV) (hk : l[k]? = some a) (hi : l[i]? = some c) (hlt : k < i) : R a c := by
  obtain ⟨h1, e1⟩ := List.getElem?_eq_some_iff.1 hk
  obtain ⟨h2, e2⟩ := List.getElem?_eq_some_iff.1 hi
  have := List.pairwise_iff_getElem.1 h k i h1 h2 hlt
  rw [e1, e2] at this
  exact this

set_option maxHeartbeats 4000000 in
theorem tiled_seen (b off cap n : Nat) (l : List CellV) (W H : Int) (w : World) (h : SeenIn w b off l) (hn : l.length = n) (hT : Tiled l W H) : Calls Try.prog 15 #[.slice (some ⟨b, off, none⟩) n cap, .int .i64 W, .int .i64 H] w fun e w' => e = .returned (.bool true) ∧ Below w.heap.size w w' := by
  have H1 := hiddenK h
  have HN := hiddenK hn
  have HT := hiddenK hT
  have hlen := hT.len
  rw [hn] at hlen
  have hside := hT.side
  obtain ⟨c0, r0, hl0, e1, e2, e3, e4⟩ := hT.head
  obtain ⟨z0, z1, z2, z3, z4, z5, z6⟩ := h 0 c0 (by rw [hl0]; rfl)
  rw [Nat.zero_mul, Nat.add_zero, e3] at z2
  rw [Nat.zero_mul, Nat.add_zero, e4] at z3
  rw [Nat.zero_mul, Nat.add_zero, e1] at z4
  rw [Nat.zero_mul, Nat.add_zero, e2] at z5
  have hn0 : ¬ (n : Int) = 0 := by omega
  have hn0' : ((n : Int) == 0) = false := by simpa using hn0
  have hn1 : (0 : Int) < (n : Int) := by omega
  have hn2 : 0 < n := by omega
  have hWH : IntKind.i64.wrap (W * H) = W * H := by
    have h5 : W * H ≤ 1000 * H := Int.mul_le_mul_of_nonneg_right hside.1.2 (by omega)
    have h6 : 0 ≤ W * H := Int.mul_nonneg (by omega) (by omega)
    rw [IntKind.wrap_i64]
    omega
  have hF0 : Hid (fillL l = W * H) := hT.fill
  clear h hn hT hl0 e1 e2 e3 e4 z0 z1 z6
  go_enter Try.func15, Try.ntmps15
  go_wp2_with fail
  go_loopw [7, 8] (fun vf vi wr => ∃ i : Nat, i ≤ n ∧ vi = .int .i64 i ∧ ∃ F : Int, vf = .int .i64 F ∧ (-1000000 * (i : Int) ≤ F ∧ F ≤ 1000000 * (i : Int)) ∧ Hid (F + fillL (l.drop i) = W * H) ∧ Hid (Below w.heap.size w wr)) (fun _ vi _ => n - (intOf vi).toNat)
  case atStart => exact ⟨0, Nat.zero_le _, rfl, 0, rfl, ⟨by omega, by omega⟩, by show (0 : Int) + _ = _; rw [List.drop_zero, Int.zero_add]; exact hF0.out, Below.refl _ _⟩
  case round =>
    obtain ⟨i, hi, rfl, F, rfl, hFb, HFi, HB⟩ := hrel
    clear z2 z3 z4 z5
    by_cases hlt : i < n
    · obtain ⟨c, hc⟩ : ∃ c, l[i]? = some c := ⟨_, List.getElem?_eq_getElem (by rw [HN.out]; exact hlt)⟩
      obtain ⟨q0, q1, q2, q3, q4, q5, q6⟩ := (H1.out.below HB.out) i c hc
      obtain ⟨hck, hcd, hcw⟩ := HT.out.cell c (List.mem_of_getElem? hc)
      obtain ⟨hcb, hce⟩ := contr_bound HT.out i c hc
      have HCe := hiddenK hce
      have HC := hiddenK hc
      unfold Within at hcw
      obtain ⟨cd, ck, cx, cy, cw, ch, cp⟩ := c
      dsimp only at q0 q1 q2 q3 q4 q5 q6 hck hcd hcw
      obtain ⟨X, hX⟩ : ∃ X, wr.alloc (.cells #[.int .i64 cd, .int .i64 ck, .int .i64 cx, .int .i64 cy, .int .i64 cw, .int .i64 ch, .int .i64 cp] 50) = X := ⟨_, rfl⟩
      have HX := hiddenK hX
      have hbX : Below wr.heap.size wr X := by rw [← hX]; exact (Below.refl _ _).alloc (Nat.le_refl _) _
      have hMX : X.heap[wr.heap.size]? = some (.cells #[.int .i64 cd, .int .i64 ck, .int .i64 cx, .int .i64 cy, .int .i64 cw, .int .i64 ch, .int .i64 cp] 50 (0, 0)) := by rw [← hX]; exact heap_alloc_new _ _
      have HC7 : Hid (∀ Y, Below X.heap.size X Y → Y.cell? ⟨wr.heap.size, 0, none⟩ = some (.int .i64 cd) ∧ Y.cell? ⟨wr.heap.size, 1, none⟩ = some (.int .i64 ck) ∧ Y.cell? ⟨wr.heap.size, 2, none⟩ = some (.int .i64 cx) ∧ Y.cell? ⟨wr.heap.size, 3, none⟩ = some (.int .i64 cy) ∧ Y.cell? ⟨wr.heap.size, 4, none⟩ = some (.int .i64 cw) ∧ Y.cell? ⟨wr.heap.size, 5, none⟩ = some (.int .i64 ch) ∧ Y.cell? ⟨wr.heap.size, 6, none⟩ = some (.int .i64 cp)) := fun Y hY => by
        have h := (hY.block _ (lt_of_block hMX)).trans hMX
        exact ⟨cell_atL h 0, cell_atL h 1, cell_atL h 2, cell_atL h 3, cell_atL h 4, cell_atL h 5, cell_atL h 6⟩
      have HBX : Hid (Below w.heap.size w X) := below_step HB.out hbX
      have w1 : IntKind.i64.wrap (cx + cw) = cx + cw := by rw [IntKind.wrap_i64]; omega
      have w2 : IntKind.i64.wrap (cy + ch) = cy + ch := by rw [IntKind.wrap_i64]; omega
      have g1 : ¬ cw < 1 := by omega
      have g2 : ¬ ch < 1 := by omega
      have g3 : ¬ cx < 0 := by omega
      have g4 : ¬ cy < 0 := by omega
      have g5 : ¬ W < cx + cw := by omega
      have g6 : ¬ H < cy + ch := by omega
      clear hc hce hX hbX hMX
      rcases hck with ⟨rfl, hp1⟩ | rfl | rfl
      · -- a pane
        have hcon : contr ⟨cd, 1, cx, cy, cw, ch, cp⟩ (l.drop (i + 1)) = cw * ch := by
          unfold contr
          rw [if_neg (show ¬ (1 : Int) = 2 by decide), if_neg (show ¬ (1 : Int) = 3 by decide)]
        rw [hcon] at hcb HCe
        have u2 : IntKind.i64.wrap (cw * ch) = cw * ch := by rw [IntKind.wrap_i64]; omega
        have u3 : IntKind.i64.wrap (F + cw * ch) = F + cw * ch := by rw [IntKind.wrap_i64]; omega
        have HNx : Hid ((-1000000 * ((i + 1 : Nat) : Int) ≤ F + cw * ch ∧ F + cw * ch ≤ 1000000 * ((i + 1 : Nat) : Int)) ∧ F + cw * ch + fillL (l.drop (i + 1)) = W * H) := by
          have h1 := HFi.out
          rw [HCe.out] at h1
          refine ⟨by omega, by omega⟩
        have hp2 : ¬ cp < 1 := by omega
        have HOv : Hid (∀ (k : Nat) (a : CellV), k < i → l[k]? = some a → a.kind = 1 → a.p ≠ cp ∧ ∀ Y, Calls Try.prog 46 #[.agg #[.int .i64 a.depth, .int .i64 a.kind, .int .i64 a.x, .int .i64 a.y, .int .i64 a.w, .int .i64 a.h, .int .i64 a.p], .agg #[.int .i64 cd, .int .i64 1, .int .i64 cx, .int .i64 cy, .int .i64 cw, .int .i64 ch, .int .i64 cp]] Y fun e Z => e = .returned (.bool false) ∧ Below Y.heap.size Y Z) := fun k a hk ha h1 => by
          refine ⟨pair_at HT.out.unlike k i a _ ha HC.out hk h1 rfl, fun Y => ?_⟩
          have hwa := (HT.out.cell a (List.mem_of_getElem? ha)).2.2
          unfold Within at hwa
          exact over_no a ⟨cd, 1, cx, cy, cw, ch, cp⟩ Y (by unfold Near; omega) (by unfold Near; dsimp only; omega) (pair_at HT.out.apart k i a _ ha HC.out hk h1 rfl)
        clear hcon hcb HCe HFi
        go_wp2_with fail
        rw [HX.out]
        obtain ⟨gc, hgc⟩ : ∃ g, wr.heap.size = g := ⟨_, rfl⟩
        rw [hgc] at HC7 ⊢
        go_loopw [10] (fun vk wy => ∃ k : Nat, k ≤ i ∧ vk = .int .i64 k ∧ Hid (Below X.heap.size X wy)) (fun vk _ => i - (intOf vk).toNat)
        case atStart => exact ⟨0, Nat.zero_le _, rfl, Below.refl _ _⟩
        case round =>
          obtain ⟨k, hk, rfl, HBy⟩ := hrel
          by_cases hki : k < i
          · obtain ⟨a, ha⟩ : ∃ a, l[k]? = some a := ⟨_, List.getElem?_eq_getElem (by rw [HN.out]; omega)⟩
            have HLk : Hid (∀ Y, Below X.heap.size X Y → HeadIn Y b (off + k * 7) a) := fun Y hY => (H1.out.below (below_step HBX.out hY)) k a ha
            have hov := HOv.out k a hki ha
            obtain ⟨p0, p1, p2, p3, p4, p5, p6⟩ := HLk.out _ HBy.out
            obtain ⟨m0, m1, m2, m3, m4, m5, m6⟩ := HC7.out _ HBy.out
            have hkn : k < n := by omega
            have hak3 := (HT.out.cell a (List.mem_of_getElem? ha)).1
            clear ha
            obtain ⟨ad, ak, ax, ay, aw, ah, ap⟩ := a
            dsimp only at p0 p1 p2 p3 p4 p5 p6 hov hak3
            rcases hak3 with ⟨hak, _⟩ | hak | hak
            · obtain ⟨hne, hov⟩ := hov hak
              subst hak
              have HOk := hiddenK hov
              have hne' : (ap == cp) = false := by simpa using hne
              clear hov hne
              go_wp2_with fail
              go_region_held3 (fun Y => Y.cell? ⟨b, off + k * 7, none⟩ = some (.int .i64 ad) ∧ Y.cell? ⟨b, off + k * 7 + 1, none⟩ = some (.int .i64 1) ∧ Y.cell? ⟨b, off + k * 7 + 2, none⟩ = some (.int .i64 ax) ∧ Y.cell? ⟨b, off + k * 7 + 3, none⟩ = some (.int .i64 ay) ∧ Y.cell? ⟨b, off + k * 7 + 4, none⟩ = some (.int .i64 aw) ∧ Y.cell? ⟨b, off + k * 7 + 5, none⟩ = some (.int .i64 ah) ∧ Y.cell? ⟨b, off + k * 7 + 6, none⟩ = some (.int .i64 ap) ∧ Y.cell? ⟨gc, 0, none⟩ = some (.int .i64 cd) ∧ Y.cell? ⟨gc, 1, none⟩ = some (.int .i64 1) ∧ Y.cell? ⟨gc, 2, none⟩ = some (.int .i64 cx) ∧ Y.cell? ⟨gc, 3, none⟩ = some (.int .i64 cy) ∧ Y.cell? ⟨gc, 4, none⟩ = some (.int .i64 cw) ∧ Y.cell? ⟨gc, 5, none⟩ = some (.int .i64 ch) ∧ Y.cell? ⟨gc, 6, none⟩ = some (.int .i64 cp)) (go_keep) (first | (go_at_call 46; refine (HOk.out _).mono ?_; rintro e Z ⟨rfl, hbZ⟩; have HBZ : Hid (Below X.heap.size X Z) := below_step (by first | exact HBy.out | exact HBy.out.drew) hbZ; obtain ⟨s0, s1, s2, s3, s4, s5, s6⟩ := HLk.out Z HBZ.out; obtain ⟨n0, n1, n2, n3, n4, n5, n6⟩ := HC7.out Z HBZ.out; clear hbZ))
              all_goals (
                clear p0 p1 p2 p3 p4 p5 p6 m0 m1 m2 m3 m4 m5 m6 s0 s1 s2 s3 s4 s5 s6 n0 n1 n2 n3 n4 n5 n6
                go_wp2_with fail
                go_roundw
                case rel => exact ⟨k + 1, by omega, by go_num, HBZ⟩
                case measure => simp [intOf]; omega)
            · subst hak
              have hd : ((2 : Int) == 1) = false := by decide
              clear hov
              go_wp2_with fail
              refine wp_region_qw (fun Y => Below X.heap.size X Y) (by kernel_rfl) (by kernel_rfl) HBy.out.drew ?_
              repeat (first
                | (refine qw_take (v := ?_) (by rfl) (fun Y hY => ?_) ?_
                   rotate_left
                   · obtain ⟨x0, x1, x2, x3, x4, x5, x6⟩ := HLk.out Y hY
                     obtain ⟨y0, y1, y2, y3, y4, y5, y6⟩ := HC7.out Y hY
                     go_simp
                     all_goals first
                       | with_reducible rfl
                   intro K hK
                   go_simp
                   try simp only [hd]
                   refine hK.out _ ?_
                   clear hK K)
                | (refine qw_skip (by rfl) ?_
                   intro K hK
                   go_simp
                   refine hK.out _ ?_
                   clear hK K))
              refine qw_nil ?_
              intro w2 hB2
              have HB2 := hiddenK hB2
              clear hB2 p0 p1 p2 p3 p4 p5 p6 m0 m1 m2 m3 m4 m5 m6
              go_wp2_with fail
              go_roundw
              case rel => exact ⟨k + 1, by omega, by go_num, HB2⟩
              case measure => simp [intOf]; omega
            · subst hak
              have hd : ((3 : Int) == 1) = false := by decide
              clear hov
              go_wp2_with fail
              refine wp_region_qw (fun Y => Below X.heap.size X Y) (by kernel_rfl) (by kernel_rfl) HBy.out.drew ?_
              repeat (first
                | (refine qw_take (v := ?_) (by rfl) (fun Y hY => ?_) ?_
                   rotate_left
                   · obtain ⟨x0, x1, x2, x3, x4, x5, x6⟩ := HLk.out Y hY
                     obtain ⟨y0, y1, y2, y3, y4, y5, y6⟩ := HC7.out Y hY
                     go_simp
                     all_goals first
                       | with_reducible rfl
                   intro K hK
                   go_simp
                   try simp only [hd]
                   refine hK.out _ ?_
                   clear hK K)
                | (refine qw_skip (by rfl) ?_
                   intro K hK
                   go_simp
                   refine hK.out _ ?_
                   clear hK K))
              refine qw_nil ?_
              intro w2 hB2
              have HB2 := hiddenK hB2
              clear hB2 p0 p1 p2 p3 p4 p5 p6 m0 m1 m2 m3 m4 m5 m6
              go_wp2_with fail
              go_roundw
              case rel => exact ⟨k + 1, by omega, by go_num, HB2⟩
              case measure => simp [intOf]; omega
          · have hke : k = i := by omega
            subst hke
            obtain ⟨m0, m1, m2, m3, m4, m5, m6⟩ := HC7.out _ HBy.out
            go_wp2_with fail
            go_roundw
            case rel => exact ⟨k + 1, by omega, by go_num, F + cw * ch, rfl, HNx.out.1, HNx.out.2, below_step HBX.out HBy.out⟩
            case measure => simp [intOf]; omega
      · -- a row
        obtain ⟨K, hK⟩ : ∃ K, kidsF cd (l.drop (i + 1)) = K := ⟨_, rfl⟩
        have hcon : contr ⟨cd, 2, cx, cy, cw, ch, cp⟩ (l.drop (i + 1)) = (K - 1) * ch := by
          unfold contr
          rw [if_pos rfl, hK]
        have hKb := kidsF_le cd (l.drop (i + 1))
        rw [hK, List.length_drop, HN.out] at hKb
        rw [hcon] at hcb HCe
        have HKd : Hid (∀ Y, Below X.heap.size X Y → Calls Try.prog 45 #[.slice (some ⟨b, off, none⟩) n cap, .int .i64 i] Y fun e Z => e = .returned (.int .i64 K) ∧ Below Y.heap.size Y Z) := fun Y hY => by
          have := kids_seen b off cap n l i ⟨cd, 2, cx, cy, cw, ch, cp⟩ Y (H1.out.below (below_step HBX.out hY)) HN.out (by omega) HC.out (fun x hx => (HT.out.cell x hx).2.1)
          rw [hK] at this
          exact this
        have u1 : IntKind.i64.wrap (K - 1) = K - 1 := by rw [IntKind.wrap_i64]; omega
        have u2 : IntKind.i64.wrap ((K - 1) * ch) = (K - 1) * ch := by rw [IntKind.wrap_i64]; omega
        have u3 : IntKind.i64.wrap (F + (K - 1) * ch) = F + (K - 1) * ch := by rw [IntKind.wrap_i64]; omega
        have HNx : Hid ((-1000000 * ((i + 1 : Nat) : Int) ≤ F + (K - 1) * ch ∧ F + (K - 1) * ch ≤ 1000000 * ((i + 1 : Nat) : Int)) ∧ F + (K - 1) * ch + fillL (l.drop (i + 1)) = W * H) := by
          have h1 := HFi.out
          rw [HCe.out] at h1
          refine ⟨by omega, by omega⟩
        clear hK hcon hKb hcb HCe HFi
        go_wp2_with fail
        rw [HX.out]
        obtain ⟨m0, m1, m2, m3, m4, m5, m6⟩ := HC7.out X (Below.refl _ _)
        go_region_with (go_at_call 45; refine (HKd.out _ (by first | exact Below.refl _ _ | exact (Below.refl _ _).drew)).mono ?_; rintro e Z ⟨rfl, hbZ⟩; have HBZ : Hid (Below X.heap.size X Z) := ⟨hbZ.os, hbZ.tape, hbZ.output, hbZ.size, hbZ.block⟩; obtain ⟨n0, n1, n2, n3, n4, n5, n6⟩ := HC7.out Z HBZ.out; clear hbZ)
        all_goals (
          clear m0 m1 m2 m3 m4 m5 m6 n0 n1 n2 n3 n4 n5 n6
          go_wp2_with fail
          go_roundw
          case rel => exact ⟨i + 1, by omega, by go_num, F + (K - 1) * ch, rfl, HNx.out.1, HNx.out.2, below_step HBX.out HBZ.out⟩
          case measure => simp [intOf]; omega)
      · -- a column
        obtain ⟨K, hK⟩ : ∃ K, kidsF cd (l.drop (i + 1)) = K := ⟨_, rfl⟩
        have hcon : contr ⟨cd, 3, cx, cy, cw, ch, cp⟩ (l.drop (i + 1)) = (K - 1) * cw := by
          unfold contr
          rw [if_neg (show ¬ (3 : Int) = 2 by decide), if_pos rfl, hK]
        have hKb := kidsF_le cd (l.drop (i + 1))
        rw [hK, List.length_drop, HN.out] at hKb
        rw [hcon] at hcb HCe
        have HKd : Hid (∀ Y, Below X.heap.size X Y → Calls Try.prog 45 #[.slice (some ⟨b, off, none⟩) n cap, .int .i64 i] Y fun e Z => e = .returned (.int .i64 K) ∧ Below Y.heap.size Y Z) := fun Y hY => by
          have := kids_seen b off cap n l i ⟨cd, 3, cx, cy, cw, ch, cp⟩ Y (H1.out.below (below_step HBX.out hY)) HN.out (by omega) HC.out (fun x hx => (HT.out.cell x hx).2.1)
          rw [hK] at this
          exact this
        have u1 : IntKind.i64.wrap (K - 1) = K - 1 := by rw [IntKind.wrap_i64]; omega
        have u2 : IntKind.i64.wrap ((K - 1) * cw) = (K - 1) * cw := by rw [IntKind.wrap_i64]; omega
        have u3 : IntKind.i64.wrap (F + (K - 1) * cw) = F + (K - 1) * cw := by rw [IntKind.wrap_i64]; omega
        have HNx : Hid ((-1000000 * ((i + 1 : Nat) : Int) ≤ F + (K - 1) * cw ∧ F + (K - 1) * cw ≤ 1000000 * ((i + 1 : Nat) : Int)) ∧ F + (K - 1) * cw + fillL (l.drop (i + 1)) = W * H) := by
          have h1 := HFi.out
          rw [HCe.out] at h1
          refine ⟨by omega, by omega⟩
        clear hK hcon hKb hcb HCe HFi
        go_wp2_with fail
        rw [HX.out]
        obtain ⟨m0, m1, m2, m3, m4, m5, m6⟩ := HC7.out X (Below.refl _ _)
        go_region_with (go_at_call 45; refine (HKd.out _ (by first | exact Below.refl _ _ | exact (Below.refl _ _).drew)).mono ?_; rintro e Z ⟨rfl, hbZ⟩; have HBZ : Hid (Below X.heap.size X Z) := ⟨hbZ.os, hbZ.tape, hbZ.output, hbZ.size, hbZ.block⟩; obtain ⟨n0, n1, n2, n3, n4, n5, n6⟩ := HC7.out Z HBZ.out; clear hbZ)
        all_goals (
          clear m0 m1 m2 m3 m4 m5 m6 n0 n1 n2 n3 n4 n5 n6
          go_wp2_with fail
          go_roundw
          case rel => exact ⟨i + 1, by omega, by go_num, F + (K - 1) * cw, rfl, HNx.out.1, HNx.out.2, below_step HBX.out HBZ.out⟩
          case measure => simp [intOf]; omega)
    · have hin : i = n := by omega
      subst hin
      have HFe : Hid (F = W * H) := by
        have := HFi.out
        rw [List.drop_eq_nil_of_le (by rw [HN.out]; exact Nat.le_refl _)] at this
        change F + 0 = W * H at this
        show _ = _
        omega
      have HFe' : (F == W * H) = true := by simpa using HFe.out
      clear HFi
      go_wp2
      go_ret
      exact ⟨rfl, HB.out⟩

end Go.Proofs.Ytnepemlagnnngaa
