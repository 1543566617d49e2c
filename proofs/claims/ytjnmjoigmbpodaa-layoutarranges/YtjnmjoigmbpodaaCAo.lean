/-
  Layouts: rows of panes in the document, walked.
  Layouts: Arrange in the document.
-/
import Derived.Test.YtjnmjoigmbpodaaCAm
import Derived.Deep.DeepCutAuto
namespace Go.Proofs.Ytjnmjoigmbpodaa
open Go.RowKit
set_option linter.unusedVariables false
set_option maxRecDepth 100000

/-- The list of parts while it is made. -/
structure PartsTo (w : World) (i : Nat) (v : Value) (wr : World) : Prop where
  res : wr.heap[w.heap.size]? = some (.cells zeroN 67 (0, 0))
  row : IOwns wr (w.heap.size + 1) v (partsL i)
  below : Below w.heap.size w wr
theorem PartsTo.lt {w : World} {i : Nat} {v : Value} {wr : World} (h : PartsTo w i v wr) : w.heap.size + 1 ≤ wr.heap.size := lt_of_block h.res
theorem PartsTo.next {w : World} {i : Nat} {v v' : Value} {wr w' : World} (h : PartsTo w i v wr) (h1 : IOwns w' (w.heap.size + 1) v' (partsL i ++ [(i : Int)])) (h2 : (wr.alloc (.cells #[.int .i64 (i : Int)] 3)).grownBy w' v.ownBlock) : PartsTo w (i + 1) v' w' := by
  have hl := h.lt
  have hsz : (wr.alloc (.cells #[.int .i64 (i : Int)] 3)).heap.size = wr.heap.size + 1 := by simp
  have hne : ∀ q, v.ownBlock = some q → w.heap.size + 1 ≤ q := fun q hq => (World.ownsRow.lt h.row q hq).1
  have h0 : Below w.heap.size w (wr.alloc (.cells #[.int .i64 (i : Int)] 3)) := alloc_below h.below _
  refine ⟨?_, by rw [partsL_snoc]; exact h1, ?_⟩
  · rw [h2.block w.heap.size (by omega) (fun e => by have := hne _ e.symm; omega), ((Below.refl wr.heap.size wr).alloc (Nat.le_refl _) _).block _ (by omega)]
    exact h.res
  · refine ⟨h2.os.trans h0.os, h2.tape.trans h0.tape, h2.output.trans h0.output, Nat.le_trans h0.size h2.size, fun q hq => (h2.block q (by omega) fun e => ?_).trans (h0.block q hq)⟩
    have := hne _ e.symm
    omega
/-- The children that shared has made, as a row that can be put into. -/
theorem kids_of {b : Box} {k : Int} {us : List Tree} {X : World} {sa : Option Addr} {sn sc : Nat} {fp : List Nat} (hne : us ≠ []) (h : (nodeOf (.split b k us)).In X (.slice sa sn sc) fp) (hf : fp = (Value.slice sa sn sc).ownBlock.toList) : ∃ g, sa = some ⟨g, 0, none⟩ ∧ sn = us.length ∧ KidsAt g us.length sc [] us X ∧ fp = [g] := by
  obtain ⟨cs, fs, h1, h2, h3⟩ : ∃ cs fs, X.ownsRow 0 67 5 (.slice sa sn sc) (nodesOf us).length cs ∧ nodesIn X (nodesOf us) cs fs ∧ fp = (Value.slice sa sn sc).ownBlock.toList ++ fs := h
  rw [nodesOf_length] at h1
  have hfs : fs = [] := by
    rw [hf] at h3
    exact (List.self_eq_append_right.1 h3)
  subst hfs
  rcases h1.2 with ⟨_, h0⟩ | ⟨g, cap, cur, e, hb, hg, r⟩
  · exact absurd (List.length_eq_zero_iff.1 h0) hne
  · cases e
    exact ⟨g, rfl, rfl, ⟨⟨cs, [], h1, h2, nofun⟩, nofun, rfl⟩, by rw [hf]; rfl⟩

theorem KidsAt.free {g L cap : Nat} {fp : List Nat} {us : List Tree} {wr : World} (h : KidsAt g L cap fp us wr) (o : Nat) : wr.frozen? ⟨g, o, none⟩ = false := by
  obtain ⟨cs, fs, h1, _⟩ := h.row
  rcases h1.2 with ⟨e, _⟩ | ⟨g', cap', cur, e, hb, hg, r⟩
  · cases e
  · cases e
    exact free_atL hg o
theorem even_split (k : Int) (zs : List Int) (b : Box) (h : 2 ≤ zs.length) : evenT k zs b = .split b k (shareL k b zs.length zs 0) := by
  match zs, h with
  | x :: y :: zs, _ => rfl
theorem DocS.open {ok : Bool} {n : Node} {w : World} {e : Ending} {w' : World} (h : DocS ok n w e w') : ∃ k4 w4 h4 i4 sa sn sc, e = .returned (.tuple #[.agg #[.int .i64 k4, .int .i64 w4, .int .i64 h4, .int .i64 i4, .slice sa sn sc], .bool ok]) ∧ (ok = true → (k4 = n.k ∧ w4 = n.w ∧ h4 = n.h ∧ i4 = n.i) ∧ ∃ fp, n.In w' (.slice sa sn sc) fp ∧ (∀ q ∈ fp, w.heap.size ≤ q) ∧ fp = (Value.slice sa sn sc).ownBlock.toList) ∧ Below w.heap.size w w' := by
  rcases h.2 with ⟨rfl, sa, sn, sc, fp, e, h1, h2, h3⟩ | ⟨rfl, e⟩
  · exact ⟨n.k, n.w, n.h, n.i, sa, sn, sc, e, fun _ => ⟨⟨rfl, rfl, rfl, rfl⟩, fp, h1, h2, h3⟩, h.1⟩
  · exact ⟨0, 0, 0, 0, none, 0, 0, e, fun h => (by cases h), h.1⟩

set_option maxHeartbeats 8000000 in
theorem tiledR_any (zs : List Int) (wd ht : Int) (v : Value) (w : World) (h1 : 1 ≤ wd ∧ wd ≤ 1000) (h2 : 1 ≤ ht ∧ ht ≤ 1000) (hI : IdsIn w v zs) (hn2 : 2 ≤ zs.length) (hn3 : zs.length ≤ 32) : Calls Try.prog 43 #[v, .int .i64 wd, .int .i64 ht] w (DocA (tileB ⟨0, 0, wd, ht⟩ (gridF zs.length).1 (gridF zs.length).2 zs) (nodeOf (tileT ⟨0, 0, wd, ht⟩ (gridF zs.length).1 (gridF zs.length).2 zs)) w) := by
  obtain ⟨g, o, cap, rfl, hcap, hz⟩ := hI
  obtain ⟨n, hn⟩ : ∃ n, zs.length = n := ⟨_, rfl⟩
  have HN : Hid (zs.length = n) := hn
  rw [hn] at hn2 hn3 hcap ⊢
  obtain ⟨f1, f2, f3, f4, f5, f6⟩ := grid_facts n (by omega) hn2
  obtain ⟨G, hG⟩ : ∃ G, gridF n = G := ⟨_, rfl⟩
  have HG : Hid (gridT 40 n 1 1 = G) := hG
  rw [hG] at f1 f2 f3 f4 f5 f6 ⊢
  obtain ⟨b, hb⟩ : ∃ b : Box, b = ⟨0, 0, wd, ht⟩ := ⟨_, rfl⟩
  rw [← hb]
  have HGf : Hid (2 ≤ G.1 ∧ 0 < G.2 ∧ (G.1 - 1) * G.2 < n ∧ G.1 ≤ 32 ∧ G.2 ≤ 32) := ⟨f1, f2, f3, f5, f6⟩
  have HBx : Hid (b = ⟨0, 0, wd, ht⟩) := hb
  have HZ : Hid (∀ X, Below w.heap.size w X → ∀ (i : Nat) z, zs[i]? = some z → X.cell? ⟨g, o + i, none⟩ = some (.int .i64 z)) := fun X hX i z h => (hX.cell (p := ⟨g, o + i, none⟩) (World.block_lt_of_cell? w _ (hz i z h))).trans (hz i z h)
  obtain ⟨W, hW⟩ : ∃ x, w.alloc (.cells #[.int .i64 0, .int .i64 0, .int .i64 0, .int .i64 0, .slice none 0 0] 67) = x := ⟨_, rfl⟩
  have HW : Hid (w.alloc (.cells #[.int .i64 0, .int .i64 0, .int .i64 0, .int .i64 0, .slice none 0 0] 67) = W) := hW
  have HP0 : Hid (PartsTo w 0 (.slice none 0 0) W) := ⟨by rw [← hW]; exact heap_alloc_new _ _, World.ownsRow_nil _ _ _ _, by rw [← hW]; exact zero_below _ _⟩
  clear hW hz hn hG hb f1 f2 f3 f4 f5 f6
  go_enter Try.func43, Try.ntmps43
  go_upto_region 1 with fail
  rw [HW.out]
  go_wp2
  go_loopw [8, 9] (fun vr vc wr => ∃ r c : Nat, 1 ≤ r ∧ r ≤ 33 ∧ 1 ≤ c ∧ c ≤ r ∧ vr = .int .i64 r ∧ vc = .int .i64 c ∧ Hid (gridT (41 - r) n r c = G) ∧ W = wr) (fun vr _ _ => 40 - (intOf vr).toNat)
  case atStart => exact ⟨1, 1, by omega, by omega, by omega, by omega, rfl, rfl, HG, rfl⟩
  case round =>
    obtain ⟨r, c, hr1, hr2, hc1, hc2, rfl, rfl, HT, rfl⟩ := hrel
    have hm : r * c ≤ 33 * 33 := Nat.mul_le_mul hr2 (Nat.le_trans hc2 hr2)
    have hm2 : (r + 1) * c ≤ 34 * 33 := Nat.mul_le_mul (by omega) (Nat.le_trans hc2 hr2)
    have e1 : ((r : Int) * (c : Int)) = ((r * c : Nat) : Int) := by simp
    have e2 : (((r : Int) + 1) * (c : Int)) = (((r + 1) * c : Nat) : Int) := by simp
    have w1 : IntKind.i64.wrap ((r : Int) * (c : Int)) = ((r * c : Nat) : Int) := by rw [e1, IntKind.wrap_i64]; omega
    have w2 : IntKind.i64.wrap (((r : Int) + 1) * (c : Int)) = (((r + 1) * c : Nat) : Int) := by rw [e2, IntKind.wrap_i64]; omega
    have hrc : r ≤ r * c := Nat.le_mul_of_pos_right r hc1
    by_cases h : r * c < n
    · have HF : Hid (gridT (41 - r) n r c = if (r + 1) * c < n then gridT (41 - (r + 1)) n (r + 1) (c + 1) else gridT (41 - (r + 1)) n (r + 1) c) := by
        show _ = _
        rw [show 41 - r = (41 - (r + 1)) + 1 by omega]
        show (if r * c < n then _ else _) = _
        rw [if_pos h]
      have hd : decide (((r * c : Nat) : Int) < (n : Int)) = true := decide_eq_true (by omega)
      obtain ⟨m, hme⟩ : ∃ m, r * c = m := ⟨_, rfl⟩
      obtain ⟨m2, hm2e⟩ : ∃ m, (r + 1) * c = m := ⟨_, rfl⟩
      rw [hme] at w1 hd hm hrc h
      rw [hm2e] at w2 hm2
      have HM2 : Hid ((r + 1) * c = m2) := hm2e
      clear e1 e2 hme hm2e
      by_cases h2 : m2 < n
      · have hd2 : decide ((m2 : Int) < (n : Int)) = true := decide_eq_true (by omega)
        have HF2 : Hid (gridT (41 - (r + 1)) n (r + 1) (c + 1) = G) := by
          have := HT.out
          rw [HF.out, HM2.out, if_pos h2] at this
          exact this
        go_wp2
        go_roundw
        case rel => exact ⟨r + 1, c + 1, by omega, by omega, by omega, by omega, by go_num, by go_num, HF2, by first | exact trivial | rfl⟩
        case measure => simp [intOf]; omega
      · have hd2 : decide ((m2 : Int) < (n : Int)) = false := decide_eq_false (by omega)
        have HF2 : Hid (gridT (41 - (r + 1)) n (r + 1) c = G) := by
          have := HT.out
          rw [HF.out, HM2.out, if_neg h2] at this
          exact this
        go_wp2
        go_roundw
        case rel => exact ⟨r + 1, c, by omega, by omega, by omega, by omega, by go_num, rfl, HF2, by first | exact trivial | rfl⟩
        case measure => simp [intOf]; omega
    · have hd : decide (((r * c : Nat) : Int) < (n : Int)) = false := decide_eq_false (by omega)
      have HE : G = (r, c) := by
        rw [← HT.out]
        exact gridT_end _ _ _ _ h
      subst HE
      obtain ⟨g1, g2, g3, g4, g5⟩ := HGf.out
      have g1' : 2 ≤ r := g1
      have g4' : r ≤ 32 := g4
      obtain ⟨m, hme⟩ : ∃ m, r * c = m := ⟨_, rfl⟩
      rw [hme] at w1 hd hm hrc h
      clear e1 e2 hme w2 hm2 HT g1 g2 g3 g4 g5
      go_wp2
      go_loopw [10, 11] (fun vp vi wr => ∃ i : Nat, i ≤ r ∧ vi = .int .i64 i ∧ Hid (PartsTo w i vp wr)) (fun _ vi _ => r - (intOf vi).toNat)
      case atStart => exact ⟨0, Nat.zero_le _, rfl, HP0⟩
      case round =>
        obtain ⟨i, hi, rfl, HJ⟩ := hrel
        by_cases hlt : i < r
        · have hlen : (partsL i).length ≤ 16777216 := by rw [partsL_length]; omega
          go_wp2_with (at_builtin; refine wpList_append_int wr rfl (.tmp 38) (.tmp 40) rfl (w.heap.size + 1) _ (partsL i) (i : Int) rfl HJ.out.row (by first | rfl | simp [Act.eval]) hlen HJ.out.lt ?_; intro v2 w2' a1 a2; have HJ2 : Hid (PartsTo w (i + 1) v2 w2') := HJ.out.next a1 a2; clear a1 a2)
          go_roundw
          case rel => exact ⟨i + 1, by omega, by go_num, HJ2⟩
          case measure => simp [intOf]; omega
        · obtain rfl : r = i := by omega
          have hpl : IdsIn wr u10 (partsL r) := HJ.out.row.ids (fun e => by have := congrArg List.length e; rw [partsL_length] at this; simp at this; omega)
          have hsh := shared_anyS 3 (.inr rfl) wd ht (partsL r) u10 wr h1.2 h2.2 hpl (fun e => by have := congrArg List.length e; rw [partsL_length] at this; simp at this; omega) (by rw [partsL_length]; omega)
          rw [even_split 3 _ _ (by rw [partsL_length]; omega), partsL_length, ← HBx.out] at hsh
          obtain ⟨us0, hus0⟩ : ∃ us, shareL 3 b r (partsL r) 0 = us := ⟨_, rfl⟩
          have HUs : Hid (us0.length = r ∧ us0 ≠ [] ∧ ∀ i : Nat, i < r → us0[i]? = some (.leaf (b.with 3 (shareF b.h r i)) i)) := by
            have e1 : us0.length = r := by rw [← hus0, shareL_length, partsL_length]
            refine ⟨e1, fun e => by rw [e] at e1; simp at e1; omega, fun i hi => ?_⟩
            rw [← hus0]
            have := shareL_get 3 b r (partsL r) 0 i i (partsL_get r i hi)
            rw [Int.zero_add] at this
            exact this
          rw [hus0] at hsh
          obtain ⟨ok0, hok0⟩ : ∃ x, fitsB 3 r b = x := ⟨_, rfl⟩
          rw [hok0] at hsh
          have HSh0 : Hid (Calls Try.prog 41 #[u10, .int .i64 3, .int .i64 wd, .int .i64 ht] wr (DocS ok0 (nodeOf (.split b 3 us0)) wr)) := hsh
          have HOk0 : Hid (fitsB 3 r b = ok0) := hok0
          have HWr : Hid (wr.heap[w.heap.size]? = some (.cells zeroN 67 (0, 0)) ∧ Below w.heap.size w wr ∧ w.heap.size + 1 ≤ wr.heap.size) := ⟨HJ.out.res, HJ.out.below, HJ.out.lt⟩
          clear hpl hsh hus0 hok0
          go_wp2_with fail
          refine HSh0.out.mono ?_
          rintro e X3 hD
          obtain ⟨k4, w4, h4, i4, sa, sn, sc, rfl, hD2, hD3⟩ := hD.open
          have HD : Hid (ok0 = true → (k4 = (nodeOf (.split b 3 us0)).k ∧ w4 = (nodeOf (.split b 3 us0)).w ∧ h4 = (nodeOf (.split b 3 us0)).h ∧ i4 = (nodeOf (.split b 3 us0)).i) ∧ ∃ fp, (nodeOf (.split b 3 us0)).In X3 (.slice sa sn sc) fp ∧ (∀ q ∈ fp, wr.heap.size ≤ q) ∧ fp = (Value.slice sa sn sc).ownBlock.toList) := hD2
          have HX3 : Hid (Below wr.heap.size wr X3) := hD3
          clear hD hD2 hD3
          go_upto_region 12 with fail
          obtain ⟨Y3, hY3⟩ : ∃ Y, X3.alloc (.cells #[.int .i64 k4, .int .i64 w4, .int .i64 h4, .int .i64 i4, .slice sa sn sc] 67) = Y := ⟨_, rfl⟩
          have HY3 : Hid (Below X3.heap.size X3 Y3) := by rw [← hY3]; exact zero_below _ _
          have HN3 : Hid (Y3.heap[X3.heap.size]? = some (.cells #[.int .i64 k4, .int .i64 w4, .int .i64 h4, .int .i64 i4, .slice sa sn sc] 67 (0, 0))) := by rw [← hY3]; exact heap_alloc_new _ _
          have HwY3 : Hid (Below w.heap.size w Y3) := below_step HWr.out.2.1 (below_step HX3.out HY3.out)
          have HRz : Hid (Y3.heap[w.heap.size]? = some (.cells zeroN 67 (0, 0))) := ((below_step HX3.out HY3.out).block _ (by have := HWr.out.2.2; omega)).trans HWr.out.1
          rw [hY3]
          clear hY3 HJ
          cases ok0
          · obtain ⟨q0, q1, q2, q3, q4, f0, f1, f2, f3, f4⟩ := resZ_of HRz.out
            have HTb : Hid (tileB b (r, c).1 (r, c).2 zs = false) := by
              show (fitsB 3 r b && rowsB b r c zs r 0) = false
              rw [HOk0.out]
              rfl
            go_wp2
            exact bodyPost_ret (v := .tuple #[.agg #[.int .i64 0, .int .i64 0, .int .i64 0, .int .i64 0, .slice none 0 0], .bool false]) (by simp [results, Try.results43, go_sem, q0, q1, q2, q3, q4]) rfl ⟨set5_below HwY3.out _ (Nat.le_refl _) _ _ _ _ _, .inr ⟨HTb.out, rfl⟩⟩
          · obtain ⟨⟨rfl, rfl, rfl, rfl⟩, fp, hIn, hge, hfp⟩ := HD.out (by first | rfl | trivial)
            obtain ⟨gK, rfl, rfl, hK, hfg⟩ := kids_of HUs.out.2.1 hIn hfp
            have hgK := hge gK (by rw [hfg]; simp)
            obtain ⟨rows, hrows⟩ : ∃ x, tileL b r c zs r 0 = x := ⟨_, rfl⟩
            have HRl : Hid (rows.length = r) := by show _ = _; rw [← hrows, tileL_length]
            have HRo : Hid (∀ i : Nat, i < r → rows[i]? = some (evenT 2 ((zs.drop (i * c)).take c) (b.with 3 (shareF b.h r i)))) := fun i hi => by
              rw [← hrows]
              have := tileL_get b r c r zs 0 i hi
              rw [Int.zero_add] at this
              exact this
            have HTt : Hid (nodeOf (tileT b (r, c).1 (r, c).2 zs) = .mk 3 wd ht 0 (nodesOf rows)) := by
              show nodeOf (.split b 3 (tileL b r c zs r 0)) = _
              rw [hrows, HBx.out]
              rfl
            have hT0 : TileTo w wd ht X3.heap.size gK r sc us0 rows 0 us0 Y3 := by
              have hN := HN3.out
              rw [HUs.out.1] at hN hK
              refine ⟨HRz.out, ?_, hK.below HY3.out, nofun, fun _ _ => rfl, HwY3.out, by have := HWr.out.2.2; omega, hK.lt⟩
              rw [hN, HBx.out]
              rfl
            have HT0 : Hid (TileTo w wd ht X3.heap.size gK r sc us0 rows 0 us0 Y3) := hT0
            obtain ⟨gN, hgN⟩ : ∃ x, X3.heap.size = x := ⟨_, rfl⟩
            rw [hgN] at HT0 ⊢
            clear hIn hge hfp hK hfg hgK hrows hT0 hgN HN3 HD
            go_wp2
            go_loopw [14] (fun vi wx => ∃ i : Nat, i ≤ r ∧ vi = .int .i64 i ∧ ∃ us, Hid (TileTo w wd ht gN gK r sc us0 rows i us wx) ∧ Hid (∀ j : Nat, j < i → fitsB 2 ((zs.drop (j * c)).take c).length (b.with 3 (shareF b.h r j)) = true)) (fun vi _ => r - (intOf vi).toNat)
            case atStart => exact ⟨0, Nat.zero_le _, rfl, us0, HT0, nofun⟩
            case round =>
              obtain ⟨i, hi, rfl, us, HJ, HFt⟩ := hrel
              by_cases hlt : i < r
              · obtain ⟨g1, g2, g3, g4, g5⟩ := HGf.out
                have x1 : i * c < n := by
                  have e1 : i * c ≤ (r - 1) * c := Nat.mul_le_mul_right c (by omega)
                  exact Nat.lt_of_le_of_lt e1 g3
                have e1 : ((i : Int) * (c : Int)) = ((i * c : Nat) : Int) := by simp
                obtain ⟨lo, hlo⟩ : ∃ x, i * c = x := ⟨_, rfl⟩
                rw [hlo] at e1 x1
                have hc32 : c ≤ 32 := g5
                obtain ⟨hi2, hhi2⟩ : ∃ x, lo + c = x := ⟨_, rfl⟩
                have v1 : IntKind.i64.wrap ((i : Int) * (c : Int)) = (lo : Int) := by rw [e1, IntKind.wrap_i64]; omega
                have v2 : IntKind.i64.wrap ((lo : Int) + (c : Int)) = (hi2 : Int) := by rw [IntKind.wrap_i64]; omega
                obtain ⟨m', hm'⟩ : ∃ m, min hi2 n = m := ⟨_, rfl⟩
                have v3 : min (n : Int) (hi2 : Int) = (m' : Int) := by omega
                have hsl := slice_ids g o n cap lo m' (by omega) (by omega) (by omega)
                obtain ⟨L, hL⟩ : ∃ L, m' - lo = L := ⟨_, rfl⟩
                rw [hL] at hsl
                obtain ⟨row, hrow⟩ : ∃ row, (zs.drop lo).take c = row := ⟨_, rfl⟩
                have hrl : row.length = L := by
                  rw [← hrow, row_length zs n lo hi2 c HN.out x1 hhi2.symm, hm', hL]
                have hsf := share_fine (wh := b.h) (n := r) (i := i) (by rw [HBx.out]; exact h2) (by omega)
                obtain ⟨sh, hsh⟩ : ∃ s, shareF b.h r i = s := ⟨_, rfl⟩
                rw [hsh] at hsf
                have hB' : b.with 3 sh = ⟨0, 0, wd, sh⟩ := by
                  rw [HBx.out]
                  show (⟨0, 0, wd, ht + (sh - ht)⟩ : Box) = _
                  rw [show ht + (sh - ht) = sh by omega]
                obtain ⟨ok1, hok1⟩ : ∃ x, fitsB 2 row.length ⟨0, 0, wd, sh⟩ = x := ⟨_, rfl⟩
                have HFi : Hid (fitsB 2 ((zs.drop (i * c)).take c).length (b.with 3 (shareF b.h r i)) = ok1) := by
                  show _ = _
                  rw [hlo, hrow, hsh, hB', hok1]
                have hti : rows[i]? = some (evenT 2 row ⟨0, 0, wd, sh⟩) := by
                  rw [HRo.out i hlt, hlo, hrow, hsh, hB']
                have HShi : Hid (∀ X, Below w.heap.size w X → Calls Try.prog 41 #[.slice (some ⟨g, o + lo, none⟩) L (cap - lo), .int .i64 2, .int .i64 wd, .int .i64 sh] X (DocA ok1 (nodeOf (evenT 2 row ⟨0, 0, wd, sh⟩)) X)) := fun X hX => by
                  have := shared_any 2 (.inl rfl) wd sh row (.slice (some ⟨g, o + lo, none⟩) L (cap - lo)) X h1.2 hsf.2 ⟨g, o + lo, cap - lo, by rw [hrl], by omega, by rw [← hrow]; exact IdsIn.cut (n := n) (cap := cap) (HZ.out X hX) lo c⟩ (fun e => by rw [e] at hrl; simp at hrl; omega) (by omega)
                  rw [hok1] at this
                  exact this
                obtain ⟨ET, hET⟩ : ∃ t, evenT 2 row ⟨0, 0, wd, sh⟩ = t := ⟨_, rfl⟩
                rw [hET] at HShi hti
                have HTi : Hid (rows[i]? = some ET) := hti
                have hul : us[i]? = some (.leaf (b.with 3 (shareF b.h r i)) i) := (HJ.out.left i (Nat.le_refl _)).trans (HUs.out.2.2 i hlt)
                have HKd : Hid (∀ X, Below wr.heap.size wr X → X.cell? ⟨gK, i * 5 + 2, none⟩ = some (.int .i64 sh) ∧ X.cell? ⟨gN, 4, none⟩ = some (.slice (some ⟨gK, 0, none⟩) r sc)) := fun X hX => by
                  have hx := HJ.out.below' hX
                  obtain ⟨_, _, _, _, _, hk, _⟩ := hx.kids.one i _ hul
                  refine ⟨?_, cell_atL hx.nod 4⟩
                  have h7 := hk.q2
                  have h8 : (nodeOf (.leaf (b.with 3 (shareF b.h r i)) i)).h = sh := by
                    rw [hsh, hB']
                    rfl
                  rw [h8] at h7
                  exact h7
                have HKs : Hid (∀ X, Below wr.heap.size wr X → (∃ a0 a1 a2 a3 a4, X.cell? ⟨gK, i * 5, none⟩ = some a0 ∧ X.cell? ⟨gK, i * 5 + 1, none⟩ = some a1 ∧ X.cell? ⟨gK, i * 5 + 2, none⟩ = some a2 ∧ X.cell? ⟨gK, i * 5 + 3, none⟩ = some a3 ∧ X.cell? ⟨gK, i * 5 + 4, none⟩ = some a4) ∧ (X.frozen? ⟨gK, i * 5, none⟩ = false ∧ X.frozen? ⟨gK, i * 5 + 1, none⟩ = false ∧ X.frozen? ⟨gK, i * 5 + 2, none⟩ = false ∧ X.frozen? ⟨gK, i * 5 + 3, none⟩ = false ∧ X.frozen? ⟨gK, i * 5 + 4, none⟩ = false)) := fun X hX => by
                  have hx := HJ.out.below' hX
                  obtain ⟨_, _, _, _, _, hk, _⟩ := hx.kids.one i _ hul
                  exact ⟨⟨_, _, _, _, _, hk.q0, hk.q1, hk.q2, hk.q3, hk.q4⟩, hx.kids.free _, hx.kids.free _, hx.kids.free _, hx.kids.free _, hx.kids.free _⟩
                have HwW : Hid (Below w.heap.size w wr) := HJ.out.below
                obtain ⟨k1, k2⟩ := HKd.out wr (Below.refl _ _)
                obtain ⟨k1a, k2a⟩ := HKd.out _ (zero_below wr (.cells #[.int .i64 0, .int .i64 0, .int .i64 0, .int .i64 0, .slice none 0 0] 67))
                obtain ⟨V, hV⟩ : ∃ x, x = wr := ⟨_, rfl⟩
                subst hV
                clear g1 g2 g3 g4 g5 e1 hlo hhi2 hm' hL hrow hrl hsf hsh hB' hok1 hti hET hul
                go_wp2
                go_cut [15, 16] (fun v vb wx => vb = .bool ok1 ∧ ∃ gC k4 w4 h4 i4 sa sn sc', v = .pointer (some ⟨gC, 0, none⟩) ∧ Hid (PutAt V wx gC #[.int .i64 k4, .int .i64 w4, .int .i64 h4, .int .i64 i4, .slice sa sn sc']) ∧ Hid (ok1 = true → (k4 = (nodeOf ET).k ∧ w4 = (nodeOf ET).w ∧ h4 = (nodeOf ET).h ∧ i4 = (nodeOf ET).i) ∧ ∃ fp, (nodeOf ET).In wx (.slice sa sn sc') fp ∧ ∀ q ∈ fp, V.heap.size ≤ q))
                case first =>
                  go_region_law (first
                    | (go_simp; go_at_call 41; refine (HShi.out _ (by first | exact shared_at HwW.out | exact shared_at2 HwW.out)).mono ?_; rintro e X4 hD; obtain ⟨k4, w4, h4, i4, sa, sn, sc', rfl, hD2, hD3⟩ := hD.open; first | (have HX4 : Hid (Below V.heap.size V X4) := ⟨hD3.os, hD3.tape, hD3.output, hD3.size, hD3.block⟩; have HD : Hid (ok1 = true → (k4 = (nodeOf ET).k ∧ w4 = (nodeOf ET).w ∧ h4 = (nodeOf ET).h ∧ i4 = (nodeOf ET).i) ∧ ∃ fp, (nodeOf ET).In X4 (.slice sa sn sc') fp ∧ ∀ q ∈ fp, V.heap.size ≤ q) := hD2; clear hD hD2 hD3) | (have HX4 : Hid (AheadAt V X4 V.heap.size) := ahead_of (Below.refl _ _) hD3; obtain ⟨⟨t0, t1, t2, t3, t4⟩, t5, t6, t7, t8, t9⟩ := HX4.out.cells; have HD : Hid (ok1 = true → (k4 = (nodeOf ET).k ∧ w4 = (nodeOf ET).w ∧ h4 = (nodeOf ET).h ∧ i4 = (nodeOf ET).i) ∧ ∃ fp, (nodeOf ET).In X4 (.slice sa sn sc') fp ∧ ∀ q ∈ fp, V.heap.size + 1 ≤ q) := (fun h => by (obtain ⟨h1, fp, h2, h3⟩ := hD2 h; exact ⟨h1, fp, h2, fun q hq => by (have h9 := h3 q hq; rw [drew_size] at h9; exact h9)⟩)); clear hD hD2 hD3)))
                  all_goals (
                    go_wp2_with fail
                    go_meet
                    first
                      | exact ⟨rfl, _, k4, w4, h4, i4, sa, sn, sc', rfl, put_behind HX4.out _, fun h => by (obtain ⟨h1, fp, h2, h3⟩ := HD.out h; exact ⟨h1, fp, h2.below (zero_below _ _), h3⟩)⟩
                      | exact ⟨rfl, _, k4, w4, h4, i4, sa, sn, sc', rfl, put_ahead HX4.out _ _ _ _ _, fun h => by (obtain ⟨h1, fp, h2, h3⟩ := HD.out h; exact ⟨h1, fp, in_set5 h2 _ (fun q hq => by have := h3 q hq; omega) _ _ _ _ _, fun q hq => by have := h3 q hq; omega⟩)⟩)
                case rest =>
                  obtain ⟨rfl, gC, k4, w4, h4, i4, sa, sn, sc', rfl, HPC, HD⟩ := hcut
                  have HVc : Hid (Below V.heap.size V wc) := HPC.out.below
                  have HJc : Hid (TileTo w wd ht gN gK r sc us0 rows i us wc) := HJ.out.below' HVc.out
                  clear k1 k2 k1a k2a
                  cases ok1
                  · obtain ⟨q0, q1, q2, q3, q4, f0, f1, f2, f3, f4⟩ := resZ_of HJc.out.res
                    have HTb : Hid (tileB b (r, c).1 (r, c).2 zs = false) := by
                      show (fitsB 3 r b && rowsB b r c zs r 0) = false
                      rw [rows_bad b r c r zs 0 i hlt (by rw [Int.zero_add]; exact HFi.out), Bool.and_false]
                    have HwC : Hid (Below w.heap.size w wc) := HJc.out.below
                    go_wp2
                    exact bodyPost_ret (v := .tuple #[.agg #[.int .i64 0, .int .i64 0, .int .i64 0, .int .i64 0, .slice none 0 0], .bool false]) (by simp [results, Try.results43, go_sem, q0, q1, q2, q3, q4]) rfl ⟨set5_below HwC.out _ (Nat.le_refl _) _ _ _ _ _, .inr ⟨HTb.out, rfl⟩⟩
                  · obtain ⟨⟨rfl, rfl, rfl, rfl⟩, fp, hIn, hge⟩ := HD.out (by first | rfl | trivial)
                    have hP := HPC.out.at_
                    have p0 : wc.cell? ⟨gC, 0, none⟩ = some (.int .i64 (nodeOf ET).k) := cell_atL hP 0
                    have p1 : wc.cell? ⟨gC, 1, none⟩ = some (.int .i64 (nodeOf ET).w) := cell_atL hP 1
                    have p2 : wc.cell? ⟨gC, 2, none⟩ = some (.int .i64 (nodeOf ET).h) := cell_atL hP 2
                    have p3 : wc.cell? ⟨gC, 3, none⟩ = some (.int .i64 (nodeOf ET).i) := cell_atL hP 3
                    have p4 : wc.cell? ⟨gC, 4, none⟩ = some (.slice sa sn sc') := cell_atL hP 4
                    have k2 := (HKd.out wc HVc.out).2
                    obtain ⟨⟨a0, a1, a2, a3, a4, s0, s1, s2, s3, s4⟩, s5, s6, s7, s8, s9⟩ := HKs.out wc HVc.out
                    have HNx : Hid (TileTo w wd ht gN gK r sc us0 rows (i + 1) (us.set i ET) (set5at wc gK (i * 5) (nodeOf ET) (.slice sa sn sc'))) := HJ.out.next HVc.out hlt HTi.out hIn hge
                    have HFn : Hid (∀ j : Nat, j < i + 1 → fitsB 2 ((zs.drop (j * c)).take c).length (b.with 3 (shareF b.h r j)) = true) := fun j hj => by
                      by_cases e : j = i
                      · subst e; exact HFi.out
                      · exact HFt.out j (by omega)
                    clear hIn hge hP
                    go_wp2
                    go_roundw
                    case rel => exact ⟨i + 1, by omega, by go_num, us.set i ET, HNx, HFn⟩
                    case measure => simp [intOf]; omega
              · obtain rfl : r = i := by omega
                have hus : us = rows := by
                  refine List.ext_getElem? fun j => ?_
                  by_cases hj : j < r
                  · exact HJ.out.done j hj
                  · rw [List.getElem?_eq_none (by rw [HJ.out.kids.len]; omega), List.getElem?_eq_none (by rw [HRl.out]; omega)]
                obtain ⟨fp, hIn, hge⟩ := HJ.out.kids.node 3 wd ht 0
                rw [hus] at hIn
                have HI : Hid ((Node.mk 3 wd ht 0 (nodesOf rows)).In wr (.slice (some ⟨gK, 0, none⟩) r sc) fp) := hIn
                have HGe : Hid (∀ q ∈ fp, w.heap.size < q) := fun q hq => by
                  have ha := HJ.out.apart.1
                  rcases hge q hq with h6 | h6
                  · cases h6
                  · omega
                have HTb : Hid (tileB b (r, c).1 (r, c).2 zs = true) := by
                  show (fitsB 3 r b && rowsB b r c zs r 0) = true
                  rw [HOk0.out, rows_all b r c r zs 0 fun j hj => by rw [Int.zero_add]; exact HFt.out j hj]
                  rfl
                have HwW : Hid (Below w.heap.size w wr) := HJ.out.below
                have n0 : wr.cell? ⟨gN, 0, none⟩ = some (.int .i64 3) := cell_atL HJ.out.nod 0
                have n1 : wr.cell? ⟨gN, 1, none⟩ = some (.int .i64 wd) := cell_atL HJ.out.nod 1
                have n2 : wr.cell? ⟨gN, 2, none⟩ = some (.int .i64 ht) := cell_atL HJ.out.nod 2
                have n3 : wr.cell? ⟨gN, 3, none⟩ = some (.int .i64 0) := cell_atL HJ.out.nod 3
                have n4 : wr.cell? ⟨gN, 4, none⟩ = some (.slice (some ⟨gK, 0, none⟩) r sc) := cell_atL HJ.out.nod 4
                obtain ⟨q0, q1, q2, q3, q4, f0, f1, f2, f3, f4⟩ := resZ_of HJ.out.res
                clear hus hIn hge
                go_wp2
                exact bodyPost_ret (v := .tuple #[.agg #[.int .i64 3, .int .i64 wd, .int .i64 ht, .int .i64 0, .slice (some ⟨gK, 0, none⟩) r sc], .bool true]) (by simp [results, Try.results43, go_sem, q0, q1, q2, q3, q4]) rfl ⟨set5_below HwW.out _ (Nat.le_refl _) _ _ _ _ _, .inl ⟨HTb.out, some ⟨gK, 0, none⟩, r, sc, fp, by rw [HTt.out]; rfl, by rw [HTt.out]; exact in_set5 HI.out _ (fun q hq => by have := HGe.out q hq; omega) _ _ _ _ _, fun q hq => by have := HGe.out q hq; omega⟩⟩

end Go.Proofs.Ytjnmjoigmbpodaa

namespace Go.Proofs.Ytjnmjoigmbpodaa
open Go.RowKit
set_option linter.unusedVariables false
set_option maxRecDepth 100000

/-- What the document answers to each way, by what the program's tree is. -/
theorem arr_doc (how : Int) (hh5 : 1 ≤ how ∧ how ≤ 5) (z0 : Int) (zs : List Int) (wd ht sz : Int) (h1 : 1 ≤ zs.length) (h3 : zs.length ≤ 31) (hz : ∀ z ∈ z0 :: zs, idB z = true) (hw : 1 ≤ wd ∧ wd ≤ 1000) (hh : 1 ≤ ht ∧ ht ≤ 1000) : (arrT how z0 zs ⟨0, 0, wd, ht⟩ sz).sound = (if how = 1 then fitsB 2 (z0 :: zs).length ⟨0, 0, wd, ht⟩ else if how = 2 then fitsB 3 (z0 :: zs).length ⟨0, 0, wd, ht⟩ else if how = 3 then leadB 3 zs.length ⟨0, 0, wd, ht⟩ sz else if how = 4 then leadB 2 zs.length ⟨0, 0, wd, ht⟩ sz else tileB ⟨0, 0, wd, ht⟩ (gridF (z0 :: zs).length).1 (gridF (z0 :: zs).length).2 (z0 :: zs)) := by
  have hb : (sideB wd && sideB ht) = true := by rw [side_mk hw.1 hw.2, side_mk hh.1 hh.2]; rfl
  have hne : zs ≠ [] := fun e => by rw [e] at h1; simp at h1
  unfold arrT
  split
  · exact even_sound 2 (.inl rfl) _ _ (by simp) hz
  · split
    · exact even_sound 3 (.inr rfl) _ _ (by simp) hz
    · split
      · exact first_sound 3 (.inr rfl) z0 zs _ sz hne (hz z0 (by simp)) (fun z hm => hz z (List.mem_cons_of_mem _ hm)) hb
      · split
        · exact first_sound 2 (.inl rfl) z0 zs _ sz hne (hz z0 (by simp)) (fun z hm => hz z (List.mem_cons_of_mem _ hm)) hb
        · obtain ⟨f1, f2, f3, _⟩ := grid_facts (z0 :: zs).length (by rw [List.length_cons]; omega) (by rw [List.length_cons]; omega)
          exact tile_sound _ _ _ _ f1 f2 f3 hz hb

theorem arrR_none (v : Value) (l : List CellV) (how sz : Int) (w : World) (h : CellsIn w v l) (hF : readF l = none) : Calls Try.prog 15 #[v, .int .i64 how, .int .i64 sz] w (Ans2 40 [] w) := by
  have HT : Hid (Calls Try.prog 27 #[v] w fun e w' => e = .returned (.tuple #[.agg zeroN, .bool false]) ∧ Below w.heap.size w w') := tree_no v l w h hF
  unfold zeroN at HT
  clear h hF
  go_enter Try.func15, Try.ntmps15
  go_wp2_with fail
  refine HT.out.mono ?_
  rintro e w1 ⟨rfl, hb⟩
  have HB : Hid (∀ o, Below w.heap.size w (w1.alloc o)) := fun o => alloc_below hb o
  clear hb
  go_wp2
  refine bodyPost_ret (v := .tuple #[.slice none 0 0, .int .i64 40]) (by simp [results, Try.results15, go_sem]) rfl ?_
  exact ⟨_, rfl, World.ownsRow_nil _ _ _ _, HB.out _⟩
theorem arrR_arg (v : Value) (l : List CellV) (how sz : Int) (w : World) (h : CellsIn w v l) {t : Tree} (hF : readF l = some t) (hh : ¬ (1 ≤ how ∧ how ≤ 5)) : Calls Try.prog 15 #[v, .int .i64 how, .int .i64 sz] w (Ans2 1 [] w) := by
  have HT : Hid (Calls Try.prog 27 #[v] w (TreeYes t w)) := tree_yes v l w h hF
  clear hF h
  by_cases h1 : how < 1
  · have d1 : decide (how < (1 : Int)) = true := decide_eq_true h1
    go_enter Try.func15, Try.ntmps15
    go_wp2_with fail
    refine HT.out.mono ?_
    rintro e w1 ⟨sa, sn, sc, fp, rfl, _, hb⟩
    have HB : Hid (∀ o, Below w.heap.size w (w1.alloc o)) := fun o => alloc_below hb o
    unfold nodeV
    clear hb
    go_wp2
    refine bodyPost_ret (v := .tuple #[.slice none 0 0, .int .i64 1]) (by simp [results, Try.results15, go_sem]) rfl ?_
    exact ⟨_, rfl, World.ownsRow_nil _ _ _ _, HB.out _⟩
  · have d1 : decide (how < (1 : Int)) = false := decide_eq_false h1
    have d2 : decide ((5 : Int) < how) = true := decide_eq_true (by omega)
    go_enter Try.func15, Try.ntmps15
    go_wp2_with fail
    refine HT.out.mono ?_
    rintro e w1 ⟨sa, sn, sc, fp, rfl, _, hb⟩
    have HB : Hid (∀ o, Below w.heap.size w (w1.alloc o)) := fun o => alloc_below hb o
    unfold nodeV
    clear hb
    go_wp2
    refine bodyPost_ret (v := .tuple #[.slice none 0 0, .int .i64 1]) (by simp [results, Try.results15, go_sem]) rfl ?_
    exact ⟨_, rfl, World.ownsRow_nil _ _ _ _, HB.out _⟩

end Go.Proofs.Ytjnmjoigmbpodaa
