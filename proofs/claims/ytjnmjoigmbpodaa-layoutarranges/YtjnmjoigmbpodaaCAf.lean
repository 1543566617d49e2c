/-
  Layouts: a first pane and the others in the program.
-/
import Derived.Test.YtjnmjoigmbpodaaCAe
namespace Go.Proofs.Ytjnmjoigmbpodaa
open Go.RowKit
set_option linter.unusedVariables false
set_option maxRecDepth 100000

theorem even_any (k : Int) (hk : k = 2 ∨ k = 3) (zs : List Int) (b : Box) (v : Value) (w : World) (hI : IdsIn w v zs) (hne : zs ≠ []) (h3 : zs.length ≤ 400) (hw : -1000 ≤ b.w ∧ b.w ≤ 1000) (hh : -1000 ≤ b.h ∧ b.h ≤ 1000) : Calls Try.prog 61 #[.int .i64 k, v, boxV b] w (ReadYes (evenT k zs b) w) := by
  match zs, hne, hI, h3 with
  | [z], _, hI, _ => exact even_one k z b v w hI
  | x :: y :: zs, _, hI, h3 => exact even_many k hk (x :: y :: zs) b v w hI (by simp) h3 hw hh
theorem IdsIn.cut {w : World} {g o n cap : Nat} {zs : List Int} (h : ∀ (i : Nat) z, zs[i]? = some z → w.cell? ⟨g, o + i, none⟩ = some (.int .i64 z)) (a m : Nat) : ∀ (i : Nat) z, ((zs.drop a).take m)[i]? = some z → w.cell? ⟨g, o + a + i, none⟩ = some (.int .i64 z) := fun i z hz => by
  rw [List.getElem?_take] at hz
  split at hz
  · rw [List.getElem?_drop] at hz
    have := h (a + i) z hz
    rw [show o + a + i = o + (a + i) by omega]
    exact this
  · cases hz
theorem others_small {wh z : Int} (hw : 1 ≤ wh ∧ wh ≤ 1000) : 0 ≤ othersF wh z ∧ othersF wh z ≤ 1000 := by
  unfold othersF halfF
  split
  · omega
  · omega
/-- A split of two parts that were made one behind the other. -/
theorem two_made {w X Y : World} {k : Int} {b B1 : Box} {z0 : Int} {g1 : Nat} {t : Tree} {T : TypeId} {g : Nat} {f : List Nat} (h1 : LeafAt Y g1 B1 z0) (hg : w.heap.size ≤ g1) (hg1 : g1 < X.heap.size) (hA : t.At Y 0 (.iface T (.pointer (some ⟨g, 0, none⟩))) f) (hf : f.Nodup) (hge : ∀ q ∈ f, X.heap.size ≤ q) (hb : Below w.heap.size w Y) :
    ReadYes (.split b k [.leaf B1 z0, t]) w (.returned (.iface 61 (.pointer (some ⟨Y.heap.size + 1, 0, none⟩)))) ((Y.alloc (.cells #[.iface 47 (.pointer (some ⟨g1, 0, none⟩)), .iface T (.pointer (some ⟨g, 0, none⟩))] 43)).alloc (.cells #[.int .i64 b.x, .int .i64 b.y, .int .i64 b.w, .int .i64 b.h, .int .i64 k, .slice (some ⟨Y.heap.size, 0, none⟩) 2 2] 84)) := by
  obtain ⟨Z, hZ⟩ : ∃ Z, Y.alloc (.cells #[.iface 47 (.pointer (some ⟨g1, 0, none⟩)), .iface T (.pointer (some ⟨g, 0, none⟩))] 43) = Z := ⟨_, rfl⟩
  have hZs : Z.heap.size = Y.heap.size + 1 := by rw [← hZ]; simp
  have hZn : Z.heap[Y.heap.size]? = some (.cells #[.iface 47 (.pointer (some ⟨g1, 0, none⟩)), .iface T (.pointer (some ⟨g, 0, none⟩))] 43 (0, 0)) := by rw [← hZ]; exact heap_alloc_new _ _
  have hYZ : Below Y.heap.size Y Z := by rw [← hZ]; exact (Below.refl _ _).alloc (Nat.le_refl _) _
  rw [hZ]
  obtain ⟨V, hV⟩ : ∃ V, Z.alloc (.cells #[.int .i64 b.x, .int .i64 b.y, .int .i64 b.w, .int .i64 b.h, .int .i64 k, .slice (some ⟨Y.heap.size, 0, none⟩) 2 2] 84) = V := ⟨_, rfl⟩
  have hVn : V.heap[Y.heap.size + 1]? = some (.cells #[.int .i64 b.x, .int .i64 b.y, .int .i64 b.w, .int .i64 b.h, .int .i64 k, .slice (some ⟨Y.heap.size, 0, none⟩) 2 2] 84 (0, 0)) := by rw [← hV, ← hZs]; exact heap_alloc_new _ _
  have hZV : Below Z.heap.size Z V := by rw [← hV]; exact (Below.refl _ _).alloc (Nat.le_refl _) _
  rw [hV]
  have hYV : Below Y.heap.size Y V := below_step hYZ hZV
  have hfl := hA.lt
  have h1l := lt_of_block h1
  refine ⟨_, _, (Y.heap.size + 1) :: ([Y.heap.size] ++ ([g1] ++ (f ++ []))), rfl, ⟨Y.heap.size + 1, .slice (some ⟨Y.heap.size, 0, none⟩) 2 2, [.iface 47 (.pointer (some ⟨g1, 0, none⟩)), .iface T (.pointer (some ⟨g, 0, none⟩))], [g1] ++ (f ++ []), rfl, hVn, ⟨rfl, .inr ⟨Y.heap.size, 2, _, rfl, Nat.zero_le _, (hZV.block _ (by omega)).trans hZn, Nat.le_refl _, by unfold maxLen; omega, rfl, rfl⟩⟩, ⟨_, _, [g1], f ++ [], rfl, ⟨g1, rfl, h1.below hYV, rfl⟩, ⟨_, _, f, [], rfl, hA.below hYV, ⟨rfl, rfl⟩, rfl⟩, rfl⟩, rfl⟩, ?_, ?_, below_step hb hYV⟩
  · rw [List.append_nil]
    refine List.nodup_cons.2 ⟨fun hm => ?_, List.nodup_cons.2 ⟨fun hm => ?_, List.nodup_cons.2 ⟨fun hm => ?_, hf⟩⟩⟩
    · rcases List.mem_cons.1 hm with h | hm
      · omega
      · rcases List.mem_cons.1 hm with h | h
        · omega
        · have := hfl _ h; omega
    · rcases List.mem_cons.1 hm with h | h
      · omega
      · have := hfl _ h; omega
    · have := hge _ hm
      omega
  · intro q hq
    rw [List.append_nil] at hq
    have := hb.size
    rcases List.mem_cons.1 hq with h | hq
    · omega
    · rcases List.mem_cons.1 hq with h | hq
      · omega
      · rcases List.mem_cons.1 hq with h | h
        · omega
        · have h4 := hge q h
          omega

set_option maxHeartbeats 4000000 in
theorem first_any (k : Int) (hk : k = 2 ∨ k = 3) (z0 : Int) (zs : List Int) (b : Box) (sz : Int) (v : Value) (w : World) (hI : IdsIn w v (z0 :: zs)) (hne : zs ≠ []) (h3 : zs.length ≤ 300) (hw : 1 ≤ b.w ∧ b.w ≤ 1000) (hh : 1 ≤ b.h ∧ b.h ≤ 1000) (hsz : -9223372036854775808 ≤ sz ∧ sz ≤ 9223372036854775807) : Calls Try.prog 62 #[.int .i64 k, v, boxV b, .int .i64 sz] w (ReadYes (firstT k z0 zs b sz) w) := by
  obtain ⟨g, o, cap, rfl, hcap, hz⟩ := hI
  obtain ⟨W, hW⟩ : ∃ x, w.alloc (.cells #[.int .i64 b.x, .int .i64 b.y, .int .i64 b.w, .int .i64 b.h] 53) = x := ⟨_, rfl⟩
  have hB : BoxAt W w.heap.size b := by rw [← hW]; exact box_handed w b
  have HB : Hid (BoxAt W w.heap.size b) := hB
  have hbW : Below w.heap.size w W := by rw [← hW]; exact (Below.refl _ _).alloc (Nat.le_refl _) _
  have HBW : Hid (Below w.heap.size w W) := hbW
  obtain ⟨c0, c1, c2, c3, _⟩ := hB
  have HW : Hid (w.alloc (.cells #[.int .i64 b.x, .int .i64 b.y, .int .i64 b.w, .int .i64 b.h] 53) = W) := hW
  have hbe : 1 ≤ b.ext k ∧ b.ext k ≤ 1000 := by unfold Box.ext; split <;> assumption
  have hos := others_small (z := sz) hbe
  unfold firstT
  obtain ⟨E, hE⟩ : ∃ e, b.ext k = e := ⟨_, rfl⟩
  rw [hE] at hbe hos ⊢
  obtain ⟨ot, hot⟩ : ∃ x, othersF E sz = x := ⟨_, rfl⟩
  have HOt : Hid (othersF E sz = ot) := hot
  rw [hot] at hos ⊢
  have HEx : Hid (∀ X, BoxAt X w.heap.size b → Calls Try.prog 19 #[.pointer (some ⟨w.heap.size, 0, none⟩), .int .i64 k] X fun e w' => e = .returned (.int .i64 E) ∧ X = w') := fun X hX => by rw [← hE]; exact box_extent _ b k X hX
  have HHa : Hid (∀ X, Calls Try.prog 49 #[.int .i64 E] X fun e w' => e = .returned (.int .i64 (halfF E)) ∧ X = w') := fun X => half_any E X (by omega)
  obtain ⟨hf, hhf⟩ : ∃ x, halfF E = x := ⟨_, rfl⟩
  rw [hhf] at HHa
  obtain ⟨h1, h2, hne2⟩ := across_two k hk
  obtain ⟨j, hj⟩ : ∃ j, acrossK k = j := ⟨_, rfl⟩
  have HAc : Hid (∀ X, Calls Try.prog 72 #[.int .i64 k] X fun e w' => e = .returned (.int .i64 j) ∧ X = w') := fun X => by rw [← hj]; exact across_any k X
  rw [hj] at h2 ⊢
  obtain ⟨B1, hB1⟩ : ∃ x, b.with k (E - 1 - ot) = x := ⟨_, rfl⟩
  obtain ⟨B2, hB2⟩ : ∃ x, b.with k ot = x := ⟨_, rfl⟩
  have HW1 : Hid (∀ X, BoxAt X w.heap.size b → Calls Try.prog 21 #[.pointer (some ⟨w.heap.size, 0, none⟩), .int .i64 k, .int .i64 (E - 1 - ot)] X fun e w' => e = .returned (.agg #[.int .i64 B1.x, .int .i64 B1.y, .int .i64 B1.w, .int .i64 B1.h]) ∧ Below X.heap.size X w') := fun X hX => by rw [← hB1]; exact box_withG _ b k _ X hX (by omega) (by omega) (by omega)
  have HW2 : Hid (∀ X, BoxAt X w.heap.size b → Calls Try.prog 21 #[.pointer (some ⟨w.heap.size, 0, none⟩), .int .i64 k, .int .i64 ot] X fun e w' => e = .returned (.agg #[.int .i64 B2.x, .int .i64 B2.y, .int .i64 B2.w, .int .i64 B2.h]) ∧ Below X.heap.size X w') := fun X hX => by rw [← hB2]; exact box_withG _ b k _ X hX (by omega) (by omega) (by omega)
  have hb2 : (-1000 ≤ B2.w ∧ B2.w ≤ 1000) ∧ (-1000 ≤ B2.h ∧ B2.h ≤ 1000) := by
    rw [← hB2]
    rcases hk with rfl | rfl
    · exact ⟨by show -1000 ≤ b.w + (ot - b.w) ∧ b.w + (ot - b.w) ≤ 1000; omega, by show -1000 ≤ b.h ∧ b.h ≤ 1000; omega⟩
    · exact ⟨by show -1000 ≤ b.w ∧ b.w ≤ 1000; omega, by show -1000 ≤ b.h + (ot - b.h) ∧ b.h + (ot - b.h) ≤ 1000; omega⟩
  obtain ⟨n, hn⟩ : ∃ n, zs.length = n := ⟨_, rfl⟩
  have hzW : ∀ X, Below w.heap.size w X → ∀ (i : Nat) z, (z0 :: zs)[i]? = some z → X.cell? ⟨g, o + i, none⟩ = some (.int .i64 z) := fun X hX i z h => (hX.cell (p := ⟨g, o + i, none⟩) (World.block_lt_of_cell? w _ (hz i z h))).trans (hz i z h)
  have HEv : Hid (∀ c X, n ≤ c → Below w.heap.size w X → Calls Try.prog 61 #[.int .i64 j, .slice (some ⟨g, o + 1, none⟩) n c, .agg #[.int .i64 B2.x, .int .i64 B2.y, .int .i64 B2.w, .int .i64 B2.h]] X (ReadYes (evenT j zs B2) X)) := fun c X hc hX => even_any j h2 zs B2 _ X ⟨g, o + 1, c, by rw [hn], by rw [hn]; exact hc, fun i z h => by have := hzW X hX (i + 1) z (by simpa using h); rw [show o + 1 + i = o + (i + 1) by omega]; exact this⟩ hne (by omega) hb2.1 hb2.2
  rw [hB1, hB2]
  obtain ⟨ET, hET⟩ : ∃ t, evenT j zs B2 = t := ⟨_, rfl⟩
  rw [hET] at HEv ⊢
  have HZ0 : Hid (∀ X, Below w.heap.size w X → X.cell? ⟨g, o, none⟩ = some (.int .i64 z0)) := fun X hX => hzW X hX 0 z0 rfl
  have hn0 : 1 ≤ n := by have := List.length_pos_iff.2 hne; omega
  rw [List.length_cons, hn]
  rw [List.length_cons, hn] at hcap
  have hcap1 : n ≤ cap - 1 := by omega
  have h1n : (1 : Int) ≤ (n : Int) + 1 := by omega
  have hc1 : cap ≠ 1 := by omega
  have w1 : IntKind.i64.wrap (E - 1) = E - 1 := by rw [IntKind.wrap_i64]; omega
  have w2 : IntKind.i64.wrap (E - 1 - ot) = E - 1 - ot := by rw [IntKind.wrap_i64]; omega
  have w3 : 1 ≤ sz → IntKind.i64.wrap (E - 1 - sz) = E - 1 - sz := fun h => by rw [IntKind.wrap_i64]; omega
  unfold boxV
  have hother : (if 1 ≤ sz then max (E - 1 - sz) 1 else hf) = ot := by rw [← hot, ← hhf]; rfl
  clear hW hbW hz hE hot hhf hB1 hB2 hb2 hET hzW hj h1 hne2 hk hbe hos hne hn h2
  by_cases hs : 1 ≤ sz
  · rw [if_pos hs] at hother
    have w3' := w3 hs
    have hd : decide ((1 : Int) ≤ sz) = true := decide_eq_true hs
    clear w3
    go_enter Try.func62, Try.ntmps62
    go_upto_region 1 with fail
    rw [HW.out]
    go_wp2_with fail
    refine (HEx.out _ HB.out).mono ?_
    rintro e w1' ⟨rfl, rfl⟩
    go_wp2_with fail
    refine (HHa.out _).mono ?_
    rintro e w1' ⟨rfl, rfl⟩
    go_wp2_with fail
    have HBd : Hid (BoxAt W.drew w.heap.size b) := by obtain ⟨x0, x1, x2, x3, x4⟩ := HB.out; exact ⟨x0, x1, x2, x3, x4⟩
    have d0 : W.cell? ⟨g, o, none⟩ = some (.int .i64 z0) := HZ0.out W HBW.out
    go_region_law (first
      | (go_simp; go_at_call 21; refine (HW1.out _ HBd.out).mono ?_; rintro e X ⟨rfl, hbX⟩; have HX : Hid (Below w.heap.size w X) := below_step HBW.out ⟨hbX.os, hbX.tape, hbX.output, hbX.size, hbX.block⟩; have dX := HZ0.out X HX.out; have HBx : Hid (BoxAt X w.heap.size b) := HB.out.below ⟨hbX.os, hbX.tape, hbX.output, hbX.size, hbX.block⟩; clear hbX))
    all_goals (
      obtain ⟨Y, hY⟩ : ∃ Y, X.alloc (.cells #[.int .i64 B1.x, .int .i64 B1.y, .int .i64 B1.w, .int .i64 B1.h, .int .i64 z0] 55) = Y := ⟨_, rfl⟩
      have HY1 : Hid (LeafAt Y X.heap.size B1 z0) := by rw [← hY]; exact heap_alloc_new _ _
      have HYb : Hid (Below w.heap.size w Y) := by rw [← hY]; exact alloc_below HX.out _
      have HYx : Hid (BoxAt Y w.heap.size b) := by rw [← hY]; exact HBx.out.below ((Below.refl _ _).alloc (Nat.le_refl _) _)
      rw [hY]
      obtain ⟨y0, y1, y2, y3, _⟩ := HYx.out
      have HYd : Hid (BoxAt Y.drew w.heap.size b) := ⟨y0, y1, y2, y3, fun o ho => HYx.out.free o ho⟩
      have HXY : Hid (w.heap.size ≤ X.heap.size) := HX.out.size
      clear hY c0 c1 c2 c3 d0 dX
      go_wp2_with fail
      go_region_law (first
        | (go_simp; go_at_call 72; refine (HAc.out _).mono ?_; rintro e w9 ⟨rfl, rfl⟩)
        | (go_simp; go_at_call 21; refine (HW2.out _ HYd.out).mono ?_; rintro e X2 ⟨rfl, hb9⟩; have HX2 : Hid (Below Y.heap.size Y X2) := ⟨hb9.os, hb9.tape, hb9.output, hb9.size, hb9.block⟩; clear hb9; obtain ⟨x0, x1, x2, x3, _⟩ := HYx.out.below HX2.out)
        | (go_simp; go_at_call 61; refine (HEv.out _ _ hcap1 (below_step HYb.out HX2.out)).mono ?_; rintro e X3 ⟨T3, g3, f3, rfl, hA3, hnd3, hge3, hb3⟩; have H3 : Hid (ET.At X3 0 (.iface T3 (.pointer (some ⟨g3, 0, none⟩))) f3 ∧ f3.Nodup ∧ (∀ q ∈ f3, X2.heap.size ≤ q) ∧ Below X2.heap.size X2 X3) := ⟨hA3, hnd3, hge3, hb3⟩; obtain ⟨q0, r0, _⟩ := part_kept x0 hb3; obtain ⟨q1, r1, _⟩ := part_kept x1 hb3; obtain ⟨q2, r2, _⟩ := part_kept x2 hb3; obtain ⟨q3, r3, _⟩ := part_kept x3 hb3; clear hA3 hnd3 hge3 hb3))
      all_goals (
        have HM := two_made (b := b) (k := k) (HY1.out.below (below_step HX2.out H3.out.2.2.2)) HXY.out (Nat.lt_of_lt_of_le (lt_of_block HY1.out) HX2.out.size) H3.out.1 H3.out.2.1 H3.out.2.2.1 (below_step (below_step HYb.out HX2.out) H3.out.2.2.2)
        have HMh : Hid (ReadYes _ w _ _) := HM
        clear HM
        go_wp2
        go_ret
        exact HMh.out))
  · rw [if_neg hs] at hother
    subst hother
    have hd : decide ((1 : Int) ≤ sz) = false := decide_eq_false hs
    clear w3
    go_enter Try.func62, Try.ntmps62
    go_upto_region 1 with fail
    rw [HW.out]
    go_wp2_with fail
    refine (HEx.out _ HB.out).mono ?_
    rintro e w1' ⟨rfl, rfl⟩
    go_wp2_with fail
    refine (HHa.out _).mono ?_
    rintro e w1' ⟨rfl, rfl⟩
    go_wp2_with fail
    have HBd : Hid (BoxAt W.drew w.heap.size b) := by obtain ⟨x0, x1, x2, x3, x4⟩ := HB.out; exact ⟨x0, x1, x2, x3, x4⟩
    have d0 : W.cell? ⟨g, o, none⟩ = some (.int .i64 z0) := HZ0.out W HBW.out
    go_region_law (first
      | (go_simp; go_at_call 21; refine (HW1.out _ HBd.out).mono ?_; rintro e X ⟨rfl, hbX⟩; have HX : Hid (Below w.heap.size w X) := below_step HBW.out ⟨hbX.os, hbX.tape, hbX.output, hbX.size, hbX.block⟩; have dX := HZ0.out X HX.out; have HBx : Hid (BoxAt X w.heap.size b) := HB.out.below ⟨hbX.os, hbX.tape, hbX.output, hbX.size, hbX.block⟩; clear hbX))
    all_goals (
      obtain ⟨Y, hY⟩ : ∃ Y, X.alloc (.cells #[.int .i64 B1.x, .int .i64 B1.y, .int .i64 B1.w, .int .i64 B1.h, .int .i64 z0] 55) = Y := ⟨_, rfl⟩
      have HY1 : Hid (LeafAt Y X.heap.size B1 z0) := by rw [← hY]; exact heap_alloc_new _ _
      have HYb : Hid (Below w.heap.size w Y) := by rw [← hY]; exact alloc_below HX.out _
      have HYx : Hid (BoxAt Y w.heap.size b) := by rw [← hY]; exact HBx.out.below ((Below.refl _ _).alloc (Nat.le_refl _) _)
      rw [hY]
      obtain ⟨y0, y1, y2, y3, _⟩ := HYx.out
      have HYd : Hid (BoxAt Y.drew w.heap.size b) := ⟨y0, y1, y2, y3, fun o ho => HYx.out.free o ho⟩
      have HXY : Hid (w.heap.size ≤ X.heap.size) := HX.out.size
      clear hY c0 c1 c2 c3 d0 dX
      go_wp2_with fail
      go_region_law (first
        | (go_simp; go_at_call 72; refine (HAc.out _).mono ?_; rintro e w9 ⟨rfl, rfl⟩)
        | (go_simp; go_at_call 21; refine (HW2.out _ HYd.out).mono ?_; rintro e X2 ⟨rfl, hb9⟩; have HX2 : Hid (Below Y.heap.size Y X2) := ⟨hb9.os, hb9.tape, hb9.output, hb9.size, hb9.block⟩; clear hb9; obtain ⟨x0, x1, x2, x3, _⟩ := HYx.out.below HX2.out)
        | (go_simp; go_at_call 61; refine (HEv.out _ _ hcap1 (below_step HYb.out HX2.out)).mono ?_; rintro e X3 ⟨T3, g3, f3, rfl, hA3, hnd3, hge3, hb3⟩; have H3 : Hid (ET.At X3 0 (.iface T3 (.pointer (some ⟨g3, 0, none⟩))) f3 ∧ f3.Nodup ∧ (∀ q ∈ f3, X2.heap.size ≤ q) ∧ Below X2.heap.size X2 X3) := ⟨hA3, hnd3, hge3, hb3⟩; obtain ⟨q0, r0, _⟩ := part_kept x0 hb3; obtain ⟨q1, r1, _⟩ := part_kept x1 hb3; obtain ⟨q2, r2, _⟩ := part_kept x2 hb3; obtain ⟨q3, r3, _⟩ := part_kept x3 hb3; clear hA3 hnd3 hge3 hb3))
      all_goals (
        have HM := two_made (b := b) (k := k) (HY1.out.below (below_step HX2.out H3.out.2.2.2)) HXY.out (Nat.lt_of_lt_of_le (lt_of_block HY1.out) HX2.out.size) H3.out.1 H3.out.2.1 H3.out.2.2.1 (below_step (below_step HYb.out HX2.out) H3.out.2.2.2)
        have HMh : Hid (ReadYes _ w _ _) := HM
        clear HM
        go_wp2
        go_ret
        exact HMh.out))

end Go.Proofs.Ytjnmjoigmbpodaa
