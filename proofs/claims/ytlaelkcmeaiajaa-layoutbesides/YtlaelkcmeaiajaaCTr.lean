/-
  Layouts: the document's Tree, walked.
-/
import Derived.Test.YtlaelkcmeaiajaaCRy
namespace Go.Proofs.Ytlaelkcmeaiajaa
open Go.RowKit
set_option linter.unusedVariables false
set_option maxRecDepth 100000

/-- The depths up to a place. -/
def DepTo (l : List CellV) (i : Nat) : Prop := ∀ (a : Nat) (x : CellV), a < i → l[a]? = some x → (a = 0 → x.depth = 0) ∧ (1 ≤ a → 1 ≤ x.depth) ∧ x.depth ≤ a
theorem DepTo.next {l : List CellV} {a : Nat} {x y : CellV} (h : DepTo l (a + 1)) (hx : l[a]? = some x) (hy : l[a + 1]? = some y) (h1 : 1 ≤ y.depth) (h2 : y.depth ≤ x.depth + 1) : DepTo l (a + 1 + 1) := by
  intro b z hb hz
  by_cases e : b = a + 1
  · subst e
    rw [hy] at hz
    cases hz
    have := (h a x (by omega) hx).2.2
    refine ⟨fun e => by omega, fun _ => h1, by omega⟩
  · exact h b z (by omega) hz
theorem DepTo.all {c : CellV} {r : List CellV} (h : DepTo (c :: r) (c :: r).length) : (growF c r).2 = [] := by
  rw [growF_eq]
  have h0 := (h 0 c (by simp) rfl).1 rfl
  rw [h0]
  refine grows_all r.length 0 r (Nat.le_refl _) fun x hx => ?_
  obtain ⟨j, hj⟩ := List.getElem?_of_mem hx
  have hl : j < r.length := (List.getElem?_eq_some_iff.1 hj).1
  have := (h (j + 1) x (by simp; omega) (by simpa using hj)).2.1 (by omega)
  omega

set_option maxHeartbeats 8000000 in
theorem tree_main (c : CellV) (r : List CellV) (b off n cap : Nat) (w : World) (hs : SeenIn w b off (c :: r)) (hn : (c :: r).length = n) (h64 : n ≤ 64) (h0 : c.depth = 0) (hw : c.w ≤ 1000) (hh : c.h ≤ 1000) : Calls Try.prog 24 #[.slice (some ⟨b, off, none⟩) n cap] w (TreeGood (c :: r) w) := by
  obtain ⟨l, hl⟩ : ∃ l, c :: r = l := ⟨_, rfl⟩
  rw [hl] at hs hn ⊢
  obtain ⟨W, hW⟩ : ∃ W, w.alloc (.cells zeroN 58) = W := ⟨_, rfl⟩
  have hbW : Below w.heap.size w W := by rw [← hW]; exact (Below.refl _ _).alloc (Nat.le_refl _) _
  have HRes : Hid (∀ X, Below W.heap.size W X → ResIn w X) := fun X hX => resIn w X (by rw [hW]; exact hX)
  have HB : Hid (∀ X, Below W.heap.size W X → Below w.heap.size w X) := fun X hX => below_step hbW hX
  have HS : Hid (∀ X, Below W.heap.size W X → SeenIn X b off l) := fun X hX => hs.below (below_step hbW hX)
  have HWs : Hid (W.heap.size = w.heap.size + 1) := by show _ = _; rw [← hW]; simp
  have HW : Hid (w.alloc (.cells #[.int .i64 0, .int .i64 0, .int .i64 0, .int .i64 0, .slice none 0 0] 58) = W) := hW
  have HL : Hid (c :: r = l) := hl
  have HN : Hid (l.length = n) := hn
  have HNo : Hid (∀ X, Below W.heap.size W X → readF l = none → ∀ v0 v1 v2 v3 v4, TreeGood l w (.returned (.tuple #[.agg #[.int .i64 0, .int .i64 0, .int .i64 0, .int .i64 0, .slice none 0 0], .bool false])) (set5 X w.heap.size v0 v1 v2 v3 v4)) := fun X hX hr => tree_none hr (below_step hbW hX)
  have HC : Hid (c.depth = 0 ∧ c.w ≤ 1000 ∧ c.h ≤ 1000) := ⟨h0, hw, hh⟩
  have q0 := fun o => ((hs.below ((Below.refl _ _).alloc (Nat.le_refl _) o)) 0 c (by rw [← hl]; rfl)).q0
  have q4 := fun o => ((hs.below ((Below.refl _ _).alloc (Nat.le_refl _) o)) 0 c (by rw [← hl]; rfl)).q4
  have q5 := fun o => ((hs.below ((Below.refl _ _).alloc (Nat.le_refl _) o)) 0 c (by rw [← hl]; rfl)).q5
  rw [show off + 0 * 7 = off by omega] at q0 q4 q5
  have hn0 : ((n : Int) == 0) = false := by rw [← hn, ← hl]; simp; omega
  have hnp : 0 < n := by rw [← hn, ← hl]; simp
  have hn64 : ¬ (64 : Int) < n := by omega
  have hw' : ¬ 1000 < c.w := by omega
  have hh' : ¬ 1000 < c.h := by omega
  have h0' : (c.depth != 0) = false := by simpa using h0
  have HG : Hid (∀ X, Below W.heap.size W X → Calls Try.prog 46 #[.slice (some ⟨b, off, none⟩) n cap, .int .i64 0] X (GrowGood l c r X)) := fun X hX => by
    have := grown_any r.length l [] c r b off cap X (Nat.le_refl _) hl.symm (by omega) (hs.below (below_step hbW hX))
    rw [hn] at this
    exact this
  clear hs hn hl hW hbW h0 hw hh
  go_enter Try.func24, Try.ntmps24
  go_wp2
  rw [HW.out]
  go_loopw [4] (fun v wr => ∃ a : Nat, a + 1 ≤ n ∧ v = .int .i64 ((a + 1 : Nat) : Int) ∧ Hid (DepTo l (a + 1)) ∧ Hid (Below W.heap.size W wr)) (fun v _ => n - (intOf v).toNat)
  case atStart =>
    refine ⟨0, hnp, rfl, ?_, Below.refl _ _⟩
    intro a x ha hx
    have ha0 : a = 0 := by omega
    subst ha0
    rw [← HL.out] at hx
    simp at hx
    subst hx
    exact ⟨fun _ => HC.out.1, fun h => by omega, by rw [HC.out.1]; simp⟩
  case round =>
    obtain ⟨a, ha, rfl, HD, HBr⟩ := hrel
    clear q0 q4 q5 hn0 hn64 hw' hh' h0'
    by_cases hlt : a + 1 < n
    · obtain ⟨y, hy⟩ : ∃ y, l[a + 1]? = some y := ⟨_, List.getElem?_eq_getElem (by rw [HN.out]; exact hlt)⟩
      obtain ⟨x, hx⟩ : ∃ x, l[a]? = some x := ⟨_, List.getElem?_eq_getElem (by rw [HN.out]; omega)⟩
      obtain ⟨i, hi⟩ : ∃ i, a + 1 = i := ⟨_, rfl⟩
      have HX : Hid (∀ X, Below wr.heap.size wr X → X.cell? ⟨b, off + i * 7, none⟩ = some (.int .i64 y.depth) ∧ X.cell? ⟨b, off + a * 7, none⟩ = some (.int .i64 x.depth)) := fun X hX => by
        have h := HS.out X (below_step HBr.out hX)
        exact ⟨by rw [← hi]; exact (h (a + 1) y hy).q0, (h a x hx).q0⟩
      have HNx : Hid (1 ≤ y.depth → y.depth ≤ x.depth + 1 → DepTo l (i + 1)) := fun h1 h2 => by rw [← hi]; exact HD.out.next hx hy h1 h2
      have HBad : Hid (¬ (1 ≤ y.depth ∧ y.depth ≤ x.depth + 1) → readF l = none) := fun h => by
        cases hr : readF l with
        | none => rfl
        | some t => exact absurd (ref_step hr hx hy) h
      have hxd := (HD.out a x (by omega) hx)
      have hx0 : 0 ≤ x.depth ∧ x.depth ≤ 1000 := by
        by_cases e : a = 0
        · have := hxd.1 e; omega
        · have := hxd.2.1 (by omega); have := hxd.2.2; omega
      have hsub : IntKind.i64.wrap ((i : Int) - 1) = (a : Int) := by rw [IntKind.wrap_i64]; omega
      have hadd : IntKind.i64.wrap (x.depth + 1) = x.depth + 1 := by rw [IntKind.wrap_i64]; omega
      have hin : i < n := by omega
      have han : a < n := by omega
      rw [hi]
      have HI : Hid (a + 1 = i) := hi
      clear hx hy hxd hx0 hi hlt ha
      by_cases d1 : y.depth < 1
      · have d1' : decide (y.depth < 1) = true := decide_eq_true d1
        have HRn : Hid (readF l = none) := HBad.out fun h => by omega
        go_wp2_with fail
        · skip
          refine wp_region_qw (fun X => Below wr.heap.size wr X) (by kernel_rfl) (by kernel_rfl) (Below.refl _ _).drew ?_
          repeat (
            refine qw_take (v := ?_) (by rfl) (fun X hX => ?_) ?_
            rotate_left
            · have x0 := (HX.out X hX).1
              go_simp
              all_goals with_reducible rfl
            intro K hK
            go_simp
            try simp only [d1']
            refine hK.out _ ?_
            clear hK K)
          repeat (
            refine qw_skip (by rfl) ?_
            intro K hK
            go_simp
            refine hK.out _ ?_
            clear hK K)
          repeat (
            refine qw_take (v := ?_) (by rfl) (fun X hX => ?_) ?_
            rotate_left
            · go_simp
              all_goals with_reducible rfl
            intro K hK
            go_simp
            refine hK.out _ ?_
            clear hK K)
          refine qw_nil ?_
          intro w2 hB2
          have HFn : Hid (∀ v0 v1 v2 v3 v4, TreeGood l w _ (set5 w2 w.heap.size v0 v1 v2 v3 v4)) := HNo.out w2 (below_step HBr.out hB2) HRn.out
          obtain ⟨r0, r1, r2, r3, r4, f0, f1, f2, f3, f4⟩ := HRes.out w2 (below_step HBr.out hB2)
          clear hB2 HX
          go_wp2
          exact bodyPost_ret (v := .tuple #[.agg #[.int .i64 0, .int .i64 0, .int .i64 0, .int .i64 0, .slice none 0 0], .bool false]) (by simp [results, Try.results24, go_sem, r0, r1, r2, r3, r4]) rfl (HFn.out _ _ _ _ _)
      · have d1' : decide (y.depth < 1) = false := decide_eq_false d1
        by_cases d2 : x.depth + 1 < y.depth
        · have d2' : decide (x.depth + 1 < y.depth) = true := decide_eq_true d2
          have HRn : Hid (readF l = none) := HBad.out fun h => by omega
          go_wp2_with fail
          · skip
            refine wp_region_qw (fun X => Below wr.heap.size wr X) (by kernel_rfl) (by kernel_rfl) (Below.refl _ _).drew ?_
            repeat (
              refine qw_take (v := ?_) (by rfl) (fun X hX => ?_) ?_
              rotate_left
              · have x0 := (HX.out X hX).1
                have x1 := (HX.out X hX).2
                go_simp
                all_goals with_reducible rfl
              intro K hK
              go_simp
              try simp only [d1', d2']
              refine hK.out _ ?_
              clear hK K)
            refine qw_nil ?_
            intro w2 hB2
            have HFn : Hid (∀ v0 v1 v2 v3 v4, TreeGood l w _ (set5 w2 w.heap.size v0 v1 v2 v3 v4)) := HNo.out w2 (below_step HBr.out hB2) HRn.out
            obtain ⟨r0, r1, r2, r3, r4, f0, f1, f2, f3, f4⟩ := HRes.out w2 (below_step HBr.out hB2)
            clear hB2 HX
            go_wp2
            exact bodyPost_ret (v := .tuple #[.agg #[.int .i64 0, .int .i64 0, .int .i64 0, .int .i64 0, .slice none 0 0], .bool false]) (by simp [results, Try.results24, go_sem, r0, r1, r2, r3, r4]) rfl (HFn.out _ _ _ _ _)
        · have d2' : decide (x.depth + 1 < y.depth) = false := decide_eq_false d2
          have HDn : Hid (DepTo l (i + 1)) := HNx.out (by omega) (by omega)
          go_wp2_with fail
          · skip
            refine wp_region_qw (fun X => Below wr.heap.size wr X) (by kernel_rfl) (by kernel_rfl) (Below.refl _ _).drew ?_
            repeat (
              refine qw_take (v := ?_) (by rfl) (fun X hX => ?_) ?_
              rotate_left
              · have x0 := (HX.out X hX).1
                have x1 := (HX.out X hX).2
                go_simp
                all_goals with_reducible rfl
              intro K hK
              go_simp
              try simp only [d1', d2']
              refine hK.out _ ?_
              clear hK K)
            refine qw_nil ?_
            intro w2 hB2
            have HB2 : Hid (Below W.heap.size W w2) := below_step HBr.out hB2
            clear hB2 HX
            go_wp2
            go_roundw
            case rel => exact ⟨i, by omega, by go_num, HDn, HB2⟩
            case measure => simp [intOf]; omega
    · have han : a + 1 = n := by omega
      have HAll : Hid ((growF c r).2 = []) := by
        have h := HD.out
        rw [han, ← HN.out, ← HL.out] at h
        exact h.all
      have HG2 : Hid (Calls Try.prog 46 #[.slice (some ⟨b, off, none⟩) n cap, .int .i64 0] wr (GrowGood l c r wr)) := HG.out wr HBr.out
      have HCt : Hid ((growF c r).1.cnt = n) := by
        have h1 := grow_cnt c r
        have h2 := HN.out
        rw [← HL.out, List.length_cons] at h2
        rw [HAll.out] at h1
        simp at h1
        show _ = _
        omega
      have HSd : Hid ((growF c r).1.w ≤ 1000 ∧ (growF c r).1.h ≤ 1000) := by rw [growF_eq]; exact HC.out.2
      have HRef : Hid (∀ t, readF l = some t → (growF c r).1 = nodeOf t ∧ (growF c r).1.ok = true ∧ (growF c r).1.ids.Nodup ∧ (growF c r).1.ids.length ≤ 32 ∧ layN (growF c r).1 0 0 0 = l) := fun t ht => ref_no ht HL.out.symm
      have hlt' : ¬ (((a + 1 : Nat) : Int) < (n : Int)) := by omega
      clear hlt
      rw [han] at hlt' ⊢
      clear han ha
      go_wp2_with fail
      refine HG2.out.mono ?_
      rintro e w2 ⟨sa, sn, sc, fp, pre', rfl, e1, e2, e3, e4, e5⟩
      obtain ⟨nn, hnn⟩ : ∃ x, (growF c r).1 = x := ⟨_, rfl⟩
      rw [hnn] at HCt HSd HRef e2 ⊢
      have HB2 : Hid (Below W.heap.size W w2) := below_step HBr.out e5
      have HIn2 : Hid (nn.In w2 (.slice sa sn sc) fp) := e2
      have HFp : Hid (∀ q ∈ fp, q ≠ w.heap.size) := fun q hq e => by
        have h1 := e4 q hq
        have h2 := HBr.out.size
        have h3 := HWs.out
        omega
      obtain ⟨W3, hW3⟩ : ∃ X, w2.alloc (.cells #[.int .i64 nn.k, .int .i64 nn.w, .int .i64 nn.h, .int .i64 nn.i, .slice sa sn sc] 58) = X := ⟨_, rfl⟩
      have hb3 : Below w2.heap.size w2 W3 := by rw [← hW3]; exact (Below.refl _ _).alloc (Nat.le_refl _) _
      have HB3 : Hid (Below W.heap.size W W3) := below_step HB2.out hb3
      have HIn3 : Hid (nn.In W3 (.slice sa sn sc) fp) := e2.below hb3
      have hM : W3.heap[w2.heap.size]? = some (.cells #[.int .i64 nn.k, .int .i64 nn.w, .int .i64 nn.h, .int .i64 nn.i, .slice sa sn sc] 58 (0, 0)) := by rw [← hW3]; exact heap_alloc_new _ _
      have HMk : Hid (∀ X, Below W3.heap.size W3 X → X.heap[w2.heap.size]? = some (.cells #[.int .i64 nn.k, .int .i64 nn.w, .int .i64 nn.h, .int .i64 nn.i, .slice sa sn sc] 58 (0, 0))) := fun X hX => (hX.block _ (lt_of_block hM)).trans hM
      have HW3 : Hid (w2.alloc (.cells #[.int .i64 nn.k, .int .i64 nn.w, .int .i64 nn.h, .int .i64 nn.i, .slice sa sn sc] 58) = W3) := hW3
      have HId : Hid (Calls Try.prog 25 #[.agg #[.int .i64 nn.k, .int .i64 nn.w, .int .i64 nn.h, .int .i64 nn.i, .slice sa sn sc]] W3 fun e w' => ∃ z sz cz, e = .returned (.slice z sz cz) ∧ nn.ids.length = sz ∧ IOwns w' W3.heap.size (.slice z sz cz) nn.ids ∧ Below W3.heap.size W3 w') := by
        refine (ids_good nn (by have := HCt.out; omega) _ fp W3 HIn3.out).mono ?_
        rintro e w' ⟨u, rfl, h1, h2⟩
        obtain ⟨za, zc, hz⟩ := own_sl5 h1
        subst hz
        exact ⟨za, _, zc, rfl, rfl, h1, h2⟩
      clear e1 e2 e3 e4 e5 hnn hb3 hM hW3 HG2
      unfold nodeV
      go_wp2_with fail
      rw [HW3.out]
      refine HId.out.mono ?_
      rintro e w4 ⟨za, sz, zc, rfl, hsz, hio, hb4⟩
      have HIo : Hid (IOwns w4 W3.heap.size (.slice za sz zc) nn.ids) := hio
      have HSzl : Hid (nn.ids.length = sz) := hsz
      have HB4 : Hid (Below W3.heap.size W3 w4) := hb4
      have HIn4 : Hid (nn.In w4 (.slice sa sn sc) fp) := HIn3.out.below hb4
      have hm4 := HMk.out w4 hb4
      have m0 : w4.cell? ⟨w2.heap.size, 0, none⟩ = some (.int .i64 nn.k) := cell_atL hm4 0
      have m1 : w4.cell? ⟨w2.heap.size, 1, none⟩ = some (.int .i64 nn.w) := cell_atL hm4 1
      have m2 : w4.cell? ⟨w2.heap.size, 2, none⟩ = some (.int .i64 nn.h) := cell_atL hm4 2
      have m3 : w4.cell? ⟨w2.heap.size, 3, none⟩ = some (.int .i64 nn.i) := cell_atL hm4 3
      have m4 : w4.cell? ⟨w2.heap.size, 4, none⟩ = some (.slice sa sn sc) := cell_atL hm4 4
      have HSi : Hid (Calls Try.prog 47 #[.agg #[.int .i64 nn.k, .int .i64 nn.w, .int .i64 nn.h, .int .i64 nn.i, .slice sa sn sc]] w4 fun e w' => e = .returned (.bool nn.ok) ∧ Below w4.heap.size w4 w') := sizes_good nn (by have := HCt.out; omega) _ fp w4 HIn4.out HSd.out.1 HSd.out.2
      have HI32 : Hid (nn.ids.length ≤ 1000) := by have := ids_cnt nn; have := HCt.out; show _ ≤ _; omega
      clear hio hsz hb4 hm4 HId
      go_wp2_with fail
      refine HSi.out.mono ?_
      rintro e w5 ⟨rfl, hb5⟩
      have HB5 : Hid (Below W3.heap.size W3 w5) := below_step HB4.out hb5
      have HIo5 : Hid (IOwns w5 W3.heap.size (.slice za sz zc) nn.ids) := HIo.out.below hb5
      obtain ⟨ok, hok⟩ : ∃ x, nn.ok = x := ⟨_, rfl⟩
      rw [hok]
      have HOk : Hid (nn.ok = ok) := hok
      clear hok hb5 HSi HIo m0 m1 m2 m3 m4 HIn4
      cases ok
      · have HFn : Hid (∀ v0 v1 v2 v3 v4, TreeGood l w _ (set5 w5 w.heap.size v0 v1 v2 v3 v4)) := HNo.out w5 (below_step HB3.out HB5.out) (by
          cases hr : readF l with
          | none => rfl
          | some t => have := (HRef.out t hr).2.1; rw [HOk.out] at this; cases this)
        obtain ⟨r0, r1, r2, r3, r4, f0, f1, f2, f3, f4⟩ := HRes.out w5 (below_step HB3.out HB5.out)
        go_wp2
        exact bodyPost_ret (v := .tuple #[.agg #[.int .i64 0, .int .i64 0, .int .i64 0, .int .i64 0, .slice none 0 0], .bool false]) (by simp [results, Try.results24, go_sem, r0, r1, r2, r3, r4]) rfl (HFn.out _ _ _ _ _)
      · have HTw : Hid (Calls Try.prog 48 #[.slice za sz zc] w5 fun e w' => e = .returned (.bool (!decide nn.ids.Nodup)) ∧ Below w5.heap.size w5 w') := twice_any _ _ _ w5 HIo5.out HI32.out
        go_wp2_with fail
        refine HTw.out.mono ?_
        rintro e w6 ⟨rfl, hb6⟩
        have HB6 : Hid (Below W3.heap.size W3 w6) := below_step HB5.out hb6
        obtain ⟨dd, hdd⟩ : ∃ x, decide nn.ids.Nodup = x := ⟨_, rfl⟩
        rw [hdd]
        have HDd : Hid (decide nn.ids.Nodup = dd) := hdd
        clear hdd hb6 HTw HIo5
        cases dd
        · have HFn : Hid (∀ v0 v1 v2 v3 v4, TreeGood l w _ (set5 w6 w.heap.size v0 v1 v2 v3 v4)) := HNo.out w6 (below_step HB3.out HB6.out) (by
            cases hr : readF l with
            | none => rfl
            | some t => exact absurd (HRef.out t hr).2.2.1 (of_decide_eq_false HDd.out))
          obtain ⟨r0, r1, r2, r3, r4, f0, f1, f2, f3, f4⟩ := HRes.out w6 (below_step HB3.out HB6.out)
          go_wp2
          exact bodyPost_ret (v := .tuple #[.agg #[.int .i64 0, .int .i64 0, .int .i64 0, .int .i64 0, .slice none 0 0], .bool false]) (by simp [results, Try.results24, go_sem, r0, r1, r2, r3, r4]) rfl (HFn.out _ _ _ _ _)
        · by_cases h32 : (32 : Int) < sz
          · have HFn : Hid (∀ v0 v1 v2 v3 v4, TreeGood l w _ (set5 w6 w.heap.size v0 v1 v2 v3 v4)) := HNo.out w6 (below_step HB3.out HB6.out) (by
              cases hr : readF l with
              | none => rfl
              | some t => have := (HRef.out t hr).2.2.2.1; have := HSzl.out; omega)
            obtain ⟨r0, r1, r2, r3, r4, f0, f1, f2, f3, f4⟩ := HRes.out w6 (below_step HB3.out HB6.out)
            go_wp2
            exact bodyPost_ret (v := .tuple #[.agg #[.int .i64 0, .int .i64 0, .int .i64 0, .int .i64 0, .slice none 0 0], .bool false]) (by simp [results, Try.results24, go_sem, r0, r1, r2, r3, r4]) rfl (HFn.out _ _ _ _ _)
          · have hm6 := HMk.out w6 HB6.out
            have m0 : w6.cell? ⟨w2.heap.size, 0, none⟩ = some (.int .i64 nn.k) := cell_atL hm6 0
            have m1 : w6.cell? ⟨w2.heap.size, 1, none⟩ = some (.int .i64 nn.w) := cell_atL hm6 1
            have m2 : w6.cell? ⟨w2.heap.size, 2, none⟩ = some (.int .i64 nn.h) := cell_atL hm6 2
            have m3 : w6.cell? ⟨w2.heap.size, 3, none⟩ = some (.int .i64 nn.i) := cell_atL hm6 3
            have m4 : w6.cell? ⟨w2.heap.size, 4, none⟩ = some (.slice sa sn sc) := cell_atL hm6 4
            have HIn6 : Hid (nn.In w6 (.slice sa sn sc) fp) := HIn3.out.below HB6.out
            have HLi : Hid (Calls Try.prog 49 #[.agg #[.int .i64 nn.k, .int .i64 nn.w, .int .i64 nn.h, .int .i64 nn.i, .slice sa sn sc]] w6 fun e w' => ∃ gb go gc, e = .returned (.slice (some ⟨gb, go, none⟩) n gc) ∧ SeenIn w' gb go (layN nn 0 0 0) ∧ Below w6.heap.size w6 w') := by
              refine (ref_list nn (by have := HCt.out; omega) HOk.out HSd.out.1 HSd.out.2 sa sn sc fp w6 HIn6.out).mono ?_
              rintro e w' ⟨u, rfl, h1, h2⟩
              have hne : layN nn 0 0 0 ≠ [] := by cases nn; unfold layN; simp
              obtain ⟨gb, go, gc, rfl, _, h3⟩ := h1.cellsIn.seen hne
              rw [layN_length, HCt.out]
              exact ⟨gb, go, gc, rfl, h3, h2⟩
            have HLl : Hid ((layN nn 0 0 0).length = n) := by show _ = _; rw [layN_length, HCt.out]
            clear hm6
            go_wp2_with fail
            refine HLi.out.mono ?_
            rintro e w7 ⟨gb, go, gc, rfl, hs7, hb7⟩
            have HS7 : Hid (SeenIn w7 gb go (layN nn 0 0 0)) := hs7
            have HB7 : Hid (Below W3.heap.size W3 w7) := below_step HB6.out hb7
            clear hs7 hb7 HLi m0 m1 m2 m3 m4
            go_wp2
            go_loopw [9] (fun v wr => ∃ i : Nat, i ≤ n ∧ v = .int .i64 i ∧ Hid ((layN nn 0 0 0).take i = l.take i) ∧ Hid (Below w7.heap.size w7 wr)) (fun v _ => n - (intOf v).toNat)
            case atStart => exact ⟨0, Nat.zero_le _, rfl, by simp [Hid], Below.refl _ _⟩
            case round =>
              obtain ⟨i, hi, rfl, HT, HBi⟩ := hrel
              have HBj : Hid (Below W3.heap.size W3 wr) := below_step HB7.out HBi.out
              by_cases hlt : i < n
              · obtain ⟨x, hx⟩ : ∃ x, (layN nn 0 0 0)[i]? = some x := ⟨_, List.getElem?_eq_getElem (by rw [HLl.out]; exact hlt)⟩
                obtain ⟨y, hy⟩ : ∃ y, l[i]? = some y := ⟨_, List.getElem?_eq_getElem (by rw [HN.out]; exact hlt)⟩
                obtain ⟨q0, q1, q2, q3, q4, q5, q6⟩ := (HS7.out.below HBi.out) i x hx
                obtain ⟨p0, p1, p2, p3, p4, p5, p6⟩ := (HS.out wr (below_step HB3.out HBj.out)) i y hy
                obtain ⟨eq, heq⟩ : ∃ z, ceEq x y = z := ⟨_, rfl⟩
                have hEq : ∀ W : World, (Op.equalIn 10000 35 (.agg #[.int .i64 x.depth, .int .i64 x.kind, .int .i64 x.x, .int .i64 x.y, .int .i64 x.w, .int .i64 x.h, .int .i64 x.p]) (.agg #[.int .i64 y.depth, .int .i64 y.kind, .int .i64 y.x, .int .i64 y.y, .int .i64 y.w, .int .i64 y.h, .int .i64 y.p])).run Try.prog W = .ok eq W := fun W => by
                  have := eqCe x y W
                  rw [heq] at this
                  exact this
                have HE : Hid (ceEq x y = eq) := heq
                have HX : Hid ((layN nn 0 0 0)[i]? = some x) := hx
                have HY : Hid (l[i]? = some y) := hy
                clear heq hx hy
                cases eq
                · have HRn : Hid (readF l = none) := by
                    show _ = _
                    cases hr : readF l with
                    | none => rfl
                    | some t =>
                      have h1 := (HRef.out t hr).2.2.2.2
                      exact absurd h1 (ne_of_at HX.out HY.out fun e => by rw [(ceEq_iff x y).2 e] at HE; cases HE.out)
                  go_wp2
                  go_quiet (fail)
                  have HFn : Hid (∀ v0 v1 v2 v3 v4, TreeGood l w _ (set5 (wr.drewN nq) w.heap.size v0 v1 v2 v3 v4)) := HNo.out (wr.drewN nq) (below_drewN (below_step HB3.out HBj.out) _) HRn.out
                  obtain ⟨r0, r1, r2, r3, r4, f0, f1, f2, f3, f4⟩ := HRes.out (wr.drewN nq) (below_drewN (below_step HB3.out HBj.out) _)
                  go_wp2
                  exact bodyPost_ret (v := .tuple #[.agg #[.int .i64 0, .int .i64 0, .int .i64 0, .int .i64 0, .slice none 0 0], .bool false]) (by simp [results, Try.results24, go_sem, r0, r1, r2, r3, r4]) rfl (HFn.out _ _ _ _ _)
                · go_wp2
                  go_quiet (fail)
                  go_wp2
                  go_roundw
                  case rel => exact ⟨i + 1, by omega, by go_num, take_succ_eq HT.out HX.out HY.out ((ceEq_iff x y).1 HE.out), below_drewN HBi.out _⟩
                  case measure => simp [intOf]; omega
              · have hin : i = n := by omega
                subst hin
                have HEq : Hid (layN nn 0 0 0 = l) := by
                  have h := HT.out
                  rwa [List.take_of_length_le (by rw [HLl.out]; exact Nat.le_refl _), List.take_of_length_le (by rw [HN.out]; exact Nat.le_refl _)] at h
                obtain ⟨t, ht1, ht2⟩ := ref_yes HOk.out HSd.out.1 HSd.out.2 (of_decide_eq_true HDd.out) (by have := HSzl.out; omega) HEq.out
                have hfp : ∀ q ∈ fp, q ≠ w.heap.size := HFp.out
                have HFy : Hid (∀ v0 v1 v2 v3 v4, TreeGood l w (.returned (.tuple #[.agg #[.int .i64 nn.k, .int .i64 nn.w, .int .i64 nn.h, .int .i64 nn.i, .slice sa sn sc], .bool true])) (set5 wr w.heap.size v0 v1 v2 v3 v4)) := fun v0 v1 v2 v3 v4 => by
                  refine ⟨set5_below (HB.out _ (below_step HB3.out HBj.out)) _ (Nat.le_refl _) _ _ _ _ _, .inr ⟨t, sa, sn, sc, fp, ht1, by rw [← ht2]; rfl, ?_⟩⟩
                  rw [← ht2]
                  exact (HIn3.out.below HBj.out).keep fun q hq => set5_block _ _ _ _ _ _ _ q (hfp q hq)
                obtain ⟨r0, r1, r2, r3, r4, f0, f1, f2, f3, f4⟩ := HRes.out wr (below_step HB3.out HBj.out)
                have hmr := HMk.out wr HBj.out
                have m0 : wr.cell? ⟨w2.heap.size, 0, none⟩ = some (.int .i64 nn.k) := cell_atL hmr 0
                have m1 : wr.cell? ⟨w2.heap.size, 1, none⟩ = some (.int .i64 nn.w) := cell_atL hmr 1
                have m2 : wr.cell? ⟨w2.heap.size, 2, none⟩ = some (.int .i64 nn.h) := cell_atL hmr 2
                have m3 : wr.cell? ⟨w2.heap.size, 3, none⟩ = some (.int .i64 nn.i) := cell_atL hmr 3
                have m4 : wr.cell? ⟨w2.heap.size, 4, none⟩ = some (.slice sa sn sc) := cell_atL hmr 4
                clear hmr hfp ht1 ht2
                go_wp2
                exact bodyPost_ret (v := .tuple #[.agg #[.int .i64 nn.k, .int .i64 nn.w, .int .i64 nn.h, .int .i64 nn.i, .slice sa sn sc], .bool true]) (by simp [results, Try.results24, go_sem, r0, r1, r2, r3, r4]) rfl (HFy.out _ _ _ _ _)

theorem tree_any (v : Value) (l : List CellV) (w : World) (h : CellsIn w v l) : Calls Try.prog 24 #[v] w (TreeGood l w) := by
  cases l with
  | nil =>
    obtain ⟨ad, cap, rfl⟩ := h.nil
    exact tree_empty ad cap w
  | cons c r =>
    obtain ⟨b, off, cap, rfl, _, hs⟩ := h.seen (by simp)
    by_cases hb : 64 < (c :: r).length ∨ c.depth ≠ 0 ∨ 1000 < c.w ∨ 1000 < c.h
    · refine tree_early c r b off _ cap w hs rfl ?_ hb
      cases hr : readF (c :: r) with
      | none => rfl
      | some t =>
        exfalso
        obtain ⟨h1, h2, h3, _⟩ := ref_steps hr rfl
        have h4 := (readF_lay hr).size
        omega
    · exact tree_main c r b off _ cap w hs rfl (by omega) (by omega) (by omega) (by omega)

end Go.Proofs.Ytlaelkcmeaiajaa
