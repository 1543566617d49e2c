/-
  Buffers: the document's: Set, all ways.
-/
import Derived.Test.YtgbaeajcgiaboaaDoorURfH
namespace Go.Proofs.YtgbaeajcgiaboaaDoor
open Go.RowKit
set_option linter.unusedVariables false
set_option maxRecDepth 100000

theorem set_keep {w W : World} {Q1 Q2 G : Nat} {v : Value} {lim c : Int} {l : List Kp} {xn text : ByteArray} {xa : Bool} (a b d : Value) (h : Bx w W Q1 Q2 v lim c l) (hG : W.heap[G]? = some (.cells #[.string xn, .string text, .bool xa] 87 (0, 0))) (hne : Q2 < G) :
    (((W.setCell ⟨Q2, 0, none⟩ a).setCell ⟨Q2, 1, none⟩ b).setCell ⟨Q2, 2, none⟩ d).cell? ⟨Q1, 0, none⟩ = some v ∧ (((W.setCell ⟨Q2, 0, none⟩ a).setCell ⟨Q2, 1, none⟩ b).setCell ⟨Q2, 2, none⟩ d).cell? ⟨Q1, 1, none⟩ = some (.int .i64 lim) ∧ (((W.setCell ⟨Q2, 0, none⟩ a).setCell ⟨Q2, 1, none⟩ b).setCell ⟨Q2, 2, none⟩ d).cell? ⟨Q1, 2, none⟩ = some (.int .i64 c) ∧ (((W.setCell ⟨Q2, 0, none⟩ a).setCell ⟨Q2, 1, none⟩ b).setCell ⟨Q2, 2, none⟩ d).cell? ⟨G, 0, none⟩ = some (.string xn) ∧ (((W.setCell ⟨Q2, 0, none⟩ a).setCell ⟨Q2, 1, none⟩ b).setCell ⟨Q2, 2, none⟩ d).cell? ⟨G, 1, none⟩ = some (.string text) ∧ (((W.setCell ⟨Q2, 0, none⟩ a).setCell ⟨Q2, 1, none⟩ b).setCell ⟨Q2, 2, none⟩ d).cell? ⟨G, 2, none⟩ = some (.bool xa) := by
  have e1 := put_other (put_other (put_other h.q1 h.ne 0 a) h.ne 1 b) h.ne 2 d
  have hgq : G ≠ Q2 := by omega
  have e2 := put_other (put_other (put_other hG hgq 0 a) hgq 1 b) hgq 2 d
  exact ⟨cell_at e1 0, cell_at e1 1, cell_at e1 2, cell_at e2 0, cell_at e2 1, cell_at e2 2⟩
set_option maxHeartbeats 16000000 in
theorem rSet_any {w : World} {v : Value} {s : St} {j : Nat} (h : ItsAt w v s.l) (hG : Good s j) (hj : j ≤ 1000000) (name text : ByteArray) (hnm : name.size ≤ 140737488355328) :
    Calls Tryd.prog 30 #[.agg #[v, .int .i64 (s.lim : Int), .int .i64 (s.c : Int)], .string name, .string text] w (SetPost w (setF s name text)) := by
  by_cases hlong : 65536 < text.size
  case neg =>
    by_cases hz : name.size = 0
    · have HF : setF s name text = (setAut s text, nm (nx s.l s.c), 0) := (if_neg hlong).trans (if_pos hz)
      rw [HF]
      exact rSetAut_any h hG hj name text hz hlong
    · obtain ⟨W2, Q1, Q2, hW2, hQ1, hQ2, hx⟩ := set_start h
      have HXQ := hidK hx
      have HWe := hidK hW2
      have HQ1 := hidK hQ1
      have HQ2 := hidK hQ2
      obtain ⟨ad, n0, cp, rfl⟩ := h.sl
      have hlen := hG.len
      have t1 : ¬ name.toList = [] := fun e => hz (size_toList.1 e)
      have t2 : name.toList.isEmpty = false := by simpa using t1
      have hi : ¬ (65536 : Int) < (text.size : Int) := by omega
      have HWd := hidK (fun W => refIsWord_any name W (by unfold maxLen; omega))
      by_cases hw : word name = false
      · have HF : Hid (setF s name text = (s, emp, 73)) := ((if_neg hlong).trans (if_neg hz)).trans (if_pos hw)
        rw [HF.out]
        have hw' : (nameB name && !has name 32) = false := hw
        rw [hw'] at HWd
        clear hlong hz hW2 hQ1 hQ2 hx h hG hw hw' hlen hnm
        go_enter Tryd.func30, Tryd.ntmps30
        go_wp2_with fail
        rw [HWe.out, HQ2.out, HQ1.out]
        clear HWe
        refine (HWd.out _).mono ?_
        rintro e w4 ⟨rfl, hb4⟩
        subst hb4
        obtain ⟨r0, r1, r2, y0, y1, y2, z0, z1, z2, z3, z4⟩ := HXQ.out.all
        go_wp2_with fail
        obtain ⟨g1, g2, g3⟩ := HXQ.out.told (lim' := (s.lim : Int)) (c' := (s.c : Int)) HXQ.out.its
        exact ret_cell3 rfl rfl g1 Tryd.underlying62 rfl infoRB rfl ⟨_, rfl, g2, g3⟩
      · have hw1 : word name = true := by simpa using hw
        have HF : Hid (setF s name text = nmdF s name text) := ((if_neg hlong).trans (if_neg hz)).trans (if_neg hw)
        rw [HF.out]
        have hw' : (nameB name && !has name 32) = true := hw1
        rw [hw'] at HWd
        have HAt : Hid (∀ W, Bx w W Q1 Q2 (.slice ad n0 cp) (s.lim : Int) (s.c : Int) s.l → Calls Tryd.prog 49 #[.agg #[.slice ad n0 cp, .int .i64 (s.lim : Int), .int .i64 (s.c : Int)], .string name] W fun e w' => e = .returned (.int .i64 (fidx (nmd name) s.l)) ∧ Below W.heap.size W w') := fun W hW => rAt_any hW.its _ _ name
        cases hf : s.l.findIdx? (nmd name) with
        | some k =>
          have hk := findIdx_lt hf
          have hfi := fidx_some hf
          obtain ⟨⟨xn, xt, xa⟩, hxk⟩ : ∃ q, s.l[k] = q := ⟨_, rfl⟩
          have hxn : xn = name := by
            obtain ⟨h1, h2, _⟩ := List.findIdx?_eq_some_iff_getElem.1 hf
            rw [hxk] at h2
            exact of_decide_eq_true h2
          subst hxn
          have HFk : Hid (nmdF s xn text = (setOld s xn text k xa, xn, 0)) := by
            show _ = _
            unfold nmdF
            rw [hf]
            simp only [List.getElem?_eq_getElem hk, hxk, Option.map_some, Option.getD_some]
          rw [HFk.out]
          unfold setOld
          rw [hfi] at HAt
          have hk0 : (0 : Int) ≤ (k : Int) := by omega
          have hkl : (k : Int) < (s.l.length : Int) := by omega
          obtain ⟨ad2, cp2, he, _, _, hnil, hsome⟩ := HXQ.out.its.shape
          cases he
          have HWo : Hid (∀ W, Bx w W Q1 Q2 (.slice ad s.l.length cp) (s.lim : Int) (s.c : Int) s.l → Calls Tryd.prog 54 #[.agg #[.slice ad s.l.length cp, .int .i64 (s.lim : Int), .int .i64 (s.c : Int)], .int .i64 (k : Int)] W fun e w' => ∃ v', e = .returned (.agg #[v', .int .i64 (s.lim : Int), .int .i64 (s.c : Int)]) ∧ ItsAt w' v' (s.l.eraseIdx k) ∧ Below W.heap.size W w') := fun W hW => rWithout_any hW.its _ _ k hk (by omega)
          have HAh : Hid (∀ W V, ItsAt W V (s.l.eraseIdx k) → Calls Tryd.prog 52 #[.agg #[V, .int .i64 (s.lim : Int), .int .i64 (s.c : Int)], .agg #[.string xn, .string text, .bool xa]] W fun e w' => ∃ v', e = .returned (.agg #[v', .int .i64 (s.lim : Int), .int .i64 (s.c : Int)]) ∧ ItsAt w' v' (⟨xn, text, xa⟩ :: s.l.eraseIdx k) ∧ Below W.heap.size W w') := fun W V hV => rAhead_any hV _ _ _ _ _ (by have := List.length_eraseIdx_le s.l k; omega)
          cases ad with
          | none => have := (hnil rfl).1; rw [this] at hk; simp at hk
          | some a =>
            obtain ⟨g0, o0, rfl, hob, hgl, hat⟩ := hsome _ rfl
            have HAt2 : Hid (∀ W, Below W2.heap.size W2 W → W.cell? ⟨g0, o0 + k * 3, none⟩ = some (.string xn) ∧ W.cell? ⟨g0, o0 + k * 3 + 1, none⟩ = some (.string xt) ∧ W.cell? ⟨g0, o0 + k * 3 + 2, none⟩ = some (.bool xa)) := fun W hW => ⟨(hat W (hW.block g0 hgl)).1 k hk 0 _ (by rw [hxk]; rfl), (hat W (hW.block g0 hgl)).1 k hk 1 _ (by rw [hxk]; rfl), (hat W (hW.block g0 hgl)).1 k hk 2 _ (by rw [hxk]; rfl)⟩
            clear hlong hz hW2 hQ1 hQ2 hx h hG hw hw' hw1 hf hfi hxk hnil hsome hob hgl hat hlen hnm hk
            go_enter Tryd.func30, Tryd.ntmps30
            go_wp2_with fail
            rw [HWe.out, HQ2.out, HQ1.out]
            clear HWe
            refine (HWd.out _).mono ?_
            rintro e w4 ⟨rfl, hb4⟩
            subst hb4
            obtain ⟨r0, r1, r2, y0, y1, y2, z0, z1, z2, z3, z4⟩ := HXQ.out.all
            go_wp2_with fail
            refine (HAt.out _ HXQ.out).mono ?_
            rintro e w5 ⟨rfl, hb5⟩
            have hB5 := HXQ.out.more hb5
            have HB5 := hidK hB5
            have q0 := hB5.all.1
            obtain ⟨k0, k1, k2⟩ := HAt2.out _ hb5
            obtain ⟨G, hG⟩ : ∃ G, w5.heap.size = G := ⟨_, rfl⟩
            obtain ⟨Z, hZ⟩ : ∃ Z, w5.alloc (.cells #[.string xn, .string xt, .bool xa] 87) = Z := ⟨_, rfl⟩
            have hz0 : Z.heap[G]? = some (.cells #[.string xn, .string xt, .bool xa] 87 (0, 0)) := by rw [← hZ, ← hG]; exact heap_alloc_new _ _
            have hbZ := hB5.more (W' := Z) (by rw [← hZ]; exact (Below.refl _ _).alloc (Nat.le_refl _) _)
            have hGQ : Q1 < G ∧ Q2 < G := by have := lt_block hB5.q1; have := lt_block hB5.q2; omega
            have hwG : w.heap.size ≤ G := by have := hB5.below.size; omega
            obtain ⟨Y, hY⟩ : ∃ Y, Z.setCell ⟨G, 1, none⟩ (.string text) = Y := ⟨_, rfl⟩
            have hy0 : Y.heap[G]? = some (.cells #[.string xn, .string text, .bool xa] 87 (0, 0)) := by rw [← hY]; exact put_at hz0 1 _
            have hbY : Bx w Y Q1 Q2 (.slice (some ⟨g0, o0, none⟩) s.l.length cp) (s.lim : Int) (s.c : Int) s.l := by
              rw [← hY]
              refine ⟨hbZ.below.setCell hwG _, hbZ.o1, hbZ.o2, hbZ.ne, put_other hbZ.q1 (by omega) _ _, put_other hbZ.q2 (by omega) _ _, ?_⟩
              refine Row.keep hbZ.its fun g hg => put_other rfl (fun e => ?_) _ _
              have := Row.lt hB5.its g hg
              omega
            have HBY := hidK hbY
            have HY0 := hidK hy0
            have f1 := free_at hz0 1
            have x1 := cell_at hz0 1
            clear hb5 hB5 hz0 hbZ hbY hy0 r0 r1 r2 y0 y1 y2 z0 z1 z2 z3 z4
            have HZe := hidK hZ
            have HGe := hidK hG
            clear hZ hG
            go_upto_region 14 with fail
            rw [HZe.out, HGe.out]
            clear HZe
            go_wp2_with fail
            refine wp_region_held_drew (S := (fun X => X.cell? ⟨Q1, 0, none⟩ = some (.slice (some ⟨g0, o0, none⟩) s.l.length cp) ∧ X.cell? ⟨Q1, 1, none⟩ = some (.int .i64 (s.lim : Int)) ∧ X.cell? ⟨Q1, 2, none⟩ = some (.int .i64 (s.c : Int)) ∧ X.cell? ⟨G, 0, none⟩ = some (.string xn) ∧ X.cell? ⟨G, 1, none⟩ = some (.string text) ∧ X.cell? ⟨G, 2, none⟩ = some (.bool xa))) (by kernel_rfl) ?sP (fun hHeld => ?_)
            case sP => ((try dsimp only); first | exact ⟨HBY.out.all.1, HBY.out.all.2.1, HBY.out.all.2.2.1, cell_at HY0.out 0, cell_at HY0.out 1, cell_at HY0.out 2⟩ | exact HSl.out)
            have HBn := hidK (HBY.out.more (Below.refl _ _).drew)
            have HYn : Hid ((World.drew Y).heap[G]? = some (.cells #[.string xn, .string text, .bool xa] 87 (0, 0))) := HY0.out
            clear HBY HY0
            have HBY := hidK HBn.out
            have HY0 := hidK HYn.out
            clear HBn HYn
            refine wpAnyH_take (i := 0) (oi := { dst := some 59, op := Op.load 62 (Operand.tmp 3), type := 62, pos := "ref.go:123", after := #[], guard := none }) (v := ?vP0n1) rfl (by kernel_rfl) (by kernel_rfl) (by kernel_rfl) (fun _ _ _ h => h) (Or.inl ⟨by rfl, ?yP0n1⟩) (by assumption) ?rP0n1
            case yP0n1 => (intro w hSw; (try dsimp only at hSw); first | (go_simp; done) | (go_simp; with_reducible rfl))
            try simp only [Act.put, List.setIfInBounds_toArray, List.set_cons_zero, List.set_cons_succ]
            refine wpAnyH_take (i := 1) (oi := { dst := some 60, op := Op.move (Operand.tmp 9), type := 3, pos := "ref.go:123", after := #[], guard := none }) (v := ?vP1n2) rfl (by kernel_rfl) (by kernel_rfl) (by kernel_rfl) (fun _ _ _ h => h) (Or.inl ⟨by rfl, ?yP1n2⟩) (by assumption) ?rP1n2
            case yP1n2 => (intro w hSw; (try dsimp only at hSw); first | (go_simp; done) | (go_simp; with_reducible rfl))
            try simp only [Act.put, List.setIfInBounds_toArray, List.set_cons_zero, List.set_cons_succ]
            refine wpAnyH_take (i := 3) (oi := { dst := some 62, op := Op.load 87 (Operand.tmp 10), type := 87, pos := "ref.go:123", after := #[], guard := none }) (v := ?vP3n3) rfl (by kernel_rfl) (by kernel_rfl) (by kernel_rfl) (fun _ _ _ h => h) (Or.inl ⟨by rfl, ?yP3n3⟩) (by assumption) ?rP3n3
            case yP3n3 => (intro w hSw; (try dsimp only at hSw); first | (go_simp; done) | (go_simp; with_reducible rfl))
            try simp only [Act.put, List.setIfInBounds_toArray, List.set_cons_zero, List.set_cons_succ]
            refine wpAnyH_take (i := 5) (oi := { dst := some 64, op := Op.move (Operand.tmp 1), type := 9, pos := "ref.go:123", after := #[{ on := 6, ground := Ground.gcOnly Departure.lateStores }], guard := none }) (v := ?vP5n4) rfl (by kernel_rfl) (by kernel_rfl) (by kernel_rfl) (fun _ _ _ h => h) (Or.inl ⟨by rfl, ?yP5n4⟩) (by assumption) ?rP5n4
            case yP5n4 => (intro w hSw; (try dsimp only at hSw); first | (go_simp; done) | (go_simp; with_reducible rfl))
            try simp only [Act.put, List.setIfInBounds_toArray, List.set_cons_zero, List.set_cons_succ]
            refine wpAnyH_ready (rs := [2]) (by kernel_rfl) (by simp) (AllReadyH.cons (o := { dst := some 61, op := Op.call { callee := Callee.value (Operand.func 54), args := #[Operand.tmp 59, Operand.tmp 60], argTypes := #[62, 3] }, type := 62, pos := "ref.go:123", after := #[{ on := 0, ground := Ground.data }, { on := 1, ground := Ground.data }], guard := none }) rfl (fun K hK => ?bPn5q0) AllReadyH.nil)
            go_simp
            go_wp2_with (refine (HWo.out _ HBY.out).mono ?_; rintro e w7 ⟨v7, rfl, h7, hb7⟩; have HBn := hidK (HBY.out.more hb7); have HYn := hidK ((hb7.block G (lt_block HY0.out)).trans HY0.out); obtain ⟨a7, n7, p7, rfl⟩ := h7.sl; have H7 := hidK h7; clear hb7 h7 HBY HY0; have HBY := hidK HBn.out; have HY0 := hidK HYn.out; clear HBn HYn)
            refine hK.out _ _ ?kPn5o2 (fun hHeld5 => ?_)
            case kPn5o2 => ((try dsimp only); first | exact ⟨HBY.out.all.1, HBY.out.all.2.1, HBY.out.all.2.2.1, cell_at HY0.out 0, cell_at HY0.out 1, cell_at HY0.out 2⟩ | exact HSl.out)
            clear hK K
            try simp only [Act.put, List.setIfInBounds_toArray, List.set_cons_zero, List.set_cons_succ]
            refine wpAnyH_ready (rs := [4]) (by kernel_rfl) (by simp) (AllReadyH.cons (o := { dst := some 63, op := Op.call { callee := Callee.value (Operand.func 52), args := #[Operand.tmp 61, Operand.tmp 62], argTypes := #[62, 87] }, type := 62, pos := "ref.go:123", after := #[{ on := 2, ground := Ground.data }, { on := 3, ground := Ground.data }, { on := 2, ground := Ground.chain }], guard := none }) rfl (fun K hK => ?bPn6q0) AllReadyH.nil)
            go_simp
            go_wp2_with (refine (HAh.out _ _ H7.out).mono ?_; rintro e w8 ⟨v8, rfl, h8, hb8⟩; have hbn := HBY.out.more hb8; have HBn := hidK hbn; have HYn := hidK ((hb8.block G (lt_block HY0.out)).trans HY0.out); obtain ⟨a8, n8, p8, rfl⟩ := h8.sl; have H8 := hidK h8; obtain ⟨b0, b1, b2, d0, d1, d2, f0, f1', f2, f3, f4⟩ := hbn.all; have HSl := hidK (set_keep (.slice a8 n8 p8) (.int .i64 (s.lim : Int)) (.int .i64 (s.c : Int)) hbn HYn.out hGQ.2); clear hb8 h8 HBY HY0 hbn; have HBY := hidK HBn.out; have HY0 := hidK HYn.out; clear HBn HYn)
            refine hK.out _ _ ?kPn6o4 (fun hHeld6 => ?_)
            case kPn6o4 => ((try dsimp only); first | exact ⟨HBY.out.all.1, HBY.out.all.2.1, HBY.out.all.2.2.1, cell_at HY0.out 0, cell_at HY0.out 1, cell_at HY0.out 2⟩ | exact HSl.out)
            clear hK K
            try simp only [Act.put, List.setIfInBounds_toArray, List.set_cons_zero, List.set_cons_succ]
            refine wpAnyH_ready (rs := [6]) (by kernel_rfl) (by simp) (AllReadyH.cons (o := { dst := none, op := Op.store 62 (Operand.tmp 6) (Operand.tmp 63), type := 0, pos := "ref.go:123", after := #[{ on := 4, ground := Ground.data }, { on := 4, ground := Ground.chain }, { on := 0, ground := Ground.phase }, { on := 1, ground := Ground.phase }, { on := 2, ground := Ground.phase }, { on := 3, ground := Ground.phase }, { on := 4, ground := Ground.phase }, { on := 5, ground := Ground.textOnly Departure.lateStores }], guard := none }) rfl (fun K hK => ?bPn7q0) AllReadyH.nil)
            go_simp
            refine hK.out _ _ ?kPn7o6 (fun hHeld7 => ?_)
            case kPn7o6 => ((try dsimp only); first | exact ⟨HBY.out.all.1, HBY.out.all.2.1, HBY.out.all.2.2.1, cell_at HY0.out 0, cell_at HY0.out 1, cell_at HY0.out 2⟩ | exact HSl.out)
            clear hK K
            skip
            try simp only [Act.put, List.setIfInBounds_toArray, List.set_cons_zero, List.set_cons_succ]
            refine wpAnyH_take (i := 7) (oi := { dst := some 7, op := Op.assign (Operand.tmp 64), type := 9, pos := "ref.go:123", after := #[{ on := 5, ground := Ground.data }, { on := 6, ground := Ground.chain }, { on := 0, ground := Ground.phase }, { on := 1, ground := Ground.phase }, { on := 2, ground := Ground.phase }, { on := 3, ground := Ground.phase }, { on := 4, ground := Ground.phase }, { on := 5, ground := Ground.phase }, { on := 6, ground := Ground.phase }], guard := none }) (v := ?vP7n8) rfl (by kernel_rfl) (by kernel_rfl) (by kernel_rfl) (fun _ _ _ h => h) (Or.inl ⟨by rfl, ?yP7n8⟩) (by assumption) ?rP7n8
            case yP7n8 => (intro w hSw; (try dsimp only at hSw); first | (go_simp; done) | (go_simp; with_reducible rfl))
            try simp only [Act.put, List.setIfInBounds_toArray, List.set_cons_zero, List.set_cons_succ]
            refine wpAnyH_take (i := 8) (oi := { dst := some 8, op := Op.assign (Operand.const (Value.int IntKind.i64 0)), type := 3, pos := "ref.go:123", after := #[{ on := 7, ground := Ground.chain }, { on := 0, ground := Ground.phase }, { on := 1, ground := Ground.phase }, { on := 2, ground := Ground.phase }, { on := 3, ground := Ground.phase }, { on := 4, ground := Ground.phase }, { on := 5, ground := Ground.phase }, { on := 6, ground := Ground.phase }, { on := 7, ground := Ground.phase }], guard := none }) (v := ?vP8n9) rfl (by kernel_rfl) (by kernel_rfl) (by kernel_rfl) (fun _ _ _ h => h) (Or.inl ⟨by rfl, ?yP8n9⟩) (by assumption) ?rP8n9
            case yP8n9 => (intro w hSw; (try dsimp only at hSw); first | (go_simp; done) | (go_simp; with_reducible rfl))
            try simp only [Act.put, List.setIfInBounds_toArray, List.set_cons_zero, List.set_cons_succ]
            refine wpAnyH_done (by kernel_rfl) ?_ _
            go_wp2_with fail
            obtain ⟨g1, g2, g3⟩ := HBY.out.told (lim' := (s.lim : Int)) (c' := (s.c : Int)) H8.out
            exact ret_cell3 rfl rfl g1 Tryd.underlying62 rfl infoRB rfl ⟨_, rfl, g2, g3⟩
        | none =>
          have hfi := fidx_none hf
          rw [hfi] at HAt
          have HCo : Hid (∀ W, Bx w W Q1 Q2 (.slice ad n0 cp) (s.lim : Int) (s.c : Int) s.l → Calls Tryd.prog 55 #[.agg #[.slice ad n0 cp, .int .i64 (s.lim : Int), .int .i64 (s.c : Int)], .bool false] W fun e w' => e = .returned (.int .i64 ((named s.l : Nat) : Int)) ∧ Below W.heap.size W w') := fun W hW => rCount_any hW.its _ _ false
          have HAh : Hid (∀ W, Bx w W Q1 Q2 (.slice ad n0 cp) (s.lim : Int) (s.c : Int) s.l → Calls Tryd.prog 52 #[.agg #[.slice ad n0 cp, .int .i64 (s.lim : Int), .int .i64 (s.c : Int)], .agg #[.string name, .string text, .bool false]] W fun e w' => ∃ v', e = .returned (.agg #[v', .int .i64 (s.lim : Int), .int .i64 (s.c : Int)]) ∧ ItsAt w' v' (⟨name, text, false⟩ :: s.l) ∧ Below W.heap.size W w') := fun W hW => rAhead_any hW.its _ _ _ _ _ (by omega)
          have hnl : named s.l ≤ s.l.length := cnt_le false s.l
          obtain ⟨Nm, hNm⟩ : ∃ N, named s.l = N := ⟨_, rfl⟩
          have HNm := hidK hNm
          rw [hNm] at HCo hnl
          obtain ⟨R, hR⟩ : ∃ R, nmdF s name text = R := ⟨_, rfl⟩
          have HR : Hid (R = if 20 ≤ Nm then (s, emp, 3) else (setNew s name text, name, 0)) := by
            show _ = _
            rw [← hR, ← hNm]
            unfold nmdF
            rw [hf]
          rw [hR]
          clear hlong hz hW2 hQ1 hQ2 hx h hG hw hw' hw1 hf hfi hnm hNm hR
          go_enter Tryd.func30, Tryd.ntmps30
          go_wp2_with fail
          rw [HWe.out, HQ2.out, HQ1.out]
          clear HWe
          refine (HWd.out _).mono ?_
          rintro e w4 ⟨rfl, hb4⟩
          subst hb4
          obtain ⟨r0, r1, r2, y0, y1, y2, z0, z1, z2, z3, z4⟩ := HXQ.out.all
          go_wp2_with fail
          refine (HAt.out _ HXQ.out).mono ?_
          rintro e w5 ⟨rfl, hb5⟩
          have HB5 := hidK (HXQ.out.more hb5)
          clear hb5 r0 r1 r2 y0 y1 y2 z0 z1 z2 z3 z4
          obtain ⟨r0, r1, r2, y0, y1, y2, z0, z1, z2, z3, z4⟩ := HB5.out.all
          go_wp2_with fail
          refine (HCo.out _ HB5.out).mono ?_
          rintro e w6 ⟨rfl, hb6⟩
          have HB6 := hidK (HB5.out.more hb6)
          clear hb6 r0 r1 r2 y0 y1 y2 z0 z1 z2 z3 z4
          obtain ⟨r0, r1, r2, y0, y1, y2, z0, z1, z2, z3, z4⟩ := HB6.out.all
          by_cases hfull : 20 ≤ Nm
          · have HR2 : Hid (R = (s, emp, 3)) := by show _ = _; rw [HR.out, if_pos hfull]
            have hfi : (20 : Int) ≤ (Nm : Int) := by omega
            go_wp2_with fail
            obtain ⟨g1, g2, g3⟩ := HB6.out.told (lim' := (s.lim : Int)) (c' := (s.c : Int)) HB6.out.its
            exact ret_cell3 rfl rfl g1 Tryd.underlying62 rfl infoRB rfl (by rw [HR2.out]; exact ⟨_, rfl, g2, g3⟩)
          · have HR2 : Hid (R = (setNew s name text, name, 0)) := by show _ = _; rw [HR.out, if_neg hfull]
            have hfi : ¬ (20 : Int) ≤ (Nm : Int) := by omega
            go_wp2_with fail
            refine (HAh.out _ HB6.out).mono ?_
            rintro e w8 ⟨v8, rfl, h8, hb8⟩
            have HB8 := hidK (HB6.out.more hb8)
            obtain ⟨a8, n8, p8, rfl⟩ := h8.sl
            have H8 := hidK h8
            clear hb8 h8 r0 r1 r2 y0 y1 y2 z0 z1 z2 z3 z4
            obtain ⟨r0, r1, r2, y0, y1, y2, z0, z1, z2, z3, z4⟩ := HB8.out.all
            go_wp2_with fail
            obtain ⟨g1, g2, g3⟩ := HB8.out.told (lim' := (s.lim : Int)) (c' := (s.c : Int)) H8.out
            exact ret_cell3 rfl rfl g1 Tryd.underlying62 rfl infoRB rfl (by rw [HR2.out]; exact ⟨_, rfl, g2, g3⟩)
  case pos =>
    obtain ⟨W2, Q1, Q2, hW2, hQ1, hQ2, hx⟩ := set_start h
    have HXQ := hidK hx
    have HWe := hidK hW2
    have HQ1 := hidK hQ1
    have HQ2 := hidK hQ2
    obtain ⟨ad, n0, cp, rfl⟩ := h.sl
    have HF : Hid (setF s name text = (s, emp, 2)) := if_pos hlong
    rw [HF.out]
    have hi : (65536 : Int) < (text.size : Int) := by omega
    obtain ⟨r0, r1, r2, y0, y1, y2, z0, z1, z2, z3, z4⟩ := HXQ.out.all
    clear hlong hW2 hQ1 hQ2 hx h hG
    go_enter Tryd.func30, Tryd.ntmps30
    go_upto_region 1 with fail
    rw [HWe.out, HQ2.out, HQ1.out]
    clear HWe
    go_wp2_with fail
    obtain ⟨g1, g2, g3⟩ := HXQ.out.told (lim' := (s.lim : Int)) (c' := (s.c : Int)) HXQ.out.its
    exact ret_cell3 rfl rfl g1 Tryd.underlying62 rfl infoRB rfl ⟨_, rfl, g2, g3⟩
end Go.Proofs.YtgbaeajcgiaboaaDoor
