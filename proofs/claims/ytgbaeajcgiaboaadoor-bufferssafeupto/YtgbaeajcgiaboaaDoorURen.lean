/-
  Buffers: Rename, the program's.
-/
import Derived.Test.YtgbaeajcgiaboaaDoorUList
import Derived.Deep.DeepCutAuto
namespace Go.Proofs.YtgbaeajcgiaboaaDoor
open Go.RowKit
set_option linter.unusedVariables false
set_option maxRecDepth 100000

theorem cells_name : ∀ (l : List Kp) (k : Nat) (hk : k < l.length) (tw : ByteArray), (cellsK l).set (k * 3) (.string tw) = cellsK (l.set k ⟨tw, l[k].t, l[k].a⟩)
  | ⟨n, t, a⟩ :: l, 0, _, tw => rfl
  | ⟨n, t, a⟩ :: l, k + 1, hk, tw => by
    have ih := cells_name l k (by simpa using hk) tw
    rw [show (k + 1) * 3 = k * 3 + 3 by omega]
    show Value.string n :: .string t :: .bool a :: (cellsK l).set (k * 3) (.string tw) = _
    rw [ih]
    rfl
theorem cells_auto : ∀ (l : List Kp) (k : Nat) (hk : k < l.length) (x : Bool), (cellsK l).set (k * 3 + 2) (.bool x) = cellsK (l.set k ⟨l[k].n, l[k].t, x⟩)
  | ⟨n, t, a⟩ :: l, 0, _, x => rfl
  | ⟨n, t, a⟩ :: l, k + 1, hk, x => by
    have ih := cells_auto l k (by simpa using hk) x
    rw [show (k + 1) * 3 + 2 = k * 3 + 2 + 3 by omega]
    show Value.string n :: .string t :: .bool a :: (cellsK l).set (k * 3 + 2) (.bool x) = _
    rw [ih]
    rfl
/-- A cell of the stack written over. -/
theorem Bf.put {w : World} {b g o n cp : Nat} {l l' : List Kp} {lim c : Int} (h : Bf w b (.slice (some ⟨g, o, none⟩) n cp) l lim c) (hn : l.length = n) {j : Nat} (hj : j < n * 3) (u : Value) (hl : cellsK l' = (cellsK l).set j u) (hl2 : l'.length = n) : Bf (w.setCell ⟨g, o + j, none⟩ u) b (.slice (some ⟨g, o, none⟩) n cp) l' lim c ∧ Stp w (w.setCell ⟨g, o + j, none⟩ u) b (.slice (some ⟨g, o, none⟩) n cp) (.slice (some ⟨g, o, none⟩) n cp) := by
  have hr := h.row
  unfold KpsAt at hr
  rw [hn] at hr
  refine ⟨⟨put_other h.hd (h.ne g rfl) _ _, ?_⟩, ⟨(But.refl _ _).setCell (p := ⟨g, o + j, none⟩) (.inl (by simp [Value.ownBlock])) u, fun q hq => .inl hq⟩⟩
  unfold KpsAt
  rw [hl2, hl]
  exact Row.set hr hj u
set_option maxHeartbeats 8000000 in
theorem rename_op {w : World} {b : Nat} {v : Value} {s : St} {j : Nat} (h : Bf w b v s.l (s.lim : Int) (s.c : Int)) (hG : Good s j) (name tw : ByteArray) (hto : tw.size ≤ 140737488355328) :
    Calls Tryd.prog 19 #[.pointer (some ⟨b, 0, none⟩), .string name, .string tw] w fun e w' => e = .returned (.int .i64 (renF s name tw).2) ∧ ∃ v', Bf w' b v' (renF s name tw).1.l ((renF s name tw).1.lim : Int) ((renF s name tw).1.c : Int) ∧ Stp w w' b v v' := by
  have HFi := hidK (find_any h name)
  have HH := hidK h
  have hlen := hG.len
  have hlt := h.lt
  have HP : Hid (∀ (W : World) (V : Value), Bf W b V s.l (s.lim : Int) (s.c : Int) → Calls Tryd.prog 38 #[.pointer (some ⟨b, 0, none⟩), .string tw] W fun e w' => e = .returned (.int .i64 (fidx (nmd tw) s.l)) ∧ Below W.heap.size W w') := fun W V hV => place_any hV tw
  have HWd := hidK (fun W => isWord_any tw W (by unfold maxLen; omega))
  obtain ⟨ad, cp, rfl⟩ := h.slice
  have hge := fidx_ge (nmd tw) s.l
  have hl2 := fidx_lt (nmd tw) s.l
  have HCl := hidK (fun W => clone_any tw W hto)
  clear h hG hto
  cases hm : mnt name s.l with
  | none =>
    have HF : Hid (renF s name tw = (s, 240)) := by show _ = _; unfold renF; rw [hm]
    rw [HF.out]
    have h1 : mntI name s.l = 0 := by unfold mntI; rw [hm]
    have h2 : mntE name s.l = 240 := by unfold mntE; rw [hm]
    rw [h1, h2] at HFi
    obtain ⟨I, hI⟩ : ∃ I, fidx (nmd tw) s.l = I := ⟨_, rfl⟩
    rw [hI] at HP hge hl2
    clear hm h1 h2 hI
    go_enter Tryd.func19, Tryd.ntmps19
    go_wp2_with fail
    refine HFi.out.mono ?_
    rintro e w1 ⟨rfl, hb1⟩
    have HB1 := hidK hb1
    clear hb1
    go_wp2_with fail
    refine (HP.out _ _ (HH.out.below HB1.out)).mono ?_
    rintro e w2 ⟨rfl, hb2⟩
    have HB2 := hidK (HB1.out.trans (hb2.mono HB1.out.size))
    clear hb2
    go_wp2_with fail
    go_ret
    exact ⟨rfl, _, HH.out.below HB2.out, Stp.behind (Stp.refl _ _ _) HB2.out⟩
  | some k =>
    have hk := mnt_lt hm
    have h1 : mntI name s.l = (k : Int) := by unfold mntI; rw [hm]
    have h2 : mntE name s.l = 0 := by unfold mntE; rw [hm]
    rw [h1, h2] at HFi
    obtain ⟨I, hI⟩ : ∃ I, fidx (nmd tw) s.l = I := ⟨_, rfl⟩
    rw [hI] at HP hge hl2
    have HI := hidK hI
    clear h1 h2 hI
    by_cases hw : word tw = false
    · have HF : Hid (renF s name tw = (s, 73)) := by show _ = _; unfold renF; rw [hm]; exact if_pos hw
      rw [HF.out]
      have hw' : (nameB tw && !has tw 32) = false := hw
      rw [hw'] at HWd
      clear hm hw hw' hk
      go_enter Tryd.func19, Tryd.ntmps19
      go_wp2_with fail
      refine HFi.out.mono ?_
      rintro e w1 ⟨rfl, hb1⟩
      have HB1 := hidK hb1
      clear hb1
      go_wp2_with fail
      refine (HP.out _ _ (HH.out.below HB1.out)).mono ?_
      rintro e w2 ⟨rfl, hb2⟩
      have HB2 := hidK (HB1.out.trans (hb2.mono HB1.out.size))
      clear hb2
      go_wp2_with fail
      refine (HWd.out _).mono ?_
      rintro e w3 ⟨rfl, hw3⟩
      replace hw3 := hw3.symm
      subst hw3
      go_wp2_with fail
      go_ret
      exact ⟨rfl, _, HH.out.below HB2.out, Stp.behind (Stp.refl _ _ _) HB2.out⟩
    · have hw1 : word tw = true := by simpa using hw
      have hw' : (nameB tw && !has tw 32) = true := hw1
      rw [hw'] at HWd
      by_cases ht : 0 ≤ I ∧ I ≠ (k : Int)
      · have HF : Hid (renF s name tw = (s, 74)) := by show _ = _; unfold renF; rw [hm]; simp only [hw, HI.out]; exact if_pos ht
        rw [HF.out]
        obtain ⟨t1, t2⟩ := ht
        have t3 : (I == (k : Int)) = false := by simpa using t2
        have t4 : (I != (k : Int)) = true := by simpa using t2
        clear hm hw hw' hw1 hk
        go_enter Tryd.func19, Tryd.ntmps19
        go_wp2_with fail
        refine HFi.out.mono ?_
        rintro e w1 ⟨rfl, hb1⟩
        have HB1 := hidK hb1
        clear hb1
        go_wp2_with fail
        refine (HP.out _ _ (HH.out.below HB1.out)).mono ?_
        rintro e w2 ⟨rfl, hb2⟩
        have HB2 := hidK (HB1.out.trans (hb2.mono HB1.out.size))
        clear hb2
        go_wp2_with fail
        refine (HWd.out _).mono ?_
        rintro e w3 ⟨rfl, hw3⟩
        replace hw3 := hw3.symm
        subst hw3
        go_wp2_with fail
        all_goals first | (exfalso; omega) | skip
        go_ret
        exact ⟨rfl, _, HH.out.below HB2.out, Stp.behind (Stp.refl _ _ _) HB2.out⟩
      · obtain ⟨⟨xn, xt, xa⟩, hx⟩ : ∃ q, s.l[k] = q := ⟨_, rfl⟩
        have ex : s.l[k]? = some ⟨xn, xt, xa⟩ := by rw [List.getElem?_eq_getElem hk, hx]
        have hnt : I < 0 ∨ I = (k : Int) := by
          rcases Int.lt_or_le I 0 with z | z
          · exact .inl z
          · exact .inr (Classical.byContradiction fun z2 => ht ⟨z, z2⟩)
        obtain ⟨ad2, cp2, he, _, _, hnil, hsome⟩ := HH.out.row.shape
        cases he
        have HFull : Hid (∀ (W : World) (V : Value), Bf W b V s.l (s.lim : Int) (s.c : Int) → Calls Tryd.prog 39 #[.pointer (some ⟨b, 0, none⟩)] W fun e w' => e = .returned (.bool (decide (20 ≤ named s.l))) ∧ Below W.heap.size W w') := fun W V hV => isFull_any hV
        cases ad with
        | none => have := (hnil rfl).1; rw [this] at hk; simp at hk
        | some a =>
          obtain ⟨g0, o0, rfl, hob, hgl, hat⟩ := hsome _ rfl
          have HAt : Hid (∀ W : World, Below w.heap.size w W → W.cell? ⟨b, 0, none⟩ = some (.slice (some ⟨g0, o0, none⟩) s.l.length cp) ∧ W.cell? ⟨g0, o0 + k * 3 + 2, none⟩ = some (.bool xa)) := fun W hW =>
            ⟨cell_at (HH.out.below hW).hd 0, hat W (hW.block g0 hgl) k hk 2 _ (by rw [hx]; rfl)⟩
          have hkl : (k : Int) < (s.l.length : Int) := by omega
          obtain ⟨n, hn⟩ : ∃ n, s.l.length = n := ⟨_, rfl⟩
          have HN := hidK hn
          have hseg : Hid (∀ W : World, Below w.heap.size w W → (Bf (W.setCell ⟨g0, o0 + k * 3, none⟩ (.string tw)) b (.slice (some ⟨g0, o0, none⟩) s.l.length cp) (s.l.set k ⟨tw, xt, xa⟩) (s.lim : Int) (s.c : Int) ∧ Stp w (W.setCell ⟨g0, o0 + k * 3, none⟩ (.string tw)) b (.slice (some ⟨g0, o0, none⟩) s.l.length cp) (.slice (some ⟨g0, o0, none⟩) s.l.length cp))) := fun W hW => by
            have hp := (HH.out.below hW).put rfl (j := k * 3) (l' := s.l.set k ⟨tw, xt, xa⟩) (by omega) (.string tw) (by rw [cells_name _ _ hk, hx]) (by rw [List.length_set])
            exact ⟨hp.1, Stp.ahead hW hp.2⟩
          have hseg2 : Hid (∀ W : World, Bf W b (.slice (some ⟨g0, o0, none⟩) s.l.length cp) (s.l.set k ⟨tw, xt, xa⟩) (s.lim : Int) (s.c : Int) → (Bf (W.setCell ⟨g0, o0 + k * 3 + 2, none⟩ (.bool false)) b (.slice (some ⟨g0, o0, none⟩) s.l.length cp) (s.l.set k ⟨tw, xt, false⟩) (s.lim : Int) (s.c : Int) ∧ Stp W (W.setCell ⟨g0, o0 + k * 3 + 2, none⟩ (.bool false)) b (.slice (some ⟨g0, o0, none⟩) s.l.length cp) (.slice (some ⟨g0, o0, none⟩) s.l.length cp))) := fun W hW => by
            have := hW.put (by rw [List.length_set]) (j := k * 3 + 2) (l' := s.l.set k ⟨tw, xt, false⟩) (by omega) (.bool false) (by rw [cells_auto _ _ (by rw [List.length_set]; exact hk)]; simp) (by rw [List.length_set])
            rwa [← Nat.add_assoc] at this
          have hfree : Hid (∀ W : World, Below w.heap.size w W → W.cell? ⟨g0, o0 + k * 3, none⟩ = some (.string xn) ∧ W.frozen? ⟨g0, o0 + k * 3, none⟩ = false) := fun W hW => by
            obtain ⟨cur, hc⟩ := Row.block (HH.out.below hW).row hob
            exact ⟨hat W (hW.block g0 hgl) k hk 0 _ (by rw [hx]; rfl), free_at hc _⟩
          have hfree2 : Hid (∀ W : World, Bf W b (.slice (some ⟨g0, o0, none⟩) s.l.length cp) (s.l.set k ⟨tw, xt, xa⟩) (s.lim : Int) (s.c : Int) → W.cell? ⟨b, 0, none⟩ = some (.slice (some ⟨g0, o0, none⟩) s.l.length cp) ∧ W.cell? ⟨g0, o0 + k * 3 + 2, none⟩ = some (.bool xa) ∧ W.frozen? ⟨g0, o0 + k * 3 + 2, none⟩ = false) := fun W hW => by
            obtain ⟨cur, hc⟩ := Row.block hW.row hob
            obtain ⟨ad3, cp3, he3, _, _, _, hs3⟩ := hW.row.shape
            rw [List.length_set] at he3
            cases he3
            obtain ⟨g3, o3, e3, _, hg3, hat3⟩ := hs3 _ rfl
            cases e3
            exact ⟨cell_at hW.hd 0, hat3 W rfl k (by rw [List.length_set]; exact hk) 2 _ (by simp [encK]), free_at hc _⟩
          clear hnil hsome hat hob hgl hn
          by_cases hfull : xa = true ∧ 20 ≤ named s.l
          · have HF : Hid (renF s name tw = (s, 3)) := by show _ = _; unfold renF; rw [hm]; simp only [hw, HI.out, if_neg ht, ex, Option.map_some, Option.getD_some]; exact if_pos hfull
            rw [HF.out]
            obtain ⟨rfl, hf2⟩ := hfull
            rw [decide_eq_true hf2] at HFull
            clear hm hw hw' hw1 hx ex ht hseg hseg2 hfree hfree2 hk
            go_enter Tryd.func19, Tryd.ntmps19
            go_wp2_with fail
            refine HFi.out.mono ?_
            rintro e w1 ⟨rfl, hb1⟩
            have HB1 := hidK hb1
            clear hb1
            go_wp2_with fail
            refine (HP.out _ _ (HH.out.below HB1.out)).mono ?_
            rintro e w2 ⟨rfl, hb2⟩
            have HB2 := hidK (HB1.out.trans (hb2.mono HB1.out.size))
            obtain ⟨c0, c2⟩ := HAt.out _ HB2.out
            clear hb2
            go_wp2_with fail
            refine (HWd.out _).mono ?_
            rintro e w3 ⟨rfl, hw3⟩
            replace hw3 := hw3.symm
            subst hw3
            go_wp2_with (refine (HFull.out _ _ (HH.out.below HB2.out)).mono ?_; rintro e w4 ⟨rfl, hb4⟩; have HB4 := hidK (HB2.out.trans (hb4.mono HB2.out.size)); clear hb4)
            all_goals first | (exfalso; omega) | skip
            all_goals go_ret
            all_goals exact ⟨rfl, _, HH.out.below HB4.out, Stp.behind (Stp.refl _ _ _) HB4.out⟩
          · have HF : Hid (renF s name tw = (⟨s.l.set k ⟨tw, xt, false⟩, s.lim, s.c⟩, 0)) := by show _ = _; unfold renF renAt; rw [hm]; simp only [hw, HI.out, if_neg ht, ex, Option.map_some, Option.getD_some]; exact if_neg hfull
            rw [HF.out]
            have hfb : xa = false ∨ decide (20 ≤ named s.l) = false := by
              cases xa
              · exact .inl rfl
              · exact .inr (decide_eq_false fun z => hfull ⟨rfl, z⟩)
            have hseg3 : Hid (∀ W : World, Below w.heap.size w W → W.cell? ⟨g0, o0 + k * 3 + 2, none⟩ = some (.bool xa)) := fun W hW => (HAt.out W hW).2
            clear hm hw hw' hw1 hx ex ht hfull hk
            go_enter Tryd.func19, Tryd.ntmps19
            go_wp2_with fail
            refine HFi.out.mono ?_
            rintro e w1 ⟨rfl, hb1⟩
            have HB1 := hidK hb1
            clear hb1
            go_wp2_with fail
            refine (HP.out _ _ (HH.out.below HB1.out)).mono ?_
            rintro e w2 ⟨rfl, hb2⟩
            have HB2 := hidK (HB1.out.trans (hb2.mono HB1.out.size))
            obtain ⟨c0, c2⟩ := HAt.out _ HB2.out
            clear hb2
            go_wp2_with fail
            refine (HWd.out _).mono ?_
            rintro e w3 ⟨rfl, hw3⟩
            replace hw3 := hw3.symm
            subst hw3
            go_upto_region 7 with fail
            go_cut [27] (fun v X => v = .bool false ∧ w2 = X)
            case first =>
              rcases hnt with z | z
              · have hz : ¬ 0 ≤ I := by omega
                go_wp2_with fail
                go_meet
                case rel => exact ⟨rfl, rfl⟩
              · have hz : 0 ≤ I := by omega
                have hz2 : (I == (k : Int)) = true := by simpa using z
                have hz3 : (I != (k : Int)) = false := by simpa using z
                go_wp2_with fail
                all_goals first | (exfalso; omega) | skip
                go_meet
                case rel => exact ⟨rfl, rfl⟩
            case rest =>
              obtain ⟨rfl, rfl⟩ := hcut
              clear hnt hge hl2
              go_upto_region 9 with fail
              go_cut [35] (fun v X => v = .bool false ∧ Hid (Below w.heap.size w X))
              case first =>
                rcases hfb with rfl | hfb
                · go_wp2_with fail
                  go_meet
                  case rel => exact ⟨rfl, HB2⟩
                · rw [hfb] at HFull
                  cases xa with
                  | false =>
                    go_wp2_with fail
                    go_meet
                    case rel => exact ⟨rfl, HB2⟩
                  | true =>
                    go_wp2_with (refine (HFull.out _ _ (HH.out.below HB2.out)).mono ?_; rintro e w4 ⟨rfl, hb4⟩; have HB4 := hidK (HB2.out.trans (hb4.mono HB2.out.size)); clear hb4)
                    go_meet
                    case rel => exact ⟨rfl, HB4⟩
              case rest =>
                obtain ⟨rfl, HBc⟩ := hcut
                obtain ⟨d0, d2⟩ := HAt.out _ HBc.out
                clear c0 c2 hfb HFull HP
                go_wp2_with fail
                refine wp_region_any (by kernel_rfl) ?_
                try (change wpAny _ _ _ _ _ _ _ (World.drew _))
                refine wpAny_take (i := 0) (oi := { dst := some 48, op := Op.move (Operand.tmp 0), type := 23, pos := "buffers.go:170", after := #[], guard := none }) (v := ?vP0n1) rfl (by kernel_rfl) (by kernel_rfl) (by kernel_rfl) (fun _ _ _ h => h) (Or.inl ⟨by rfl, ?yP0n1⟩) ?rP0n1
                case yP0n1 => (intro w; first | (go_simp; done) | (go_simp; with_reducible rfl))
                try simp only [Act.put, List.setIfInBounds_toArray, List.set_cons_zero, List.set_cons_succ]
                refine wpAny_take (i := 1) (oi := { dst := some 49, op := Op.nilCheck (Operand.tmp 48), type := 0, pos := "buffers.go:170", after := #[{ on := 0, ground := Ground.data }], guard := none }) (v := ?vP1n2) rfl (by kernel_rfl) (by kernel_rfl) (by kernel_rfl) (fun _ _ _ h => h) (Or.inl ⟨by rfl, ?yP1n2⟩) ?rP1n2
                case yP1n2 => (intro w; first | (go_simp; done) | (go_simp; with_reducible rfl))
                try simp only [Act.put, List.setIfInBounds_toArray, List.set_cons_zero, List.set_cons_succ]
                refine wpAny_take (i := 2) (oi := { dst := some 50, op := Op.fieldAddr 45 (Operand.tmp 49) 0, type := 0, pos := "buffers.go:170", after := #[{ on := 1, ground := Ground.data }], guard := none }) (v := ?vP2n3) rfl (by kernel_rfl) (by kernel_rfl) (by kernel_rfl) (fun _ _ _ h => h) (Or.inl ⟨by rfl, ?yP2n3⟩) ?rP2n3
                case yP2n3 => (intro w; first | (go_simp; done) | (go_simp; with_reducible rfl))
                try simp only [Act.put, List.setIfInBounds_toArray, List.set_cons_zero, List.set_cons_succ]
                refine wpAny_take (i := 4) (oi := { dst := some 52, op := Op.move (Operand.tmp 7), type := 3, pos := "buffers.go:170", after := #[], guard := none }) (v := ?vP4n4) rfl (by kernel_rfl) (by kernel_rfl) (by kernel_rfl) (fun _ _ _ h => h) (Or.inl ⟨by rfl, ?yP4n4⟩) ?rP4n4
                case yP4n4 => (intro w; first | (go_simp; done) | (go_simp; with_reducible rfl))
                try simp only [Act.put, List.setIfInBounds_toArray, List.set_cons_zero, List.set_cons_succ]
                refine wpAny_take (i := 5) (oi := { dst := some 53, op := Op.move (Operand.tmp 2), type := 9, pos := "buffers.go:170", after := #[], guard := none }) (v := ?vP5n5) rfl (by kernel_rfl) (by kernel_rfl) (by kernel_rfl) (fun _ _ _ h => h) (Or.inl ⟨by rfl, ?yP5n5⟩) ?rP5n5
                case yP5n5 => (intro w; first | (go_simp; done) | (go_simp; with_reducible rfl))
                try simp only [Act.put, List.setIfInBounds_toArray, List.set_cons_zero, List.set_cons_succ]
                refine wpAny_ready (rs := [3, 6]) (by kernel_rfl) (by simp) (AllReady.cons (o := { dst := some 51, op := Op.load 43 (Operand.tmp 50), type := 43, pos := "buffers.go:170", after := #[{ on := 2, ground := Ground.data }], guard := none }) rfl (fun K hK => ?bPn6q0) (AllReady.cons (o := { dst := some 54, op := Op.call { callee := Callee.value (Operand.func 26), args := #[Operand.tmp 53], argTypes := #[9] }, type := 9, pos := "buffers.go:170", after := #[{ on := 5, ground := Ground.data }], guard := none }) rfl (fun K hK => ?bPn6q1) AllReady.nil))
                case bPn6q0 =>
                  go_simp
                  first | (refine hK _ _ ?_; clear hK K) | skip
                  skip
                  try simp only [Act.put, List.setIfInBounds_toArray, List.set_cons_zero, List.set_cons_succ]
                  refine wpAny_ready (rs := [6]) (by kernel_rfl) (by simp) (AllReady.cons (o := { dst := some 54, op := Op.call { callee := Callee.value (Operand.func 26), args := #[Operand.tmp 53], argTypes := #[9] }, type := 9, pos := "buffers.go:170", after := #[{ on := 5, ground := Ground.data }], guard := none }) rfl (fun K hK => ?bPn7q0) AllReady.nil)
                  go_simp
                  go_wp2_with (refine (HCl.out _).mono ?_; rintro e w6 ⟨rfl, hb6⟩; have HB6 := hidK (HBc.out.drew.trans (hb6.mono HBc.out.drew.size)); obtain ⟨g6, g7⟩ := HAt.out _ HB6.out; obtain ⟨g8, g9⟩ := hfree.out _ HB6.out; clear hb6)
                  first | (refine hK _ _ ?_; clear hK K) | skip
                  try simp only [Act.put, List.setIfInBounds_toArray, List.set_cons_zero, List.set_cons_succ]
                  refine wpAny_ready (rs := [7]) (by kernel_rfl) (by simp) (AllReady.cons (o := { dst := some 55, op := Op.indexAddr 43 (Operand.tmp 51) (Operand.tmp 52), type := 0, pos := "buffers.go:170", after := #[{ on := 3, ground := Ground.data }, { on := 4, ground := Ground.data }, { on := 0, ground := Ground.phase }, { on := 1, ground := Ground.phase }, { on := 2, ground := Ground.phase }, { on := 3, ground := Ground.phase }, { on := 4, ground := Ground.phase }, { on := 5, ground := Ground.phase }, { on := 6, ground := Ground.phase }], guard := none }) rfl (fun K hK => ?bPn8q0) AllReady.nil)
                  go_simp
                  first | (refine hK _ _ ?_; clear hK K) | skip
                  skip
                  try simp only [Act.put, List.setIfInBounds_toArray, List.set_cons_zero, List.set_cons_succ]
                  refine wpAny_take (i := 8) (oi := { dst := some 56, op := Op.fieldAddr 54 (Operand.tmp 55) 0, type := 0, pos := "buffers.go:170", after := #[{ on := 7, ground := Ground.data }, { on := 0, ground := Ground.phase }, { on := 1, ground := Ground.phase }, { on := 2, ground := Ground.phase }, { on := 3, ground := Ground.phase }, { on := 4, ground := Ground.phase }, { on := 5, ground := Ground.phase }, { on := 6, ground := Ground.phase }], guard := none }) (v := ?vP8n9) rfl (by kernel_rfl) (by kernel_rfl) (by kernel_rfl) (fun _ _ _ h => h) (Or.inl ⟨by rfl, ?yP8n9⟩) ?rP8n9
                  case yP8n9 => (intro w; first | (go_simp; done) | (go_simp; with_reducible rfl))
                  try simp only [Act.put, List.setIfInBounds_toArray, List.set_cons_zero, List.set_cons_succ]
                  refine wpAny_take (i := 9) (oi := { dst := some 57, op := Op.fieldAddr 34 (Operand.tmp 56) 0, type := 0, pos := "buffers.go:170", after := #[{ on := 8, ground := Ground.data }, { on := 0, ground := Ground.phase }, { on := 1, ground := Ground.phase }, { on := 2, ground := Ground.phase }, { on := 3, ground := Ground.phase }, { on := 4, ground := Ground.phase }, { on := 5, ground := Ground.phase }, { on := 6, ground := Ground.phase }], guard := none }) (v := ?vP9n10) rfl (by kernel_rfl) (by kernel_rfl) (by kernel_rfl) (fun _ _ _ h => h) (Or.inl ⟨by rfl, ?yP9n10⟩) ?rP9n10
                  case yP9n10 => (intro w; first | (go_simp; done) | (go_simp; with_reducible rfl))
                  try simp only [Act.put, List.setIfInBounds_toArray, List.set_cons_zero, List.set_cons_succ]
                  refine wpAny_ready (rs := [10]) (by kernel_rfl) (by simp) (AllReady.cons (o := { dst := none, op := Op.store 9 (Operand.tmp 57) (Operand.tmp 54), type := 0, pos := "buffers.go:170", after := #[{ on := 9, ground := Ground.data }, { on := 6, ground := Ground.data }, { on := 6, ground := Ground.chain }, { on := 0, ground := Ground.phase }, { on := 1, ground := Ground.phase }, { on := 2, ground := Ground.phase }, { on := 3, ground := Ground.phase }, { on := 4, ground := Ground.phase }, { on := 5, ground := Ground.phase }, { on := 6, ground := Ground.phase }], guard := none }) rfl (fun K hK => ?bPn11q0) AllReady.nil)
                  go_simp
                  first | (refine hK _ _ ?_; clear hK K) | skip
                  skip
                  try simp only [Act.put, List.setIfInBounds_toArray, List.set_cons_zero, List.set_cons_succ]
                  refine wpAny_done (by kernel_rfl) ?_ _
                  refine gen_exit (fun Y => Bf Y b (.slice (some ⟨g0, o0, none⟩) s.l.length cp) (s.l.set k ⟨tw, xt, xa⟩) (s.lim : Int) (s.c : Int) ∧ Stp w Y b (.slice (some ⟨g0, o0, none⟩) s.l.length cp) (.slice (some ⟨g0, o0, none⟩) s.l.length cp)) (hseg.out _ HB6.out) ?_
                  rintro Y ⟨hy1, hy2⟩
                  obtain ⟨y0, y1, y2⟩ := hfree2.out _ hy1
                  have HY1 := hidK (hseg2.out _ hy1)
                  have HY2 := hidK hy2
                  clear hy1 hy2
                  go_wp2_with fail
                  go_ret
                  exact ⟨rfl, _, HY1.out.1, HY2.out.trans HY1.out.2 hlt⟩
                case bPn6q1 =>
                  go_simp
                  go_wp2_with (refine (HCl.out _).mono ?_; rintro e w6 ⟨rfl, hb6⟩; have HB6 := hidK (HBc.out.drew.trans (hb6.mono HBc.out.drew.size)); obtain ⟨g6, g7⟩ := HAt.out _ HB6.out; obtain ⟨g8, g9⟩ := hfree.out _ HB6.out; clear hb6)
                  first | (refine hK _ _ ?_; clear hK K) | skip
                  try simp only [Act.put, List.setIfInBounds_toArray, List.set_cons_zero, List.set_cons_succ]
                  refine wpAny_ready (rs := [3]) (by kernel_rfl) (by simp) (AllReady.cons (o := { dst := some 51, op := Op.load 43 (Operand.tmp 50), type := 43, pos := "buffers.go:170", after := #[{ on := 2, ground := Ground.data }], guard := none }) rfl (fun K hK => ?bPn12q0) AllReady.nil)
                  go_simp
                  first | (refine hK _ _ ?_; clear hK K) | skip
                  skip
                  try simp only [Act.put, List.setIfInBounds_toArray, List.set_cons_zero, List.set_cons_succ]
                  refine wpAny_ready (rs := [7]) (by kernel_rfl) (by simp) (AllReady.cons (o := { dst := some 55, op := Op.indexAddr 43 (Operand.tmp 51) (Operand.tmp 52), type := 0, pos := "buffers.go:170", after := #[{ on := 3, ground := Ground.data }, { on := 4, ground := Ground.data }, { on := 0, ground := Ground.phase }, { on := 1, ground := Ground.phase }, { on := 2, ground := Ground.phase }, { on := 3, ground := Ground.phase }, { on := 4, ground := Ground.phase }, { on := 5, ground := Ground.phase }, { on := 6, ground := Ground.phase }], guard := none }) rfl (fun K hK => ?bPn13q0) AllReady.nil)
                  go_simp
                  first | (refine hK _ _ ?_; clear hK K) | skip
                  skip
                  try simp only [Act.put, List.setIfInBounds_toArray, List.set_cons_zero, List.set_cons_succ]
                  refine wpAny_take (i := 8) (oi := { dst := some 56, op := Op.fieldAddr 54 (Operand.tmp 55) 0, type := 0, pos := "buffers.go:170", after := #[{ on := 7, ground := Ground.data }, { on := 0, ground := Ground.phase }, { on := 1, ground := Ground.phase }, { on := 2, ground := Ground.phase }, { on := 3, ground := Ground.phase }, { on := 4, ground := Ground.phase }, { on := 5, ground := Ground.phase }, { on := 6, ground := Ground.phase }], guard := none }) (v := ?vP8n14) rfl (by kernel_rfl) (by kernel_rfl) (by kernel_rfl) (fun _ _ _ h => h) (Or.inl ⟨by rfl, ?yP8n14⟩) ?rP8n14
                  case yP8n14 => (intro w; first | (go_simp; done) | (go_simp; with_reducible rfl))
                  try simp only [Act.put, List.setIfInBounds_toArray, List.set_cons_zero, List.set_cons_succ]
                  refine wpAny_take (i := 9) (oi := { dst := some 57, op := Op.fieldAddr 34 (Operand.tmp 56) 0, type := 0, pos := "buffers.go:170", after := #[{ on := 8, ground := Ground.data }, { on := 0, ground := Ground.phase }, { on := 1, ground := Ground.phase }, { on := 2, ground := Ground.phase }, { on := 3, ground := Ground.phase }, { on := 4, ground := Ground.phase }, { on := 5, ground := Ground.phase }, { on := 6, ground := Ground.phase }], guard := none }) (v := ?vP9n15) rfl (by kernel_rfl) (by kernel_rfl) (by kernel_rfl) (fun _ _ _ h => h) (Or.inl ⟨by rfl, ?yP9n15⟩) ?rP9n15
                  case yP9n15 => (intro w; first | (go_simp; done) | (go_simp; with_reducible rfl))
                  try simp only [Act.put, List.setIfInBounds_toArray, List.set_cons_zero, List.set_cons_succ]
                  refine wpAny_ready (rs := [10]) (by kernel_rfl) (by simp) (AllReady.cons (o := { dst := none, op := Op.store 9 (Operand.tmp 57) (Operand.tmp 54), type := 0, pos := "buffers.go:170", after := #[{ on := 9, ground := Ground.data }, { on := 6, ground := Ground.data }, { on := 6, ground := Ground.chain }, { on := 0, ground := Ground.phase }, { on := 1, ground := Ground.phase }, { on := 2, ground := Ground.phase }, { on := 3, ground := Ground.phase }, { on := 4, ground := Ground.phase }, { on := 5, ground := Ground.phase }, { on := 6, ground := Ground.phase }], guard := none }) rfl (fun K hK => ?bPn16q0) AllReady.nil)
                  go_simp
                  first | (refine hK _ _ ?_; clear hK K) | skip
                  skip
                  try simp only [Act.put, List.setIfInBounds_toArray, List.set_cons_zero, List.set_cons_succ]
                  refine wpAny_done (by kernel_rfl) ?_ _
                  refine gen_exit (fun Y => Bf Y b (.slice (some ⟨g0, o0, none⟩) s.l.length cp) (s.l.set k ⟨tw, xt, xa⟩) (s.lim : Int) (s.c : Int) ∧ Stp w Y b (.slice (some ⟨g0, o0, none⟩) s.l.length cp) (.slice (some ⟨g0, o0, none⟩) s.l.length cp)) (hseg.out _ HB6.out) ?_
                  rintro Y ⟨hy1, hy2⟩
                  obtain ⟨y0, y1, y2⟩ := hfree2.out _ hy1
                  have HY1 := hidK (hseg2.out _ hy1)
                  have HY2 := hidK hy2
                  clear hy1 hy2
                  go_wp2_with fail
                  go_ret
                  exact ⟨rfl, _, HY1.out.1, HY2.out.trans HY1.out.2 hlt⟩
end Go.Proofs.YtgbaeajcgiaboaaDoor
