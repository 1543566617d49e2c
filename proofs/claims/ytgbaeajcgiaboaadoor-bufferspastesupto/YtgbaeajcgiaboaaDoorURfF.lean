/-
  Buffers: the document's: Get, Delete, Limit.
-/
import Derived.Test.YtgbaeajcgiaboaaDoorURfE
namespace Go.Proofs.YtgbaeajcgiaboaaDoor
open Go.RowKit
set_option linter.unusedVariables false
set_option maxRecDepth 100000

/-- The document's struct. -/
abbrev RfV (v : Value) (s : St) : Value := .agg #[v, .int .i64 (s.lim : Int), .int .i64 (s.c : Int)]
/-- What is told of a box. -/
theorem Bx.told {w W : World} {Q1 Q2 : Nat} {v v' : Value} {lim c lim' c' : Int} {l l' : List Kp} (h : Bx w W Q1 Q2 v lim c l) (h' : ItsAt W v' l') :
    (((W.setCell ⟨Q2, 0, none⟩ v').setCell ⟨Q2, 1, none⟩ (.int .i64 lim')).setCell ⟨Q2, 2, none⟩ (.int .i64 c')).heap[Q2]? = some (.cells #[v', .int .i64 lim', .int .i64 c'] 62 (0, 0)) ∧ ItsAt (((W.setCell ⟨Q2, 0, none⟩ v').setCell ⟨Q2, 1, none⟩ (.int .i64 lim')).setCell ⟨Q2, 2, none⟩ (.int .i64 c')) v' l' ∧ Below w.heap.size w (((W.setCell ⟨Q2, 0, none⟩ v').setCell ⟨Q2, 1, none⟩ (.int .i64 lim')).setCell ⟨Q2, 2, none⟩ (.int .i64 c')) :=
  ⟨three_at h.q2, Its.keep (Its.keep (Its.keep h' h.q2 0 _) (put_at h.q2 0 _) 1 _) (put_at (put_at h.q2 0 _) 1 _) 2 _, ((h.below.setCell h.o2 _).setCell h.o2 _).setCell h.o2 _⟩
set_option maxHeartbeats 8000000 in
theorem rDelete_any {w : World} {v : Value} {s : St} (h : ItsAt w v s.l) (name : ByteArray) (hlen : s.l.length ≤ 1000000) :
    Calls Tryd.prog 32 #[.agg #[v, .int .i64 (s.lim : Int), .int .i64 (s.c : Int)], .string name] w fun e w' => ∃ v', e = .returned (.tuple #[.agg #[v', .int .i64 ((delF s name).1.lim : Int), .int .i64 ((delF s name).1.c : Int)], .int .i64 (delF s name).2]) ∧ ItsAt w' v' (delF s name).1.l ∧ Below w.heap.size w w' := by
  have HX := hidK (Bx.new h (s.lim : Int) (s.c : Int) _ _ rfl rfl)
  obtain ⟨W2, hW2⟩ : ∃ W, (w.alloc (.cells #[v, .int .i64 (s.lim : Int), .int .i64 (s.c : Int)] 62)).alloc (.cells #[.slice none 0 0, .int .i64 0, .int .i64 0] 62) = W := ⟨_, rfl⟩
  rw [hW2] at HX
  obtain ⟨Q1, hQ1⟩ : ∃ Q, w.heap.size = Q := ⟨_, rfl⟩
  obtain ⟨Q2, hQ2⟩ : ∃ Q, w.heap.size + 1 = Q := ⟨_, rfl⟩
  have HXQ : Hid (Bx w W2 Q1 Q2 v (s.lim : Int) (s.c : Int) s.l) := by rw [← hQ1, ← hQ2]; exact HX
  have HWe := hidK hW2
  have HQ1 := hidK hQ1
  have HQ2 := hidK hQ2
  have HM := hidK (rMeant_any HXQ.out.its (s.lim : Int) (s.c : Int) name)
  obtain ⟨ad, n0, cp, rfl⟩ := h.sl
  have q0 := cell_at HXQ.out.q1 0
  have q1 := cell_at HXQ.out.q1 1
  have q2 := cell_at HXQ.out.q1 2
  clear hQ1 hQ2 HX hW2 h
  cases hm : mnt name s.l with
  | none =>
    have HF : Hid (delF s name = (s, 240)) := by show _ = _; unfold delF; rw [hm]
    have h1 : mntM name s.l = -1 := by unfold mntM; rw [hm]
    rw [HF.out]
    rw [h1] at HM
    clear hm h1
    go_enter Tryd.func32, Tryd.ntmps32
    go_upto_region 1 with fail
    rw [HWe.out, HQ2.out, HQ1.out]
    clear HWe
    go_wp2_with fail
    refine HM.out.mono ?_
    rintro e w3 ⟨rfl, hb3⟩
    have hB3 := HXQ.out.more hb3
    have HB3 := hidK hB3
    have r0 := cell_at hB3.q1 0
    have r1 := cell_at hB3.q1 1
    have r2 := cell_at hB3.q1 2
    have y0 := cell_at hB3.q2 0
    have y1 := cell_at hB3.q2 1
    have y2 := cell_at hB3.q2 2
    have z0 := free_at hB3.q2 0
    have z1 := free_at hB3.q2 1
    have z2 := free_at hB3.q2 2
    clear hb3 hB3 q0 q1 q2
    go_wp2_with fail
    obtain ⟨t1, t2, t3⟩ := HB3.out.told (lim' := (s.lim : Int)) (c' := (s.c : Int)) HB3.out.its
    exact ret_cell2 rfl rfl t1 Tryd.underlying62 rfl infoRB rfl ⟨_, rfl, t2, t3⟩
  | some k =>
    have hk := mnt_lt hm
    have HF : Hid (delF s name = (⟨s.l.eraseIdx k, s.lim, s.c⟩, 0)) := by show _ = _; unfold delF; rw [hm]
    have h1 : mntM name s.l = (k : Int) := by unfold mntM; rw [hm]
    rw [HF.out]
    rw [h1] at HM
    have HWo : Hid (∀ W, Bx w W Q1 Q2 (.slice ad n0 cp) (s.lim : Int) (s.c : Int) s.l → Calls Tryd.prog 54 #[.agg #[.slice ad n0 cp, .int .i64 (s.lim : Int), .int .i64 (s.c : Int)], .int .i64 (k : Int)] W fun e w' => ∃ v', e = .returned (.agg #[v', .int .i64 (s.lim : Int), .int .i64 (s.c : Int)]) ∧ ItsAt w' v' (s.l.eraseIdx k) ∧ Below W.heap.size W w') := fun W hW => rWithout_any hW.its _ _ k hk hlen
    have hk0 : ¬ (k : Int) < 0 := by omega
    clear hm h1 hk
    go_enter Tryd.func32, Tryd.ntmps32
    go_upto_region 1 with fail
    rw [HWe.out, HQ2.out, HQ1.out]
    clear HWe
    go_wp2_with fail
    refine HM.out.mono ?_
    rintro e w3 ⟨rfl, hb3⟩
    have hB3 := HXQ.out.more hb3
    have HB3 := hidK hB3
    have r0 := cell_at hB3.q1 0
    have r1 := cell_at hB3.q1 1
    have r2 := cell_at hB3.q1 2
    clear hb3 hB3 q0 q1 q2
    go_wp2_with fail
    refine (HWo.out _ HB3.out).mono ?_
    rintro e w4 ⟨v4, rfl, h4, hb4⟩
    obtain ⟨a4, n4, p4, rfl⟩ := h4.sl
    have hB4 := HB3.out.more hb4
    have HB4 := hidK hB4
    have y0 := cell_at hB4.q2 0
    have y1 := cell_at hB4.q2 1
    have y2 := cell_at hB4.q2 2
    have z0 := free_at hB4.q2 0
    have z1 := free_at hB4.q2 1
    have z2 := free_at hB4.q2 2
    have H4 := hidK h4
    clear hb4 hB4 h4 r0 r1 r2
    go_wp2_with fail
    obtain ⟨t1, t2, t3⟩ := HB4.out.told (lim' := (s.lim : Int)) (c' := (s.c : Int)) H4.out
    exact ret_cell2 rfl rfl t1 Tryd.underlying62 rfl infoRB rfl ⟨_, rfl, t2, t3⟩
set_option maxHeartbeats 8000000 in
theorem rLimit_any {w : World} {v : Value} {s : St} (h : ItsAt w v s.l) (n : Int) (hlen : s.l.length ≤ 1000000) :
    Calls Tryd.prog 34 #[.agg #[v, .int .i64 (s.lim : Int), .int .i64 (s.c : Int)], .int .i64 n] w fun e w' => ∃ v', e = .returned (.tuple #[.agg #[v', .int .i64 ((limF s n).1.lim : Int), .int .i64 ((limF s n).1.c : Int)], .int .i64 (limF s n).2]) ∧ ItsAt w' v' (limF s n).1.l ∧ Below w.heap.size w w' := by
  have HX := hidK (Bx.new h (s.lim : Int) (s.c : Int) _ _ rfl rfl)
  obtain ⟨W2, hW2⟩ : ∃ W, (w.alloc (.cells #[v, .int .i64 (s.lim : Int), .int .i64 (s.c : Int)] 62)).alloc (.cells #[.slice none 0 0, .int .i64 0, .int .i64 0] 62) = W := ⟨_, rfl⟩
  rw [hW2] at HX
  obtain ⟨Q1, hQ1⟩ : ∃ Q, w.heap.size = Q := ⟨_, rfl⟩
  obtain ⟨Q2, hQ2⟩ : ∃ Q, w.heap.size + 1 = Q := ⟨_, rfl⟩
  have HXQ : Hid (Bx w W2 Q1 Q2 v (s.lim : Int) (s.c : Int) s.l) := by rw [← hQ1, ← hQ2]; exact HX
  have HWe := hidK hW2
  have HQ1 := hidK hQ1
  have HQ2 := hidK hQ2
  obtain ⟨ad, n0, cp, rfl⟩ := h.sl
  have q0 := cell_at HXQ.out.q1 0
  have q1 := cell_at HXQ.out.q1 1
  have q2 := cell_at HXQ.out.q1 2
  clear hQ1 hQ2 HX hW2 h
  by_cases hn : n < 1 ∨ 20 < n
  · have HF : Hid (limF s n = (s, 1)) := if_pos hn
    rw [HF.out]
    have y0 := cell_at HXQ.out.q2 0
    have y1 := cell_at HXQ.out.q2 1
    have y2 := cell_at HXQ.out.q2 2
    have z0 := free_at HXQ.out.q2 0
    have z1 := free_at HXQ.out.q2 1
    have z2 := free_at HXQ.out.q2 2
    go_enter Tryd.func34, Tryd.ntmps34
    go_upto_region 1 with fail
    rw [HWe.out, HQ2.out, HQ1.out]
    clear HWe
    go_wp2_with fail
    all_goals first | (exfalso; omega) | skip
    all_goals (obtain ⟨t1, t2, t3⟩ := HXQ.out.told (lim' := (s.lim : Int)) (c' := (s.c : Int)) HXQ.out.its; exact ret_cell2 rfl rfl t1 Tryd.underlying62 rfl infoRB rfl ⟨_, rfl, t2, t3⟩)
  · have HF : Hid (limF s n = (⟨trimG n.toNat s.l, n.toNat, s.c⟩, 0)) := if_neg hn
    rw [HF.out]
    obtain ⟨m, rfl⟩ : ∃ m : Nat, n = (m : Int) := ⟨n.toNat, by omega⟩
    have hm : (m : Int).toNat = m := by omega
    rw [hm]
    have n1 : ¬ (m : Int) < 1 := by omega
    have n2 : ¬ (20 : Int) < (m : Int) := by omega
    obtain ⟨W3, hW3⟩ : ∃ W, W2.setCell ⟨Q1, 1, none⟩ (.int .i64 (m : Int)) = W := ⟨_, rfl⟩
    have hB3 : Bx w W3 Q1 Q2 (.slice ad n0 cp) (m : Int) (s.c : Int) s.l := by
      rw [← hW3]
      have h := HXQ.out
      exact ⟨h.below.setCell h.o1 _, h.o1, h.o2, h.ne, put_at h.q1 1 _, put_other h.q2 h.ne.symm _ _, Its.keep h.its h.q1 1 _⟩
    have HB3 := hidK hB3
    have HT := hidK (rTrimmed_any hB3.its m (s.c : Int) (by omega) hlen)
    have f1 := free_at HXQ.out.q1 1
    have r0 := cell_at hB3.q1 0
    have r1 := cell_at hB3.q1 1
    have r2 := cell_at hB3.q1 2
    clear hm hn hB3
    go_enter Tryd.func34, Tryd.ntmps34
    go_upto_region 1 with fail
    rw [HWe.out, HQ2.out, HQ1.out]
    clear HWe
    go_wp2_with fail
    all_goals first | (exfalso; omega) | skip
    refine HT.out.mono ?_
    rintro e w4 ⟨v4, rfl, h4, hb4⟩
    obtain ⟨a4, n4, p4, rfl⟩ := h4.sl
    have hB4 := HB3.out.more hb4
    have HB4 := hidK hB4
    have y0 := cell_at hB4.q2 0
    have y1 := cell_at hB4.q2 1
    have y2 := cell_at hB4.q2 2
    have z0 := free_at hB4.q2 0
    have z1 := free_at hB4.q2 1
    have z2 := free_at hB4.q2 2
    have H4 := hidK h4
    clear hb4 hB4 h4 r0 r1 r2
    go_wp2_with fail
    obtain ⟨t1, t2, t3⟩ := HB4.out.told (lim' := (m : Int)) (c' := (s.c : Int)) H4.out
    exact ret_cell2 rfl rfl t1 Tryd.underlying62 rfl infoRB rfl ⟨_, rfl, t2, t3⟩
set_option maxHeartbeats 8000000 in
theorem rGet_any {w : World} {v : Value} {s : St} (h : ItsAt w v s.l) (name : ByteArray) (hlen : s.l.length ≤ 1000000) :
    Calls Tryd.prog 31 #[.agg #[v, .int .i64 (s.lim : Int), .int .i64 (s.c : Int)], .string name] w fun e w' => e = .returned (.tuple #[.agg #[.string (getF s name).1, .string (getF s name).2.1], .int .i64 (getF s name).2.2]) ∧ Below w.heap.size w w' := by
  obtain ⟨W2, hW2⟩ : ∃ W, (w.alloc (.cells #[v, .int .i64 (s.lim : Int), .int .i64 (s.c : Int)] 62)).alloc (.cells #[.string ⟨#[]⟩, .string ⟨#[]⟩] 34) = W := ⟨_, rfl⟩
  obtain ⟨Q1, hQ1⟩ : ∃ Q, w.heap.size = Q := ⟨_, rfl⟩
  obtain ⟨Q2, hQ2⟩ : ∃ Q, w.heap.size + 1 = Q := ⟨_, rfl⟩
  obtain ⟨ha, hb, hc, hd⟩ := heap_two w (.cells #[v, .int .i64 (s.lim : Int), .int .i64 (s.c : Int)] 62) (.cells #[.string ⟨#[]⟩, .string ⟨#[]⟩] 34)
  rw [hW2] at ha hb hc hd
  rw [hQ1] at ha
  rw [hQ2] at hb
  have HA := hidK ha
  have HBq := hidK hb
  have HD := hidK hd
  have HSz := hidK (And.intro hc (And.intro hQ1 hQ2))
  have HWe := hidK hW2
  have HM := hidK (rMeant_any (h.below hd) (s.lim : Int) (s.c : Int) name)
  have HI := hidK (h.below hd)
  obtain ⟨ad, n0, cp, rfl⟩ := h.sl
  have q0 := cell_at ha 0
  have q1 := cell_at ha 1
  have q2 := cell_at ha 2
  clear hQ1 hQ2 hW2 h ha hb hc hd
  cases hm : mnt name s.l with
  | none =>
    have HF : Hid (getF s name = (emp, emp, 240)) := by show _ = _; unfold getF; rw [hm]
    have h1 : mntM name s.l = -1 := by unfold mntM; rw [hm]
    rw [HF.out]
    rw [h1] at HM
    clear hm h1
    go_enter Tryd.func31, Tryd.ntmps31
    go_upto_region 1 with fail
    rw [HWe.out, HSz.out.2.2, HSz.out.2.1]
    clear HWe
    go_wp2_with fail
    refine HM.out.mono ?_
    rintro e w3 ⟨rfl, hb3⟩
    have a3 := (hb3.block Q2 (lt_block HBq.out)).trans HBq.out
    have HA3 := hidK a3
    have HB3 := hidK (HD.out.trans (hb3.mono HD.out.size))
    have y0 := cell_at a3 0
    have y1 := cell_at a3 1
    have z0 := free_at a3 0
    have z1 := free_at a3 1
    clear hb3 a3 q0 q1 q2
    go_wp2_with fail
    refine ret_cell2 rfl rfl (two_set HA3.out (.string ⟨#[]⟩) (.string ⟨#[]⟩)) Tryd.underlying34 rfl infoBuffer rfl ⟨rfl, ?_⟩
    have hz := HSz.out
    exact (HB3.out.setCell (by show _ ≤ Q2; omega) _).setCell (by show _ ≤ Q2; omega) _
  | some k =>
    have hk := mnt_lt hm
    obtain ⟨⟨xn, xt, xa⟩, hx⟩ : ∃ q, s.l[k] = q := ⟨_, rfl⟩
    have HF : Hid (getF s name = (xn, xt, 0)) := by
      show _ = _
      unfold getF
      rw [hm]
      simp only [List.getElem?_eq_getElem hk, hx, Option.map_some, Option.getD_some]
    have h1 : mntM name s.l = (k : Int) := by unfold mntM; rw [hm]
    rw [HF.out]
    rw [h1] at HM
    have hk0 : ¬ (k : Int) < 0 := by omega
    obtain ⟨ad2, cp2, he, _, _, hnil, hsome⟩ := HI.out.shape
    cases he
    have hkl : (k : Int) < (s.l.length : Int) := by omega
    cases ad with
    | none => have := (hnil rfl).1; rw [this] at hk; simp at hk
    | some a =>
      obtain ⟨g0, o0, rfl, hob, hgl, hat⟩ := hsome _ rfl
      have HSx : Hid (∀ X, Below W2.heap.size W2 X → X.cell? ⟨Q1, 0, none⟩ = some (.slice (some ⟨g0, o0, none⟩) s.l.length cp) ∧ X.cell? ⟨g0, o0 + k * 3, none⟩ = some (.string xn) ∧ X.cell? ⟨g0, o0 + k * 3 + 1, none⟩ = some (.string xt)) := fun X hX =>
        ⟨cell_at ((hX.block Q1 (lt_block HA.out)).trans HA.out) 0, (hat X (hX.block g0 hgl)).1 k hk 0 _ (by rw [hx]; rfl), (hat X (hX.block g0 hgl)).1 k hk 1 _ (by rw [hx]; rfl)⟩
      have HSy : Hid (∀ X a b, Below W2.heap.size W2 X → ((X.setCell ⟨Q2, 0, none⟩ a).setCell ⟨Q2, 1, none⟩ b).cell? ⟨Q1, 0, none⟩ = some (.slice (some ⟨g0, o0, none⟩) s.l.length cp) ∧ ((X.setCell ⟨Q2, 0, none⟩ a).setCell ⟨Q2, 1, none⟩ b).cell? ⟨g0, o0 + k * 3, none⟩ = some (.string xn) ∧ ((X.setCell ⟨Q2, 0, none⟩ a).setCell ⟨Q2, 1, none⟩ b).cell? ⟨g0, o0 + k * 3 + 1, none⟩ = some (.string xt)) := fun X a b hX => by
        obtain ⟨e1, e2, e3⟩ := HSx.out X hX
        have n1 : Q2 ≠ Q1 := by have := HSz.out; omega
        have n2 : Q2 ≠ g0 := fun e => by
          obtain ⟨cur, hc⟩ := Row.block HI.out hob
          rw [← e, HBq.out] at hc
          cases hc
        exact ⟨by rw [World.cell?_setCell_far _ _ _ _ n1, World.cell?_setCell_far _ _ _ _ n1]; exact e1, by rw [World.cell?_setCell_far _ _ _ _ n2, World.cell?_setCell_far _ _ _ _ n2]; exact e2, by rw [World.cell?_setCell_far _ _ _ _ n2, World.cell?_setCell_far _ _ _ _ n2]; exact e3⟩
      clear hm h1 hk hx hnil hsome hob hgl hat
      go_enter Tryd.func31, Tryd.ntmps31
      go_upto_region 1 with fail
      rw [HWe.out, HSz.out.2.2, HSz.out.2.1]
      clear HWe
      go_wp2_with fail
      refine HM.out.mono ?_
      rintro e w3 ⟨rfl, hb3⟩
      have a3 := (hb3.block Q2 (lt_block HBq.out)).trans HBq.out
      have HA3 := hidK a3
      have HB3 := hidK (HD.out.trans (hb3.mono HD.out.size))
      have HBx := hidK hb3
      have y0 := cell_at a3 0
      have y1 := cell_at a3 1
      have z0 := free_at a3 0
      have z1 := free_at a3 1
      clear hb3 a3 q0 q1 q2
      go_wp2_with fail
      refine wp_region_held_drew (S := (fun X => X.cell? ⟨Q1, 0, none⟩ = some (.slice (some ⟨g0, o0, none⟩) s.l.length cp) ∧ X.cell? ⟨g0, o0 + k * 3, none⟩ = some (.string xn) ∧ X.cell? ⟨g0, o0 + k * 3 + 1, none⟩ = some (.string xt))) (by kernel_rfl) ?sP (fun hHeld => ?_)
      case sP => ((try dsimp only); first | exact HSx.out _ HBx.out | exact HSx.out _ HBx.out.drew | exact HSy.out _ _ _ HBx.out.drew | exact HSy.out _ _ _ HBx.out)
      refine wpAnyH_take (i := 0) (oi := { dst := some 13, op := Op.fieldAddr 62 (Operand.tmp 2) 0, type := 0, pos := "ref.go:137", after := #[], guard := none }) (v := ?vP0n1) rfl (by kernel_rfl) (by kernel_rfl) (by kernel_rfl) (fun _ _ _ h => h) (Or.inl ⟨by rfl, ?yP0n1⟩) (by assumption) ?rP0n1
      case yP0n1 => (intro w hSw; (try dsimp only at hSw); first | (go_simp; done) | (go_simp; with_reducible rfl))
      try simp only [Act.put, List.setIfInBounds_toArray, List.set_cons_zero, List.set_cons_succ]
      refine wpAnyH_take (i := 1) (oi := { dst := some 14, op := Op.load 60 (Operand.tmp 13), type := 60, pos := "ref.go:137", after := #[{ on := 0, ground := Ground.data }], guard := none }) (v := ?vP1n2) rfl (by kernel_rfl) (by kernel_rfl) (by kernel_rfl) (fun _ _ _ h => h) (Or.inl ⟨by rfl, ?yP1n2⟩) (by assumption) ?rP1n2
      case yP1n2 => (intro w hSw; (try dsimp only at hSw); first | (go_simp; done) | (go_simp; with_reducible rfl))
      try simp only [Act.put, List.setIfInBounds_toArray, List.set_cons_zero, List.set_cons_succ]
      refine wpAnyH_take (i := 2) (oi := { dst := some 15, op := Op.move (Operand.tmp 6), type := 3, pos := "ref.go:137", after := #[], guard := none }) (v := ?vP2n3) rfl (by kernel_rfl) (by kernel_rfl) (by kernel_rfl) (fun _ _ _ h => h) (Or.inl ⟨by rfl, ?yP2n3⟩) (by assumption) ?rP2n3
      case yP2n3 => (intro w hSw; (try dsimp only at hSw); first | (go_simp; done) | (go_simp; with_reducible rfl))
      try simp only [Act.put, List.setIfInBounds_toArray, List.set_cons_zero, List.set_cons_succ]
      refine wpAnyH_take (i := 3) (oi := { dst := some 16, op := Op.indexAddr 60 (Operand.tmp 14) (Operand.tmp 15), type := 0, pos := "ref.go:137", after := #[{ on := 1, ground := Ground.data }, { on := 2, ground := Ground.data }], guard := none }) (v := ?vP3n4) rfl (by kernel_rfl) (by kernel_rfl) (by kernel_rfl) (fun _ _ _ h => h) (Or.inl ⟨by rfl, ?yP3n4⟩) (by assumption) ?rP3n4
      case yP3n4 => (intro w hSw; (try dsimp only at hSw); first | (go_simp; done) | (go_simp; with_reducible rfl))
      try simp only [Act.put, List.setIfInBounds_toArray, List.set_cons_zero, List.set_cons_succ]
      refine wpAnyH_take (i := 4) (oi := { dst := some 17, op := Op.fieldAddr 87 (Operand.tmp 16) 0, type := 0, pos := "ref.go:137", after := #[{ on := 3, ground := Ground.data }], guard := none }) (v := ?vP4n5) rfl (by kernel_rfl) (by kernel_rfl) (by kernel_rfl) (fun _ _ _ h => h) (Or.inl ⟨by rfl, ?yP4n5⟩) (by assumption) ?rP4n5
      case yP4n5 => (intro w hSw; (try dsimp only at hSw); first | (go_simp; done) | (go_simp; with_reducible rfl))
      try simp only [Act.put, List.setIfInBounds_toArray, List.set_cons_zero, List.set_cons_succ]
      refine wpAnyH_take (i := 5) (oi := { dst := some 18, op := Op.load 9 (Operand.tmp 17), type := 9, pos := "ref.go:137", after := #[{ on := 4, ground := Ground.data }], guard := none }) (v := ?vP5n6) rfl (by kernel_rfl) (by kernel_rfl) (by kernel_rfl) (fun _ _ _ h => h) (Or.inl ⟨by rfl, ?yP5n6⟩) (by assumption) ?rP5n6
      case yP5n6 => (intro w hSw; (try dsimp only at hSw); first | (go_simp; done) | (go_simp; with_reducible rfl))
      try simp only [Act.put, List.setIfInBounds_toArray, List.set_cons_zero, List.set_cons_succ]
      refine wpAnyH_take (i := 6) (oi := { dst := some 19, op := Op.fieldAddr 62 (Operand.tmp 2) 0, type := 0, pos := "ref.go:137", after := #[], guard := none }) (v := ?vP6n7) rfl (by kernel_rfl) (by kernel_rfl) (by kernel_rfl) (fun _ _ _ h => h) (Or.inl ⟨by rfl, ?yP6n7⟩) (by assumption) ?rP6n7
      case yP6n7 => (intro w hSw; (try dsimp only at hSw); first | (go_simp; done) | (go_simp; with_reducible rfl))
      try simp only [Act.put, List.setIfInBounds_toArray, List.set_cons_zero, List.set_cons_succ]
      refine wpAnyH_take (i := 7) (oi := { dst := some 20, op := Op.load 60 (Operand.tmp 19), type := 60, pos := "ref.go:137", after := #[{ on := 6, ground := Ground.data }], guard := none }) (v := ?vP7n8) rfl (by kernel_rfl) (by kernel_rfl) (by kernel_rfl) (fun _ _ _ h => h) (Or.inl ⟨by rfl, ?yP7n8⟩) (by assumption) ?rP7n8
      case yP7n8 => (intro w hSw; (try dsimp only at hSw); first | (go_simp; done) | (go_simp; with_reducible rfl))
      try simp only [Act.put, List.setIfInBounds_toArray, List.set_cons_zero, List.set_cons_succ]
      refine wpAnyH_take (i := 8) (oi := { dst := some 21, op := Op.move (Operand.tmp 6), type := 3, pos := "ref.go:137", after := #[], guard := none }) (v := ?vP8n9) rfl (by kernel_rfl) (by kernel_rfl) (by kernel_rfl) (fun _ _ _ h => h) (Or.inl ⟨by rfl, ?yP8n9⟩) (by assumption) ?rP8n9
      case yP8n9 => (intro w hSw; (try dsimp only at hSw); first | (go_simp; done) | (go_simp; with_reducible rfl))
      try simp only [Act.put, List.setIfInBounds_toArray, List.set_cons_zero, List.set_cons_succ]
      refine wpAnyH_take (i := 9) (oi := { dst := some 22, op := Op.indexAddr 60 (Operand.tmp 20) (Operand.tmp 21), type := 0, pos := "ref.go:137", after := #[{ on := 7, ground := Ground.data }, { on := 8, ground := Ground.data }], guard := none }) (v := ?vP9n10) rfl (by kernel_rfl) (by kernel_rfl) (by kernel_rfl) (fun _ _ _ h => h) (Or.inl ⟨by rfl, ?yP9n10⟩) (by assumption) ?rP9n10
      case yP9n10 => (intro w hSw; (try dsimp only at hSw); first | (go_simp; done) | (go_simp; with_reducible rfl))
      try simp only [Act.put, List.setIfInBounds_toArray, List.set_cons_zero, List.set_cons_succ]
      refine wpAnyH_take (i := 10) (oi := { dst := some 23, op := Op.fieldAddr 87 (Operand.tmp 22) 1, type := 0, pos := "ref.go:137", after := #[{ on := 9, ground := Ground.data }], guard := none }) (v := ?vP10n11) rfl (by kernel_rfl) (by kernel_rfl) (by kernel_rfl) (fun _ _ _ h => h) (Or.inl ⟨by rfl, ?yP10n11⟩) (by assumption) ?rP10n11
      case yP10n11 => (intro w hSw; (try dsimp only at hSw); first | (go_simp; done) | (go_simp; with_reducible rfl))
      try simp only [Act.put, List.setIfInBounds_toArray, List.set_cons_zero, List.set_cons_succ]
      refine wpAnyH_take (i := 11) (oi := { dst := some 24, op := Op.load 9 (Operand.tmp 23), type := 9, pos := "ref.go:137", after := #[{ on := 10, ground := Ground.data }], guard := none }) (v := ?vP11n12) rfl (by kernel_rfl) (by kernel_rfl) (by kernel_rfl) (fun _ _ _ h => h) (Or.inl ⟨by rfl, ?yP11n12⟩) (by assumption) ?rP11n12
      case yP11n12 => (intro w hSw; (try dsimp only at hSw); first | (go_simp; done) | (go_simp; with_reducible rfl))
      try simp only [Act.put, List.setIfInBounds_toArray, List.set_cons_zero, List.set_cons_succ]
      refine wpAnyH_take (i := 12) (oi := { dst := some 25, op := Op.build 34 #[(0, Operand.tmp 18), (1, Operand.tmp 24)], type := 34, pos := "ref.go:137", after := #[{ on := 5, ground := Ground.data }, { on := 11, ground := Ground.data }], guard := none }) (v := ?vP12n13) rfl (by kernel_rfl) (by kernel_rfl) (by kernel_rfl) (fun _ _ _ h => h) (Or.inl ⟨by rfl, ?yP12n13⟩) (by assumption) ?rP12n13
      case yP12n13 => (intro w hSw; (try dsimp only at hSw); first | (go_simp; done) | (go_simp; with_reducible rfl))
      try simp only [Act.put, List.setIfInBounds_toArray, List.set_cons_zero, List.set_cons_succ]
      refine wpAnyH_ready (rs := [13]) (by kernel_rfl) (by simp) (AllReadyH.cons (o := { dst := none, op := Op.store 34 (Operand.tmp 4) (Operand.tmp 25), type := 0, pos := "ref.go:137", after := #[{ on := 12, ground := Ground.data }, { on := 0, ground := Ground.phase }, { on := 1, ground := Ground.phase }, { on := 2, ground := Ground.phase }, { on := 3, ground := Ground.phase }, { on := 4, ground := Ground.phase }, { on := 5, ground := Ground.phase }, { on := 6, ground := Ground.phase }, { on := 7, ground := Ground.phase }, { on := 8, ground := Ground.phase }, { on := 9, ground := Ground.phase }, { on := 10, ground := Ground.phase }, { on := 11, ground := Ground.phase }, { on := 12, ground := Ground.phase }], guard := none }) rfl (fun K hK => ?bPn14q0) AllReadyH.nil)
      go_simp
      refine hK.out _ _ ?kPn14o13 (fun hHeld14 => ?_)
      case kPn14o13 => ((try dsimp only); first | exact HSx.out _ HBx.out | exact HSx.out _ HBx.out.drew | exact HSy.out _ _ _ HBx.out.drew | exact HSy.out _ _ _ HBx.out)
      clear hK K
      skip
      try simp only [Act.put, List.setIfInBounds_toArray, List.set_cons_zero, List.set_cons_succ]
      refine wpAnyH_take (i := 14) (oi := { dst := some 5, op := Op.assign (Operand.const (Value.int IntKind.i64 0)), type := 3, pos := "ref.go:137", after := #[{ on := 13, ground := Ground.chain }, { on := 0, ground := Ground.phase }, { on := 1, ground := Ground.phase }, { on := 2, ground := Ground.phase }, { on := 3, ground := Ground.phase }, { on := 4, ground := Ground.phase }, { on := 5, ground := Ground.phase }, { on := 6, ground := Ground.phase }, { on := 7, ground := Ground.phase }, { on := 8, ground := Ground.phase }, { on := 9, ground := Ground.phase }, { on := 10, ground := Ground.phase }, { on := 11, ground := Ground.phase }, { on := 12, ground := Ground.phase }, { on := 13, ground := Ground.phase }], guard := none }) (v := ?vP14n15) rfl (by kernel_rfl) (by kernel_rfl) (by kernel_rfl) (fun _ _ _ h => h) (Or.inl ⟨by rfl, ?yP14n15⟩) (by assumption) ?rP14n15
      case yP14n15 => (intro w hSw; (try dsimp only at hSw); first | (go_simp; done) | (go_simp; with_reducible rfl))
      try simp only [Act.put, List.setIfInBounds_toArray, List.set_cons_zero, List.set_cons_succ]
      refine wpAnyH_done (by kernel_rfl) ?_ _
      go_wp2_with fail
      refine ret_cell2 rfl rfl (two_set (show w3.drew.heap[Q2]? = _ from HA3.out) (.string xn) (.string xt)) Tryd.underlying34 rfl infoBuffer rfl ⟨rfl, ?_⟩
      have hz := HSz.out
      exact (HB3.out.drew.setCell (by show _ ≤ Q2; omega) _).setCell (by show _ ≤ Q2; omega) _
end Go.Proofs.YtgbaeajcgiaboaaDoor
