/-
  Buffers: the document's: without, ahead, trimmed.
-/
import Derived.Test.YtgbaeajcgiaboaaDoorURfA
import Derived.Deep.LoopGhost
namespace Go.Proofs.YtgbaeajcgiaboaaDoor
open Go.RowKit
set_option linter.unusedVariables false
set_option maxRecDepth 100000

structure LftI (w wr : World) (v : Value) (l : List Kp) : Prop where
  below : Below w.heap.size w wr
  row : ItsAt wr v l
  own : ∀ g, v.ownBlock = some g → w.heap.size ≤ g
theorem LftI.more {w wr w2 : World} {v : Value} {l : List Kp} (h : LftI w wr v l) (hb : Below wr.heap.size wr w2) : LftI w w2 v l :=
  ⟨h.below.trans (hb.mono h.below.size), Row.below h.row hb, h.own⟩
theorem LftI.grown {w wr w2 : World} {v v2 : Value} {l l2 : List Kp} (h : LftI w wr v l) (hr : Row w2 87 3 v2 (l.length + l2.length) (cellsK l ++ cellsK l2)) (hg : Grown wr w2 v v2 v.ownBlock.toList) : LftI w w2 v2 (l ++ l2) := by
  refine ⟨hg.but.under h.below h.below.size (fun k hk => h.own k (by simpa using hk)), ?_, fun g hq => ?_⟩
  · unfold ItsAt
    rw [cellsK_append, List.length_append]
    exact hr
  · rcases hg.own with z | z
    · exact h.own g (z ▸ hq)
    · rw [z] at hq
      cases hq
      exact h.below.size
theorem erase_step (l : List Kp) (k i : Nat) (hi : i < l.length) : (l.take (i + 1)).eraseIdx k = (l.take i).eraseIdx k ++ (if i = k then [] else [l[i]]) := by
  rw [List.take_add_one, List.getElem?_eq_getElem hi, Option.toList_some]
  have hl : (l.take i).length = i := by rw [List.length_take]; omega
  by_cases h : i = k
  · subst h
    rw [if_pos rfl, List.append_nil, List.eraseIdx_of_length_le (l := l.take i) (by omega), List.eraseIdx_eq_take_drop_succ, List.take_left' hl, List.drop_of_length_le (by rw [List.length_append, hl]; simp), List.append_nil]
  · rw [if_neg h]
    rcases Nat.lt_or_gt_of_ne h with z | z
    · rw [List.eraseIdx_of_length_le (by simp; omega), List.eraseIdx_of_length_le (by omega)]
    · rw [List.eraseIdx_append_of_lt_length (by omega)]
theorem three_at {w : World} {g : Nat} {a b c x y z : Value} {T : TypeId} (h : w.heap[g]? = some (.cells #[a, b, c] T (0, 0))) : (((w.setCell ⟨g, 0, none⟩ x).setCell ⟨g, 1, none⟩ y).setCell ⟨g, 2, none⟩ z).heap[g]? = some (.cells #[x, y, z] T (0, 0)) := put_at (put_at (put_at h 0 _) 1 _) 2 _
/-- A struct of the document's in a box, and the result's block. -/
structure Bx (w W : World) (Q1 Q2 : Nat) (v : Value) (lim c : Int) (l : List Kp) : Prop where
  below : Below w.heap.size w W
  o1 : w.heap.size ≤ Q1
  o2 : w.heap.size ≤ Q2
  ne : Q1 ≠ Q2
  q1 : W.heap[Q1]? = some (.cells #[v, .int .i64 lim, .int .i64 c] 62 (0, 0))
  q2 : W.heap[Q2]? = some (.cells #[.slice none 0 0, .int .i64 0, .int .i64 0] 62 (0, 0))
  its : ItsAt W v l
theorem Bx.more {w W W' : World} {Q1 Q2 : Nat} {v : Value} {lim c : Int} {l : List Kp} (h : Bx w W Q1 Q2 v lim c l) (hb : Below W.heap.size W W') : Bx w W' Q1 Q2 v lim c l :=
  ⟨h.below.trans (hb.mono h.below.size), h.o1, h.o2, h.ne, (hb.block Q1 (lt_block h.q1)).trans h.q1, (hb.block Q2 (lt_block h.q2)).trans h.q2, h.its.below hb⟩
theorem Its.keep {W : World} {v : Value} {l : List Kp} {Q : Nat} {cs : Array Value} (h : ItsAt W v l) (hq : W.heap[Q]? = some (.cells cs 62 (0, 0))) (i : Nat) (u : Value) : ItsAt (W.setCell ⟨Q, i, none⟩ u) v l :=
  Row.keep h fun g hg => put_other rfl (fun e => by
    subst e
    obtain ⟨cur, hc⟩ := Row.block h hg
    rw [hq] at hc
    cases hc) i u
theorem Bx.put {w W : World} {Q1 Q2 : Nat} {v v' : Value} {lim c lim' c' : Int} {l l' : List Kp} (h : Bx w W Q1 Q2 v lim c l) (h' : ItsAt W v' l') : Bx w (((W.setCell ⟨Q1, 0, none⟩ v').setCell ⟨Q1, 1, none⟩ (.int .i64 lim')).setCell ⟨Q1, 2, none⟩ (.int .i64 c')) Q1 Q2 v' lim' c' l' :=
  ⟨((h.below.setCell h.o1 _).setCell h.o1 _).setCell h.o1 _, h.o1, h.o2, h.ne, three_at h.q1, put_other (put_other (put_other h.q2 h.ne.symm _ _) h.ne.symm _ _) h.ne.symm _ _,
    Its.keep (Its.keep (Its.keep h' h.q1 0 _) (put_at h.q1 0 _) 1 _) (put_at (put_at h.q1 0 _) 1 _) 2 _⟩
theorem Bx.put0 {w W : World} {Q1 Q2 : Nat} {v v' : Value} {lim c : Int} {l l' : List Kp} (h : Bx w W Q1 Q2 v lim c l) (h' : ItsAt W v' l') : Bx w (W.setCell ⟨Q1, 0, none⟩ v') Q1 Q2 v' lim c l' :=
  ⟨h.below.setCell h.o1 _, h.o1, h.o2, h.ne, put_at h.q1 0 _, put_other h.q2 h.ne.symm _ _, Its.keep h' h.q1 0 _⟩
theorem Bx.new {w : World} {v : Value} {l : List Kp} (h : ItsAt w v l) (lim c : Int) (o1 o2 : Obj) (e1 : o1 = .cells #[v, .int .i64 lim, .int .i64 c] 62) (e2 : o2 = .cells #[.slice none 0 0, .int .i64 0, .int .i64 0] 62) : Bx w ((w.alloc o1).alloc o2) w.heap.size (w.heap.size + 1) v lim c l := by
  subst e1; subst e2
  obtain ⟨a, b, c1, d⟩ := heap_two w (.cells #[v, .int .i64 lim, .int .i64 c] 62) (.cells #[.slice none 0 0, .int .i64 0, .int .i64 0] 62)
  exact ⟨d, Nat.le_refl _, Nat.le_succ _, by omega, a, b, h.below d⟩
set_option maxHeartbeats 8000000 in
theorem rWithout_any {w : World} {v : Value} {l : List Kp} (h : ItsAt w v l) (lim c : Int) (k : Nat) (hk : k < l.length) (hlen : l.length ≤ 1000000) :
    Calls Tryd.prog 54 #[.agg #[v, .int .i64 lim, .int .i64 c], .int .i64 (k : Int)] w fun e w' => ∃ v', e = .returned (.agg #[v', .int .i64 lim, .int .i64 c]) ∧ ItsAt w' v' (l.eraseIdx k) ∧ Below w.heap.size w w' := by
  have HX := hidK (Bx.new h lim c _ _ rfl rfl)
  obtain ⟨W2, hW2⟩ : ∃ W, (w.alloc (.cells #[v, .int .i64 lim, .int .i64 c] 62)).alloc (.cells #[.slice none 0 0, .int .i64 0, .int .i64 0] 62) = W := ⟨_, rfl⟩
  rw [hW2] at HX
  obtain ⟨Q1, hQ1⟩ : ∃ Q, w.heap.size = Q := ⟨_, rfl⟩
  obtain ⟨Q2, hQ2⟩ : ∃ Q, w.heap.size + 1 = Q := ⟨_, rfl⟩
  have HXQ : Hid (Bx w W2 Q1 Q2 v lim c l) := by rw [← hQ1, ← hQ2]; exact HX
  have HWe := hidK hW2
  have HQ1 := hidK hQ1
  have HQ2 := hidK hQ2
  obtain ⟨ad, cp, rfl, hle, hcm, hnil, hsome⟩ := h.shape
  obtain ⟨n, hn⟩ : ∃ n, l.length = n := ⟨_, rfl⟩
  have HN := hidK hn
  have HS := hidK hsome
  have HNil := hidK hnil
  have hn63 : n ≤ 1000000 := by omega
  have q0 := cell_at HXQ.out.q1 0
  rw [hn] at q0 HXQ ⊢
  clear hn hsome hnil h hle hcm hQ1 hQ2 HX hW2 hlen
  go_enter Tryd.func54, Tryd.ntmps54
  go_wp2_with fail
  rw [HN.out] at HWe
  rw [HWe.out, HQ2.out, HQ1.out]
  go_loopw [5, 6] (fun s i wr => ∃ j : Nat, ∃ (a : Option Addr) (q p : Nat), j ≤ n ∧ s = .slice a q p ∧ i = .int .i64 j ∧ Hid (LftI W2 wr (.slice a q p) ((l.take j).eraseIdx k))) (fun _ i _ => n - (intOf i).toNat)
  case atStart => exact ⟨0, none, 0, 0, Nat.zero_le _, rfl, rfl, ⟨Below.refl _ _, Row.nil _ _ _, fun g hg => by cases hg⟩⟩
  case round =>
    obtain ⟨j, a, q, p, hj, rfl, rfl, HL⟩ := hrel
    have HBx := hidK (HXQ.out.more HL.out.below)
    have q0' := cell_at HBx.out.q1 0
    by_cases hlt : j < n
    · have hjl : j < l.length := by rw [HN.out]; exact hlt
      have hst := erase_step l k j hjl
      cases ad with
      | none => have := (HNil.out rfl).1; rw [this] at hjl; simp at hjl
      | some ad =>
        obtain ⟨g0, o0, rfl, hob, hgl, hat⟩ := HS.out _ rfl
        have hcells := fun c u hu => (hat wr (HBx.out.below.block g0 hgl)).1 j hjl c u hu
        obtain ⟨⟨n1, t1, a1⟩, hx⟩ : ∃ q, l[j] = q := ⟨_, rfl⟩
        rw [hx] at hcells hst
        have c0 : wr.cell? ⟨g0, o0 + j * 3, none⟩ = some (.string n1) := hcells 0 _ rfl
        have c1 : wr.cell? ⟨g0, o0 + j * 3 + 1, none⟩ = some (.string t1) := hcells 1 _ rfl
        have c2 : wr.cell? ⟨g0, o0 + j * 3 + 2, none⟩ = some (.bool a1) := hcells 2 _ rfl
        have hi1 : (j : Int) < (n : Int) := by omega
        clear hcells hat hx hob hgl q0
        by_cases hjk : j = k
        · have HQ : Hid ((l.take (j + 1)).eraseIdx k = (l.take j).eraseIdx k) := by rw [hst, if_pos hjk, List.append_nil]; exact hidK rfl
          have hb1 : ((j : Int) == (k : Int)) = true := by simp [hjk]
          have hb2 : ((j : Int) != (k : Int)) = false := by simp [hjk]
          have hje : (j : Int) = (k : Int) := by omega
          clear hst
          go_wp2_with fail
          all_goals first | (exfalso; omega) | skip
          go_roundw
          case rel => exact ⟨j + 1, a, q, p, by omega, rfl, by go_num, by rw [HQ.out]; exact HL⟩
          case measure => simp [intOf]; omega
        · have HQ : Hid ((l.take (j + 1)).eraseIdx k = (l.take j).eraseIdx k ++ [⟨n1, t1, a1⟩]) := by rw [hst, if_neg hjk]; exact hidK rfl
          have hje : ¬ (j : Int) = (k : Int) := by omega
          have hb1 : ((j : Int) == (k : Int)) = false := by simpa using hje
          have hb2 : ((j : Int) != (k : Int)) = true := by simpa using hje
          have hlj : ((l.take j).eraseIdx k).length ≤ 1000000 := Nat.le_trans (List.length_eraseIdx_le _ _) (by rw [List.length_take]; omega)
          have HV := hidK (HL.out.more (w2 := wr.alloc (.cells #[.string n1, .string t1, .bool a1] 87)) ((Below.refl _ _).alloc (Nat.le_refl _) _))
          have HSr := hidK (Src.fresh (P := Tryd.prog) underI wr #[.string n1, .string t1, .bool a1] 87 3 rfl rfl)
          clear hst
          go_wp2_with (at_builtin; refine wpList_append_row (wr.alloc (.cells #[.string n1, .string t1, .bool a1] 87)) rfl _ _ 60 60 rfl underI infoI rfl rfl rfl HV.out.row HSr.out (by omega) (by unfold maxLen; omega) ?_; intro v2 w5 hr hg; have HV5 := hidK (HV.out.grown (l2 := [⟨n1, t1, a1⟩]) hr.out hg.out); clear hr hg; obtain ⟨a2, q2, p2, rfl⟩ := HV5.out.row.sl)
          all_goals first | (exfalso; omega) | skip
          go_roundw
          case rel => exact ⟨j + 1, a2, q2, p2, by omega, rfl, by go_num, by rw [HQ.out]; exact HV5⟩
          case measure => simp [intOf]; omega
    · have hl : l.take j = l := List.take_of_length_le (by have := HN.out; omega)
      rw [hl] at HL
      have HB3 := hidK (HBx.out.put0 HL.out.row)
      obtain ⟨W3, hW3⟩ : ∃ W, wr.setCell ⟨Q1, 0, none⟩ (.slice a q p) = W := ⟨_, rfl⟩
      have f0 := free_at HBx.out.q1 0
      rw [hW3] at HB3
      have r0 := cell_at HB3.out.q1 0
      have r1 := cell_at HB3.out.q1 1
      have r2 := cell_at HB3.out.q1 2
      have y0 := cell_at HB3.out.q2 0
      have y1 := cell_at HB3.out.q2 1
      have y2 := cell_at HB3.out.q2 2
      have z0 := free_at HB3.out.q2 0
      have z1 := free_at HB3.out.q2 1
      have z2 := free_at HB3.out.q2 2
      clear hl q0
      go_wp2_with fail
      refine ret_cell1 rfl rfl (three_at HB3.out.q2 (x := .slice a q p) (y := .int .i64 lim) (z := .int .i64 c)) Tryd.underlying62 rfl infoRB rfl ⟨_, rfl, ?_, ?_⟩
      · exact Its.keep (Its.keep (Its.keep HB3.out.its HB3.out.q2 0 _) (put_at HB3.out.q2 0 _) 1 _) (put_at (put_at HB3.out.q2 0 _) 1 _) 2 _
      · have o2 := HB3.out.o2
        exact ((HB3.out.below.setCell o2 _).setCell o2 _).setCell o2 _
end Go.Proofs.YtgbaeajcgiaboaaDoor
