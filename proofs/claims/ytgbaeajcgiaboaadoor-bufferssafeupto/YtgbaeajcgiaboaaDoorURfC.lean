/-
  Buffers: the document's: ahead, trimmed.
-/
import Derived.Test.YtgbaeajcgiaboaaDoorURfB
namespace Go.Proofs.YtgbaeajcgiaboaaDoor
open Go.RowKit
set_option linter.unusedVariables false
set_option maxRecDepth 100000

theorem its_src {w : World} {v : Value} {l : List Kp} (h : ItsAt w v l) : Src Tryd.prog 3 60 v l.length (cellsK l) w := by
  obtain ⟨hl, ⟨rfl, h0⟩ | ⟨g, o, cap, cur, rfl, hg, h1, h2, h3, h4⟩⟩ := h
  · have : l = [] := List.eq_nil_of_length_eq_zero h0
    subst this
    exact Src.ofNil _ underI 0
  · refine Src.ofSlice _ underI ⟨g, o, none⟩ l.length cap _ (cellsK_len l) (fun j u hu => ?_) (cellsK_one l)
    rw [addr_add, cell_at hg]
    exact h4 j u hu
theorem Bx.mk3 {w : World} {v : Value} {l : List Kp} (h : ItsAt w v l) (lim c : Int) (o1 o2 o3 : Obj) (e1 : o1 = .cells #[v, .int .i64 lim, .int .i64 c] 62) (e3 : o3 = .cells #[.slice none 0 0, .int .i64 0, .int .i64 0] 62) : Bx w (((w.alloc o1).alloc o2).alloc o3) w.heap.size (w.heap.size + 2) v lim c l ∧ (((w.alloc o1).alloc o2).alloc o3).heap[w.heap.size + 1]? = some o2 := by
  subst e1; subst e3
  obtain ⟨a, b, c1, d⟩ := heap_two w (.cells #[v, .int .i64 lim, .int .i64 c] 62) o2
  have d2 : Below w.heap.size w (((w.alloc (.cells #[v, .int .i64 lim, .int .i64 c] 62)).alloc o2).alloc (.cells #[.slice none 0 0, .int .i64 0, .int .i64 0] 62)) := d.alloc (by omega) _
  refine ⟨⟨d2, Nat.le_refl _, by omega, by omega, alloc_at a _, ?_, h.below d2⟩, alloc_at b _⟩
  have := heap_alloc_new ((w.alloc (.cells #[v, .int .i64 lim, .int .i64 c] 62)).alloc o2) (.cells #[.slice none 0 0, .int .i64 0, .int .i64 0] 62)
  rwa [c1] at this
theorem ahead_box {w W2 Z w5 : World} {Q1 Q3 G : Nat} {v v2 : Value} {lim c : Int} {l : List Kp} {x : Kp} (h2 : Bx w W2 Q1 Q3 v lim c l) (hZ : Bx w Z Q1 Q3 v lim c l) (hG : W2.heap.size = G) (hr : Row w5 87 3 v2 (1 + l.length) (encK x ++ cellsK l)) (hg : Grown Z w5 (.slice (some ⟨G, 0, none⟩) 1 1) v2 (Value.slice (some ⟨G, 0, none⟩) 1 1).ownBlock.toList) :
    Hid (Bx w w5 Q1 Q3 v lim c l) ∧ Hid (ItsAt w5 v2 (x :: l)) := by
  have hb : But [G] Z w5 := hg.but
  have l1 := lt_block h2.q1
  have l2 := lt_block h2.q2
  have l3 := h2.below.size
  refine ⟨⟨hb.under hZ.below hZ.below.size (fun k hk => by simp at hk; omega), hZ.o1, hZ.o2, hZ.ne, (hb.block Q1 (lt_block hZ.q1) (by simp; omega)).trans hZ.q1, (hb.block Q3 (lt_block hZ.q2) (by simp; omega)).trans hZ.q2, ?_⟩, ?_⟩
  · exact Row.but hZ.its hb fun g hgg => by
      have := Row.lt h2.its g hgg
      simp
      omega
  · show Row w5 _ 3 v2 (l.length + 1) _
    rw [Nat.add_comm, cellsK_cons]
    exact hr
set_option maxHeartbeats 8000000 in
theorem rAhead_any {w : World} {v : Value} {l : List Kp} (h : ItsAt w v l) (lim c : Int) (xn xt : ByteArray) (xa : Bool) (hlen : l.length ≤ 1000000) :
    Calls Tryd.prog 52 #[.agg #[v, .int .i64 lim, .int .i64 c], .agg #[.string xn, .string xt, .bool xa]] w fun e w' => ∃ v', e = .returned (.agg #[v', .int .i64 lim, .int .i64 c]) ∧ ItsAt w' v' (⟨xn, xt, xa⟩ :: l) ∧ Below w.heap.size w w' := by
  obtain ⟨hx3, hxi⟩ := Bx.mk3 h lim c _ (.cells #[.string xn, .string xt, .bool xa] 87) _ rfl rfl
  obtain ⟨W2, hW2⟩ : ∃ W, ((w.alloc (.cells #[v, .int .i64 lim, .int .i64 c] 62)).alloc (.cells #[.string xn, .string xt, .bool xa] 87)).alloc (.cells #[.slice none 0 0, .int .i64 0, .int .i64 0] 62) = W := ⟨_, rfl⟩
  rw [hW2] at hx3 hxi
  obtain ⟨Q3, hQ3⟩ : ∃ Q, w.heap.size + 2 = Q := ⟨_, rfl⟩
  obtain ⟨Q2, hQ2⟩ : ∃ Q, w.heap.size + 1 = Q := ⟨_, rfl⟩
  obtain ⟨Q1, hQ1⟩ : ∃ Q, w.heap.size = Q := ⟨_, rfl⟩
  rw [hQ2] at hxi
  have HXQ : Hid (Bx w W2 Q1 Q3 v lim c l) := by rw [← hQ1, ← hQ3]; exact hx3
  have HWe := hidK hW2
  have HQ1 := hidK hQ1
  have HQ2 := hidK hQ2
  have HQ3 := hidK hQ3
  have q0 := cell_at HXQ.out.q1 0
  have i0 := cell_at hxi 0
  have i1 := cell_at hxi 1
  have i2 := cell_at hxi 2
  obtain ⟨Z, hZ⟩ : ∃ Z, W2.alloc (.cells #[.string xn, .string xt, .bool xa] 87) = Z := ⟨_, rfl⟩
  obtain ⟨G, hG⟩ : ∃ G, W2.heap.size = G := ⟨_, rfl⟩
  have hbZ : Below W2.heap.size W2 Z := by rw [← hZ]; exact (Below.refl _ _).alloc (Nat.le_refl _) _
  have hgZ : Z.heap[G]? = some (.cells #[.string xn, .string xt, .bool xa] 87 (0, 0)) := by rw [← hZ, ← hG]; exact heap_alloc_new _ _
  have HBZ := hidK (HXQ.out.more hbZ)
  have HSr := hidK (its_src HBZ.out.its)
  have hrow : Row Z 87 3 (.slice (some ⟨G, 0, none⟩) 1 1) 1 (encK ⟨xn, xt, xa⟩) := ⟨rfl, .inr ⟨G, 0, 1, _, rfl, hgZ, Nat.le_refl _, by decide, by simp, fun j u hu => by rw [Nat.zero_add]; simpa [encK] using hu⟩⟩
  have HRow := hidK hrow
  have z0 := cell_at HBZ.out.q1 0
  obtain ⟨a0, n0, p0, rfl⟩ := h.sl
  have HG := hidK hG
  clear h hx3 hxi hQ1 hQ2 hQ3 hW2 hbZ hgZ hrow
  go_enter Tryd.func52, Tryd.ntmps52
  go_upto_region 1 with fail
  rw [HWe.out, HQ3.out, HQ2.out, HQ1.out]
  clear HWe
  go_wp2_with (at_builtin; refine wpList_append_row Z rfl _ _ 60 60 rfl underI infoI rfl rfl rfl HRow.out HSr.out (by omega) (by unfold maxLen; omega) ?_; intro v2 w5 hr hg; obtain ⟨HB5, HI5⟩ := ahead_box HXQ.out HBZ.out HG.out hr.out hg.out; have s0 := cell_at HB5.out.q1 0; have f0 := free_at HB5.out.q1 0; obtain ⟨a2, n2, p2, rfl⟩ := HI5.out.sl; clear hr hg; obtain ⟨w6, hw6⟩ : ∃ w6, w5.setCell ⟨Q1, 0, none⟩ (.slice a2 n2 p2) = w6 := ⟨_, rfl⟩; have hb6 := HB5.out.put0 HI5.out; rw [hw6] at hb6; have HB6 := hidK hb6; have r0 := cell_at hb6.q1 0; have r1 := cell_at hb6.q1 1; have r2 := cell_at hb6.q1 2; have y0 := cell_at hb6.q2 0; have y1 := cell_at hb6.q2 1; have y2 := cell_at hb6.q2 2; have x0 := free_at hb6.q2 0; have x1 := free_at hb6.q2 1; have x2 := free_at hb6.q2 2; clear hb6)
  refine ret_cell1 rfl rfl (three_at HB6.out.q2 (x := .slice a2 n2 p2) (y := .int .i64 lim) (z := .int .i64 c)) Tryd.underlying62 rfl infoRB rfl ⟨_, rfl, ?_, ?_⟩
  · exact Its.keep (Its.keep (Its.keep HB6.out.its HB6.out.q2 0 _) (put_at HB6.out.q2 0 _) 1 _) (put_at (put_at HB6.out.q2 0 _) 1 _) 2 _
  · have o2 := HB6.out.o2
    exact ((HB6.out.below.setCell o2 _).setCell o2 _).setCell o2 _
/-- The oldest automatic one goes. -/
theorem trimG_plain (r : Nat) : ∀ (B A : List Kp), autos B = 0 → trimG r (A ++ B) = trimG r A ++ B
  | [], A, _ => by rw [List.append_nil, List.append_nil]
  | y :: B, A, h => by
    rw [autos_cons] at h
    have hy : y.a = false := by cases hy : y.a; rfl; rw [hy] at h; simp at h
    have ih := trimG_plain r B (A ++ [y]) (by omega)
    rw [show A ++ y :: B = A ++ [y] ++ B by simp, ih, trimG_snoc, if_neg (by rw [hy]; simp)]
    simp
theorem trimG_last {r : Nat} {A B : List Kp} {x : Kp} (hx : x.a = true) (hB : autos B = 0) (hr : r ≤ autos A) : trimG r (A ++ x :: B) = trimG r (A ++ B) := by
  rw [show A ++ x :: B = A ++ [x] ++ B by simp, trimG_plain r B _ hB, trimG_plain r B _ hB, trimG_snoc, if_pos ⟨hx, hr⟩, List.append_nil]
/-- Where the last automatic one stands. -/
def LastA (l : List Kp) (m : Nat) : Prop := (autos l = 0 ∧ m = 0) ∨ ∃ A x B, l = A ++ x :: B ∧ x.a = true ∧ autos B = 0 ∧ m = A.length
theorem LastA.no {l : List Kp} {m k : Nat} (h : LastA (l.take k) m) (hk : k < l.length) (ha : l[k].a = false) : LastA (l.take (k + 1)) m := by
  rw [List.take_add_one, List.getElem?_eq_getElem hk, Option.toList_some]
  rcases h with ⟨h1, h2⟩ | ⟨A, x, B, h1, h2, h3, h4⟩
  · exact .inl ⟨by rw [autos_append, autos_cons, h1, ha]; simp [autos], h2⟩
  · exact .inr ⟨A, x, B ++ [l[k]], by rw [h1]; simp, h2, by rw [autos_append, autos_cons, h3, ha]; simp [autos], h4⟩
theorem LastA.yes {l : List Kp} {k : Nat} (hk : k < l.length) (ha : l[k].a = true) : LastA (l.take (k + 1)) k := by
  rw [List.take_add_one, List.getElem?_eq_getElem hk, Option.toList_some]
  exact .inr ⟨l.take k, l[k], [], rfl, ha, rfl, by rw [List.length_take]; omega⟩
theorem LastA.lt {l : List Kp} {m : Nat} (h : LastA l m) (hp : 0 < autos l) : m < l.length := by
  rcases h with ⟨h1, _⟩ | ⟨A, x, B, rfl, _, _, rfl⟩
  · omega
  · simp
theorem LastA.trim {l : List Kp} {m r : Nat} (h : LastA l m) (hp : r < autos l) : trimG r (l.eraseIdx m) = trimG r l ∧ autos (l.eraseIdx m) + 1 = autos l := by
  rcases h with ⟨h1, _⟩ | ⟨A, x, B, rfl, hx, hB, rfl⟩
  · omega
  · rw [autos_append, autos_cons, hx, hB] at hp
    simp at hp
    have e : (A ++ x :: B).eraseIdx A.length = A ++ B := by
      rw [List.eraseIdx_append_of_length_le (Nat.le_refl _), Nat.sub_self]
      rfl
    rw [e]
    refine ⟨(trimG_last hx hB (by omega)).symm, ?_⟩
    rw [autos_append, autos_append, autos_cons, hx, hB]
    simp
theorem trimG_few {l : List Kp} {r : Nat} (h : ¬ r < autos l) : trimG r l = l := trimG_all l r (by omega)
end Go.Proofs.YtgbaeajcgiaboaaDoor
