/-
  Buffers: slices.Delete of one buffer, take.
-/
import Derived.Test.YtgbaeajcgiaboaaDoorUIdx
import Derived.Deep.RegionLaw
import Derived.Deep.LoopGhost
namespace Go.Proofs.YtgbaeajcgiaboaaDoor
open Go.RowKit
set_option linter.unusedVariables false
set_option maxRecDepth 100000

theorem step_append_eq {P : Program} {ops : Array Oper} {o : Oper} {a : Act} {w : World} {K : Act → World → Prop} {Q : Exit → Act → World → Prop} {E : Prop}
    (hg : o.guard = none) (d x : Operand) (dT sT : TypeId) (hop : o.op = Op.call { callee := Callee.builtin Builtin.append, args := #[d, x], argTypes := #[dT, sT] })
    (v u : Value) (hd : a.eval d = v) (hx : a.eval x = u) {v' : Value} {w' : World} (hr : (Builtin.append_ #[dT, sT] o.type #[v, u]).run P w = .ok v' w') (hK : K (a.put o.dst v') w') :
    if Region.wanted o (yielded ops a.tmps) = true then Oper.wp P o a w K Q else E := by
  have hw : Region.wanted o (yielded ops a.tmps) = true := by simp [Region.wanted, hg]
  rw [if_pos hw]
  unfold Oper.wp
  simp [execOp, hop, resolve, invoke, builtin, hd, hx, hr, Result.andThen]
  exact hK
theorem infoKe : (Tryd.prog.info? 54).map (fun i => (i.zero, i.size, i.bytes)) = some (some zK, 3, 40) := infoK
theorem cellsK_erase (l : List Kp) (i : Nat) : cellsK (l.eraseIdx i) = cellsK (l.take i) ++ cellsK (l.drop (i + 1)) := by rw [List.eraseIdx_eq_take_drop_succ, cellsK_append]
theorem zeroK (w : World) : (zeroValue 54).run Tryd.prog w = .ok zK w := by kernel_rfl
theorem zK_one : (Builtin.zeroCells zK.cells 1).toList = [.string ⟨#[]⟩, .string ⟨#[]⟩, .bool false] := by kernel_rfl
/-- What a delete leaves of the row. -/
theorem del_row {w : World} {g o n cap : Nat} {l : List Kp} (h : KpsAt w (.slice (some ⟨g, o, none⟩) n cap) l) (hn : l.length = n) (i m : Nat) (hi : i < n) (hm : n = m + 1) (z : List Value) (hz : z.length = 3) :
    KpsAt ((w.drew.setCells g (o + i * 3) (cellsK (l.drop (i + 1)))).setCells g (o + m * 3) z) (.slice (some ⟨g, o, none⟩) m cap) (l.eraseIdx i) := by
  obtain ⟨hl, ⟨h0, _⟩ | ⟨g', o', cap', cur, he, hg, h1, h2, h3, h4⟩⟩ := h
  · cases h0
  simp only [Value.slice.injEq, Option.some.injEq, Addr.mk.injEq, and_true] at he
  obtain ⟨⟨rfl, rfl⟩, -, rfl⟩ := he
  have hdl : (cellsK (l.drop (i + 1))).length = (m - i) * 3 := by rw [cellsK_len, List.length_drop]; congr 1; omega
  have hfit : o + n * 3 ≤ cur.size := by have := Nat.mul_le_mul_right 3 h1; rw [hn] at this; omega
  obtain ⟨c1, p1, q1, r1, s1⟩ := setCells_block g 54 (cellsK (l.drop (i + 1))) (o + i * 3) w.drew cur hg (by rw [hdl]; omega)
  obtain ⟨c2, p2, q2, r2, s2⟩ := setCells_block g 54 z (o + m * 3) _ c1 p1 (by rw [hz, q1]; omega)
  have hel : (l.eraseIdx i).length = m := by rw [List.length_eraseIdx_of_lt (by omega)]; omega
  refine ⟨by rw [cellsK_len], .inr ⟨g, o, cap, c2, by rw [hel], p2, by rw [hel]; omega, h2, by rw [q2, q1]; exact h3, fun j u hu => ?_⟩⟩
  have hj := (List.getElem?_eq_some_iff.1 hu).1
  rw [cellsK_len, hel] at hj
  rw [s2 _ (.inl (by omega))]
  rw [cellsK_erase] at hu
  have htl : (cellsK (l.take i)).length = i * 3 := by rw [cellsK_len, List.length_take]; congr 1; omega
  by_cases hji : j < i * 3
  · rw [List.getElem?_append_left (by omega), cellsK_take, List.getElem?_take_of_lt hji] at hu
    rw [s1 _ (.inl (by omega))]
    exact h4 j u hu
  · rw [List.getElem?_append_right (by omega), htl] at hu
    have := r1 _ _ hu
    rwa [show o + i * 3 + (j - i * 3) = o + j by omega] at this
theorem run_append_eq {w : World} {g o n cap : Nat} {l : List Kp} (h : KpsAt w (.slice (some ⟨g, o, none⟩) n cap) l) (hn : l.length = n) (i m : Nat) (hi : i < n) (hm : n = m + 1) (A : Addr) (hA : (if cap = i + 1 then (⟨g, o, none⟩ : Addr) else ⟨g, o + (i + 1) * 3, none⟩) = A) (ty : TypeId) (c : Nat) :
    (Builtin.append_ #[43, 43] ty #[.slice (some ⟨g, o, none⟩) i cap, .slice (some A) (n - (i + 1)) c]).run Tryd.prog w.drew = .ok (.slice (some ⟨g, o, none⟩) m cap) (w.drew.setCells g (o + i * 3) (cellsK (l.drop (i + 1)))) := by
  obtain ⟨hl, ⟨h0, _⟩ | ⟨g', o', cap', cur, he, hg, h1, h2, h3, h4⟩⟩ := h
  · cases h0
  simp only [Value.slice.injEq, Option.some.injEq, Addr.mk.injEq, and_true] at he
  obtain ⟨⟨rfl, rfl⟩, -, rfl⟩ := he
  obtain ⟨i0, hi0, hz0, hz1, hz2⟩ := info_parts infoKe
  have hdl : (cellsK (l.drop (i + 1))).length = (n - (i + 1)) * 3 := by rw [cellsK_len, List.length_drop, hn]
  have hs : Src Tryd.prog i0.size 43 (.slice (some A) (n - (i + 1)) c) (n - (i + 1)) (cellsK (l.drop (i + 1))) w.drew := by
    rw [hz1]
    refine Src.ofSlice _ underK A (n - (i + 1)) c _ hdl (fun j u hu => ?_) (cellsK_one _)
    have hj := (List.getElem?_eq_some_iff.1 hu).1
    rw [hdl] at hj
    subst hA
    rw [if_neg (by omega), addr_add]
    show w.cell? _ = _
    rw [cell_at hg]
    rw [cellsK_drop, List.getElem?_drop] at hu
    have := h4 _ u hu
    rwa [show o + ((i + 1) * 3 + j) = o + (i + 1) * 3 + j by omega] at this
  have hrun := run_append_room_src (P := Tryd.prog) w.drew 43 43 ty 54 i0 underK hi0 g o i cap _ (n - (i + 1)) _ hs (by omega)
    (fun j hj => by
      rw [hdl] at hj
      rw [hz1]
      show (w.cell? _).isSome = true
      rw [cell_at hg, Array.getElem?_eq_getElem (by have := Nat.mul_le_mul_right 3 h1; omega)]; rfl) (fun j hj => free_at (w := w.drew) hg _)
  rw [hz1, show i + (n - (i + 1)) = m by omega] at hrun
  exact hrun

set_option maxHeartbeats 4000000 in
theorem delete_any {w : World} {v : Value} {l : List Kp} (h : KpsAt w v l) (i : Nat) (hi : i < l.length) (hlen : l.length ≤ 1000000) :
    Calls Tryd.prog 57 #[v, .int .i64 (i : Int), .int .i64 ((i : Int) + 1)] w fun e w' => ∃ v', e = .returned v' ∧ KpsAt w' v' (l.eraseIdx i) ∧ Trn w w' v v' := by
  obtain ⟨ad, cp, rfl, hle, hcm, hnil, hsome⟩ := h.shape
  cases ad with
  | none => have := (hnil rfl).1; rw [this] at hi; simp at hi
  | some a =>
    obtain ⟨g, o, rfl, _, hgl, _⟩ := hsome a rfl
    clear hnil hsome
    obtain ⟨n, hn⟩ : ∃ n, l.length = n := ⟨_, rfl⟩
    rw [hn] at h hle hlen hi ⊢
    obtain ⟨m, hm⟩ : ∃ m, n = m + 1 := ⟨n - 1, by omega⟩
    obtain ⟨A, hA⟩ : ∃ A : Addr, (if cp = i + 1 then (⟨g, o, none⟩ : Addr) else ⟨g, o + (i + 1) * 3, none⟩) = A := ⟨_, rfl⟩
    have hA' : (if cp = i + 1 then some (⟨g, o, none⟩ : Addr) else some ⟨g, o + (i + 1) * 3, none⟩) = some A := by rw [← hA]; split <;> rfl
    have HR := hidK (fun ty c => run_append_eq h hn i m hi hm A hA ty c)
    have HD := hidK (del_row h hn i m hi hm [.string ⟨#[]⟩, .string ⟨#[]⟩, .bool false] rfl)
    obtain ⟨W1, hW1⟩ : ∃ W1, W1 = w.drew.setCells g (o + i * 3) (cellsK (l.drop (i + 1))) := ⟨_, rfl⟩
    rw [← hW1] at HR HD
    have hbut : But [g] w W1 := by rw [hW1]; exact ((But.refl [g] w).drew).setCells (by simp) _ _
    have HB : Hid (But [g] w (W1.setCells g (o + m * 3) [.string ⟨#[]⟩, .string ⟨#[]⟩, .bool false])) := hbut.setCells (by simp) _ _
    have hblk : ∃ c1 : Array Value, W1.heap[g]? = some (.cells c1 54 (0, 0)) ∧ o + n * 3 ≤ c1.size := by
      obtain ⟨hl, ⟨h0, _⟩ | ⟨g', o', cap', cur, he, hg, h1, h2, h3, h4⟩⟩ := h
      · cases h0
      simp only [Value.slice.injEq, Option.some.injEq, Addr.mk.injEq, and_true] at he
      obtain ⟨⟨rfl, rfl⟩, -, rfl⟩ := he
      have hdl : (cellsK (l.drop (i + 1))).length = (n - (i + 1)) * 3 := by rw [cellsK_len, List.length_drop, hn]
      obtain ⟨c1, p1, q1, r1, s1⟩ := setCells_block g 54 (cellsK (l.drop (i + 1))) (o + i * 3) w.drew cur hg (by rw [hdl]; have := Nat.mul_le_mul_right 3 h1; omega)
      exact ⟨c1, by rw [hW1]; exact p1, by rw [q1]; have := Nat.mul_le_mul_right 3 h1; omega⟩
    obtain ⟨c1, hc1, hs1⟩ := hblk
    have hnm : n - m = 1 := by omega
    have hcl : ∀ ty, (Builtin.clear_ #[43] ty #[.slice (some ⟨g, o + m * 3, none⟩) 1 (cp - m)]).run Tryd.prog W1 = .ok (.tuple #[]) (W1.setCells g (o + m * 3) [.string ⟨#[]⟩, .string ⟨#[]⟩, .bool false]) := fun ty => by
      have := run_clear_sliceN (P := Tryd.prog) W1 43 54 ty zK underK zeroK (by rw [zK_one]; simp [Value.oneCell']) g (o + m * 3) (cp - m)
        (fun j hj => by rw [zK_one] at hj; simp at hj; rw [cell_at hc1, Array.getElem?_eq_getElem (by omega)]; rfl) (fun j hj => free_at hc1 _)
      rw [zK_one] at this
      exact this
    have HW : Hid (W1 = w.drew.setCells g (o + i * 3) (cellsK (l.drop (i + 1)))) := hW1
    have hn63 : cp ≤ 9223372036854775807 := by unfold maxLen at hcm; omega
    have hcpn : ¬ cp = m := by omega
    have hwr : IntKind.i64.wrap ((i : Int) + 1) = (i : Int) + 1 := by rw [IntKind.wrap_i64]; omega
    have hne : ¬ (i : Int) = (i : Int) + 1 := by omega
    have hb1 : (i : Int) + 1 ≤ (n : Int) := by omega
    have hb2 : (i : Int) ≤ (cp : Int) := by omega
    have hb3 : (n : Int) ≤ (cp : Int) := by omega
    have hmn : (m : Int) ≤ (n : Int) := by omega
    have htn : ((i : Int) + 1).toNat = i + 1 := by omega
    have hb0 : (0 : Int) ≤ (i : Int) + 1 := by omega
    have mixed : Tryd.prog.follows Departure.mixedOrders = true := by kernel_rfl
    clear hW1 hbut h hn hc1 hs1 hcm hA hm
    go_enter Tryd.func57, Tryd.ntmps57
    go_wp2_with fail
    go_region_law_o (refine step_append_eq rfl (.tmp 22) (.tmp 25) 43 43 rfl (.slice (some ⟨g, o, none⟩) i cp) (.slice (some A) (n - (i + 1)) (cp - (i + 1))) (by simp [Act.eval, Act.put]) (by simp [Act.eval, Act.put]) (HR.out _ _) ?_)
    go_wp2_with fail
    go_ret
    exact ⟨_, rfl, HD.out, ⟨HB.out, fun q hq => .inl (by simpa [Value.ownBlock] using hq)⟩⟩
end Go.Proofs.YtgbaeajcgiaboaaDoor
