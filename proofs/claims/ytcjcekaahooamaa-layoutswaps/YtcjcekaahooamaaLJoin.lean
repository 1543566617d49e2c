/-
  Layouts: join, of parts none of which is of that kind.
-/
import Derived.Test.YtcjcekaahooamaaLCut
namespace Go.Proofs.Ytcjcekaahooamaa
open Go.RowKit
set_option linter.unusedVariables false
set_option maxRecDepth 100000

theorem wpList_append_partB {ops : Array Oper} {rest : List Oper} {o : Oper} {a : Act} {Q : Exit → Act → World → Prop} (w : World) (hgd : o.guard = none) (s x : Operand)
    (ho : o.op = .call { callee := .builtin .append, args := #[s, x], argTypes := #[75, 75] })
    (B : Nat) (v : Value) (vs : List Value) (T : TypeId) (g : Nat) (hs : a.eval s = v) (hown : w.ownsRow B 35 1 v vs.length vs) (hx : a.eval x = .slice (some ⟨w.heap.size, 0, none⟩) 1 1) (hlen : vs.length ≤ 16777216) (hB : B ≤ w.heap.size)
    (h : ∀ v' w', w'.ownsRow B 35 1 v' (vs.length + 1) (vs ++ [.iface T (.pointer (some ⟨g, 0, none⟩))]) → (w.alloc (.cells #[.iface T (.pointer (some ⟨g, 0, none⟩))] 35)).grownBy w' v.ownBlock → wpList Try.prog ops Q rest (a.put o.dst v') w') : wpList Try.prog ops Q (o :: rest) a (w.alloc (.cells #[.iface T (.pointer (some ⟨g, 0, none⟩))] 35)) := by
  obtain ⟨i0, hi, hz0, hz1, hz2⟩ := info_partsL infoPart
  refine wpList_append_own_at _ hgd s x 75 ho B 35 i0 .nilIface 1 16 Try.underlying75 hi hz0 hz1 hz2 rfl (by decide) v vs.length vs hs (World.ownsRow.alloc hown _) ⟨w.heap.size, 0, none⟩ 1 1 [.iface T (.pointer (some ⟨g, 0, none⟩))] hx rfl ?_ ?_ ?_ ?_ ?_ ?_
  · intro j u hu
    rw [show (⟨w.heap.size, 0, none⟩ : Addr).add j = ⟨w.heap.size, j, none⟩ by unfold Addr.add; split <;> simp_all, cell_newL]
    simpa using hu
  · intro u hu
    simp only [List.mem_cons, List.not_mem_nil, or_false] at hu
    subst hu
    rfl
  · unfold maxLen; omega
  · omega
  · have : (w.alloc (.cells #[.iface T (.pointer (some ⟨g, 0, none⟩))] 35)).heap.size = w.heap.size + 1 := by simp
    omega
  · intro v' w' h2 h3 _ h5
    exact h v' w' h2 h3

theorem SplitAt.setSl {W : World} {g : Nat} {b : Box} {k : Int} {sl : Value} (h : SplitAt W g b k sl) (sl' : Value) : SplitAt (W.setCell ⟨g, 5, none⟩ sl') g b k sl' := by
  have hlt : g < W.heap.size := lt_of_block h
  have h' : W.heap[g] = .cells (splitV b k sl) 80 (0, 0) := by unfold SplitAt at h; simpa [Array.getElem?_eq_getElem hlt] using h
  show (W.heap.modify g _)[g]? = _
  rw [Array.getElem?_eq_getElem (by simpa using hlt), Array.getElem_modify_self, h']
  rfl

/-- How far join has come. -/
structure JoinTo (w : World) (k : Int) (vs : List Value) (sl : Value) (wr : World) : Prop where
  own : SplitAt wr w.heap.size ⟨0, 0, 0, 0⟩ k sl
  row : wr.ownsRow (w.heap.size + 1) 35 1 sl vs.length vs
  below : Below w.heap.size w wr

theorem JoinTo.start (w : World) (k : Int) : JoinTo w k [] (.slice none 0 0) (w.alloc (.cells #[.int .i64 0, .int .i64 0, .int .i64 0, .int .i64 0, .int .i64 k, .slice none 0 0] 80)) :=
  ⟨heap_alloc_new _ _, World.ownsRow_nil _ _ _ _, (Below.refl _ _).alloc (Nat.le_refl _) _⟩
theorem JoinTo.lt {w : World} {k : Int} {vs : List Value} {sl : Value} {wr : World} (h : JoinTo w k vs sl wr) : w.heap.size < wr.heap.size := lt_of_block h.own

theorem JoinTo.next {w : World} {k : Int} {vs : List Value} {sl : Value} {wr : World} (h : JoinTo w k vs sl wr) {o : Obj} {sl' u : Value} {w' : World} (h1 : w'.ownsRow (w.heap.size + 1) 35 1 sl' (vs.length + 1) (vs ++ [u])) (h2 : (wr.alloc o).grownBy w' sl.ownBlock) :
    SplitAt w' w.heap.size ⟨0, 0, 0, 0⟩ k sl ∧ JoinTo w k (vs ++ [u]) sl' (w'.setCell ⟨w.heap.size, 5, none⟩ sl') := by
  have hlt := h.lt
  have hsz : (wr.alloc o).heap.size = wr.heap.size + 1 := by simp
  have hne : ∀ q, sl.ownBlock = some q → w.heap.size + 1 ≤ q := fun q hq => (World.ownsRow.lt h.row q hq).1
  have hs : SplitAt w' w.heap.size ⟨0, 0, 0, 0⟩ k sl := by
    refine (h2.block w.heap.size (by omega) fun e => ?_).trans ((((Below.refl wr.heap.size wr).alloc (Nat.le_refl _) o).block _ hlt).trans h.own)
    have := hne _ e.symm
    omega
  refine ⟨hs, hs.setSl sl', ?_, ?_⟩
  · have hk : ∀ q ∈ sl'.ownBlock.toList, (w'.setCell ⟨w.heap.size, 5, none⟩ sl').heap[q]? = w'.heap[q]? := fun q hq => by
      refine Below.heap_setCell _ _ _ _ fun e => ?_
      have := (World.ownsRow.lt h1 q (by simpa using hq)).1
      have e' : q = w.heap.size := by simpa using e
      omega
    have := own_kept h1 hk
    simpa using this
  · have hb : Below w.heap.size w w' := by
      have h0 : Below w.heap.size w (wr.alloc o) := h.below.alloc h.below.size o
      refine ⟨h2.os.trans h0.os, h2.tape.trans h0.tape, h2.output.trans h0.output, Nat.le_trans h0.size h2.size, fun q hq => (h2.block q (by have := h0.size; omega) fun e => ?_).trans (h0.block q hq)⟩
      have := hne _ e.symm
      omega
    exact below_grown hb (grownBy_set _ _ _ _) (Nat.le_refl _)

set_option maxHeartbeats 2000000 in
theorem join_none (k : Int) (hk : k = 2 ∨ k = 3) (pg n cap : Nat) (vs : List Value) (fs : List Nat) (t0 : Tree) (tr : List Tree) (w : World) (hR : ∀ (i : Nat) u, vs[i]? = some u → w.cell? ⟨pg, i, none⟩ = some u) (hP : partsAt w 0 (t0 :: tr) vs fs) (hfi : fines (t0 :: tr)) (hs : SmallT (t0 :: tr)) (hno : ∀ t ∈ t0 :: tr, t.kindIs k = false) (hn : (t0 :: tr).length = n) :
    Calls Try.prog 35 #[.int .i64 k, .slice (some ⟨pg, 0, none⟩) n cap] w fun e w' => ∃ sl, e = .returned (.pointer (some ⟨w.heap.size, 0, none⟩)) ∧ SplitAt w' w.heap.size (aroundB (t0 :: tr) k) k sl ∧ w'.ownsRow (w.heap.size + 1) 35 1 sl vs.length vs ∧ Below w.heap.size w w' := by
  have hvl := hP.length
  rw [hn] at hvl
  have HS : Hid (Sounds w vs (t0 :: tr)) := hP.sounds hfi
  have HR : Hid (∀ (i : Nat) u, vs[i]? = some u → w.cell? ⟨pg, i, none⟩ = some u) := hR
  have HV : Hid (vs.length = n) := hvl
  have HN : Hid ((t0 :: tr).length = n) := hn
  have HK : Hid (∀ t ∈ t0 :: tr, t.kindIs k = false) := hno
  have hn2 : n ≤ 200 := by have := hs.1; omega
  have HJ0 : Hid (JoinTo w k [] (.slice none 0 0) _) := JoinTo.start w k
  have HA : Hid (∀ sl wr, JoinTo w k vs sl wr → Calls Try.prog 45 #[.pointer (some ⟨w.heap.size, 0, none⟩)] wr fun e w' => e = .returned (.agg #[.int .i64 0, .int .i64 0, .int .i64 (aroundB (t0 :: tr) k).w, .int .i64 (aroundB (t0 :: tr) k).h]) ∧ JoinTo w k vs sl w') := by
    intro sl wr h
    refine (around_any w.heap.size ⟨0, 0, 0, 0⟩ k hk sl vs fs t0 tr 0 wr h.own ⟨h.row.1, ?_⟩ (hP.below h.below) hs).mono fun e w' h2 => ⟨h2.1, h.own.below h2.2, own_below h.row h2.2, below_step h.below h2.2⟩
    rcases h.row.2 with h0 | ⟨g, cap, cur, e, _, r⟩
    · exact .inl h0
    · exact .inr ⟨g, cap, cur, e, Nat.zero_le _, r⟩
  obtain ⟨bw, hbw⟩ : ∃ x, (aroundB (t0 :: tr) k).w = x := ⟨_, rfl⟩
  obtain ⟨bh, hbh⟩ : ∃ x, (aroundB (t0 :: tr) k).h = x := ⟨_, rfl⟩
  have HE : Hid (aroundB (t0 :: tr) k = ⟨0, 0, bw, bh⟩) := by
    show _ = _
    rw [← hbw, ← hbh]
    unfold aroundB
    by_cases h2 : k = 2 <;> simp [h2]
  rw [hbw, hbh] at HA
  rw [HE.out]
  clear hR hP hfi hs hno hn hvl hk hbw hbh
  go_enter Try.func35, Try.ntmps35
  go_wp2
  go_loopw [14] (fun v wr => ∃ i : Nat, i ≤ n ∧ v = .int .i64 i ∧ ∃ sl, Hid (JoinTo w k (vs.take i) sl wr)) (fun v _ => n - (intOf v).toNat)
  case atStart => exact ⟨0, Nat.zero_le _, rfl, _, HJ0⟩
  case round =>
    obtain ⟨i, hi, rfl, sl, HJ⟩ := hrel
    clear HJ0
    by_cases hlt : i < n
    · obtain ⟨t, ht⟩ : ∃ t, (t0 :: tr)[i]? = some t := ⟨_, List.getElem?_eq_getElem (by rw [HN.out]; exact hlt)⟩
      obtain ⟨pv, T, gi, Fs, Fa, hpv, HP⟩ := HS.out i t ht
      have hval := HP.val
      subst hval
      have ri := (HJ.out.below.cell (p := ⟨pg, i, none⟩) (World.block_lt_of_cell? w _ (HR.out i _ hpv))).trans (HR.out i _ hpv)
      have m1 := HP.mA
      have m2 := HP.fA
      have hcA := HP.cA k wr HJ.out.below
      rw [HK.out t (List.mem_of_getElem? ht)] at hcA
      have HcA : Hid (Calls Try.prog Fa #[.pointer (some ⟨gi, 0, none⟩), .int .i64 k] wr fun e w' => e = .returned (.pointer none) ∧ wr = w') := hcA
      have HT : Hid (vs.take (i + 1) = vs.take i ++ [.iface T (.pointer (some ⟨gi, 0, none⟩))]) := by
        show _ = _
        rw [List.take_add_one, hpv]
        rfl
      have HL : Hid ((vs.take i).length = i) := by
        show _ = _
        rw [List.length_take, HV.out]
        omega
      have r5 : wr.cell? ⟨w.heap.size, 5, none⟩ = some sl := cell_atL HJ.out.own 5
      obtain ⟨sa, sn, sc, hsl⟩ := own_slice HJ.out.row
      subst hsl
      have HW : Hid (w.heap.size + 1 ≤ wr.heap.size) := HJ.out.lt
      clear HP hpv ht hcA
      go_wp2_with fail
      refine HcA.out.mono ?_
      rintro e w1 ⟨rfl, rfl⟩
      go_wp2_with (at_builtin; refine wpList_append_partB wr rfl (.tmp 39) (.tmp 41) rfl (w.heap.size + 1) (.slice sa sn sc) (vs.take i) T gi rfl HJ.out.row rfl (by rw [HL.out]; omega) HW.out ?_; intro sl' w3 a1 a2; have hsl := own_slice a1; have hj := HJ.out.next a1 a2; have c5 : w3.cell? ⟨w.heap.size, 5, none⟩ = some (.slice sa sn sc) := cell_atL hj.1 5; have f5 : w3.frozen? ⟨w.heap.size, 5, none⟩ = false := free_atL hj.1 5; have HJ3 : Hid (JoinTo w k (vs.take i ++ [.iface T (.pointer (some ⟨gi, 0, none⟩))]) sl' (w3.setCell ⟨w.heap.size, 5, none⟩ sl')) := hj.2; clear a1 a2 hj; obtain ⟨sa', sn', sc', hsl'⟩ := hsl; subst hsl')
      go_roundw
      case rel => exact ⟨i + 1, by omega, by go_num, _, by rw [HT.out]; exact HJ3⟩
      case measure => simp [intOf]; omega
    · have hin : i = n := by omega
      subst hin
      have HJ2 : Hid (JoinTo w k vs sl wr) := by
        have h := HJ.out
        rwa [List.take_of_length_le (by rw [HV.out]; exact Nat.le_refl _)] at h
      have HA2 : Hid (Calls Try.prog 45 #[.pointer (some ⟨w.heap.size, 0, none⟩)] wr _) := HA.out sl wr HJ2.out
      clear HJ HA
      go_wp2_with fail
      refine HA2.out.mono ?_
      rintro e w5 ⟨rfl, hj⟩
      have HJ5 : Hid (JoinTo w k vs sl w5) := hj
      obtain ⟨q0, q1, q2, q3, qf⟩ := hj.own.box
      have f0 := qf 0 (by decide)
      have f1 := qf 1 (by decide)
      have f2 := qf 2 (by decide)
      have f3 := qf 3 (by decide)
      clear hj qf HA2
      go_wp2
      go_ret
      refine ⟨sl, rfl, (((HJ5.out.own.set 0 (.int .i64 0) (b' := ⟨0, 0, 0, 0⟩) rfl).set 1 (.int .i64 0) (b' := ⟨0, 0, 0, 0⟩) rfl).set 2 (.int .i64 bw) (b' := ⟨0, 0, bw, 0⟩) rfl).set 3 (.int .i64 bh) (b' := ⟨0, 0, bw, bh⟩) rfl, ?_, below_grown (below_grown (below_grown (below_grown HJ5.out.below (grownBy_set _ _ _ _) (Nat.le_refl _)) (grownBy_set _ _ _ _) (Nat.le_refl _)) (grownBy_set _ _ _ _) (Nat.le_refl _)) (grownBy_set _ _ _ _) (Nat.le_refl _)⟩
      refine own_kept HJ5.out.row fun q hq => ?_
      have hne : q ≠ w.heap.size := fun e => by
        have := (World.ownsRow.lt HJ5.out.row q (by simpa using hq)).1
        omega
      exact ((Below.heap_setCell _ _ _ _ hne).trans (Below.heap_setCell _ _ _ _ hne)).trans ((Below.heap_setCell _ _ _ _ hne).trans (Below.heap_setCell _ _ _ _ hne))

end Go.Proofs.Ytcjcekaahooamaa
