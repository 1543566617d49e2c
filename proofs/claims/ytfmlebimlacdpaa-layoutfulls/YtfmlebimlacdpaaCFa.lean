/-
  Layouts: join, of parts that may be of that kind: their children come in their place.
  Layouts: a pane beside the whole: the tree.
  Layouts: Full in the program.
-/
import Derived.Test.YtfmlebimlacdpaaCFi
namespace Go.Proofs.Ytfmlebimlacdpaa
open Go.RowKit
set_option linter.unusedVariables false
set_option maxRecDepth 100000

/-- What a part gives to a cell of that kind. -/
def flatT (k : Int) : Tree → List Tree
  | .leaf b p => [.leaf b p]
  | .split b k' ts => if k' = k then ts else [.split b k' ts]
theorem flatT_no {k : Int} {t : Tree} (h : t.kindIs k = false) : flatT k t = [t] := by
  cases t with
  | leaf b p => rfl
  | split b k' ts =>
    have : ¬ k' = k := by simpa [Tree.kindIs] using h
    show (if k' = k then ts else [.split b k' ts]) = _
    rw [if_neg this]

/-- A part in memory, and the values that it gives. -/
structure FlatAt (w : World) (k : Int) (t : Tree) (v : Value) (u : List Value) : Prop where
  no : t.kindIs k = false → u = [v]
  yes : t.kindIs k = true → ∃ gi g cap, v = splitI gi ∧ w.cell? ⟨gi, 5, none⟩ = some (.slice (some ⟨g, 0, none⟩) u.length cap) ∧ w.ownsRow 0 49 1 (.slice (some ⟨g, 0, none⟩) u.length cap) u.length u
  part : ∃ T gi Fs Fa, PartS w v t T gi Fs Fa

theorem flat_of {w : World} {k : Int} {t : Tree} {v : Value} {fp : List Nat} (h : t.At w 0 v fp) (hf : t.fine) (hs : t.sound = true) : ∃ u f, FlatAt w k t v u ∧ partsAt w 0 (flatT k t) u f ∧ List.Sublist f fp := by
  cases ht : t.kindIs k with
  | false =>
    refine ⟨[v], fp, ⟨fun _ => rfl, fun e => (by rw [ht] at e; cases e), h.partS hf⟩, ?_, List.Sublist.refl _⟩
    rw [flatT_no ht]
    exact ⟨v, [], fp, [], rfl, h, ⟨rfl, rfl⟩, by simp⟩
  | true =>
    cases t with
    | leaf b p => cases ht
    | split b k' ts =>
      have hp := h.partS hf
      obtain ⟨g, sl, vs, fs, rfl, h2, h3, h4, rfl⟩ := h
      have hk : k' = k := by simpa [Tree.kindIs] using ht
      unfold Tree.sound at hs
      simp only [Bool.and_eq_true, decide_eq_true_eq] at hs
      have hvl := h4.length
      rcases h3.2 with ⟨_, h5⟩ | ⟨pg, cap, cur, rfl, r⟩
      · have := hs.1.1
        omega
      · refine ⟨vs, fs, ⟨fun e => ?_, fun _ => ⟨g, pg, cap, rfl, cell_atL h2 5, h3⟩, hp⟩, ?_, ?_⟩
        · rw [ht] at e
          cases e
        · show partsAt w 0 (if k' = k then ts else [.split b k' ts]) vs fs
          rw [if_pos hk]
          exact h4
        · exact (List.sublist_append_right _ _).trans (List.sublist_cons_self _ _)

theorem step_append_parts {ops : Array Oper} {o : Oper} {a : Act} {K : Act → World → Prop} {Q : Exit → Act → World → Prop} {E : Prop} (w : World) (hgd : o.guard = none) (s x : Operand)
    (ho : o.op = .call { callee := .builtin .append, args := #[s, x], argTypes := #[69, 69] })
    (B : Nat) (v : Value) (vs : List Value) (hs : a.eval s = v) (hown : w.ownsRow B 49 1 v vs.length vs) (g cap : Nat) (ys : List Value) (hx : a.eval x = .slice (some ⟨g, 0, none⟩) ys.length cap) (hown' : w.ownsRow 0 49 1 (.slice (some ⟨g, 0, none⟩) ys.length cap) ys.length ys) (hone : ∀ u ∈ ys, u.oneCell' = true) (hlen : vs.length + ys.length ≤ 1000000) (hB : B ≤ w.heap.size)
    (h : ∀ v' w', w'.ownsRow B 49 1 v' (vs.length + ys.length) (vs ++ ys) → w.grownBy w' v.ownBlock → K (a.put o.dst v') w') : if Region.wanted o (yielded ops a.tmps) = true then Oper.wp Try.prog o a w K Q else E := by
  have hw : Region.wanted o (yielded ops a.tmps) = true := by simp [Region.wanted, hgd]
  rw [if_pos hw]
  obtain ⟨i0, hi, hz0, hz1, hz2⟩ := info_partsL infoPart
  refine wp_append_own _ s x 69 ho B 49 i0 .nilIface 1 16 Try.underlying69 hi hz0 hz1 hz2 rfl (by decide) v vs.length vs hs hown ⟨g, 0, none⟩ ys.length cap ys hx (by simp) (World.ownsRow.cells hown' rfl) hone ?_ ?_ hB ?_
  · unfold maxLen; omega
  · omega
  · intro v' w' h2 h3 _
    exact h v' w' h2 h3

theorem JoinTo.more {w : World} {k : Int} {vs us : List Value} {sl : Value} {wr : World} (h : JoinTo w k vs sl wr) {sl' : Value} {w' : World} (h1 : w'.ownsRow (w.heap.size + 1) 49 1 sl' (vs.length + us.length) (vs ++ us)) (h2 : wr.grownBy w' sl.ownBlock) :
    SplitAt w' w.heap.size ⟨0, 0, 0, 0⟩ k sl ∧ JoinTo w k (vs ++ us) sl' (w'.setCell ⟨w.heap.size, 5, none⟩ sl') := by
  have hlt := h.lt
  have hne : ∀ q, sl.ownBlock = some q → w.heap.size + 1 ≤ q := fun q hq => (World.ownsRow.lt h.row q hq).1
  have hs : SplitAt w' w.heap.size ⟨0, 0, 0, 0⟩ k sl := by
    refine (h2.block w.heap.size hlt fun e => ?_).trans h.own
    have := hne _ e.symm
    omega
  refine ⟨hs, hs.setSl sl', ?_, ?_⟩
  · have hk : ∀ q ∈ sl'.ownBlock.toList, (w'.setCell ⟨w.heap.size, 5, none⟩ sl').heap[q]? = w'.heap[q]? := fun q hq => by
      refine Below.heap_setCell _ _ _ _ fun e => ?_
      have := (World.ownsRow.lt h1 q (by simpa using hq)).1
      have e' : q = w.heap.size := by simpa using e
      omega
    have := own_kept h1 hk
    simpa using this
  · have hb : Below w.heap.size w w' := by
      have h0 := h.below
      refine ⟨h2.os.trans h0.os, h2.tape.trans h0.tape, h2.output.trans h0.output, Nat.le_trans h0.size h2.size, fun q hq => (h2.block q (by have := h0.size; omega) fun e => ?_).trans (h0.block q hq)⟩
      have := hne _ e.symm
      omega
    exact below_grown hb (grownBy_set _ _ _ _) (Nat.le_refl _)
theorem JoinTo.below' {w : World} {k : Int} {vs : List Value} {sl : Value} {wr X : World} (h : JoinTo w k vs sl wr) (hb : Below wr.heap.size wr X) : JoinTo w k vs sl X := ⟨h.own.below hb, own_below h.row hb, below_step h.below hb⟩
theorem partsAt.one_cell {W : World} {B : Nat} : ∀ {ts : List Tree} {vs : List Value} {fp : List Nat}, partsAt W B ts vs fp → ∀ u ∈ vs, u.oneCell' = true
  | [], vs, fp, h => by
    obtain ⟨rfl, _⟩ := h
    intro u hu
    cases hu
  | t :: ts, vs, fp, h => by
    obtain ⟨v, vs', f, f', rfl, h2, h3, rfl⟩ := h
    intro u hu
    rcases List.mem_cons.1 hu with e | hu
    · subst e
      obtain ⟨g, hv, _, _⟩ := h2.own
      rcases hv with rfl | rfl <;> rfl
    · exact partsAt.one_cell h3 u hu

set_option maxHeartbeats 2000000 in
theorem join_flat (k : Int) (hk : k = 2 ∨ k = 3) (pg n cap : Nat) (vs : List Value) (U : List (List Value)) (fs : List Nat) (ts : List Tree) (f0 : Tree) (fr : List Tree) (w : World) (hR : ∀ (i : Nat) u, vs[i]? = some u → w.cell? ⟨pg, i, none⟩ = some u) (hF : ∀ (i : Nat) t, ts[i]? = some t → ∃ v u, vs[i]? = some v ∧ U[i]? = some u ∧ FlatAt w k t v u) (hP : partsAt w 0 (f0 :: fr) U.flatten fs) (hs : SmallT (f0 :: fr)) (hn : ts.length = n) (hU : U.length = n) (hn2 : n ≤ 200) :
    Calls Try.prog 34 #[.int .i64 k, .slice (some ⟨pg, 0, none⟩) n cap] w fun e w' => ∃ sl, e = .returned (.pointer (some ⟨w.heap.size, 0, none⟩)) ∧ SplitAt w' w.heap.size (aroundB (f0 :: fr) k) k sl ∧ w'.ownsRow (w.heap.size + 1) 49 1 sl U.flatten.length U.flatten ∧ Below w.heap.size w w' := by
  have hul := hP.length
  have HF : Hid (∀ (i : Nat) t, ts[i]? = some t → ∃ v u, vs[i]? = some v ∧ U[i]? = some u ∧ FlatAt w k t v u) := hF
  have HR : Hid (∀ (i : Nat) u, vs[i]? = some u → w.cell? ⟨pg, i, none⟩ = some u) := hR
  have HN : Hid (ts.length = n) := hn
  have HUl : Hid (U.length = n) := hU
  have hfl : U.flatten.length ≤ 200 := by rw [hul]; exact hs.1
  have HFl : Hid (U.flatten.length ≤ 200) := hfl
  have HOne : Hid (∀ x ∈ U.flatten, x.oneCell' = true) := hP.one_cell
  have HJ0 : Hid (JoinTo w k [] (.slice none 0 0) _) := JoinTo.start w k
  have HA : Hid (∀ sl wr, JoinTo w k U.flatten sl wr → Calls Try.prog 70 #[.pointer (some ⟨w.heap.size, 0, none⟩)] wr fun e w' => e = .returned (.agg #[.int .i64 0, .int .i64 0, .int .i64 (aroundB (f0 :: fr) k).w, .int .i64 (aroundB (f0 :: fr) k).h]) ∧ JoinTo w k U.flatten sl w') := by
    intro sl wr h
    refine (around_any w.heap.size ⟨0, 0, 0, 0⟩ k hk sl U.flatten fs f0 fr 0 wr h.own ⟨h.row.1, ?_⟩ (hP.below h.below) hs).mono fun e w' h2 => ⟨h2.1, h.own.below h2.2, own_below h.row h2.2, below_step h.below h2.2⟩
    rcases h.row.2 with h0 | ⟨g, cap, cur, e, _, r⟩
    · exact .inl h0
    · exact .inr ⟨g, cap, cur, e, Nat.zero_le _, r⟩
  obtain ⟨bw, hbw⟩ : ∃ x, (aroundB (f0 :: fr) k).w = x := ⟨_, rfl⟩
  obtain ⟨bh, hbh⟩ : ∃ x, (aroundB (f0 :: fr) k).h = x := ⟨_, rfl⟩
  have HE : Hid (aroundB (f0 :: fr) k = ⟨0, 0, bw, bh⟩) := by
    show _ = _
    rw [← hbw, ← hbh]
    unfold aroundB
    by_cases h2 : k = 2 <;> simp [h2]
  rw [hbw, hbh] at HA
  rw [HE.out]
  clear hR hP hF hs hn hU hk hbw hbh hul hfl
  go_enter Try.func34, Try.ntmps34
  go_wp2
  go_loopw [14] (fun v wr => ∃ i : Nat, i ≤ n ∧ v = .int .i64 i ∧ ∃ sl, Hid (JoinTo w k (U.take i).flatten sl wr)) (fun v _ => n - (intOf v).toNat)
  case atStart => exact ⟨0, Nat.zero_le _, rfl, _, HJ0⟩
  case round =>
    obtain ⟨i, hi, rfl, sl, HJ⟩ := hrel
    clear HJ0
    by_cases hlt : i < n
    · obtain ⟨t, ht⟩ : ∃ t, ts[i]? = some t := ⟨_, List.getElem?_eq_getElem (by rw [HN.out]; exact hlt)⟩
      obtain ⟨pv, u, hpv, hu, hfa⟩ := HF.out i t ht
      obtain ⟨T, gi, Fs, Fa, HP⟩ := hfa.part
      have hval := HP.val
      subst hval
      have ri := (HJ.out.below.cell (p := ⟨pg, i, none⟩) (World.block_lt_of_cell? w _ (HR.out i _ hpv))).trans (HR.out i _ hpv)
      have m1 := HP.mA
      have m2 := HP.fA
      have hcA := HP.cA k wr HJ.out.below
      have HT : Hid ((U.take (i + 1)).flatten = (U.take i).flatten ++ u) := by
        show _ = _
        rw [List.take_add_one, hu]
        simp
      have hlenS : (U.take i).flatten.length + u.length ≤ 200 := by
        have h1 : (U.take i).flatten ++ u ++ (U.drop (i + 1)).flatten = U.flatten := by
          rw [← HT.out, ← List.flatten_append, List.take_append_drop]
        have h2 := congrArg List.length h1
        rw [List.length_append, List.length_append] at h2
        have := HFl.out
        omega
      have HUo : Hid (∀ x ∈ u, x.oneCell' = true) := fun x hx => HOne.out x (List.mem_flatten.2 ⟨u, List.mem_of_getElem? hu, hx⟩)
      have r5 : wr.cell? ⟨w.heap.size, 5, none⟩ = some sl := cell_atL HJ.out.own 5
      obtain ⟨sa, sn, sc, hsl⟩ := own_slice HJ.out.row
      subst hsl
      have HW : Hid (w.heap.size + 1 ≤ wr.heap.size) := HJ.out.lt
      cases hkt : t.kindIs k with
      | false =>
        have hu1 := hfa.no hkt
        subst hu1
        rw [hkt] at hcA
        have HcA : Hid (Calls Try.prog Fa #[.pointer (some ⟨gi, 0, none⟩), .int .i64 k] wr fun e w' => e = .returned (.pointer none) ∧ wr = w') := hcA
        clear HP hpv ht hcA hfa hu hkt
        go_wp2_with fail
        refine HcA.out.mono ?_
        rintro e w1 ⟨rfl, rfl⟩
        go_wp2_with (at_builtin; refine wpList_append_partB wr rfl (.tmp 39) (.tmp 41) rfl (w.heap.size + 1) (.slice sa sn sc) (U.take i).flatten T gi rfl HJ.out.row rfl (by omega) HW.out ?_; intro sl' w3 a1 a2; have hsl := own_slice a1; have hj := HJ.out.next a1 a2; have c5 : w3.cell? ⟨w.heap.size, 5, none⟩ = some (.slice sa sn sc) := cell_atL hj.1 5; have f5 : w3.frozen? ⟨w.heap.size, 5, none⟩ = false := free_atL hj.1 5; have HJ3 : Hid (JoinTo w k ((U.take i).flatten ++ [.iface T (.pointer (some ⟨gi, 0, none⟩))]) sl' (w3.setCell ⟨w.heap.size, 5, none⟩ sl')) := hj.2; clear a1 a2 hj; obtain ⟨sa', sn', sc', hsl'⟩ := hsl; subst hsl')
        go_roundw
        case rel => exact ⟨i + 1, by omega, by go_num, _, by rw [HT.out]; exact HJ3⟩
        case measure => simp [intOf]; omega
      | true =>
        obtain ⟨gi', g, cap', e1, e2, e3⟩ := hfa.yes hkt
        cases e1
        rw [hkt] at hcA
        have HcA : Hid (Calls Try.prog Fa #[.pointer (some ⟨gi, 0, none⟩), .int .i64 k] wr fun e w' => e = .returned (.pointer (some ⟨gi, 0, none⟩)) ∧ wr = w') := hcA
        have r6 : wr.cell? ⟨gi, 5, none⟩ = some (.slice (some ⟨g, 0, none⟩) u.length cap') := (HJ.out.below.cell (p := ⟨gi, 5, none⟩) (World.block_lt_of_cell? w _ e2)).trans e2
        have HOw : Hid (wr.ownsRow 0 49 1 (.slice (some ⟨g, 0, none⟩) u.length cap') u.length u) := own_below e3 HJ.out.below
        have HJd : Hid (JoinTo w k (U.take i).flatten (.slice sa sn sc) wr.drew) := HJ.out.below' (Below.refl _ _).drew
        obtain ⟨ul, hul⟩ : ∃ x, u.length = x := ⟨_, rfl⟩
        have HUl2 : Hid (u.length = ul) := hul
        rw [hul] at r6
        clear HP hpv ht hcA hfa hu hkt e2 e3 hul
        go_wp2_with fail
        refine HcA.out.mono ?_
        rintro e w1 ⟨rfl, rfl⟩
        go_wp2_with fail
        go_region_law (first
          | (refine step_append_parts wr.drew rfl (.tmp 27) (.tmp 31) rfl (w.heap.size + 1) (.slice sa sn sc) (U.take i).flatten (by simp [Act.eval]) HJd.out.row g cap' u (by simp [Act.eval, HUl2.out]) HOw.out HUo.out (by omega) HW.out ?_; intro sl' w3 a1 a2; have hsl := own_slice a1; have hj := HJd.out.more a1 a2; have c5 : w3.cell? ⟨w.heap.size, 5, none⟩ = some (.slice sa sn sc) := cell_atL hj.1 5; have f5 : w3.frozen? ⟨w.heap.size, 5, none⟩ = false := free_atL hj.1 5; have HJ3 : Hid (JoinTo w k ((U.take i).flatten ++ u) sl' (w3.setCell ⟨w.heap.size, 5, none⟩ sl')) := hj.2; clear a1 a2 hj; obtain ⟨sa', sn', sc', hsl'⟩ := hsl; subst hsl'))
        all_goals (
          go_wp2
          go_roundw
          case rel => exact ⟨i + 1, by omega, by go_num, _, by rw [HT.out]; exact HJ3⟩
          case measure => simp [intOf]; omega)
    · have hin : i = n := by omega
      subst hin
      have HJ2 : Hid (JoinTo w k U.flatten sl wr) := by
        have h := HJ.out
        rwa [List.take_of_length_le (by rw [HUl.out]; exact Nat.le_refl _)] at h
      have HA2 : Hid (Calls Try.prog 70 #[.pointer (some ⟨w.heap.size, 0, none⟩)] wr _) := HA.out sl wr HJ2.out
      clear HJ HA
      go_wp2_with fail
      refine HA2.out.mono ?_
      rintro e w5 ⟨rfl, hj⟩
      have HJ5 : Hid (JoinTo w k U.flatten sl w5) := hj
      obtain ⟨q0, q1, q2, q3, qf⟩ := hj.own.box
      have f0 := qf 0 (by decide)
      have f1 := qf 1 (by decide)
      have f2 := qf 2 (by decide)
      have f3 := qf 3 (by decide)
      clear hj qf HA2
      go_wp2
      go_ret
      refine ⟨sl, rfl, (((HJ5.out.own.set 0 (.int .i64 0) (b' := ⟨0, 0, 0, 0⟩) rfl).set 1 (.int .i64 0) (b' := ⟨0, 0, 0, 0⟩) rfl).set 2 (.int .i64 bw) (b' := ⟨0, 0, bw, 0⟩) rfl).set 3 (.int .i64 bh) (b' := ⟨0, 0, bw, bh⟩) rfl, ?_, below_grown (below_grown (below_grown (below_grown HJ5.out.below (grownBy_set _ _ _ _) (Nat.le_refl _)) (grownBy_set _ _ _ _) (Nat.le_refl _)) (grownBy_set _ _ _ _) (Nat.le_refl _)) (grownBy_set _ _ _ _) (Nat.le_refl _)⟩
      refine own_kept HJ5.out.row fun q hq => ?_
      have hne : q ≠ w.heap.size := fun e => by
        have := (World.ownsRow.lt HJ5.out.row q (by simpa using hq)).1
        omega
      exact ((Below.heap_setCell _ _ _ _ hne).trans (Below.heap_setCell _ _ _ _ hne)).trans ((Below.heap_setCell _ _ _ _ hne).trans (Below.heap_setCell _ _ _ _ hne))

end Go.Proofs.Ytfmlebimlacdpaa

namespace Go.Proofs.Ytfmlebimlacdpaa
open Go.RowKit
set_option linter.unusedVariables false
set_option maxRecDepth 20000

theorem soundAll_ext (b b' : Box) (k : Int) (h : b.ext (acrossK k) = b'.ext (acrossK k)) : ∀ (ts : List Tree), soundAll ts b k = soundAll ts b' k
  | [] => rfl
  | t :: ts => by
    unfold soundAll
    rw [soundAll_ext b b' k h ts, h]
theorem soundAll_snoc (b : Box) (k : Int) (x : Tree) : ∀ (ts : List Tree), soundAll (ts ++ [x]) b k = (soundAll ts b k && (x.sound && (!x.kindIs k && decide (x.box.ext (acrossK k) = b.ext (acrossK k)))))
  | [] => by
    show ((_ && _) && soundAll [] b k) = (true && _)
    unfold soundAll
    rw [Bool.and_true, Bool.true_and]
  | t :: ts => by
    show soundAll (t :: (ts ++ [x])) b k = _
    unfold soundAll
    rw [soundAll_snoc b k x ts]
    simp only [Bool.and_assoc]
theorem extAll_snoc (k : Int) (x : Tree) : ∀ (ts : List Tree), extAll (ts ++ [x]) k = extAll ts k + 1 + x.box.ext k
  | [] => by
    show x.box.ext k + 1 + -1 = -1 + 1 + x.box.ext k
    omega
  | t :: ts => by
    show t.box.ext k + 1 + extAll (ts ++ [x]) k = t.box.ext k + 1 + extAll ts k + 1 + x.box.ext k
    rw [extAll_snoc k x ts]
    omega
theorem kindsAll_snoc (x : Tree) : ∀ (ts : List Tree), kindsAll ts → x.kinds → kindsAll (ts ++ [x])
  | [], _, h => ⟨h, trivial⟩
  | t :: ts, h, hx => ⟨h.1, kindsAll_snoc x ts h.2 hx⟩
theorem sizes_snoc (x : Tree) : ∀ (ts : List Tree), sizes (ts ++ [x]) = sizes ts + x.size
  | [] => by
    show x.size + 0 = 0 + x.size
    omega
  | t :: ts => by
    show t.size + sizes (ts ++ [x]) = t.size + sizes ts + x.size
    rw [sizes_snoc x ts]
    omega
theorem soundAll_in (b : Box) (k : Int) : ∀ (ts : List Tree), soundAll ts b k = true → ∀ t ∈ ts, t.sound = true ∧ t.kindIs k = false ∧ t.box.ext (acrossK k) = b.ext (acrossK k)
  | [], _, t, ht => by cases ht
  | a :: ts, h, t, ht => by
    unfold soundAll at h
    simp only [Bool.and_eq_true, decide_eq_true_eq, Bool.not_eq_true'] at h
    rcases List.mem_cons.1 ht with e | ht
    · subst e
      exact ⟨h.1.1, h.1.2.1, h.1.2.2⟩
    · exact soundAll_in b k ts h.2 t ht

/-- What a sound tree gives to a cell of that kind. -/
structure FlatOk (t : Tree) (k : Int) (b : Box) : Prop where
  sound : soundAll (flatT k t) b k = true
  ext : extAll (flatT k t) k = t.box.ext k
  kinds : kindsAll (flatT k t)
  size : sizes (flatT k t) ≤ t.size
  ne : 1 ≤ (flatT k t).length
theorem flat_ok (t : Tree) (k : Int) (hk : k = 2 ∨ k = 3) (hs : t.sound = true) (hkt : t.kinds) (b : Box) (hb : b.ext (acrossK k) = t.box.ext (acrossK k)) : FlatOk t k b := by
  cases hki : t.kindIs k with
  | false =>
    rw [show FlatOk t k b ↔ FlatOk t k b from Iff.rfl]
    refine ⟨?_, ?_, ?_, ?_, ?_⟩ <;> rw [flatT_no hki]
    · show (t.sound && (!t.kindIs k && decide (t.box.ext (acrossK k) = b.ext (acrossK k))) && true) = true
      rw [hs, hki, hb]
      simp
    · show t.box.ext k + 1 + -1 = t.box.ext k
      omega
    · exact ⟨hkt, trivial⟩
    · show t.size + 0 ≤ t.size
      omega
    · exact Nat.le_refl 1
  | true =>
    cases t with
    | leaf b1 p => cases hki
    | split b1 k' ts =>
      have hkk : k' = k := by simpa [Tree.kindIs] using hki
      subst hkk
      have he : flatT k' (.split b1 k' ts) = ts := if_pos rfl
      unfold Tree.sound at hs
      simp only [Bool.and_eq_true, decide_eq_true_eq] at hs
      refine ⟨?_, ?_, ?_, ?_, ?_⟩ <;> rw [he]
      · rw [soundAll_ext b b1 k' hb]
        exact hs.2.1
      · exact hs.2.2
      · exact hkt.2
      · show sizes ts ≤ 1 + sizes ts
        omega
      · have := hs.1.1
        omega

/-- The parts beside one another, the new one ahead or behind. -/
def besideL (k : Int) (bf : Bool) (t x : Tree) : List Tree := if bf then x :: flatT k t else flatT k t ++ [x]
def besideT (k : Int) (bf : Bool) (t x : Tree) : Tree := .split (aroundB (besideL k bf t x) k) k (besideL k bf t x)
structure BesideOk (k : Int) (bf : Bool) (t x : Tree) : Prop where
  sound : (besideT k bf t x).sound = true
  kinds : (besideT k bf t x).kinds
  size : (besideT k bf t x).size ≤ t.size + 2
  node : nodeOf (besideT k bf t x) = .mk k (if k = 2 then t.box.w + x.box.w + 1 else t.box.w) (if k = 2 then t.box.h else t.box.h + x.box.h + 1) 0 (nodesOf (besideL k bf t x))
  small : SmallT (besideL k bf t x)
  ne : besideL k bf t x ≠ []

theorem beside_ok (k : Int) (hk : k = 2 ∨ k = 3) (bf : Bool) (t : Tree) (bl : Box) (id : Int) (hs : t.sound = true) (hkt : t.kinds) (hz : t.size ≤ 100) (hx : (Tree.leaf bl id).sound = true) (hac : bl.ext (acrossK k) = t.box.ext (acrossK k)) (hext : t.box.ext k + 1 + bl.ext k ≤ 1000) : BesideOk k bf t (.leaf bl id) := by
  have hfo := flat_ok t k hk hs hkt t.box rfl
  have hxs := (Tree.leaf bl id).sound_sides hx
  have hts := t.sound_sides hs
  change (1 ≤ bl.w ∧ bl.w ≤ 1000) ∧ (1 ≤ bl.h ∧ bl.h ≤ 1000) at hxs
  have hxc : ((Tree.leaf bl id).sound && (!(Tree.leaf bl id).kindIs k && decide ((Tree.leaf bl id).box.ext (acrossK k) = t.box.ext (acrossK k)))) = true := by
    rw [hx]
    show (true && (true && decide (bl.ext (acrossK k) = t.box.ext (acrossK k)))) = true
    rw [hac]
    simp
  have hall : soundAll (besideL k bf t (.leaf bl id)) t.box k = true := by
    unfold besideL
    cases bf with
    | true =>
      show soundAll (.leaf bl id :: flatT k t) t.box k = true
      unfold soundAll
      rw [hxc, hfo.sound]
      rfl
    | false =>
      show soundAll (flatT k t ++ [.leaf bl id]) t.box k = true
      rw [soundAll_snoc, hfo.sound, hxc]
      rfl
  have hexA : extAll (besideL k bf t (.leaf bl id)) k = t.box.ext k + 1 + bl.ext k := by
    unfold besideL
    cases bf with
    | true =>
      show bl.ext k + 1 + extAll (flatT k t) k = _
      rw [hfo.ext]
      omega
    | false =>
      show extAll (flatT k t ++ [.leaf bl id]) k = _
      rw [extAll_snoc, hfo.ext]
      rfl
  have hlen : 2 ≤ (besideL k bf t (.leaf bl id)).length := by
    have := hfo.ne
    unfold besideL
    cases bf with
    | true =>
      show 2 ≤ (_ :: flatT k t).length
      rw [List.length_cons]
      omega
    | false =>
      show 2 ≤ (flatT k t ++ [_]).length
      rw [List.length_append]
      show 2 ≤ _ + 1
      omega
  have hkin : kindsAll (besideL k bf t (.leaf bl id)) := by
    unfold besideL
    cases bf with
    | true => exact ⟨trivial, hfo.kinds⟩
    | false => exact kindsAll_snoc _ _ hfo.kinds trivial
  have hsz : sizes (besideL k bf t (.leaf bl id)) ≤ t.size + 1 := by
    have := hfo.size
    unfold besideL
    cases bf with
    | true =>
      show 1 + sizes (flatT k t) ≤ _
      omega
    | false =>
      show sizes (flatT k t ++ [_]) ≤ _
      rw [sizes_snoc]
      show _ + 1 ≤ _
      omega
  have hin := soundAll_in t.box k _ hall
  have harB : ∃ a, aroundB (besideL k bf t (.leaf bl id)) k = (if k = 2 then ⟨0, 0, t.box.ext k + 1 + bl.ext k, a⟩ else ⟨0, 0, a, t.box.ext k + 1 + bl.ext k⟩) ∧ a = t.box.ext (acrossK k) := by
    cases hL : besideL k bf t (.leaf bl id) with
    | nil => rw [hL] at hlen; simp at hlen
    | cons c cs =>
      have hc := (hin c (by rw [hL]; exact List.mem_cons_self)).2.2
      refine ⟨c.box.ext (acrossK k), ?_, hc⟩
      show (if k = 2 then (⟨0, 0, extAll (c :: cs) k, c.box.h⟩ : Box) else ⟨0, 0, c.box.w, extAll (c :: cs) k⟩) = _
      rw [← hL, hexA]
      rcases hk with rfl | rfl
      · rfl
      · rfl
  obtain ⟨a, har, ha⟩ := harB
  have hex := sides_ext t.box k hts
  have hax := sides_ext t.box (acrossK k) hts
  have hbx := sides_ext bl k hxs
  refine ⟨?_, ⟨hk, hkin⟩, ?_, ?_, ⟨?_, fun c hc => c.sound_sides (hin c hc).1⟩, ?_⟩
  · unfold besideT Tree.sound
    simp only [Bool.and_eq_true, decide_eq_true_eq]
    have hacr : (aroundB (besideL k bf t (.leaf bl id)) k).ext (acrossK k) = t.box.ext (acrossK k) := by
      rw [har, ha]
      rcases hk with rfl | rfl <;> rfl
    have hak : (aroundB (besideL k bf t (.leaf bl id)) k).ext k = t.box.ext k + 1 + bl.ext k := by
      rw [har]
      rcases hk with rfl | rfl <;> rfl
    refine ⟨⟨hlen, ?_⟩, ?_, ?_⟩
    · rw [har]
      subst ha
      rcases hk with rfl | rfl
      · show sideB (t.box.ext 2 + 1 + bl.ext 2) = true ∧ sideB (t.box.ext 3) = true
        change 1 ≤ t.box.ext 3 ∧ t.box.ext 3 ≤ 1000 at hax
        simp only [sideB, Bool.and_eq_true, decide_eq_true_eq]
        omega
      · show sideB (t.box.ext 2) = true ∧ sideB (t.box.ext 3 + 1 + bl.ext 3) = true
        change 1 ≤ t.box.ext 2 ∧ t.box.ext 2 ≤ 1000 at hax
        simp only [sideB, Bool.and_eq_true, decide_eq_true_eq]
        omega
    · rw [soundAll_ext _ t.box k hacr]
      exact hall
    · rw [hexA, hak]
  · show 1 + sizes (besideL k bf t (.leaf bl id)) ≤ t.size + 2
    omega
  · unfold besideT
    show Node.mk k (aroundB (besideL k bf t (.leaf bl id)) k).w (aroundB (besideL k bf t (.leaf bl id)) k).h 0 _ = _
    rw [har]
    subst ha
    rcases hk with rfl | rfl
    · show Node.mk 2 (t.box.w + 1 + bl.w) t.box.h 0 _ = Node.mk 2 (t.box.w + bl.w + 1) t.box.h 0 _
      rw [show t.box.w + 1 + bl.w = t.box.w + bl.w + 1 by omega]
    · show Node.mk 3 t.box.w (t.box.h + 1 + bl.h) 0 _ = Node.mk 3 t.box.w (t.box.h + bl.h + 1) 0 _
      rw [show t.box.h + 1 + bl.h = t.box.h + bl.h + 1 by omega]
  · have := length_sizes (besideL k bf t (.leaf bl id))
    omega
  · intro e
    rw [e] at hlen
    simp at hlen

/-- A pane is put beside the whole of a list. -/
structure Fulled (l : List CellV) (t t1 : Tree) (k z n id : Int) (bf : Bool) : Prop where
  lay : IsLay l t
  kind : k = 2 ∨ k = 3
  join : joinE l id = 0
  room : 2 ≤ t.room k
  num : n = min (wantedF z (t.box.ext k)) (t.room k - 1)
  low : 1 ≤ n ∧ n ≤ 1000
  one : Str t k (-n - 1) t1
  box1 : t1.box = t.box.str k (-n - 1)
  s1 : t1.sound = true
  k1 : t1.kinds
  z1 : t1.size = t.size
  id_ : idB id = true
/-- The new pane's box. -/
def fullB (t : Tree) (k n : Int) : Box := ((⟨0, 0, 0, 0⟩ : Box).str k n).str (acrossK k) (t.box.ext (acrossK k))
theorem fullB_eq (t : Tree) (k n : Int) (hk : k = 2 ∨ k = 3) : fullB t k n = if k = 2 then ⟨0, 0, n, t.box.h⟩ else ⟨0, 0, t.box.w, n⟩ := by
  unfold fullB
  rcases hk with rfl | rfl
  · show (⟨0, 0, 0 + n, 0 + t.box.h⟩ : Box) = ⟨0, 0, n, t.box.h⟩
    rw [Int.zero_add, Int.zero_add]
  · show (⟨0, 0, 0 + t.box.w, 0 + n⟩ : Box) = ⟨0, 0, t.box.w, n⟩
    rw [Int.zero_add, Int.zero_add]
theorem fulled_any {l : List CellV} {t : Tree} (hr : readF l = some t) (k z id : Int) (bf : Bool) (hk : k = 2 ∨ k = 3) (hj : joinE l id = 0) (hrm : 2 ≤ t.room k) : ∃ t1 n, Fulled l t t1 k z n id bf := by
  have hl := readF_lay hr
  have hz := lay_size hl
  have hsd := sides_ext t.box k (t.sound_sides hl.sound)
  have hrl := room_le t k hk hl.kinds hl.sound
  obtain ⟨n, hn⟩ : ∃ n, n = min (wantedF z (t.box.ext k)) (t.room k - 1) := ⟨_, rfl⟩
  have hwl : 1 ≤ wantedF z (t.box.ext k) := by
    unfold wantedF halfF
    split <;> omega
  obtain ⟨t1, h1, g1⟩ := can_str t k (-n - 1) hk hl.sound hl.kinds (by omega) (by omega) (by omega)
  have hid : idB id = true := by
    cases h : idB id with
    | true => rfl
    | false =>
      unfold joinE at hj
      rw [if_pos (.inl h)] at hj
      cases hj
  exact ⟨t1, n, hl, hk, hj, hrm, hn, by omega, h1, g1.box, g1.sound, g1.kinds, g1.size, hid⟩
theorem Fulled.beside {l : List CellV} {t t1 : Tree} {k z n id : Int} {bf : Bool} (h : Fulled l t t1 k z n id bf) : BesideOk k bf t1 (.leaf (fullB t k n) id) := by
  have hz := lay_size h.lay
  have hts := t.sound_sides h.lay.sound
  have hn := h.low
  have hsd := sides_ext t.box k hts
  refine beside_ok k h.kind bf t1 (fullB t k n) id h.s1 h.k1 (by rw [h.z1]; omega) ?_ ?_ ?_
  · unfold Tree.sound
    rw [fullB_eq t k n h.kind, h.id_]
    rcases h.kind with hk | hk <;> subst hk
    · show (sideB n && sideB t.box.h && true) = true
      simp only [sideB, Bool.and_true, Bool.and_eq_true, decide_eq_true_eq]
      omega
    · show (sideB t.box.w && sideB n && true) = true
      simp only [sideB, Bool.and_true, Bool.and_eq_true, decide_eq_true_eq]
      omega
  · rw [h.box1, fullB_eq t k n h.kind]
    rcases h.kind with hk | hk <;> subst hk <;> rfl
  · rw [h.box1, Box.ext_str, fullB_eq t k n h.kind]
    rcases h.kind with hk | hk <;> subst hk
    · show t.box.ext 2 + (-n - 1) + 1 + n ≤ 1000
      omega
    · show t.box.ext 3 + (-n - 1) + 1 + n ≤ 1000
      omega

end Go.Proofs.Ytfmlebimlacdpaa

namespace Go.Proofs.Ytfmlebimlacdpaa
open Go.RowKit
set_option linter.unusedVariables false
set_option maxRecDepth 100000

theorem grown_below {w w' : World} {g : Nat} (h : w.grownBy w' (some g)) : But [g] w w' := But.grown h
/-- What is left to do when the whole was stretched: the new pane, the join, the list. -/
theorem full_end {w w5 : World} {v : Value} {fp : List Nat} {l : List CellV} {t t1 : Tree} {k z n id : Int} {bf : Bool} (hF : Fulled l t t1 k z n id bf) (hA : t1.At w5 0 v fp) (hnd : fp.Nodup) (hge : ∀ q ∈ fp, w.heap.size ≤ q) (hb : Below w.heap.size w w5) :
    Calls Try.prog 34 #[.int .i64 k, .slice (some ⟨w5.heap.size + 1, 0, none⟩) 2 2] ((w5.alloc (.cells (leafV (fullB t k n) id) 61)).alloc (.cells (if bf then #[leafI w5.heap.size, v] else #[v, leafI w5.heap.size]) 49)) fun e w' => e = .returned (.pointer (some ⟨w5.heap.size + 1 + 1, 0, none⟩)) ∧ Calls Try.prog 32 #[splitI (w5.heap.size + 1 + 1)] w' fun e w'' => ∃ u, e = .returned u ∧ CeOwns w'' w.heap.size u (laidL (besideT k bf t1 (.leaf (fullB t k n) id))) ∧ Below w.heap.size w w'' := by
  have hB := hF.beside
  have hz := lay_size hF.lay
  have hz1 := hF.z1
  obtain ⟨lf, hlf⟩ : ∃ x, Tree.leaf (fullB t k n) id = x := ⟨_, rfl⟩
  obtain ⟨A, hAo⟩ : ∃ o, Obj.cells (leafV (fullB t k n) id) 61 = o := ⟨_, rfl⟩
  obtain ⟨C, hC⟩ : ∃ o, Obj.cells (if bf then #[leafI w5.heap.size, v] else #[v, leafI w5.heap.size]) 49 = o := ⟨_, rfl⟩
  have s1 : (w5.alloc A).heap.size = w5.heap.size + 1 := by simp
  have s2 : ((w5.alloc A).alloc C).heap.size = w5.heap.size + 1 + 1 := by simp
  have b1 : Below w5.heap.size w5 (w5.alloc A) := (Below.refl _ _).alloc (Nat.le_refl _) _
  have b2 : Below w5.heap.size w5 ((w5.alloc A).alloc C) := b1.alloc (by omega) _
  rw [hAo, hC]
  obtain ⟨W, hW⟩ : ∃ W, (w5.alloc A).alloc C = W := ⟨_, rfl⟩
  rw [hW] at s2 b2 ⊢
  have hleaf : LeafAt W w5.heap.size (fullB t k n) id := by
    rw [← hW, LeafAt, hAo]
    exact (Below.heap_alloc _ _ _ (by omega)).trans (heap_alloc_new _ _)
  have hrow : ∀ (i : Nat) u, (if bf then [leafI w5.heap.size, v] else [v, leafI w5.heap.size])[i]? = some u → W.cell? ⟨w5.heap.size + 1, i, none⟩ = some u := by
    intro i u hu
    have h := heap_alloc_new (w5.alloc A) C
    rw [s1, hW, ← hC] at h
    rw [cell_atL h]
    cases bf <;> simpa using hu
  have hAW := hA.below b2
  have hLW : (Tree.leaf (fullB t k n) id).At W 0 (leafI w5.heap.size) [w5.heap.size] := ⟨_, rfl, hleaf, rfl⟩
  have hfin1 : t1.fine := kinds_fine t1 hF.k1 (by omega)
  obtain ⟨u, f, hu, hpu, hsub⟩ := flat_of (k := k) hAW hfin1 hF.s1
  have hlS : lf.sound = true := by
    rw [← hlf]
    exact (soundAll_in (aroundB (besideL k bf t1 (.leaf (fullB t k n) id)) k) k _ (by
      have := hB.sound
      unfold besideT Tree.sound at this
      simp only [Bool.and_eq_true, decide_eq_true_eq] at this
      exact this.2.1) (.leaf (fullB t k n) id) (by unfold besideL; cases bf <;> simp)).1
  obtain ⟨u2, f2, hu2, hpu2, _⟩ := flat_of (k := k) (t := .leaf (fullB t k n) id) hLW trivial (by rw [hlf]; exact hlS)
  have hu2e : u2 = [leafI w5.heap.size] := hu2.no rfl
  subst hu2e
  have hf2 : f2 = [w5.heap.size] := by
    obtain ⟨v', vs', f', f'', e, ⟨g, e1, _, e2⟩, ⟨e4, e5⟩, e6⟩ := hpu2
    rw [e6, e2, e5]
    cases e
    cases e1
    rfl
  subst hf2
  have happ : ∀ {ps bs : List Tree} {xs ys : List Value} {fs gs : List Nat}, partsAt W 0 ps xs fs → partsAt W 0 bs ys gs → partsAt W 0 (ps ++ bs) (xs ++ ys) (fs ++ gs) := by
    intro ps
    induction ps with
    | nil =>
      intro bs xs ys fs gs h1 h2
      obtain ⟨rfl, rfl⟩ := h1
      exact h2
    | cons a ps ih =>
      intro bs xs ys fs gs h1 h2
      obtain ⟨v, vs', f, f', rfl, h3, h4, rfl⟩ := h1
      exact ⟨v, vs' ++ ys, f, f' ++ gs, rfl, h3, ih h4 h2, by rw [List.append_assoc]⟩
  have hlt5 : ∀ q ∈ f, q < w5.heap.size := fun q hq => hA.lt q (hsub.subset hq)
  have hparts : ∃ fs, partsAt W 0 (besideL k bf t1 (.leaf (fullB t k n) id)) (if bf then [[leafI w5.heap.size], u] else [u, [leafI w5.heap.size]]).flatten fs ∧ fs.Nodup ∧ (∀ q ∈ fs, q ≤ w5.heap.size ∧ w.heap.size ≤ q) := by
    have hfn : f.Nodup := hsub.nodup hnd
    have hw5 : w.heap.size ≤ w5.heap.size := hb.size
    cases bf with
    | true =>
      refine ⟨[w5.heap.size] ++ f, ?_, ?_, ?_⟩
      · show partsAt W 0 ([.leaf (fullB t k n) id] ++ flatT k t1) ([[leafI w5.heap.size], u]).flatten _
        have := happ (ps := [.leaf (fullB t k n) id]) (xs := [leafI w5.heap.size]) hpu2 hpu
        simpa using this
      · refine List.nodup_cons.2 ⟨fun h => ?_, hfn⟩
        have := hlt5 _ h
        omega
      · intro q hq
        rcases List.mem_append.1 hq with h | h
        · have : q = w5.heap.size := by simpa using h
          omega
        · have h1 := hlt5 q h
          have h2 := hge q (hsub.subset h)
          omega
    | false =>
      refine ⟨f ++ [w5.heap.size], ?_, ?_, ?_⟩
      · show partsAt W 0 (flatT k t1 ++ [.leaf (fullB t k n) id]) ([u, [leafI w5.heap.size]]).flatten _
        have := happ hpu (bs := [.leaf (fullB t k n) id]) (ys := [leafI w5.heap.size]) hpu2
        simpa using this
      · refine List.nodup_append.2 ⟨hfn, by simp, fun a ha b hb' e => ?_⟩
        have h1 := hlt5 a ha
        have : b = w5.heap.size := by simpa using hb'
        omega
      · intro q hq
        rcases List.mem_append.1 hq with h | h
        · have h1 := hlt5 q h
          have h2 := hge q (hsub.subset h)
          omega
        · have : q = w5.heap.size := by simpa using h
          omega
  obtain ⟨fs, hP, hfsn, hfsr⟩ := hparts
  have hne := hB.ne
  obtain ⟨c, cs, hcs⟩ : ∃ c cs, besideL k bf t1 (.leaf (fullB t k n) id) = c :: cs := by
    cases h : besideL k bf t1 (.leaf (fullB t k n) id) with
    | nil => exact absurd h hne
    | cons c cs => exact ⟨c, cs, rfl⟩
  have hsm := hB.small
  have hj := join_flat k hF.kind (w5.heap.size + 1) 2 2 (if bf then [leafI w5.heap.size, v] else [v, leafI w5.heap.size]) (if bf then [[leafI w5.heap.size], u] else [u, [leafI w5.heap.size]]) fs (if bf then [.leaf (fullB t k n) id, t1] else [t1, .leaf (fullB t k n) id]) c cs W hrow (by
    intro i x hx
    cases bf with
    | true =>
      match i, hx with
      | 0, hx => cases hx; exact ⟨_, _, rfl, rfl, hu2⟩
      | 1, hx => cases hx; exact ⟨_, _, rfl, rfl, hu⟩
    | false =>
      match i, hx with
      | 0, hx => cases hx; exact ⟨_, _, rfl, rfl, hu⟩
      | 1, hx => cases hx; exact ⟨_, _, rfl, rfl, hu2⟩) (by rw [← hcs]; exact hP) (by rw [← hcs]; exact hsm) (by cases bf <;> rfl) (by cases bf <;> rfl) (by decide)
  rw [s2] at hj
  refine hj.mono ?_
  rintro e w' ⟨sl, he, hS, hO, hbw⟩
  refine ⟨he, ?_⟩
  have hb5 : Below w.heap.size w w' := below_step (below_step hb b2) (hbw.mono (by omega))
  rw [← hcs] at hS
  have hbw' : Below W.heap.size W w' := hbw.mono (by omega)
  have hAt : (besideT k bf t1 (.leaf (fullB t k n) id)).At w' 0 (splitI (w5.heap.size + 1 + 1)) ((w5.heap.size + 1 + 1) :: (sl.ownBlock.toList ++ fs)) := by
    refine ⟨w5.heap.size + 1 + 1, sl, _, fs, rfl, hS, ?_, hP.below hbw', rfl⟩
    rcases hO with ⟨a, b | ⟨g, cap, cur, e, _, c⟩⟩
    · exact ⟨a, .inl b⟩
    · exact ⟨a, .inr ⟨g, cap, cur, e, Nat.zero_le _, c⟩⟩
  have hown : ∀ q ∈ sl.ownBlock.toList, w5.heap.size + 1 + 1 + 1 ≤ q := fun q hq => (World.ownsRow.lt hO q (by simpa using hq)).1
  refine lay_end hb5 (But.refl _ _) (fun q hq => ?_) ?_ hAt hB.sound hB.kinds (by have := hB.size; omega)
  · have := hb.size
    rcases List.mem_cons.1 hq with h | h
    · omega
    · rcases List.mem_append.1 h with h | h
      · have := hown q h
        omega
      · exact (hfsr q h).2
  · refine List.nodup_cons.2 ⟨fun h => ?_, List.nodup_append.2 ⟨?_, hfsn, fun a ha b hb' e => ?_⟩⟩
    · rcases List.mem_append.1 h with h | h
      · have := hown _ h
        omega
      · have := (hfsr _ h).1
        omega
    · cases sl.ownBlock <;> simp
    · have h1 := hown a ha
      have h2 := (hfsr b hb').1
      omega

end Go.Proofs.Ytfmlebimlacdpaa
