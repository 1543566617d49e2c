/-
  Layouts: join, of parts that may be of that kind: their children come in their place.
  Layouts: a pane beside the whole: the tree.
  Layouts: a part deep in a tree, put in place; the nearest split of a kind; lines drawn from parts.
  Layouts: a part gives way to another, deep in a tree: what becomes of the tree, and of its memory.
  Layouts: a pane is taken out: the tree.
-/
import Derived.Test.YtnepemlagnnngaaCFi
import Derived.Test.YtnepemlagnnngaaCWa
namespace Go.Proofs.Ytnepemlagnnngaa
open Go.RowKit
set_option linter.unusedVariables false
set_option maxRecDepth 100000

/-- What a part gives to a cell of that kind. -/
def flatT (k : Int) : Tree → List Tree
  | .leaf b p => [.leaf b p]
  | .split b k' ts => if k' = k then ts else [.split b k' ts]
theorem flatT_no {k : Int} {t : Tree} (h : t.kindIs k = false) : flatT k t = [t] := by
  cases t with
  | leaf b p => rfl
  | split b k' ts =>
    have : ¬ k' = k := by simpa [Tree.kindIs] using h
    show (if k' = k then ts else [.split b k' ts]) = _
    rw [if_neg this]

/-- A part in memory, and the values that it gives. -/
structure FlatAt (w : World) (k : Int) (t : Tree) (v : Value) (u : List Value) : Prop where
  no : t.kindIs k = false → u = [v]
  yes : t.kindIs k = true → ∃ gi g cap, v = splitI gi ∧ w.cell? ⟨gi, 5, none⟩ = some (.slice (some ⟨g, 0, none⟩) u.length cap) ∧ w.ownsRow 0 56 1 (.slice (some ⟨g, 0, none⟩) u.length cap) u.length u
  part : ∃ T gi Fs Fa, PartS w v t T gi Fs Fa

theorem flat_of {w : World} {k : Int} {t : Tree} {v : Value} {fp : List Nat} (h : t.At w 0 v fp) (hf : t.fine) (hs : t.sound = true) : ∃ u f, FlatAt w k t v u ∧ partsAt w 0 (flatT k t) u f ∧ List.Sublist f fp := by
  cases ht : t.kindIs k with
  | false =>
    refine ⟨[v], fp, ⟨fun _ => rfl, fun e => (by rw [ht] at e; cases e), h.partS hf⟩, ?_, List.Sublist.refl _⟩
    rw [flatT_no ht]
    exact ⟨v, [], fp, [], rfl, h, ⟨rfl, rfl⟩, by simp⟩
  | true =>
    cases t with
    | leaf b p => cases ht
    | split b k' ts =>
      have hp := h.partS hf
      obtain ⟨g, sl, vs, fs, rfl, h2, h3, h4, rfl⟩ := h
      have hk : k' = k := by simpa [Tree.kindIs] using ht
      unfold Tree.sound at hs
      simp only [Bool.and_eq_true, decide_eq_true_eq] at hs
      have hvl := h4.length
      rcases h3.2 with ⟨_, h5⟩ | ⟨pg, cap, cur, rfl, r⟩
      · have := hs.1.1
        omega
      · refine ⟨vs, fs, ⟨fun e => ?_, fun _ => ⟨g, pg, cap, rfl, cell_atL h2 5, h3⟩, hp⟩, ?_, ?_⟩
        · rw [ht] at e
          cases e
        · show partsAt w 0 (if k' = k then ts else [.split b k' ts]) vs fs
          rw [if_pos hk]
          exact h4
        · exact (List.sublist_append_right _ _).trans (List.sublist_cons_self _ _)

theorem step_append_parts {ops : Array Oper} {o : Oper} {a : Act} {K : Act → World → Prop} {Q : Exit → Act → World → Prop} {E : Prop} (w : World) (hgd : o.guard = none) (s x : Operand)
    (ho : o.op = .call { callee := .builtin .append, args := #[s, x], argTypes := #[76, 76] })
    (B : Nat) (v : Value) (vs : List Value) (hs : a.eval s = v) (hown : w.ownsRow B 56 1 v vs.length vs) (g cap : Nat) (ys : List Value) (hx : a.eval x = .slice (some ⟨g, 0, none⟩) ys.length cap) (hown' : w.ownsRow 0 56 1 (.slice (some ⟨g, 0, none⟩) ys.length cap) ys.length ys) (hone : ∀ u ∈ ys, u.oneCell' = true) (hlen : vs.length + ys.length ≤ 1000000) (hB : B ≤ w.heap.size)
    (h : ∀ v' w', w'.ownsRow B 56 1 v' (vs.length + ys.length) (vs ++ ys) → w.grownBy w' v.ownBlock → K (a.put o.dst v') w') : if Region.wanted o (yielded ops a.tmps) = true then Oper.wp Try.prog o a w K Q else E := by
  have hw : Region.wanted o (yielded ops a.tmps) = true := by simp [Region.wanted, hgd]
  rw [if_pos hw]
  obtain ⟨i0, hi, hz0, hz1, hz2⟩ := info_partsL infoPart
  refine wp_append_own _ s x 76 ho B 56 i0 .nilIface 1 16 Try.underlying76 hi hz0 hz1 hz2 rfl (by decide) v vs.length vs hs hown ⟨g, 0, none⟩ ys.length cap ys hx (by simp) (World.ownsRow.cells hown' rfl) hone ?_ ?_ hB ?_
  · unfold maxLen; omega
  · omega
  · intro v' w' h2 h3 _
    exact h v' w' h2 h3

theorem JoinTo.more {w : World} {k : Int} {vs us : List Value} {sl : Value} {wr : World} (h : JoinTo w k vs sl wr) {sl' : Value} {w' : World} (h1 : w'.ownsRow (w.heap.size + 1) 56 1 sl' (vs.length + us.length) (vs ++ us)) (h2 : wr.grownBy w' sl.ownBlock) :
    SplitAt w' w.heap.size ⟨0, 0, 0, 0⟩ k sl ∧ JoinTo w k (vs ++ us) sl' (w'.setCell ⟨w.heap.size, 5, none⟩ sl') := by
  have hlt := h.lt
  have hne : ∀ q, sl.ownBlock = some q → w.heap.size + 1 ≤ q := fun q hq => (World.ownsRow.lt h.row q hq).1
  have hs : SplitAt w' w.heap.size ⟨0, 0, 0, 0⟩ k sl := by
    refine (h2.block w.heap.size hlt fun e => ?_).trans h.own
    have := hne _ e.symm
    omega
  refine ⟨hs, hs.setSl sl', ?_, ?_⟩
  · have hk : ∀ q ∈ sl'.ownBlock.toList, (w'.setCell ⟨w.heap.size, 5, none⟩ sl').heap[q]? = w'.heap[q]? := fun q hq => by
      refine Below.heap_setCell _ _ _ _ fun e => ?_
      have := (World.ownsRow.lt h1 q (by simpa using hq)).1
      have e' : q = w.heap.size := by simpa using e
      omega
    have := own_kept h1 hk
    simpa using this
  · have hb : Below w.heap.size w w' := by
      have h0 := h.below
      refine ⟨h2.os.trans h0.os, h2.tape.trans h0.tape, h2.output.trans h0.output, Nat.le_trans h0.size h2.size, fun q hq => (h2.block q (by have := h0.size; omega) fun e => ?_).trans (h0.block q hq)⟩
      have := hne _ e.symm
      omega
    exact below_grown hb (grownBy_set _ _ _ _) (Nat.le_refl _)
theorem JoinTo.below' {w : World} {k : Int} {vs : List Value} {sl : Value} {wr X : World} (h : JoinTo w k vs sl wr) (hb : Below wr.heap.size wr X) : JoinTo w k vs sl X := ⟨h.own.below hb, own_below h.row hb, below_step h.below hb⟩
theorem partsAt.one_cell {W : World} {B : Nat} : ∀ {ts : List Tree} {vs : List Value} {fp : List Nat}, partsAt W B ts vs fp → ∀ u ∈ vs, u.oneCell' = true
  | [], vs, fp, h => by
    obtain ⟨rfl, _⟩ := h
    intro u hu
    cases hu
  | t :: ts, vs, fp, h => by
    obtain ⟨v, vs', f, f', rfl, h2, h3, rfl⟩ := h
    intro u hu
    rcases List.mem_cons.1 hu with e | hu
    · subst e
      obtain ⟨g, hv, _, _⟩ := h2.own
      rcases hv with rfl | rfl <;> rfl
    · exact partsAt.one_cell h3 u hu

set_option maxHeartbeats 2000000 in
theorem join_flat (k : Int) (hk : k = 2 ∨ k = 3) (pg n cap : Nat) (vs : List Value) (U : List (List Value)) (fs : List Nat) (ts : List Tree) (f0 : Tree) (fr : List Tree) (w : World) (hR : ∀ (i : Nat) u, vs[i]? = some u → w.cell? ⟨pg, i, none⟩ = some u) (hF : ∀ (i : Nat) t, ts[i]? = some t → ∃ v u, vs[i]? = some v ∧ U[i]? = some u ∧ FlatAt w k t v u) (hP : partsAt w 0 (f0 :: fr) U.flatten fs) (hs : SmallT (f0 :: fr)) (hn : ts.length = n) (hU : U.length = n) (hn2 : n ≤ 200) :
    Calls Try.prog 33 #[.int .i64 k, .slice (some ⟨pg, 0, none⟩) n cap] w fun e w' => ∃ sl, e = .returned (.pointer (some ⟨w.heap.size, 0, none⟩)) ∧ SplitAt w' w.heap.size (aroundB (f0 :: fr) k) k sl ∧ w'.ownsRow (w.heap.size + 1) 56 1 sl U.flatten.length U.flatten ∧ Below w.heap.size w w' := by
  have hul := hP.length
  have HF : Hid (∀ (i : Nat) t, ts[i]? = some t → ∃ v u, vs[i]? = some v ∧ U[i]? = some u ∧ FlatAt w k t v u) := hF
  have HR : Hid (∀ (i : Nat) u, vs[i]? = some u → w.cell? ⟨pg, i, none⟩ = some u) := hR
  have HN : Hid (ts.length = n) := hn
  have HUl : Hid (U.length = n) := hU
  have hfl : U.flatten.length ≤ 200 := by rw [hul]; exact hs.1
  have HFl : Hid (U.flatten.length ≤ 200) := hfl
  have HOne : Hid (∀ x ∈ U.flatten, x.oneCell' = true) := hP.one_cell
  have HJ0 : Hid (JoinTo w k [] (.slice none 0 0) _) := JoinTo.start w k
  have HA : Hid (∀ sl wr, JoinTo w k U.flatten sl wr → Calls Try.prog 62 #[.pointer (some ⟨w.heap.size, 0, none⟩)] wr fun e w' => e = .returned (.agg #[.int .i64 0, .int .i64 0, .int .i64 (aroundB (f0 :: fr) k).w, .int .i64 (aroundB (f0 :: fr) k).h]) ∧ JoinTo w k U.flatten sl w') := by
    intro sl wr h
    refine (around_any w.heap.size ⟨0, 0, 0, 0⟩ k hk sl U.flatten fs f0 fr 0 wr h.own ⟨h.row.1, ?_⟩ (hP.below h.below) hs).mono fun e w' h2 => ⟨h2.1, h.own.below h2.2, own_below h.row h2.2, below_step h.below h2.2⟩
    rcases h.row.2 with h0 | ⟨g, cap, cur, e, _, r⟩
    · exact .inl h0
    · exact .inr ⟨g, cap, cur, e, Nat.zero_le _, r⟩
  obtain ⟨bw, hbw⟩ : ∃ x, (aroundB (f0 :: fr) k).w = x := ⟨_, rfl⟩
  obtain ⟨bh, hbh⟩ : ∃ x, (aroundB (f0 :: fr) k).h = x := ⟨_, rfl⟩
  have HE : Hid (aroundB (f0 :: fr) k = ⟨0, 0, bw, bh⟩) := by
    show _ = _
    rw [← hbw, ← hbh]
    unfold aroundB
    by_cases h2 : k = 2 <;> simp [h2]
  rw [hbw, hbh] at HA
  rw [HE.out]
  clear hR hP hF hs hn hU hk hbw hbh hul hfl
  go_enter Try.func33, Try.ntmps33
  go_wp2
  go_loopw [14] (fun v wr => ∃ i : Nat, i ≤ n ∧ v = .int .i64 i ∧ ∃ sl, Hid (JoinTo w k (U.take i).flatten sl wr)) (fun v _ => n - (intOf v).toNat)
  case atStart => exact ⟨0, Nat.zero_le _, rfl, _, HJ0⟩
  case round =>
    obtain ⟨i, hi, rfl, sl, HJ⟩ := hrel
    clear HJ0
    by_cases hlt : i < n
    · obtain ⟨t, ht⟩ : ∃ t, ts[i]? = some t := ⟨_, List.getElem?_eq_getElem (by rw [HN.out]; exact hlt)⟩
      obtain ⟨pv, u, hpv, hu, hfa⟩ := HF.out i t ht
      obtain ⟨T, gi, Fs, Fa, HP⟩ := hfa.part
      have hval := HP.val
      subst hval
      have ri := (HJ.out.below.cell (p := ⟨pg, i, none⟩) (World.block_lt_of_cell? w _ (HR.out i _ hpv))).trans (HR.out i _ hpv)
      have m1 := HP.mA
      have m2 := HP.fA
      have hcA := HP.cA k wr HJ.out.below
      have HT : Hid ((U.take (i + 1)).flatten = (U.take i).flatten ++ u) := by
        show _ = _
        rw [List.take_add_one, hu]
        simp
      have hlenS : (U.take i).flatten.length + u.length ≤ 200 := by
        have h1 : (U.take i).flatten ++ u ++ (U.drop (i + 1)).flatten = U.flatten := by
          rw [← HT.out, ← List.flatten_append, List.take_append_drop]
        have h2 := congrArg List.length h1
        rw [List.length_append, List.length_append] at h2
        have := HFl.out
        omega
      have HUo : Hid (∀ x ∈ u, x.oneCell' = true) := fun x hx => HOne.out x (List.mem_flatten.2 ⟨u, List.mem_of_getElem? hu, hx⟩)
      have r5 : wr.cell? ⟨w.heap.size, 5, none⟩ = some sl := cell_atL HJ.out.own 5
      obtain ⟨sa, sn, sc, hsl⟩ := own_slice HJ.out.row
      subst hsl
      have HW : Hid (w.heap.size + 1 ≤ wr.heap.size) := HJ.out.lt
      cases hkt : t.kindIs k with
      | false =>
        have hu1 := hfa.no hkt
        subst hu1
        rw [hkt] at hcA
        have HcA : Hid (Calls Try.prog Fa #[.pointer (some ⟨gi, 0, none⟩), .int .i64 k] wr fun e w' => e = .returned (.pointer none) ∧ wr = w') := hcA
        clear HP hpv ht hcA hfa hu hkt
        go_wp2_with fail
        refine HcA.out.mono ?_
        rintro e w1 ⟨rfl, rfl⟩
        go_wp2_with (at_builtin; refine wpList_append_partB wr rfl (.tmp 39) (.tmp 41) rfl (w.heap.size + 1) (.slice sa sn sc) (U.take i).flatten T gi rfl HJ.out.row rfl (by omega) HW.out ?_; intro sl' w3 a1 a2; have hsl := own_slice a1; have hj := HJ.out.next a1 a2; have c5 : w3.cell? ⟨w.heap.size, 5, none⟩ = some (.slice sa sn sc) := cell_atL hj.1 5; have f5 : w3.frozen? ⟨w.heap.size, 5, none⟩ = false := free_atL hj.1 5; have HJ3 : Hid (JoinTo w k ((U.take i).flatten ++ [.iface T (.pointer (some ⟨gi, 0, none⟩))]) sl' (w3.setCell ⟨w.heap.size, 5, none⟩ sl')) := hj.2; clear a1 a2 hj; obtain ⟨sa', sn', sc', hsl'⟩ := hsl; subst hsl')
        go_roundw
        case rel => exact ⟨i + 1, by omega, by go_num, _, by rw [HT.out]; exact HJ3⟩
        case measure => simp [intOf]; omega
      | true =>
        obtain ⟨gi', g, cap', e1, e2, e3⟩ := hfa.yes hkt
        cases e1
        rw [hkt] at hcA
        have HcA : Hid (Calls Try.prog Fa #[.pointer (some ⟨gi, 0, none⟩), .int .i64 k] wr fun e w' => e = .returned (.pointer (some ⟨gi, 0, none⟩)) ∧ wr = w') := hcA
        have r6 : wr.cell? ⟨gi, 5, none⟩ = some (.slice (some ⟨g, 0, none⟩) u.length cap') := (HJ.out.below.cell (p := ⟨gi, 5, none⟩) (World.block_lt_of_cell? w _ e2)).trans e2
        have HOw : Hid (wr.ownsRow 0 56 1 (.slice (some ⟨g, 0, none⟩) u.length cap') u.length u) := own_below e3 HJ.out.below
        have HJd : Hid (JoinTo w k (U.take i).flatten (.slice sa sn sc) wr.drew) := HJ.out.below' (Below.refl _ _).drew
        obtain ⟨ul, hul⟩ : ∃ x, u.length = x := ⟨_, rfl⟩
        have HUl2 : Hid (u.length = ul) := hul
        rw [hul] at r6
        clear HP hpv ht hcA hfa hu hkt e2 e3 hul
        go_wp2_with fail
        refine HcA.out.mono ?_
        rintro e w1 ⟨rfl, rfl⟩
        go_wp2_with fail
        go_region_law (first
          | (refine step_append_parts wr.drew rfl (.tmp 27) (.tmp 31) rfl (w.heap.size + 1) (.slice sa sn sc) (U.take i).flatten (by simp [Act.eval]) HJd.out.row g cap' u (by simp [Act.eval, HUl2.out]) HOw.out HUo.out (by omega) HW.out ?_; intro sl' w3 a1 a2; have hsl := own_slice a1; have hj := HJd.out.more a1 a2; have c5 : w3.cell? ⟨w.heap.size, 5, none⟩ = some (.slice sa sn sc) := cell_atL hj.1 5; have f5 : w3.frozen? ⟨w.heap.size, 5, none⟩ = false := free_atL hj.1 5; have HJ3 : Hid (JoinTo w k ((U.take i).flatten ++ u) sl' (w3.setCell ⟨w.heap.size, 5, none⟩ sl')) := hj.2; clear a1 a2 hj; obtain ⟨sa', sn', sc', hsl'⟩ := hsl; subst hsl'))
        all_goals (
          go_wp2
          go_roundw
          case rel => exact ⟨i + 1, by omega, by go_num, _, by rw [HT.out]; exact HJ3⟩
          case measure => simp [intOf]; omega)
    · have hin : i = n := by omega
      subst hin
      have HJ2 : Hid (JoinTo w k U.flatten sl wr) := by
        have h := HJ.out
        rwa [List.take_of_length_le (by rw [HUl.out]; exact Nat.le_refl _)] at h
      have HA2 : Hid (Calls Try.prog 62 #[.pointer (some ⟨w.heap.size, 0, none⟩)] wr _) := HA.out sl wr HJ2.out
      clear HJ HA
      go_wp2_with fail
      refine HA2.out.mono ?_
      rintro e w5 ⟨rfl, hj⟩
      have HJ5 : Hid (JoinTo w k U.flatten sl w5) := hj
      obtain ⟨q0, q1, q2, q3, qf⟩ := hj.own.box
      have f0 := qf 0 (by decide)
      have f1 := qf 1 (by decide)
      have f2 := qf 2 (by decide)
      have f3 := qf 3 (by decide)
      clear hj qf HA2
      go_wp2
      go_ret
      refine ⟨sl, rfl, (((HJ5.out.own.set 0 (.int .i64 0) (b' := ⟨0, 0, 0, 0⟩) rfl).set 1 (.int .i64 0) (b' := ⟨0, 0, 0, 0⟩) rfl).set 2 (.int .i64 bw) (b' := ⟨0, 0, bw, 0⟩) rfl).set 3 (.int .i64 bh) (b' := ⟨0, 0, bw, bh⟩) rfl, ?_, below_grown (below_grown (below_grown (below_grown HJ5.out.below (grownBy_set _ _ _ _) (Nat.le_refl _)) (grownBy_set _ _ _ _) (Nat.le_refl _)) (grownBy_set _ _ _ _) (Nat.le_refl _)) (grownBy_set _ _ _ _) (Nat.le_refl _)⟩
      refine own_kept HJ5.out.row fun q hq => ?_
      have hne : q ≠ w.heap.size := fun e => by
        have := (World.ownsRow.lt HJ5.out.row q (by simpa using hq)).1
        omega
      exact ((Below.heap_setCell _ _ _ _ hne).trans (Below.heap_setCell _ _ _ _ hne)).trans ((Below.heap_setCell _ _ _ _ hne).trans (Below.heap_setCell _ _ _ _ hne))

end Go.Proofs.Ytnepemlagnnngaa

namespace Go.Proofs.Ytnepemlagnnngaa
open Go.RowKit
set_option linter.unusedVariables false
set_option maxRecDepth 20000

theorem soundAll_ext (b b' : Box) (k : Int) (h : b.ext (acrossK k) = b'.ext (acrossK k)) : ∀ (ts : List Tree), soundAll ts b k = soundAll ts b' k
  | [] => rfl
  | t :: ts => by
    unfold soundAll
    rw [soundAll_ext b b' k h ts, h]
theorem soundAll_snoc (b : Box) (k : Int) (x : Tree) : ∀ (ts : List Tree), soundAll (ts ++ [x]) b k = (soundAll ts b k && (x.sound && (!x.kindIs k && decide (x.box.ext (acrossK k) = b.ext (acrossK k)))))
  | [] => by
    show ((_ && _) && soundAll [] b k) = (true && _)
    unfold soundAll
    rw [Bool.and_true, Bool.true_and]
  | t :: ts => by
    show soundAll (t :: (ts ++ [x])) b k = _
    unfold soundAll
    rw [soundAll_snoc b k x ts]
    simp only [Bool.and_assoc]
theorem extAll_snoc (k : Int) (x : Tree) : ∀ (ts : List Tree), extAll (ts ++ [x]) k = extAll ts k + 1 + x.box.ext k
  | [] => by
    show x.box.ext k + 1 + -1 = -1 + 1 + x.box.ext k
    omega
  | t :: ts => by
    show t.box.ext k + 1 + extAll (ts ++ [x]) k = t.box.ext k + 1 + extAll ts k + 1 + x.box.ext k
    rw [extAll_snoc k x ts]
    omega
theorem kindsAll_snoc (x : Tree) : ∀ (ts : List Tree), kindsAll ts → x.kinds → kindsAll (ts ++ [x])
  | [], _, h => ⟨h, trivial⟩
  | t :: ts, h, hx => ⟨h.1, kindsAll_snoc x ts h.2 hx⟩
theorem sizes_snoc (x : Tree) : ∀ (ts : List Tree), sizes (ts ++ [x]) = sizes ts + x.size
  | [] => by
    show x.size + 0 = 0 + x.size
    omega
  | t :: ts => by
    show t.size + sizes (ts ++ [x]) = t.size + sizes ts + x.size
    rw [sizes_snoc x ts]
    omega
theorem soundAll_in (b : Box) (k : Int) : ∀ (ts : List Tree), soundAll ts b k = true → ∀ t ∈ ts, t.sound = true ∧ t.kindIs k = false ∧ t.box.ext (acrossK k) = b.ext (acrossK k)
  | [], _, t, ht => by cases ht
  | a :: ts, h, t, ht => by
    unfold soundAll at h
    simp only [Bool.and_eq_true, decide_eq_true_eq, Bool.not_eq_true'] at h
    rcases List.mem_cons.1 ht with e | ht
    · subst e
      exact ⟨h.1.1, h.1.2.1, h.1.2.2⟩
    · exact soundAll_in b k ts h.2 t ht

/-- What a sound tree gives to a cell of that kind. -/
structure FlatOk (t : Tree) (k : Int) (b : Box) : Prop where
  sound : soundAll (flatT k t) b k = true
  ext : extAll (flatT k t) k = t.box.ext k
  kinds : kindsAll (flatT k t)
  size : sizes (flatT k t) ≤ t.size
  ne : 1 ≤ (flatT k t).length
theorem flat_ok (t : Tree) (k : Int) (hk : k = 2 ∨ k = 3) (hs : t.sound = true) (hkt : t.kinds) (b : Box) (hb : b.ext (acrossK k) = t.box.ext (acrossK k)) : FlatOk t k b := by
  cases hki : t.kindIs k with
  | false =>
    rw [show FlatOk t k b ↔ FlatOk t k b from Iff.rfl]
    refine ⟨?_, ?_, ?_, ?_, ?_⟩ <;> rw [flatT_no hki]
    · show (t.sound && (!t.kindIs k && decide (t.box.ext (acrossK k) = b.ext (acrossK k))) && true) = true
      rw [hs, hki, hb]
      simp
    · show t.box.ext k + 1 + -1 = t.box.ext k
      omega
    · exact ⟨hkt, trivial⟩
    · show t.size + 0 ≤ t.size
      omega
    · exact Nat.le_refl 1
  | true =>
    cases t with
    | leaf b1 p => cases hki
    | split b1 k' ts =>
      have hkk : k' = k := by simpa [Tree.kindIs] using hki
      subst hkk
      have he : flatT k' (.split b1 k' ts) = ts := if_pos rfl
      unfold Tree.sound at hs
      simp only [Bool.and_eq_true, decide_eq_true_eq] at hs
      refine ⟨?_, ?_, ?_, ?_, ?_⟩ <;> rw [he]
      · rw [soundAll_ext b b1 k' hb]
        exact hs.2.1
      · exact hs.2.2
      · exact hkt.2
      · show sizes ts ≤ 1 + sizes ts
        omega
      · have := hs.1.1
        omega

/-- The parts beside one another, the new one ahead or behind. -/
def besideL (k : Int) (bf : Bool) (t x : Tree) : List Tree := if bf then x :: flatT k t else flatT k t ++ [x]
def besideT (k : Int) (bf : Bool) (t x : Tree) : Tree := .split (aroundB (besideL k bf t x) k) k (besideL k bf t x)
structure BesideOk (k : Int) (bf : Bool) (t x : Tree) : Prop where
  sound : (besideT k bf t x).sound = true
  kinds : (besideT k bf t x).kinds
  size : (besideT k bf t x).size ≤ t.size + 2
  node : nodeOf (besideT k bf t x) = .mk k (if k = 2 then t.box.w + x.box.w + 1 else t.box.w) (if k = 2 then t.box.h else t.box.h + x.box.h + 1) 0 (nodesOf (besideL k bf t x))
  small : SmallT (besideL k bf t x)
  ne : besideL k bf t x ≠ []

theorem beside_ok (k : Int) (hk : k = 2 ∨ k = 3) (bf : Bool) (t : Tree) (bl : Box) (id : Int) (hs : t.sound = true) (hkt : t.kinds) (hz : t.size ≤ 100) (hx : (Tree.leaf bl id).sound = true) (hac : bl.ext (acrossK k) = t.box.ext (acrossK k)) (hext : t.box.ext k + 1 + bl.ext k ≤ 1000) : BesideOk k bf t (.leaf bl id) := by
  have hfo := flat_ok t k hk hs hkt t.box rfl
  have hxs := (Tree.leaf bl id).sound_sides hx
  have hts := t.sound_sides hs
  change (1 ≤ bl.w ∧ bl.w ≤ 1000) ∧ (1 ≤ bl.h ∧ bl.h ≤ 1000) at hxs
  have hxc : ((Tree.leaf bl id).sound && (!(Tree.leaf bl id).kindIs k && decide ((Tree.leaf bl id).box.ext (acrossK k) = t.box.ext (acrossK k)))) = true := by
    rw [hx]
    show (true && (true && decide (bl.ext (acrossK k) = t.box.ext (acrossK k)))) = true
    rw [hac]
    simp
  have hall : soundAll (besideL k bf t (.leaf bl id)) t.box k = true := by
    unfold besideL
    cases bf with
    | true =>
      show soundAll (.leaf bl id :: flatT k t) t.box k = true
      unfold soundAll
      rw [hxc, hfo.sound]
      rfl
    | false =>
      show soundAll (flatT k t ++ [.leaf bl id]) t.box k = true
      rw [soundAll_snoc, hfo.sound, hxc]
      rfl
  have hexA : extAll (besideL k bf t (.leaf bl id)) k = t.box.ext k + 1 + bl.ext k := by
    unfold besideL
    cases bf with
    | true =>
      show bl.ext k + 1 + extAll (flatT k t) k = _
      rw [hfo.ext]
      omega
    | false =>
      show extAll (flatT k t ++ [.leaf bl id]) k = _
      rw [extAll_snoc, hfo.ext]
      rfl
  have hlen : 2 ≤ (besideL k bf t (.leaf bl id)).length := by
    have := hfo.ne
    unfold besideL
    cases bf with
    | true =>
      show 2 ≤ (_ :: flatT k t).length
      rw [List.length_cons]
      omega
    | false =>
      show 2 ≤ (flatT k t ++ [_]).length
      rw [List.length_append]
      show 2 ≤ _ + 1
      omega
  have hkin : kindsAll (besideL k bf t (.leaf bl id)) := by
    unfold besideL
    cases bf with
    | true => exact ⟨trivial, hfo.kinds⟩
    | false => exact kindsAll_snoc _ _ hfo.kinds trivial
  have hsz : sizes (besideL k bf t (.leaf bl id)) ≤ t.size + 1 := by
    have := hfo.size
    unfold besideL
    cases bf with
    | true =>
      show 1 + sizes (flatT k t) ≤ _
      omega
    | false =>
      show sizes (flatT k t ++ [_]) ≤ _
      rw [sizes_snoc]
      show _ + 1 ≤ _
      omega
  have hin := soundAll_in t.box k _ hall
  have harB : ∃ a, aroundB (besideL k bf t (.leaf bl id)) k = (if k = 2 then ⟨0, 0, t.box.ext k + 1 + bl.ext k, a⟩ else ⟨0, 0, a, t.box.ext k + 1 + bl.ext k⟩) ∧ a = t.box.ext (acrossK k) := by
    cases hL : besideL k bf t (.leaf bl id) with
    | nil => rw [hL] at hlen; simp at hlen
    | cons c cs =>
      have hc := (hin c (by rw [hL]; exact List.mem_cons_self)).2.2
      refine ⟨c.box.ext (acrossK k), ?_, hc⟩
      show (if k = 2 then (⟨0, 0, extAll (c :: cs) k, c.box.h⟩ : Box) else ⟨0, 0, c.box.w, extAll (c :: cs) k⟩) = _
      rw [← hL, hexA]
      rcases hk with rfl | rfl
      · rfl
      · rfl
  obtain ⟨a, har, ha⟩ := harB
  have hex := sides_ext t.box k hts
  have hax := sides_ext t.box (acrossK k) hts
  have hbx := sides_ext bl k hxs
  refine ⟨?_, ⟨hk, hkin⟩, ?_, ?_, ⟨?_, fun c hc => c.sound_sides (hin c hc).1⟩, ?_⟩
  · unfold besideT Tree.sound
    simp only [Bool.and_eq_true, decide_eq_true_eq]
    have hacr : (aroundB (besideL k bf t (.leaf bl id)) k).ext (acrossK k) = t.box.ext (acrossK k) := by
      rw [har, ha]
      rcases hk with rfl | rfl <;> rfl
    have hak : (aroundB (besideL k bf t (.leaf bl id)) k).ext k = t.box.ext k + 1 + bl.ext k := by
      rw [har]
      rcases hk with rfl | rfl <;> rfl
    refine ⟨⟨hlen, ?_⟩, ?_, ?_⟩
    · rw [har]
      subst ha
      rcases hk with rfl | rfl
      · show sideB (t.box.ext 2 + 1 + bl.ext 2) = true ∧ sideB (t.box.ext 3) = true
        change 1 ≤ t.box.ext 3 ∧ t.box.ext 3 ≤ 1000 at hax
        simp only [sideB, Bool.and_eq_true, decide_eq_true_eq]
        omega
      · show sideB (t.box.ext 2) = true ∧ sideB (t.box.ext 3 + 1 + bl.ext 3) = true
        change 1 ≤ t.box.ext 2 ∧ t.box.ext 2 ≤ 1000 at hax
        simp only [sideB, Bool.and_eq_true, decide_eq_true_eq]
        omega
    · rw [soundAll_ext _ t.box k hacr]
      exact hall
    · rw [hexA, hak]
  · show 1 + sizes (besideL k bf t (.leaf bl id)) ≤ t.size + 2
    omega
  · unfold besideT
    show Node.mk k (aroundB (besideL k bf t (.leaf bl id)) k).w (aroundB (besideL k bf t (.leaf bl id)) k).h 0 _ = _
    rw [har]
    subst ha
    rcases hk with rfl | rfl
    · show Node.mk 2 (t.box.w + 1 + bl.w) t.box.h 0 _ = Node.mk 2 (t.box.w + bl.w + 1) t.box.h 0 _
      rw [show t.box.w + 1 + bl.w = t.box.w + bl.w + 1 by omega]
    · show Node.mk 3 t.box.w (t.box.h + 1 + bl.h) 0 _ = Node.mk 3 t.box.w (t.box.h + bl.h + 1) 0 _
      rw [show t.box.h + 1 + bl.h = t.box.h + bl.h + 1 by omega]
  · have := length_sizes (besideL k bf t (.leaf bl id))
    omega
  · intro e
    rw [e] at hlen
    simp at hlen

/-- A pane is put beside the whole of a list. -/
structure Fulled (l : List CellV) (t t1 : Tree) (k z n id : Int) (bf : Bool) : Prop where
  lay : IsLay l t
  kind : k = 2 ∨ k = 3
  join : joinE l id = 0
  room : 2 ≤ t.room k
  num : n = min (wantedF z (t.box.ext k)) (t.room k - 1)
  low : 1 ≤ n ∧ n ≤ 1000
  one : Str t k (-n - 1) t1
  box1 : t1.box = t.box.str k (-n - 1)
  s1 : t1.sound = true
  k1 : t1.kinds
  z1 : t1.size = t.size
  id_ : idB id = true
/-- The new pane's box. -/
def fullB (t : Tree) (k n : Int) : Box := ((⟨0, 0, 0, 0⟩ : Box).str k n).str (acrossK k) (t.box.ext (acrossK k))
theorem fullB_eq (t : Tree) (k n : Int) (hk : k = 2 ∨ k = 3) : fullB t k n = if k = 2 then ⟨0, 0, n, t.box.h⟩ else ⟨0, 0, t.box.w, n⟩ := by
  unfold fullB
  rcases hk with rfl | rfl
  · show (⟨0, 0, 0 + n, 0 + t.box.h⟩ : Box) = ⟨0, 0, n, t.box.h⟩
    rw [Int.zero_add, Int.zero_add]
  · show (⟨0, 0, 0 + t.box.w, 0 + n⟩ : Box) = ⟨0, 0, t.box.w, n⟩
    rw [Int.zero_add, Int.zero_add]
theorem fulled_any {l : List CellV} {t : Tree} (hr : readF l = some t) (k z id : Int) (bf : Bool) (hk : k = 2 ∨ k = 3) (hj : joinE l id = 0) (hrm : 2 ≤ t.room k) : ∃ t1 n, Fulled l t t1 k z n id bf := by
  have hl := readF_lay hr
  have hz := lay_size hl
  have hsd := sides_ext t.box k (t.sound_sides hl.sound)
  have hrl := room_le t k hk hl.kinds hl.sound
  obtain ⟨n, hn⟩ : ∃ n, n = min (wantedF z (t.box.ext k)) (t.room k - 1) := ⟨_, rfl⟩
  have hwl : 1 ≤ wantedF z (t.box.ext k) := by
    unfold wantedF halfF
    split <;> omega
  obtain ⟨t1, h1, g1⟩ := can_str t k (-n - 1) hk hl.sound hl.kinds (by omega) (by omega) (by omega)
  have hid : idB id = true := by
    cases h : idB id with
    | true => rfl
    | false =>
      unfold joinE at hj
      rw [if_pos (.inl h)] at hj
      cases hj
  exact ⟨t1, n, hl, hk, hj, hrm, hn, by omega, h1, g1.box, g1.sound, g1.kinds, g1.size, hid⟩
theorem Fulled.beside {l : List CellV} {t t1 : Tree} {k z n id : Int} {bf : Bool} (h : Fulled l t t1 k z n id bf) : BesideOk k bf t1 (.leaf (fullB t k n) id) := by
  have hz := lay_size h.lay
  have hts := t.sound_sides h.lay.sound
  have hn := h.low
  have hsd := sides_ext t.box k hts
  refine beside_ok k h.kind bf t1 (fullB t k n) id h.s1 h.k1 (by rw [h.z1]; omega) ?_ ?_ ?_
  · unfold Tree.sound
    rw [fullB_eq t k n h.kind, h.id_]
    rcases h.kind with hk | hk <;> subst hk
    · show (sideB n && sideB t.box.h && true) = true
      simp only [sideB, Bool.and_true, Bool.and_eq_true, decide_eq_true_eq]
      omega
    · show (sideB t.box.w && sideB n && true) = true
      simp only [sideB, Bool.and_true, Bool.and_eq_true, decide_eq_true_eq]
      omega
  · rw [h.box1, fullB_eq t k n h.kind]
    rcases h.kind with hk | hk <;> subst hk <;> rfl
  · rw [h.box1, Box.ext_str, fullB_eq t k n h.kind]
    rcases h.kind with hk | hk <;> subst hk
    · show t.box.ext 2 + (-n - 1) + 1 + n ≤ 1000
      omega
    · show t.box.ext 3 + (-n - 1) + 1 + n ≤ 1000
      omega

end Go.Proofs.Ytnepemlagnnngaa

namespace Go.Proofs.Ytnepemlagnnngaa
open Go.RowKit
set_option linter.unusedVariables false
set_option maxRecDepth 20000

/-- What stands where a way leads to, and the tree when another stands there. -/
def Tree.subAt : Tree → List Nat → Option Tree
  | t, [] => some t
  | .leaf _ _, _ :: _ => none
  | .split _ _ ts, i :: ps => match ts[i]? with
    | some s => s.subAt ps
    | none => none
def Tree.putAt : Tree → List Nat → Tree → Tree
  | _, [], s => s
  | .leaf b p, _ :: _, _ => .leaf b p
  | .split b k ts, i :: ps, s => match ts[i]? with
    | some u => .split b k (ts.set i (u.putAt ps s))
    | none => .split b k ts

theorem Tree.At.sub {W : World} {B : Nat} : ∀ (ps : List Nat) {t s : Tree} {v : Value} {fp : List Nat}, t.At W B v fp → fp.Nodup → t.subAt ps = some s →
    ∃ v' f', s.At W B v' f' ∧ f'.Nodup ∧ (∀ q ∈ f', q ∈ fp) ∧ ∀ W' s', But f' W W' → s'.At W' B v' f' → (t.putAt ps s').At W' B v fp
  | [], t, s, v, fp, h, hnd, hs => by
    have : t = s := by simpa [Tree.subAt] using hs
    subst this
    exact ⟨v, fp, h, hnd, fun q hq => hq, fun W' s' _ hs' => hs'⟩
  | i :: ps, .leaf b p, s, v, fp, h, hnd, hs => by simp [Tree.subAt] at hs
  | i :: ps, .split b k ts, s, v, fp, h, hnd, hs => by
    obtain ⟨g, sl, vs, fs, rfl, h2, h3, h4, rfl⟩ := h
    cases hi : ts[i]? with
    | none => simp [Tree.subAt, hi] at hs
    | some u =>
      have hs' : u.subAt ps = some s := by simpa [Tree.subAt, hi] using hs
      obtain ⟨n1, n2⟩ := List.nodup_cons.1 hnd
      obtain ⟨n3, n4, n5⟩ := List.nodup_append.1 n2
      obtain ⟨v1, f1, e1, e2, e3, e4, e5⟩ := partsAt.one h4 n4 i u hi
      obtain ⟨v', f', a1, a2, a3, a4⟩ := Tree.At.sub ps e2 e3 hs'
      refine ⟨v', f', a1, a2, fun q hq => List.mem_cons_of_mem _ (List.mem_append_right _ (e4 q (a3 q hq))), fun W' s' hb hs2 => ?_⟩
      have hput : (Tree.split b k ts).putAt (i :: ps) s' = .split b k (ts.set i (u.putAt ps s')) := by simp [Tree.putAt, hi]
      rw [hput]
      have hb1 : But f1 W W' := hb.mono a3
      refine ⟨g, sl, vs, fs, rfl, ?_, ?_, e5 W' _ hb1 (a4 W' s' hb hs2), rfl⟩
      · exact (hb.block g (lt_of_block h2) fun e => n1 (List.mem_append_right _ (e4 g (a3 g e)))).trans h2
      · exact own_kept h3 fun q hq => hb.block q (own_lt h3 q hq) fun e => n5 q hq q (e4 q (a3 q e)) rfl

/-- The nearest split of a kind on a way: where it stands, and which of its parts the way goes through. -/
def nearF (k : Int) : Tree → List Nat → Option (List Nat × Nat)
  | _, [] => none
  | .leaf _ _, _ :: _ => none
  | .split _ k' ts, i :: ps => match ts[i]? with
    | some s => match nearF k s ps with
      | some (qs, a) => some (i :: qs, a)
      | none => if k' = k then some ([], i) else none
    | none => none

theorem near_sub (k : Int) : ∀ (ps : List Nat) (t : Tree) (qs : List Nat) (a : Nat), nearF k t ps = some (qs, a) → ∃ b ts, t.subAt qs = some (.split b k ts) ∧ a < ts.length
  | [], t, qs, a, h => by simp [nearF] at h
  | i :: ps, .leaf b p, qs, a, h => by simp [nearF] at h
  | i :: ps, .split b k' ts, qs, a, h => by
    cases hi : ts[i]? with
    | none => simp [nearF, hi] at h
    | some s =>
      cases hn : nearF k s ps with
      | none =>
        simp only [nearF, hi, hn] at h
        split at h
        · rename_i e
          subst e
          cases h
          exact ⟨b, ts, rfl, (List.getElem?_eq_some_iff.1 hi).1⟩
        · cases h
      | some r =>
        obtain ⟨qs', a'⟩ := r
        simp only [nearF, hi, hn] at h
        cases h
        obtain ⟨b', ts', h1, h2⟩ := near_sub k ps s _ _ hn
        exact ⟨b', ts', by simp only [Tree.subAt, hi]; exact h1, h2⟩

/-- Parts give lines to part c, one behind the other, as far as they have room; how many they gave. -/
inductive Draw (k : Int) (c : Nat) : List Nat → Int → List Tree → List Tree → Int → Prop
  | nil (n : Int) (us : List Tree) : Draw k c [] n us us 0
  | cons (j : Nat) (js : List Nat) (n d : Int) (us rs : List Tree) (t t' s s' : Tree) (got : Int) : us[j]? = some t → t.sound = true → t.kinds → t.size ≤ 900 → d = min n (t.room k) → 0 ≤ d → d ≤ 1000 → t'.size = t.size → Str t k (-d) t' → (us.set j t')[c]? = some s → s'.size = s.size → Str s k d s' → Draw k c js (n - d) ((us.set j t').set c s') rs got → Draw k c (j :: js) n us rs (d + got)

theorem get_set_ne {us : List Tree} {i j : Nat} {t : Tree} (h : i ≠ j) : (us.set i t)[j]? = us[j]? := by
  rw [List.getElem?_set_ne h]

/-- Where all is sound, lines can be drawn: the whole's extent stays. -/
theorem draw_can (b : Box) (k : Int) (hk : k = 2 ∨ k = 3) (c : Nat) : ∀ (js : List Nat) (n : Int) (us : List Tree), 0 ≤ n → c < us.length → (∀ j ∈ js, j < us.length ∧ j ≠ c) → soundAll us b k = true → kindsAll us → sizes us ≤ 900 → extAll us k ≤ 1000 →
    ∃ rs got, Draw k c js n us rs got ∧ Set1 us b k 0 rs ∧ 0 ≤ got ∧ got ≤ n
  | [], n, us, hn, hc, hj, hs, hks, hz, he => ⟨us, 0, .nil n us, ⟨rfl, rfl, by omega, by omega, rfl, hs, hks, rfl⟩, Int.le_refl _, hn⟩
  | j :: js, n, us, hn, hc, hj, hs, hks, hz, he => by
    obtain ⟨hjl, hjc⟩ := hj j List.mem_cons_self
    obtain ⟨t, ht⟩ : ∃ t, us[j]? = some t := ⟨_, List.getElem?_eq_getElem hjl⟩
    have hsd := soundAll_at us b k j t ht hs
    simp only [Bool.and_eq_true, decide_eq_true_eq] at hsd
    have hkt := kindsAll_at us j t ht hks
    have hst := sizes_at us j t ht
    have hex := ext_at us b k j t ht hs
    have hrm := room_bound t k hsd.1
    have hrl := room_le t k hk hkt hsd.1
    have hsid := sides_ext t.box k (t.sound_sides hsd.1)
    obtain ⟨d, hd⟩ : ∃ d, d = min n (t.room k) := ⟨_, rfl⟩
    obtain ⟨t', h1, g1⟩ := can_str t k (-d) hk hsd.1 hkt (by omega) (by omega) (by omega)
    have hset := set_one t t' b k (-d) hk g1 us j ht hs hks
    have hcl : c < (us.set j t').length := by rw [List.length_set]; exact hc
    obtain ⟨s, hsc⟩ : ∃ s, (us.set j t')[c]? = some s := ⟨_, List.getElem?_eq_getElem hcl⟩
    have hsd2 := soundAll_at _ b k c s hsc hset.sound
    simp only [Bool.and_eq_true, decide_eq_true_eq] at hsd2
    have hks2 := kindsAll_at _ c s hsc hset.kinds
    have hst2 := sizes_at _ c s hsc
    have hex2 := ext_at _ b k c s hsc hset.sound
    have hrm2 := room_bound s k hsd2.1
    rw [hset.sizes] at hst2
    rw [hset.ext] at hex2
    obtain ⟨s', h2, g2⟩ := can_str s k d hk hsd2.1 hks2 (by omega) (by omega) (by omega)
    have hset2 := set_one s s' b k d hk g2 (us.set j t') c hsc hset.sound hset.kinds
    have h12 : Set1 us b k 0 ((us.set j t').set c s') := by
      have := hset.trans hset2
      rwa [show -d + d = 0 by omega] at this
    obtain ⟨rs, got, h3, h4, h5, h6⟩ := draw_can b k hk c js (n - d) ((us.set j t').set c s') (by omega) (by rw [h12.len]; exact hc) (fun i hi => by rw [h12.len]; exact hj i (List.mem_cons_of_mem _ hi)) h12.sound h12.kinds (by rw [h12.sizes]; exact hz) (by rw [h12.ext]; omega)
    refine ⟨rs, d + got, .cons j js n d us rs t t' s s' got ht hsd.1 hkt (by omega) hd (by omega) (by omega) g1.size h1 hsc g2.size h2 h3, ?_, by omega, by omega⟩
    have := h12.trans h4
    rwa [Int.zero_add] at this

end Go.Proofs.Ytnepemlagnnngaa

namespace Go.Proofs.Ytnepemlagnnngaa
open Go.RowKit
set_option linter.unusedVariables false
set_option maxRecDepth 20000

theorem mid_eq {α : Type} {ts : List α} {i : Nat} {t : α} (hi : ts[i]? = some t) : ts = ts.take i ++ (t :: ts.drop (i + 1)) := by
  have hlt := (List.getElem?_eq_some_iff.1 hi).1
  have h1 : ts.drop i = ts[i] :: ts.drop (i + 1) := List.drop_eq_getElem_cons hlt
  have h2 : ts[i] = t := (List.getElem?_eq_some_iff.1 hi).2
  rw [h2] at h1
  rw [← h1, List.take_append_drop]
/-! Lists of parts in memory, cut in two. -/
theorem partsAt.append {W : World} {B : Nat} : ∀ {ts : List Tree} {vs : List Value} {fp : List Nat} {us : List Tree} {ws : List Value} {gp : List Nat}, partsAt W B ts vs fp → partsAt W B us ws gp → partsAt W B (ts ++ us) (vs ++ ws) (fp ++ gp)
  | [], vs, fp, us, ws, gp, h, h2 => by
    obtain ⟨rfl, rfl⟩ := h
    exact h2
  | t :: ts, vs, fp, us, ws, gp, h, h2 => by
    obtain ⟨v, vs', f, f', rfl, h3, h4, rfl⟩ := h
    exact ⟨v, vs' ++ ws, f, f' ++ gp, by simp, h3, partsAt.append h4 h2, by simp⟩
theorem partsAt.parted {W : World} {B : Nat} : ∀ {ts us : List Tree} {vs : List Value} {fp : List Nat}, partsAt W B (ts ++ us) vs fp → ∃ v1 v2 f1 f2, vs = v1 ++ v2 ∧ fp = f1 ++ f2 ∧ partsAt W B ts v1 f1 ∧ partsAt W B us v2 f2
  | [], us, vs, fp, h => ⟨[], vs, [], fp, rfl, rfl, ⟨rfl, rfl⟩, h⟩
  | t :: ts, us, vs, fp, h => by
    obtain ⟨v, vs', f, f', rfl, h2, h3, rfl⟩ := h
    obtain ⟨v1, v2, f1, f2, rfl, rfl, h4, h5⟩ := partsAt.parted h3
    exact ⟨v :: v1, v2, f ++ f1, f2, rfl, by simp, ⟨v, v1, f, f1, rfl, h2, h4, rfl⟩, h5⟩
/-- One part, with what stands ahead of it and behind it. -/
theorem partsAt.mid {W : World} {B : Nat} {ts : List Tree} {vs : List Value} {fp : List Nat} (h : partsAt W B ts vs fp) (i : Nat) (t : Tree) (hi : ts[i]? = some t) :
    ∃ v f f1 f2, vs[i]? = some v ∧ t.At W B v f ∧ partsAt W B (ts.take i) (vs.take i) f1 ∧ partsAt W B (ts.drop (i + 1)) (vs.drop (i + 1)) f2 ∧ fp = f1 ++ (f ++ f2) ∧ vs = vs.take i ++ (v :: vs.drop (i + 1)) := by
  have hlt := (List.getElem?_eq_some_iff.1 hi).1
  have e := mid_eq hi
  rw [e] at h
  obtain ⟨v1, v2, f1, f2, rfl, rfl, h1, h2⟩ := h.parted
  obtain ⟨v, vs', f, f', rfl, h3, h4, rfl⟩ := h2
  have hl : v1.length = i := by rw [h1.length, List.length_take]; omega
  have ht : (v1 ++ v :: vs').take i = v1 := by rw [← hl, List.take_left]
  have hd : (v1 ++ v :: vs').drop (i + 1) = vs' := by
    rw [show v1 ++ v :: vs' = (v1 ++ [v]) ++ vs' by simp, show i + 1 = (v1 ++ [v]).length by simp [hl], List.drop_left]
  refine ⟨v, f, f1, f', ?_, h3, ?_, ?_, rfl, ?_⟩
  · rw [List.getElem?_append_right (by omega), hl, Nat.sub_self]; rfl
  · rw [ht]; exact h1
  · rw [hd]; exact h4
  · rw [ht, hd]

/-! What stands where a way leads to, with the blocks of the rest. -/
theorem Reach.split {W : World} : ∀ (qs : List Nat) (i : Nat) {v v' : Value} {st : List (Nat × Nat)}, Reach W v (qs ++ [i]) v' st → ∃ g st', Reach W v qs (splitI g) st' ∧ st = (g, i) :: st' ∧ Reach W (splitI g) [i] v' [(g, i)]
  | [], i, v, v', st, h => by
    have h0 := h
    obtain ⟨g, pg, n, cap, vi, st', rfl, h1, h2, h3, h4, rfl⟩ := h
    obtain ⟨rfl, rfl⟩ := h4
    exact ⟨g, [], ⟨rfl, rfl⟩, rfl, h0⟩
  | j :: qs, i, v, v', st, h => by
    obtain ⟨g, pg, n, cap, vi, st', rfl, h1, h2, h3, h4, rfl⟩ := h
    obtain ⟨g1, st1, h5, rfl, h6⟩ := Reach.split qs i h4
    exact ⟨g1, st1 ++ [(g, j)], ⟨g, pg, n, cap, vi, st1, rfl, h1, h2, h3, h5, rfl⟩, rfl, h6⟩

theorem row_get {W : World} {B pg n cap : Nat} {vs : List Value} (h : W.ownsRow B 56 1 (.slice (some ⟨pg, 0, none⟩) n cap) vs.length vs) : vs.length = n ∧ ∀ (i : Nat) v, i < n → W.cell? ⟨pg, i, none⟩ = some v → vs[i]? = some v := by
  have hvn : vs.length = n := by
    rcases h.2 with ⟨e, _⟩ | ⟨g0, cap0, cur, e, _⟩
    · cases e
    · injection e with _ e2 _
      exact e2.symm
  refine ⟨hvn, fun i v hi hc => ?_⟩
  have hr := h
  rw [hvn] at hr
  have := World.ownsRow.cellAt hr i (by omega)
  rw [hc] at this
  exact this.symm

/-- What stands where a way leads to; when another stands there, the tree is that; the rest's blocks are as they were. -/
structure SubAt (W : World) (B : Nat) (t : Tree) (v : Value) (fp : List Nat) (qs : List Nat) (s : Tree) (v' : Value) (f' R : List Nat) : Prop where
  sub : t.subAt qs = some s
  here : s.At W B v' f'
  perm : fp.Perm (f' ++ R)
  put : ∀ W' s' f'', s'.At W' B v' f'' → (∀ q ∈ R, W'.heap[q]? = W.heap[q]?) → ∃ fp', (t.putAt qs s').At W' B v fp' ∧ fp'.Perm (f'' ++ R)
theorem Tree.At.reach {W : World} {B : Nat} : ∀ (qs : List Nat) {t : Tree} {v v' : Value} {fp : List Nat} {st : List (Nat × Nat)}, t.At W B v fp → Reach W v qs v' st → ∃ s f' R, SubAt W B t v fp qs s v' f' R
  | [], t, v, v', fp, st, h, hr => by
    obtain ⟨rfl, _⟩ := hr
    exact ⟨t, fp, [], by simp [Tree.subAt], h, by simp, fun W' s' f'' h' _ => ⟨f'', by simpa [Tree.putAt] using h', by simp⟩⟩
  | i :: qs, .leaf b p, v, v', fp, st, h, hr => by
    obtain ⟨g, pg, n, cap, vi, st', rfl, _⟩ := hr
    obtain ⟨g', e, _⟩ := h
    cases e
  | i :: qs, .split b k ts, v, v', fp, st, h, hr => by
    obtain ⟨g, pg, n, cap, vi, st', rfl, h1, h2, h3, h4, rfl⟩ := hr
    obtain ⟨g', sl, vs, fs, e, k2, k3, k4, rfl⟩ := h
    cases e
    have hsl : sl = .slice (some ⟨pg, 0, none⟩) n cap := by
      have := cell_atL k2 5
      rw [h1] at this
      exact (Option.some.inj this).symm
    subst hsl
    obtain ⟨hvn, hvg⟩ := row_get k3
    have hvl := k4.length
    obtain ⟨u, hu⟩ : ∃ u, ts[i]? = some u := ⟨_, List.getElem?_eq_getElem (by omega)⟩
    obtain ⟨v1, f1, fa, fc, e1, e2, e3, e4, e5, e6⟩ := k4.mid i u hu
    have hvi : vi = v1 := by
      have := hvg i vi h2 h3
      rw [e1] at this
      exact (Option.some.inj this).symm
    subst hvi
    obtain ⟨s, f', R, hS⟩ := Tree.At.reach qs e2 h4
    refine ⟨s, f', g :: ((Value.slice (some ⟨pg, 0, none⟩) n cap).ownBlock.toList ++ (fa ++ (R ++ fc))), ?_, hS.here, ?_, fun W' s' f'' hs' hk => ?_⟩
    · simp only [Tree.subAt, hu]
      exact hS.sub
    · rw [e5]
      have := hS.perm
      refine List.perm_iff_count.2 fun q => ?_
      have hc := List.perm_iff_count.1 this q
      simp only [List.count_cons, List.count_append] at hc ⊢
      omega
    · have hput : (Tree.split b k ts).putAt (i :: qs) s' = .split b k (ts.set i (u.putAt qs s')) := by simp [Tree.putAt, hu]
      rw [hput]
      obtain ⟨f1', a1, a2⟩ := hS.put W' s' f'' hs' (fun q hq => hk q (by simp [hq]))
      refine ⟨g :: ((Value.slice (some ⟨pg, 0, none⟩) n cap).ownBlock.toList ++ (fa ++ (f1' ++ fc))), ⟨g, _, vs, fa ++ (f1' ++ fc), rfl, (hk g (by simp)).trans k2, own_kept k3 fun q hq => hk q (by simp only [List.mem_cons, List.mem_append]; exact .inr (.inl hq)), ?_, rfl⟩, ?_⟩
      · have hs : ts.set i (u.putAt qs s') = ts.take i ++ (u.putAt qs s' :: ts.drop (i + 1)) := by
          rw [List.set_eq_take_append_cons_drop, if_pos (List.getElem?_eq_some_iff.1 hu).1]
        rw [hs, e6]
        refine (e3.keep fun q hq => hk q (by simp [hq])).append ⟨vi, _, f1', fc, rfl, a1, e4.keep fun q hq => hk q (by simp [hq]), rfl⟩
      · refine List.perm_iff_count.2 fun q => ?_
        have hc := List.perm_iff_count.1 a2 q
        simp only [List.count_cons, List.count_append] at hc ⊢
        omega
theorem SubAt.nd {W : World} {B : Nat} {t : Tree} {v : Value} {fp : List Nat} {qs : List Nat} {s : Tree} {v' : Value} {f' R : List Nat} (h : SubAt W B t v fp qs s v' f' R) (hn : fp.Nodup) : f'.Nodup ∧ R.Nodup ∧ (∀ q ∈ f', q ∉ R) ∧ (∀ q ∈ f', q ∈ fp) ∧ (∀ q ∈ R, q ∈ fp) := by
  have h1 := h.perm.nodup_iff.1 hn
  obtain ⟨a, b, c⟩ := List.nodup_append.1 h1
  exact ⟨a, b, fun q hq hr => c q hq q hr rfl, fun q hq => h.perm.mem_iff.2 (List.mem_append_left _ hq), fun q hq => h.perm.mem_iff.2 (List.mem_append_right _ hq)⟩

/-! A part's place taken by another of the same extents: the tree is sound. -/
structure Fits (s s' : Tree) : Prop where
  sound : s.sound = true → s'.sound = true
  box : s'.box.w = s.box.w ∧ s'.box.h = s.box.h
  kind : ∀ q, s'.kindIs q = s.kindIs q
  kinds : s.kinds → s'.kinds
theorem Box.ext_of {b b' : Box} (h : b'.w = b.w ∧ b'.h = b.h) (k : Int) : b'.ext k = b.ext k := by
  unfold Box.ext
  rw [h.1, h.2]
theorem fits_sound (b : Box) (k : Int) (u u' : Tree) (h : Fits u u') : ∀ (ts : List Tree) (i : Nat), ts[i]? = some u → soundAll ts b k = true → soundAll (ts.set i u') b k = true ∧ extAll (ts.set i u') k = extAll ts k
  | [], i, hi, _ => by simp at hi
  | a :: ts, 0, hi, hs => by
    simp at hi
    subst hi
    unfold soundAll at hs
    simp only [Bool.and_eq_true, decide_eq_true_eq] at hs
    refine ⟨?_, ?_⟩
    · show soundAll (u' :: ts) b k = true
      unfold soundAll
      simp only [Bool.and_eq_true, decide_eq_true_eq]
      exact ⟨⟨h.sound hs.1.1, by rw [h.kind]; exact hs.1.2.1, by rw [Box.ext_of h.box]; exact hs.1.2.2⟩, hs.2⟩
    · show u'.box.ext k + 1 + extAll ts k = a.box.ext k + 1 + extAll ts k
      rw [Box.ext_of h.box]
  | a :: ts, i + 1, hi, hs => by
    unfold soundAll at hs
    simp only [Bool.and_eq_true, decide_eq_true_eq] at hs
    obtain ⟨h1, h2⟩ := fits_sound b k u u' h ts i (by simpa using hi) hs.2
    refine ⟨?_, ?_⟩
    · show soundAll (a :: ts.set i u') b k = true
      unfold soundAll
      simp only [Bool.and_eq_true, decide_eq_true_eq]
      exact ⟨hs.1, h1⟩
    · show a.box.ext k + 1 + extAll (ts.set i u') k = a.box.ext k + 1 + extAll ts k
      rw [h2]
theorem kinds_set (u' : Tree) (hk : u'.kinds) : ∀ (ts : List Tree) (i : Nat), kindsAll ts → kindsAll (ts.set i u')
  | [], i, h => by simpa using h
  | a :: ts, 0, h => ⟨hk, h.2⟩
  | a :: ts, i + 1, h => ⟨h.1, kinds_set u' hk ts i h.2⟩
theorem sizes_set (u u' : Tree) : ∀ (ts : List Tree) (i : Nat), ts[i]? = some u → sizes (ts.set i u') + u.size = sizes ts + u'.size
  | [], i, h => by simp at h
  | a :: ts, 0, h => by
    simp at h
    subst h
    show u'.size + sizes ts + a.size = a.size + sizes ts + u'.size
    omega
  | a :: ts, i + 1, h => by
    have := sizes_set u u' ts i (by simpa using h)
    show a.size + sizes (ts.set i u') + u.size = a.size + sizes ts + u'.size
    omega
theorem put_fits : ∀ (qs : List Nat) (t s s' : Tree), t.subAt qs = some s → Fits s s' → Fits t (t.putAt qs s')
  | [], t, s, s', h, hs => by
    have : t = s := by simpa [Tree.subAt] using h
    subst this
    simpa [Tree.putAt] using hs
  | i :: qs, .leaf b p, s, s', h, hs => by simp [Tree.subAt] at h
  | i :: qs, .split b k ts, s, s', h, hs => by
    cases hi : ts[i]? with
    | none => simp [Tree.subAt, hi] at h
    | some u =>
      have h' : u.subAt qs = some s := by simpa [Tree.subAt, hi] using h
      have hput : (Tree.split b k ts).putAt (i :: qs) s' = .split b k (ts.set i (u.putAt qs s')) := by simp [Tree.putAt, hi]
      rw [hput]
      have ih := put_fits qs u s s' h' hs
      refine ⟨fun hsd => ?_, ⟨rfl, rfl⟩, fun q => rfl, fun hk => ⟨hk.1, kinds_set _ (ih.kinds (kindsAll_at ts i u hi hk.2)) ts i hk.2⟩⟩
      unfold Tree.sound at hsd ⊢
      simp only [Bool.and_eq_true, decide_eq_true_eq] at hsd ⊢
      obtain ⟨h1, h2⟩ := fits_sound b k u _ ih ts i hi hsd.2.1
      exact ⟨⟨by rw [List.length_set]; exact hsd.1.1, hsd.1.2⟩, h1, by rw [h2]; exact hsd.2.2⟩
theorem put_size : ∀ (qs : List Nat) (t s s' : Tree), t.subAt qs = some s → (t.putAt qs s').size + s.size = t.size + s'.size
  | [], t, s, s', h => by
    have : t = s := by simpa [Tree.subAt] using h
    subst this
    show s'.size + t.size = t.size + s'.size
    omega
  | i :: qs, .leaf b p, s, s', h => by simp [Tree.subAt] at h
  | i :: qs, .split b k ts, s, s', h => by
    cases hi : ts[i]? with
    | none => simp [Tree.subAt, hi] at h
    | some u =>
      have h' : u.subAt qs = some s := by simpa [Tree.subAt, hi] using h
      have hput : (Tree.split b k ts).putAt (i :: qs) s' = .split b k (ts.set i (u.putAt qs s')) := by simp [Tree.putAt, hi]
      rw [hput]
      have ih := put_size qs u s s' h'
      have h2 := sizes_set u (u.putAt qs s') ts i hi
      show 1 + sizes (ts.set i (u.putAt qs s')) + s.size = 1 + sizes ts + s'.size
      omega

/-- A part's place is taken by another; one of its new parent's kind gives its children. -/
def spliceT (k : Int) (ts : List Tree) (i : Nat) (s : Tree) : List Tree := ts.take i ++ (flatT k s ++ ts.drop (i + 1))
theorem splice_no {k : Int} {ts : List Tree} {i : Nat} {s : Tree} (hs : s.kindIs k = false) (hi : i < ts.length) : spliceT k ts i s = ts.set i s := by
  unfold spliceT
  rw [flatT_no hs, List.set_eq_take_append_cons_drop, if_pos hi]
  rfl
theorem soundAll_append (b : Box) (k : Int) : ∀ (ts us : List Tree), soundAll (ts ++ us) b k = (soundAll ts b k && soundAll us b k)
  | [], us => by simp [soundAll]
  | t :: ts, us => by
    show (_ && soundAll (ts ++ us) b k) = _
    rw [soundAll_append b k ts us]
    show _ = ((_ && soundAll ts b k) && soundAll us b k)
    simp only [Bool.and_assoc]
theorem extAll_append (k : Int) : ∀ (ts us : List Tree), extAll (ts ++ us) k = extAll ts k + 1 + extAll us k
  | [], us => by
    show extAll us k = -1 + 1 + extAll us k
    omega
  | t :: ts, us => by
    show t.box.ext k + 1 + extAll (ts ++ us) k = t.box.ext k + 1 + extAll ts k + 1 + extAll us k
    rw [extAll_append k ts us]
    omega
theorem kindsAll_append : ∀ (ts us : List Tree), kindsAll (ts ++ us) ↔ kindsAll ts ∧ kindsAll us
  | [], us => by simp [kindsAll]
  | t :: ts, us => by
    show (t.kinds ∧ kindsAll (ts ++ us)) ↔ (t.kinds ∧ kindsAll ts) ∧ kindsAll us
    rw [kindsAll_append ts us, and_assoc]
theorem sizes_append : ∀ (ts us : List Tree), sizes (ts ++ us) = sizes ts + sizes us
  | [], us => by
    show sizes us = 0 + sizes us
    omega
  | t :: ts, us => by
    show t.size + sizes (ts ++ us) = t.size + sizes ts + sizes us
    rw [sizes_append ts us]
    omega
theorem idls_append : ∀ (ts us : List Tree), idls (ts ++ us) = idls ts ++ idls us
  | [], us => rfl
  | t :: ts, us => by
    show t.idl ++ idls (ts ++ us) = (t.idl ++ idls ts) ++ idls us
    rw [idls_append ts us, List.append_assoc]
theorem flat_idls (k : Int) (t : Tree) : idls (flatT k t) = t.idl := by
  cases t with
  | leaf b p => simp [flatT, idls, Tree.idl]
  | split b k' ts =>
    show idls (if k' = k then ts else [.split b k' ts]) = idls ts
    split
    · rfl
    · simp [idls, Tree.idl]
theorem splice_fits (b : Box) (k : Int) (ts : List Tree) (i : Nat) (u s : Tree) (hi : ts[i]? = some u) (hss : s.sound = true) (hsk : s.kinds) (hb : s.box.w = u.box.w ∧ s.box.h = u.box.h) (hkk : k = 2 ∨ k = 3) (hsd : (Tree.split b k ts).sound = true) : Fits (.split b k ts) (.split b k (spliceT k ts i s)) ∧ (Tree.split b k (spliceT k ts i s)).size + u.size ≤ (Tree.split b k ts).size + s.size := by
  have hs0 := hsd
  unfold Tree.sound at hsd
  simp only [Bool.and_eq_true, decide_eq_true_eq] at hsd
  have he := mid_eq hi
  have h1 := hsd.2.1
  rw [he, soundAll_append] at h1
  have h2 := hsd.2.2
  rw [he, extAll_append] at h2
  simp only [Bool.and_eq_true] at h1
  obtain ⟨h3, h4⟩ := h1
  unfold soundAll at h4
  simp only [Bool.and_eq_true, decide_eq_true_eq] at h4
  have hf := flat_ok s k hkk hss hsk b (by rw [Box.ext_of hb]; exact h4.1.2.2.symm)
  change extAll (ts.take i) k + 1 + (u.box.ext k + 1 + extAll (ts.drop (i + 1)) k) = b.ext k at h2
  have hlen : 2 ≤ (spliceT k ts i s).length := by
    have h5 := hsd.1.1
    have h6 := (List.getElem?_eq_some_iff.1 hi).1
    unfold spliceT
    have := hf.ne
    rw [List.length_append, List.length_append, List.length_take, List.length_drop]
    omega
  refine ⟨⟨fun _ => ?_, ⟨rfl, rfl⟩, fun q => rfl, fun hk => ⟨hk.1, ?_⟩⟩, ?_⟩
  · unfold Tree.sound
    simp only [Bool.and_eq_true, decide_eq_true_eq]
    refine ⟨⟨hlen, hsd.1.2⟩, ?_, ?_⟩
    · unfold spliceT
      rw [soundAll_append, soundAll_append, h3, hf.sound, h4.2]
      rfl
    · unfold spliceT
      rw [extAll_append, extAll_append, hf.ext, Box.ext_of hb]
      omega
  · have h5 := hk.2
    rw [he, kindsAll_append] at h5
    unfold spliceT
    rw [kindsAll_append, kindsAll_append]
    exact ⟨h5.1, hf.kinds, h5.2.2⟩
  · show 1 + sizes (spliceT k ts i s) + u.size ≤ 1 + sizes ts + s.size
    have h5 : sizes ts = sizes (ts.take i) + (u.size + sizes (ts.drop (i + 1))) := by
      conv => lhs; rw [he]
      rw [sizes_append]
      rfl
    unfold spliceT
    rw [sizes_append, sizes_append]
    have := hf.size
    omega

end Go.Proofs.Ytnepemlagnnngaa

namespace Go.Proofs.Ytnepemlagnnngaa
open Go.RowKit
set_option linter.unusedVariables false
set_option maxRecDepth 20000

/-- A row or column; what is left alone stands for itself. -/
def shutT (b : Box) (k : Int) : List Tree → Tree
  | [u] => u
  | us => .split b k us
theorem shut_many {b : Box} {k : Int} {us : List Tree} (h : 2 ≤ us.length) : shutT b k us = .split b k us := by
  match us, h with
  | a :: c :: r, _ => rfl

/-- A split's parts when part a, a pane, goes: the part ahead of it (the one behind, if it is the first) gets its lines. -/
structure Gone (k : Int) (ts : List Tree) (a : Nat) (bl : Box) (q : Int) (x u : Tree) (us : List Tree) : Prop where
  leaf : ts[a]? = some (.leaf bl q)
  near : (ts.eraseIdx a)[a - 1]? = some x
  str : Str x k (bl.ext k + 1) u
  grew : Grew x k (bl.ext k + 1) u
  list : us = (ts.eraseIdx a).set (a - 1) u

/-- What the other parts are. -/
structure Rest (b : Box) (k : Int) (ts : List Tree) (a : Nat) (bl : Box) : Prop where
  sound : soundAll (ts.eraseIdx a) b k = true
  kinds : kindsAll (ts.eraseIdx a)
  ext : extAll (ts.eraseIdx a) k + (bl.ext k + 1) = b.ext k
  size : sizes (ts.eraseIdx a) + 1 = sizes ts
  len : (ts.eraseIdx a).length + 1 = ts.length
theorem rest_of {b : Box} {k : Int} {ts : List Tree} {a : Nat} {bl : Box} {q : Int} (hs : (Tree.split b k ts).sound = true) (hk : (Tree.split b k ts).kinds) (hl : ts[a]? = some (.leaf bl q)) : Rest b k ts a bl := by
  have he := mid_eq hl
  have hlt := (List.getElem?_eq_some_iff.1 hl).1
  have hx := List.eraseIdx_eq_take_drop_succ ts a
  unfold Tree.sound at hs
  simp only [Bool.and_eq_true, decide_eq_true_eq] at hs
  have h1 := hs.2.1
  have h2 := hs.2.2
  have h3 := hk.2
  rw [he, soundAll_append] at h1
  rw [he, extAll_append] at h2
  rw [he, kindsAll_append] at h3
  simp only [Bool.and_eq_true] at h1
  obtain ⟨h4, h5⟩ := h1
  unfold soundAll at h5
  simp only [Bool.and_eq_true, decide_eq_true_eq] at h5
  change extAll (ts.take a) k + 1 + (bl.ext k + 1 + extAll (ts.drop (a + 1)) k) = b.ext k at h2
  refine ⟨?_, ?_, ?_, ?_, ?_⟩
  · rw [hx, soundAll_append, h4, h5.2]
    rfl
  · rw [hx, kindsAll_append]
    exact ⟨h3.1, h3.2.2⟩
  · rw [hx, extAll_append]
    omega
  · have h6 : sizes ts = sizes (ts.take a) + (1 + sizes (ts.drop (a + 1))) := by
      conv => lhs; rw [he]
      rw [sizes_append]
      rfl
    rw [hx, sizes_append]
    omega
  · rw [List.length_eraseIdx_of_lt hlt]
    omega
theorem gone_can {b : Box} {k : Int} {ts : List Tree} {a : Nat} {bl : Box} {q : Int} (hs : (Tree.split b k ts).sound = true) (hk : (Tree.split b k ts).kinds) (hz : (Tree.split b k ts).size ≤ 900) (hl : ts[a]? = some (.leaf bl q)) : ∃ x u us, Gone k ts a bl q x u us := by
  have R := rest_of hs hk hl
  have hlt := (List.getElem?_eq_some_iff.1 hl).1
  have hsd := (Tree.split b k ts).sound_sides hs
  change (1 ≤ b.w ∧ b.w ≤ 1000) ∧ (1 ≤ b.h ∧ b.h ≤ 1000) at hsd
  have hb := sides_ext b k hsd
  have h2 : 2 ≤ ts.length := by
    unfold Tree.sound at hs
    simp only [Bool.and_eq_true, decide_eq_true_eq] at hs
    exact hs.1.1
  change 1 + sizes ts ≤ 900 at hz
  have hr := R.len
  obtain ⟨x, hx⟩ : ∃ x, (ts.eraseIdx a)[a - 1]? = some x := ⟨_, List.getElem?_eq_getElem (by omega)⟩
  have hxs := soundAll_at _ b k (a - 1) x hx R.sound
  simp only [Bool.and_eq_true, decide_eq_true_eq] at hxs
  have hxe := ext_at _ b k (a - 1) x hx R.sound
  have hxz := sizes_at _ (a - 1) x hx
  have hsz := R.size
  have hrm := room_bound x k hxs.1
  have hls : (Tree.leaf bl q).sound = true := by
    have := soundAll_at ts b k a _ hl (by unfold Tree.sound at hs; simp only [Bool.and_eq_true] at hs; exact hs.2.1)
    simp only [Bool.and_eq_true] at this
    exact this.1
  have hbl := sides_ext bl k ((Tree.leaf bl q).sound_sides hls)
  have hex := R.ext
  obtain ⟨u, h3, h4⟩ := can_str x k (bl.ext k + 1) hk.1 hxs.1 (kindsAll_at _ (a - 1) x hx R.kinds) (by omega) (by omega) (by omega)
  exact ⟨x, u, _, hl, hx, h3, h4, rfl⟩
/-- What comes of it. -/
structure GoneOk (b : Box) (k : Int) (ts : List Tree) (u : Tree) (us : List Tree) : Prop where
  sound : soundAll us b k = true
  kinds : kindsAll us
  ext : extAll us k = b.ext k
  size : sizes us + 1 = sizes ts
  len : us.length + 1 = ts.length
  in_ : u ∈ us
theorem gone_ok {b : Box} {k : Int} {ts : List Tree} {a : Nat} {bl : Box} {q : Int} {x u : Tree} {us : List Tree} (hs : (Tree.split b k ts).sound = true) (hk : (Tree.split b k ts).kinds) (h : Gone k ts a bl q x u us) : GoneOk b k ts u us := by
  have R := rest_of hs hk h.leaf
  have S := set_one x u b k _ hk.1 h.grew _ (a - 1) h.near R.sound R.kinds
  have hlt := (List.getElem?_eq_some_iff.1 h.near).1
  rw [h.list]
  refine ⟨S.sound, S.kinds, ?_, ?_, ?_, ?_⟩
  · rw [S.ext]
    exact R.ext
  · rw [S.sizes]
    exact R.size
  · rw [S.len]
    exact R.len
  · exact List.mem_iff_getElem?.2 ⟨a - 1, by rw [List.getElem?_set]; simp [hlt]⟩
theorem gone_fits {b : Box} {k : Int} {ts : List Tree} {u : Tree} {us : List Tree} (h : GoneOk b k ts u us) (h2 : 2 ≤ us.length) : Fits (.split b k ts) (.split b k us) ∧ (Tree.split b k us).size ≤ (Tree.split b k ts).size := by
  refine ⟨⟨fun hs => ?_, ⟨rfl, rfl⟩, fun q => rfl, fun hk => ⟨hk.1, h.kinds⟩⟩, ?_⟩
  · unfold Tree.sound at hs ⊢
    simp only [Bool.and_eq_true, decide_eq_true_eq] at hs ⊢
    exact ⟨⟨h2, hs.1.2⟩, h.sound, h.ext⟩
  · show 1 + sizes us ≤ 1 + sizes ts
    have := h.size
    omega
theorem gone_one {b : Box} {k : Int} {ts : List Tree} {u : Tree} (hk : k = 2 ∨ k = 3) (h : GoneOk b k ts u [u]) : u.sound = true ∧ u.kinds ∧ (u.box.w = b.w ∧ u.box.h = b.h) ∧ u.size ≤ sizes ts := by
  have h1 := h.sound
  unfold soundAll at h1
  simp only [Bool.and_eq_true, decide_eq_true_eq] at h1
  have h2 := h.ext
  change u.box.ext k + 1 + -1 = b.ext k at h2
  have h3 := h1.1.2.2
  have h4 := h.size
  change u.size + 0 + 1 = sizes ts at h4
  refine ⟨h1.1.1, h.kinds.1, ?_, by omega⟩
  rcases hk with rfl | rfl
  · change u.box.w + 1 + -1 = b.w at h2
    change u.box.h = b.h at h3
    exact ⟨by omega, h3⟩
  · change u.box.h + 1 + -1 = b.h at h2
    change u.box.w = b.w at h3
    exact ⟨h3, by omega⟩

/-- A pane is taken out: by where it stands. -/
inductive CloseT (q : Int) (t : Tree) : List Nat → Tree → Prop
  | many (qs : List Nat) (a : Nat) (b : Box) (k : Int) (ts : List Tree) (bl : Box) (x u : Tree) (us : List Tree) : t.subAt qs = some (.split b k ts) → Gone k ts a bl q x u us → 2 ≤ us.length → CloseT q t (qs ++ [a]) (t.putAt qs (.split b k us))
  | root (a : Nat) (b : Box) (k : Int) (ts : List Tree) (bl : Box) (x u : Tree) : t = .split b k ts → Gone k ts a bl q x u [u] → CloseT q t [a] u
  | up (rs : List Nat) (j a : Nat) (b2 : Box) (k2 : Int) (ts2 : List Tree) (b : Box) (k : Int) (ts : List Tree) (bl : Box) (x u : Tree) : t.subAt rs = some (.split b2 k2 ts2) → ts2[j]? = some (.split b k ts) → Gone k ts a bl q x u [u] → CloseT q t (rs ++ [j] ++ [a]) (t.putAt rs (.split b2 k2 (spliceT k2 ts2 j u)))

/-- The same, level by level. -/
inductive Shut (q : Int) : Tree → Tree → Prop
  | keep (t : Tree) : q ∉ t.idl → Shut q t t
  | here (b : Box) (k : Int) (ts : List Tree) (a : Nat) (bl : Box) (x u : Tree) (us : List Tree) : Gone k ts a bl q x u us → q ∉ idls us → Shut q (.split b k ts) (shutT b k us)
  | deep (b : Box) (k : Int) (ts : List Tree) (i : Nat) (s s' : Tree) : ts[i]? = some s → (∃ b' k' ts', s = .split b' k' ts') → Shut q s s' → (∀ (j : Nat) u, j ≠ i → ts[j]? = some u → q ∉ u.idl) → Shut q (.split b k ts) (.split b k (spliceT k ts i s'))

structure CloseOk (q : Int) (t : Tree) (ps : List Nat) (t' : Tree) : Prop where
  close : CloseT q t ps t'
  shut : Shut q t t'
  sound : t'.sound = true
  kinds : t'.kinds
  box : t'.box.w = t.box.w ∧ t'.box.h = t.box.h
  size : t'.size ≤ t.size

theorem idls_erase (q : Int) (ts : List Tree) (a : Nat) (bl : Box) (hl : ts[a]? = some (.leaf bl q)) (hn : (idls ts).Nodup) : q ∉ idls (ts.eraseIdx a) := by
  have he := mid_eq hl
  rw [he, idls_append] at hn
  change (idls (ts.take a) ++ ([q] ++ idls (ts.drop (a + 1)))).Nodup at hn
  rw [List.eraseIdx_eq_take_drop_succ, idls_append]
  obtain ⟨n1, n2, n3⟩ := List.nodup_append.1 hn
  obtain ⟨n4, n5⟩ := List.nodup_cons.1 n2
  intro h
  rcases List.mem_append.1 h with h | h
  · exact n3 q h q (by simp) rfl
  · exact n4 h
theorem gone_ids {b : Box} {k : Int} {ts : List Tree} {a : Nat} {bl : Box} {q : Int} {x u : Tree} {us : List Tree} (hs : (Tree.split b k ts).sound = true) (hk : (Tree.split b k ts).kinds) (h : Gone k ts a bl q x u us) : idls us = idls (ts.eraseIdx a) := by
  have R := rest_of hs hk h.leaf
  have S := set_one x u b k _ hk.1 h.grew _ (a - 1) h.near R.sound R.kinds
  rw [h.list]
  exact S.ids
theorem sub_cons {b : Box} {k : Int} {ts : List Tree} {i : Nat} {s r : Tree} {qs : List Nat} (hi : ts[i]? = some s) (h : s.subAt qs = some r) : (Tree.split b k ts).subAt (i :: qs) = some r := by simp only [Tree.subAt, hi]; exact h
theorem put_cons {b : Box} {k : Int} {ts : List Tree} {i : Nat} {s r : Tree} {qs : List Nat} (hi : ts[i]? = some s) : (Tree.split b k ts).putAt (i :: qs) r = .split b k (ts.set i (s.putAt qs r)) := by simp [Tree.putAt, hi]
theorem put_kind : ∀ (qs : List Nat) (t s s' : Tree), t.subAt qs = some s → (∀ q, s'.kindIs q = s.kindIs q) → ∀ q, (t.putAt qs s').kindIs q = t.kindIs q
  | [], t, s, s', h, hk, q => by
    have : t = s := by simpa [Tree.subAt] using h
    subst this
    exact hk q
  | i :: qs, .leaf b p, s, s', h, hk, q => by simp [Tree.subAt] at h
  | i :: qs, .split b k ts, s, s', h, hk, q => by
    cases hi : ts[i]? with
    | none => simp [Tree.subAt, hi] at h
    | some u => rw [put_cons hi]; rfl

theorem close_any (q : Int) : ∀ (ps : List Nat) (t : Tree), t.sound = true → t.kinds → t.size ≤ 900 → t.idl.Nodup → t.path q = some ps → ps ≠ [] → ∃ t', CloseOk q t ps t'
  | [], t, _, _, _, _, _, h => absurd rfl h
  | i :: ps, .leaf b p, hs, hk, hz, hn, hp, _ => by
    unfold Tree.path at hp
    split at hp <;> cases hp
  | i :: ps, .split b k ts, hs, hk, hz, hn, hp, _ => by
    unfold Tree.path at hp
    obtain ⟨i', s, ps', e, hi, hps⟩ := pathAll_inv q ts 0 _ hp
    rw [Nat.zero_add] at e
    cases e
    unfold Tree.idl at hn
    have hs0 := hs
    unfold Tree.sound at hs
    simp only [Bool.and_eq_true, decide_eq_true_eq] at hs
    have hqs : q ∈ s.idl := Classical.byContradiction fun h => by rw [(path_mem s q).2 h] at hps; cases hps
    have hoth : ∀ (j : Nat) u, j ≠ i → ts[j]? = some u → q ∉ u.idl := fun j u hj hu => idls_apart q ts hn i j s u hi hu (Ne.symm hj) hqs
    have hsd := soundAll_at ts b k i s hi hs.2.1
    simp only [Bool.and_eq_true, decide_eq_true_eq] at hsd
    have hks := kindsAll_at ts i s hi hk.2
    have hzs := sizes_at ts i s hi
    have hz' : 1 + sizes ts ≤ 900 := hz
    by_cases he : ps = []
    · subst he
      obtain ⟨bl, rfl⟩ : ∃ bl, s = .leaf bl q := by
        cases s with
        | leaf bl p =>
          unfold Tree.path at hps
          split at hps
          · rename_i e
            exact ⟨bl, by rw [e]⟩
          · cases hps
        | split b' k' ts' =>
          unfold Tree.path at hps
          obtain ⟨_, _, _, e, _⟩ := pathAll_inv q ts' 0 _ hps
          cases e
      obtain ⟨x, u, us, hG⟩ := gone_can hs0 hk hz hi
      have hO := gone_ok hs0 hk hG
      have hids : q ∉ idls us := by
        rw [gone_ids hs0 hk hG]
        exact idls_erase q ts i bl hi hn
      by_cases h2 : 2 ≤ us.length
      · obtain ⟨hf, hz2⟩ := gone_fits hO h2
        have hc := CloseT.many (q := q) (t := .split b k ts) [] i b k ts bl x u us rfl hG h2
        have hsh := Shut.here b k ts i bl x u us hG hids
        rw [shut_many h2] at hsh
        exact ⟨_, hc, hsh, hf.sound hs0, hf.kinds hk, ⟨rfl, rfl⟩, hz2⟩
      · have hlen := hO.len
        have hl1 := hs.1.1
        have hus : us = [u] := by
          have hin := hO.in_
          match us, h2, hin with
          | [], _, hin => cases hin
          | [c], _, hin =>
            have : u = c := by simpa using hin
            rw [this]
          | a :: c :: r, h2, _ => exact absurd (by simp) h2
        subst hus
        obtain ⟨g1, g2, g3, g4⟩ := gone_one hk.1 hO
        have hc := CloseT.root (q := q) (t := .split b k ts) i b k ts bl x u rfl hG
        have hsh : Shut q (.split b k ts) u := Shut.here b k ts i bl x u [u] hG hids
        refine ⟨u, hc, hsh, g1, g2, g3, ?_⟩
        show u.size ≤ 1 + sizes ts
        omega
    · obtain ⟨s', hS⟩ := close_any q ps s hsd.1 hks (by omega) (idls_nodup ts hn i s hi) hps he
      have hsp : ∃ b' k' ts', s = .split b' k' ts' := by
        cases s with
        | leaf bl p =>
          unfold Tree.path at hps
          split at hps
          · cases hps
            exact absurd rfl he
          · cases hps
        | split b' k' ts' => exact ⟨b', k', ts', rfl⟩
      obtain ⟨hf, hz2⟩ := splice_fits b k ts i s s' hi hS.sound hS.kinds hS.box hk.1 hs0
      have hsh : Shut q (.split b k ts) (.split b k (spliceT k ts i s')) := Shut.deep b k ts i s s' hi hsp hS.shut hoth
      refine ⟨.split b k (spliceT k ts i s'), ?_, hsh, hf.sound hs0, hf.kinds hk, ⟨rfl, rfl⟩, by have := hS.size; omega⟩
      have hlt := (List.getElem?_eq_some_iff.1 hi).1
      have hnk : s.kindIs k = false := by simpa using hsd.2.1
      cases hS.close with
      | many qs a b' k' ts' bl x u us h1 h2 h3 =>
        have hkd : (s.putAt qs (.split b' k' us)).kindIs k = false := by
          exact (put_kind qs s _ (.split b' k' us) h1 (fun q => rfl) k).trans hnk
        have := CloseT.many (q := q) (t := .split b k ts) (i :: qs) a b' k' ts' bl x u us (sub_cons hi h1) h2 h3
        rw [put_cons hi] at this
        rw [splice_no hkd hlt]
        exact this
      | root a b' k' ts' bl x _ h1 h2 => exact CloseT.up (q := q) (t := .split b k ts) [] i a b k ts b' k' ts' bl x s' rfl (by rw [hi, h1]) h2
      | up rs j a b2 k2 ts2 b' k' ts' bl x u h1 h2 h3 =>
        have hkd : (s.putAt rs (.split b2 k2 (spliceT k2 ts2 j u))).kindIs k = false := by
          exact (put_kind rs s _ (.split b2 k2 (spliceT k2 ts2 j u)) h1 (fun q => rfl) k).trans hnk
        have := CloseT.up (q := q) (t := .split b k ts) (i :: rs) j a b2 k2 ts2 b' k' ts' bl x u (sub_cons hi h1) h2 h3
        rw [put_cons hi] at this
        rw [splice_no hkd hlt]
        exact this

end Go.Proofs.Ytnepemlagnnngaa
