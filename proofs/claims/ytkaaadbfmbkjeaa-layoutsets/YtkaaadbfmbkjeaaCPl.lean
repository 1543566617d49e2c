/-
  Layouts: the document's pushed, deep in a part (mkpushl.py).
  Layouts: the document's pushed, where there is none (mkpushl.py).
-/
import Derived.Test.YtkaaadbfmbkjeaaCPi
namespace Go.Proofs.Ytkaaadbfmbkjeaa
open Go.RowKit
set_option linter.unusedVariables false
set_option maxRecDepth 100000

set_option maxHeartbeats 8000000 in
theorem pushed_deep (set : Bool) (n k q : Int) (b : Box) (k' : Int) (ts : List Tree) (i : Nat) (s s' : Tree) (mv : Int) (hi : ts[i]? = some s) (hpre : ∀ (a : Nat) u, a < i → ts[a]? = some u → q ∉ u.idl) (hq : q ∈ s.idl) (hs : (Tree.split b k' ts).sound = true) (hk : (Tree.split b k' ts).kinds) (hz : (Tree.split b k' ts).size ≤ 900) (IH : PuGood set n k q s s' mv true)  : PuGood set n k q (.split b k' ts) (.split b k' (ts.set i s')) mv true := by
  intro sl fp w hIn
  unfold Tree.sound at hs
  simp only [Bool.and_eq_true, decide_eq_true_eq] at hs
  change 1 + sizes ts ≤ 900 at hz
  have h2 := hs.1.1
  have hll := length_sizes ts
  have hIn0 := hIn
  change (Node.mk k' b.w b.h 0 (nodesOf ts)).In w sl fp at hIn
  obtain ⟨g, cap0, hsl, hg, hkd⟩ := hIn.kids (by intro e; have := congrArg List.length e; rw [nodesOf_length] at this; simp at this; rw [this] at h2; simp at h2)
  rw [nodesOf_length] at hsl
  obtain ⟨L, hL⟩ : ∃ L, ts.length = L := ⟨_, rfl⟩
  rw [hL] at hsl h2 hll
  subst hsl
  have hil : i < L := by rw [← hL]; exact (List.getElem?_eq_some_iff.1 hi).1
  have hL9 : L ≤ 900 := by omega
  have HFp : Hid (∀ q ∈ fp, q < w.heap.size) := hIn.lt
  obtain ⟨W, hW⟩ : ∃ W, (w.alloc (.cells #[.int .i64 k', .int .i64 b.w, .int .i64 b.h, .int .i64 0, .slice (some ⟨g, 0, none⟩) L cap0] 73)).alloc (.cells zeroN 73) = W := ⟨_, rfl⟩
  have hbW : Below w.heap.size w W := by rw [← hW]; exact ((Below.refl _ _).alloc (Nat.le_refl _) _).alloc (by simp) _
  have hWs : W.heap.size = w.heap.size + 2 := by rw [← hW]; simp
  have hP : W.heap[w.heap.size]? = some (.cells #[.int .i64 k', .int .i64 b.w, .int .i64 b.h, .int .i64 0, .slice (some ⟨g, 0, none⟩) L cap0] 73 (0, 0)) := by
    rw [← hW]
    exact (Below.heap_alloc _ _ _ (by simp)).trans (heap_alloc_new _ _)
  have hR : W.heap[w.heap.size + 1]? = some (.cells zeroN 73 (0, 0)) := by
    rw [← hW]
    have h := heap_alloc_new (w.alloc (.cells #[.int .i64 k', .int .i64 b.w, .int .i64 b.h, .int .i64 0, .slice (some ⟨g, 0, none⟩) L cap0] 73)) (.cells zeroN 73)
    rw [show (w.alloc (.cells #[.int .i64 k', .int .i64 b.w, .int .i64 b.h, .int .i64 0, .slice (some ⟨g, 0, none⟩) L cap0] 73)).heap.size = w.heap.size + 1 by simp] at h
    exact h
  have HPa : Hid (∀ X, Below W.heap.size W X → X.heap[w.heap.size]? = some (.cells #[.int .i64 k', .int .i64 b.w, .int .i64 b.h, .int .i64 0, .slice (some ⟨g, 0, none⟩) L cap0] 73 (0, 0))) := fun X hX => (hX.block _ (by omega)).trans hP
  have HRe : Hid (∀ X, Below W.heap.size W X → X.heap[w.heap.size + 1]? = some (.cells zeroN 73 (0, 0))) := fun X hX => (hX.block _ (by omega)).trans hR
  have HKid : Hid (∀ (j : Nat) t, ts[j]? = some t → ∃ sa sn sc f, (∀ q ∈ f, q ∈ fp) ∧ ∀ X, Below W.heap.size W X → (nodeOf t).In X (.slice sa sn sc) f ∧ KidIn X g (j * 5) (nodeOf t) (.slice sa sn sc)) := fun j t ht => node_kid (hIn.below hbW) hL j t ht
  have HIds : Hid (∀ (j : Nat) t, ts[j]? = some t → (nodeOf t).ids = t.idl ∧ t.idl.length ≤ 1000 ∧ t.idl ≠ [] ∧ (nodeOf t).cnt ≤ 1000) := fun j t ht => by
    have hsd := soundAll_at ts b k' j t ht hs.2.1
    simp only [Bool.and_eq_true, decide_eq_true_eq] at hsd
    have hkt := kindsAll_at ts j t ht hk.2
    have hst := sizes_at ts j t ht
    have h1 := ids_idl t hkt
    have h3 := ids_cnt (nodeOf t)
    rw [cnt_of] at h3
    exact ⟨h1, by rw [← h1]; omega, by rw [← h1]; exact idl_ne t hkt hsd.1, by rw [cnt_of]; omega⟩
  have HIn : Hid (∀ X, Below w.heap.size w X → (nodeOf (.split b k' ts)).In X (.slice (some ⟨g, 0, none⟩) L cap0) fp) := fun X hX => hIn0.below hX
  have HBW : Hid (Below w.heap.size w W) := hbW
  have HWs : Hid (W.heap.size = w.heap.size + 2) := hWs
  have HW : Hid ((w.alloc (.cells #[.int .i64 k', .int .i64 b.w, .int .i64 b.h, .int .i64 0, .slice (some ⟨g, 0, none⟩) L cap0] 73)).alloc (.cells zeroN 73) = W) := hW
  have HL : Hid (ts.length = L) := hL
  have HPre : Hid (∀ (a : Nat) u, a < i → ts[a]? = some u → q ∉ u.idl) := hpre
  have HQ : Hid (q ∈ s.idl) := hq
  have HI : Hid (ts[i]? = some s) := hi
  have HIH : Hid (PuGood set n k q s s' mv true) := IH
  unfold zeroN at HW
  show Calls Try.prog 52 #[.agg #[.int .i64 k', .int .i64 b.w, .int .i64 b.h, .int .i64 0, .slice (some ⟨g, 0, none⟩) L cap0], .int .i64 q, .int .i64 k, .int .i64 n, .bool set] w _
  clear hkd hIn hIn0 hbW hWs hP hR hW hs hk hz hll hL hpre hq hi IH 
  go_enter Try.func52, Try.ntmps52
  go_upto_region 1 with fail
  rw [HW.out]
  go_wp2
  go_loopw [3, 13] (fun u v wr => u = .int .i64 n ∧ ∃ j : Nat, j ≤ i ∧ v = .int .i64 j ∧ Hid (Below W.heap.size W wr)) (fun _ v _ => i - (intOf v).toNat)
  case atStart => exact ⟨rfl, 0, Nat.zero_le _, rfl, Below.refl _ _⟩
  case round =>
    obtain ⟨rfl, j, hj, rfl, HBr⟩ := hrel
    obtain ⟨t, ht⟩ : ∃ t, ts[j]? = some t := ⟨_, List.getElem?_eq_getElem (by rw [HL.out]; omega)⟩
    obtain ⟨sa, sn, sc, f, hf, hKX⟩ := HKid.out j t ht
    obtain ⟨e1, ⟨q0, q1, q2, q3, q4⟩⟩ := hKX wr HBr.out
    obtain ⟨i1, i2, i3, i4⟩ := HIds.out j t ht
    have hjL : j < L := by omega
    have HId : Hid (Calls Try.prog 34 #[.agg #[.int .i64 (nodeOf t).k, .int .i64 (nodeOf t).w, .int .i64 (nodeOf t).h, .int .i64 (nodeOf t).i, .slice sa sn sc]] wr fun e w' => ∃ u, e = .returned u ∧ Below W.heap.size W w' ∧ Calls Try.prog 35 #[u, .int .i64 q] w' fun e w'' => e = .returned (.bool (decide (q ∈ t.idl))) ∧ w' = w'') := by
      refine (ids_good (nodeOf t) i4 _ f wr e1).mono ?_
      rintro e w' ⟨u, rfl, h1, h2⟩
      rw [i1] at h1
      exact ⟨u, rfl, below_step HBr.out h2, has_any u t.idl _ q w' h1 i2 i3⟩
    have b4 : wr.cell? ⟨w.heap.size, 4, none⟩ = some (.slice (some ⟨g, 0, none⟩) L cap0) := cell_atL (HPa.out wr HBr.out) 4
    have HKX : Hid (∀ X, Below W.heap.size W X → (nodeOf t).In X (.slice sa sn sc) f ∧ KidIn X g (j * 5) (nodeOf t) (.slice sa sn sc)) := hKX
    have HT : Hid (ts[j]? = some t) := ht
    have Hf : Hid (∀ q ∈ f, q ∈ fp) := hf
    obtain ⟨nn, hnn⟩ : ∃ x, nodeOf t = x := ⟨_, rfl⟩
    have HNo : Hid (nodeOf t = nn) := hnn
    rw [hnn] at q0 q1 q2 q3 HId
    clear e1 i1 i2 i3 i4 ht hf hKX hnn
    by_cases hlt : j < i
    · have HD : Hid (decide (q ∈ t.idl) = false) := decide_eq_false (HPre.out j t hlt HT.out)
      rw [HD.out] at HId
      go_wp2_with fail
      refine HId.out.mono ?_
      rintro e w2 ⟨u, rfl, hb2, hh⟩
      have HH : Hid (Calls Try.prog 35 #[u, .int .i64 q] w2 fun e w'' => e = .returned (.bool false) ∧ w2 = w'') := hh
      have HB2 : Hid (Below W.heap.size W w2) := hb2
      clear hb2 hh HId q0 q1 q2 q3 q4 b4
      go_wp2_with fail
      refine HH.out.mono ?_
      rintro e w3 ⟨rfl, rfl⟩
      go_wp2
      go_roundw
      case rel => exact ⟨rfl, j + 1, by omega, by go_num, HB2⟩
      case measure => simp [intOf]; omega
    · have hji : j = i := by omega
      subst hji
      have hts : t = s := by
        have h1 := HT.out
        rw [HI.out] at h1
        exact (Option.some.inj h1).symm
      subst hts
      have HD : Hid (decide (q ∈ t.idl) = true) := decide_eq_true HQ.out
      rw [HD.out] at HId
      obtain ⟨nt, hnt⟩ : ∃ x, nodeOf s' = x := ⟨_, rfl⟩
      have HNt : Hid (nodeOf s' = nt) := hnt
      have HPu : Hid (∀ X, Below W.heap.size W X → Calls Try.prog 52 #[.agg #[.int .i64 nn.k, .int .i64 nn.w, .int .i64 nn.h, .int .i64 nn.i, .slice sa sn sc], .int .i64 q, .int .i64 k, .int .i64 n, .bool set] X fun e w' => ∃ ta tn tc fk, e = .returned (.tuple #[.agg #[.int .i64 nt.k, .int .i64 nt.w, .int .i64 nt.h, .int .i64 nt.i, .slice ta tn tc], .int .i64 mv, .bool true]) ∧ (nodeOf s').In w' (.slice ta tn tc) fk ∧ (∀ x ∈ fk, x ∈ fp ∨ W.heap.size ≤ x) ∧ Below W.heap.size W w') := fun X hX => by
        have h := HIH.out _ f X (HKX.out X hX).1
        rw [HNo.out] at h
        refine Calls.mono h ?_
        rintro e w' ⟨ta, tn, tc, fk, rfl, h1, h2, h3⟩
        refine ⟨ta, tn, tc, fk, by rw [HNt.out]; rfl, h1, fun x hx => ?_, below_step hX h3⟩
        rcases h2 x hx with h4 | h4
        · exact .inl (Hf.out x h4)
        · exact .inr (Nat.le_trans hX.size h4)
      go_wp2_with fail
      refine HId.out.mono ?_
      rintro e w2 ⟨u, rfl, hb2, hh⟩
      have HH : Hid (Calls Try.prog 35 #[u, .int .i64 q] w2 fun e w'' => e = .returned (.bool true) ∧ w2 = w'') := hh
      have HB2 : Hid (Below W.heap.size W w2) := hb2
      clear hb2 hh HId q0 q1 q2 q3 q4 b4 hnt
      obtain ⟨_, ⟨q0, q1, q2, q3, q4⟩⟩ := HKX.out w2 HB2.out
      rw [HNo.out] at q0 q1 q2 q3
      have b4 : w2.cell? ⟨w.heap.size, 4, none⟩ = some (.slice (some ⟨g, 0, none⟩) L cap0) := cell_atL (HPa.out w2 HB2.out) 4
      go_wp2_with fail
      refine HH.out.mono ?_
      rintro e w3 ⟨rfl, rfl⟩
      go_wp2_with fail
      refine (HPu.out w2 HB2.out).mono ?_
      rintro e w3 ⟨ta, tn, tc, fk, rfl, hIk, hfk, hb3⟩
      have HIk : Hid ((nodeOf s').In w3 (.slice ta tn tc) fk) := hIk
      have Hfk : Hid (∀ x ∈ fk, x ∈ fp ∨ W.heap.size ≤ x) := hfk
      have HB3 : Hid (Below W.heap.size W w3) := hb3
      clear hIk hfk hb3 HH HPu HB2 q0 q1 q2 q3 q4 b4
      obtain ⟨Z, hZ⟩ : ∃ x, w3.alloc (.cells #[.int .i64 nt.k, .int .i64 nt.w, .int .i64 nt.h, .int .i64 nt.i, .slice ta tn tc] 73) = x := ⟨_, rfl⟩
      have HZ : Hid (w3.alloc (.cells #[.int .i64 nt.k, .int .i64 nt.w, .int .i64 nt.h, .int .i64 nt.i, .slice ta tn tc] 73) = Z) := hZ
      have hbZ : Below w3.heap.size w3 Z := by rw [← hZ]; exact (Below.refl _ _).alloc (Nat.le_refl _) _
      have hkZ : Z.heap[w3.heap.size]? = some (.cells #[.int .i64 nt.k, .int .i64 nt.w, .int .i64 nt.h, .int .i64 nt.i, .slice ta tn tc] 73 (0, 0)) := by rw [← hZ]; exact heap_alloc_new _ _
      have HBZ : Hid (Below W.heap.size W Z) := below_step HB3.out hbZ
      have b0 : Z.cell? ⟨w.heap.size, 0, none⟩ = some (.int .i64 k') := cell_atL (HPa.out Z HBZ.out) 0
      have b1 : Z.cell? ⟨w.heap.size, 1, none⟩ = some (.int .i64 b.w) := cell_atL (HPa.out Z HBZ.out) 1
      have b2 : Z.cell? ⟨w.heap.size, 2, none⟩ = some (.int .i64 b.h) := cell_atL (HPa.out Z HBZ.out) 2
      have b3 : Z.cell? ⟨w.heap.size, 3, none⟩ = some (.int .i64 0) := cell_atL (HPa.out Z HBZ.out) 3
      have b4 : Z.cell? ⟨w.heap.size, 4, none⟩ = some (.slice (some ⟨g, 0, none⟩) L cap0) := cell_atL (HPa.out Z HBZ.out) 4
      have HkZ : Hid (Z.heap[w3.heap.size]? = some (.cells #[.int .i64 nt.k, .int .i64 nt.w, .int .i64 nt.h, .int .i64 nt.i, .slice ta tn tc] 73 (0, 0))) := hkZ
      have HIkZ : Hid ((nodeOf s').In Z (.slice ta tn tc) fk) := HIk.out.below hbZ
      have h3Z : w3.heap.size < Z.heap.size := lt_of_block hkZ
      clear hZ hbZ hkZ
      go_upto_region 6 with fail
      rw [HZ.out]
      go_upto_region 8 with fail
      obtain ⟨Y, hY⟩ : ∃ x, Z.alloc (.cells #[.int .i64 k', .int .i64 b.w, .int .i64 b.h, .int .i64 0, .slice (some ⟨g, 0, none⟩) L cap0] 73) = x := ⟨_, rfl⟩
      have HY : Hid (Z.alloc (.cells #[.int .i64 k', .int .i64 b.w, .int .i64 b.h, .int .i64 0, .slice (some ⟨g, 0, none⟩) L cap0] 73) = Y) := hY
      have hbY : Below Z.heap.size Z Y := by rw [← hY]; exact (Below.refl _ _).alloc (Nat.le_refl _) _
      have hkY : Y.heap[Z.heap.size]? = some (.cells #[.int .i64 k', .int .i64 b.w, .int .i64 b.h, .int .i64 0, .slice (some ⟨g, 0, none⟩) L cap0] 73 (0, 0)) := by rw [← hY]; exact heap_alloc_new _ _
      have HBY : Hid (Below W.heap.size W Y) := below_step HBZ.out hbY
      rw [HY.out]
      have HmY : Hid (Y.heap[Z.heap.size]? = some (.cells #[.int .i64 k', .int .i64 b.w, .int .i64 b.h, .int .i64 0, .slice (some ⟨g, 0, none⟩) L cap0] 73 (0, 0))) := hkY
      have hZY : Y.heap.size = Z.heap.size + 1 := by rw [← hY]; simp
      have HkY : Hid (Y.heap[w3.heap.size]? = some (.cells #[.int .i64 nt.k, .int .i64 nt.w, .int .i64 nt.h, .int .i64 nt.i, .slice ta tn tc] 73 (0, 0))) := (hbY.block _ h3Z).trans HkZ.out
      have HIkY : Hid ((nodeOf s').In Y (.slice ta tn tc) fk) := HIkZ.out.below hbY
      have hwZ : w.heap.size + 2 ≤ Z.heap.size := by have h1 := HWs.out; have h2 := HBZ.out.size; omega
      obtain ⟨cs, fs, hrow, hnodes, hfp⟩ := HIn.out Y (below_step HBW.out HBY.out)
      rw [nodesOf_length, HL.out] at hrow
      have HOw : Hid (Y.ownsRow 0 73 5 (.slice (some ⟨g, 0, none⟩) L cap0) L cs) := hrow
      have HOne : Hid (∀ u ∈ cs, u.oneCell' = true) := hnodes.oneCell
      have HCp : Hid (∀ v w6, Y.grownBy w6 none → w6.ownsRow Y.heap.size 73 5 v L cs → ∃ g2 cap2, v = .slice (some ⟨g2, 0, none⟩) L cap2 ∧ Y.heap.size ≤ g2 ∧ Hid (KidsAt g2 L cap2 (fp ++ fk) ts (w6.setCell ⟨Z.heap.size, 4, none⟩ v)) ∧ (∃ u, w6.cell? ⟨Z.heap.size, 4, none⟩ = some u) ∧ w6.frozen? ⟨Z.heap.size, 4, none⟩ = false ∧ Hid (Y.grownBy w6 none)) := fun v w6 hgr hr => by
        have hfs : ∀ q ∈ fs, q ∈ fp := fun q hq => by rw [hfp]; exact List.mem_append_right _ hq
        obtain ⟨g2, cap2, e1, e2, e3⟩ := KidsAt.copy (fp := fp ++ fk) (fun q hq => List.mem_append_left _ (hfs q hq)) (fun q hq => by
          rcases List.mem_append.1 hq with h | h
          · have := HFp.out q h
            omega
          · exact HIkY.out.lt q h) hnodes hgr (by rw [HL.out]; exact hr) (by rw [HL.out]; omega) Z.heap.size (by omega) (fun h => by have := HFp.out _ (hfs _ h); omega)
        rw [HL.out] at e1 e3
        have hb6 := (hgr.block Z.heap.size (by omega) (by simp)).trans HmY.out
        exact ⟨g2, cap2, e1, e2, e3, ⟨_, cell_atL hb6 4⟩, free_atL hb6 4, hgr⟩
      have b4 : Y.cell? ⟨w.heap.size, 4, none⟩ = some (.slice (some ⟨g, 0, none⟩) L cap0) := cell_atL (HPa.out Y HBY.out) 4
      clear hrow hnodes hfp hY hbY hkY b0 b1 b2 b3
      go_upto_region 9 with (at_builtin; refine wpList_append_row _ rfl (.const (.slice none 0 0)) (.tmp 54) 71 73 rfl (.agg zeroN) 5 56 Try.underlying71 infoNode rfl (by decide) (by decide) Y.heap.size (.slice none 0 0) 0 [] rfl (World.ownsRow_nil _ _ _ _) 0 (.slice (some ⟨g, 0, none⟩) L cap0) L cs rfl HOw.out HOne.out ?x1 ?x2 ?_; (case x1 => omega); (case x2 => exact Nat.le_refl _); intro v w6 a1 a2; rw [Nat.zero_add, List.nil_append] at a1; obtain ⟨g2, cap2, rfl, hg2, HK6, ⟨u4, c4⟩, f4, HGr⟩ := HCp.out v w6 a2 a1; clear a1 a2)
      obtain ⟨V, hV⟩ : ∃ x, w6.setCell ⟨Z.heap.size, 4, none⟩ (.slice (some ⟨g2, 0, none⟩) L cap2) = x := ⟨_, rfl⟩
      rw [hV]
      have HV : Hid (w6.setCell ⟨Z.heap.size, 4, none⟩ (.slice (some ⟨g2, 0, none⟩) L cap2) = V) := hV
      have hold : ∀ q, q < Y.heap.size → q ≠ Z.heap.size → V.heap[q]? = Y.heap[q]? := fun q h1 h2 => by
        rw [← hV]
        exact (Below.heap_setCell _ _ _ _ h2).trans (HGr.out.block q h1 (by simp))
      have hmV : V.heap[Z.heap.size]? = some (.cells #[.int .i64 k', .int .i64 b.w, .int .i64 b.h, .int .i64 0, .slice (some ⟨g2, 0, none⟩) L cap2] 73 (0, 0)) := by
        rw [← hV]
        exact heap_set4 ((HGr.out.block Z.heap.size (by omega) (by simp)).trans HmY.out) _
      have hkV : V.heap[w3.heap.size]? = some (.cells #[.int .i64 nt.k, .int .i64 nt.w, .int .i64 nt.h, .int .i64 nt.i, .slice ta tn tc] 73 (0, 0)) := (hold _ (by omega) (by omega)).trans HkY.out
      have hrV : V.heap[w.heap.size + 1]? = some (.cells zeroN 73 (0, 0)) := (hold _ (by omega) (by omega)).trans (HRe.out Y HBY.out)
      have HmV : Hid (V.heap[Z.heap.size]? = some (.cells #[.int .i64 k', .int .i64 b.w, .int .i64 b.h, .int .i64 0, .slice (some ⟨g2, 0, none⟩) L cap2] 73 (0, 0))) := hmV
      have HrV : Hid (V.heap[w.heap.size + 1]? = some (.cells zeroN 73 (0, 0))) := hrV
      have HF : Hid (∀ v0 v1 v2 v3 v4, PuA (.split b k' (ts.set j s')) mv true fp w (.returned (.tuple #[.agg #[.int .i64 k', .int .i64 b.w, .int .i64 b.h, .int .i64 0, .slice (some ⟨g2, 0, none⟩) L cap2], .int .i64 mv, .bool true])) (set5 (set5at V g2 (j * 5) nt (.slice ta tn tc)) (w.heap.size + 1) v0 v1 v2 v3 v4)) := fun v0 v1 v2 v3 v4 => by
        have h := pu_deep (w := w) (b := b) (k' := k') (mv := mv) (fp := fp) HK6.out HT.out HIkY.out HFp.out (fun q hq => by
          rcases Hfk.out q hq with h | h
          · exact .inl h
          · exact .inr (by have := HWs.out; omega)) (by omega) HGr.out (by omega) (fun h => by
          rcases Hfk.out _ h with h4 | h4
          · have := HFp.out _ h4
            omega
          · have := HIkZ.out.lt _ h
            omega) (below_step HBW.out HBY.out) v0 v1 v2 v3 v4
        rw [HV.out, HNt.out] at h
        exact h
      obtain ⟨xa, xn, xc, xf, _, ⟨q0, q1, q2, q3, q4⟩, _⟩ := HK6.out.one j t HT.out
      have fz : ∀ o, V.frozen? ⟨g2, o, none⟩ = false := fun o => by
        obtain ⟨cs', fs', h1, _⟩ := HK6.out.row
        rw [HV.out] at h1
        exact World.ownsRow.frozenAt h1 o
      rw [HV.out] at q0 q1 q2 q3 q4
      have k0 := cell_atL hkV 0
      have k1 := cell_atL hkV 1
      have k2 := cell_atL hkV 2
      have k3 := cell_atL hkV 3
      have k4 := cell_atL hkV 4
      have m4 := cell_atL hmV 4
      clear c4 f4 b4 hV hold hmV hkV hrV HCp HOw HOne
      go_upto_region 10 with fail
      all_goals (
        obtain ⟨V9, hV9⟩ : ∃ x, set5at V g2 (j * 5) nt (.slice ta tn tc) = x := ⟨_, rfl⟩
        have hmV : V9.heap[Z.heap.size]? = some (.cells #[.int .i64 k', .int .i64 b.w, .int .i64 b.h, .int .i64 0, .slice (some ⟨g2, 0, none⟩) L cap2] 73 (0, 0)) := by
          rw [← hV9]
          exact (set5at_block _ _ _ _ _ _ (by omega)).trans HmV.out
        have hrV : V9.heap[w.heap.size + 1]? = some (.cells zeroN 73 (0, 0)) := by
          rw [← hV9]
          exact (set5at_block _ _ _ _ _ _ (by omega)).trans HrV.out
        rw [hV9] at HF
        unfold set5at at hV9
        rw [hV9]
        clear fz q0 q1 q2 q3 q4 k0 k1 k2 k3 k4 m4 hV9
        have m0 := cell_atL hmV 0
        have m1 := cell_atL hmV 1
        have m2 := cell_atL hmV 2
        have m3 := cell_atL hmV 3
        have m4 := cell_atL hmV 4
        have r0 : V9.cell? ⟨w.heap.size + 1, 0, none⟩ = some (.int .i64 0) := cell_atL hrV 0
        have r1 : V9.cell? ⟨w.heap.size + 1, 1, none⟩ = some (.int .i64 0) := cell_atL hrV 1
        have r2 : V9.cell? ⟨w.heap.size + 1, 2, none⟩ = some (.int .i64 0) := cell_atL hrV 2
        have r3 : V9.cell? ⟨w.heap.size + 1, 3, none⟩ = some (.int .i64 0) := cell_atL hrV 3
        have r4 : V9.cell? ⟨w.heap.size + 1, 4, none⟩ = some (.slice none 0 0) := cell_atL hrV 4
        have f0 := free_atL hrV 0
        have f1 := free_atL hrV 1
        have f2 := free_atL hrV 2
        have f3 := free_atL hrV 3
        have f4 := free_atL hrV 4
        clear hmV hrV
        go_wp2
        exact bodyPost_ret (v := .tuple #[.agg #[.int .i64 k', .int .i64 b.w, .int .i64 b.h, .int .i64 0, .slice (some ⟨g2, 0, none⟩) L cap2], .int .i64 mv, .bool true]) (by simp [results, Try.results52, go_sem, r0, r1, r2, r3, r4]) rfl (HF.out _ _ _ _ _))

end Go.Proofs.Ytkaaadbfmbkjeaa

namespace Go.Proofs.Ytkaaadbfmbkjeaa
open Go.RowKit
set_option linter.unusedVariables false
set_option maxRecDepth 100000

set_option maxHeartbeats 8000000 in
theorem pushed_none (set : Bool) (n k q : Int) (b : Box) (k' : Int) (ts : List Tree) (i : Nat) (s s' : Tree) (mv : Int) (hi : ts[i]? = some s) (hpre : ∀ (a : Nat) u, a < i → ts[a]? = some u → q ∉ u.idl) (hq : q ∈ s.idl) (hs : (Tree.split b k' ts).sound = true) (hk : (Tree.split b k' ts).kinds) (hz : (Tree.split b k' ts).size ≤ 900) (IH : PuGood set n k q s s' mv false) (hkk : k' ≠ k) : PuGood set n k q (.split b k' ts) (.split b k' ts) 0 false := by
  intro sl fp w hIn
  unfold Tree.sound at hs
  simp only [Bool.and_eq_true, decide_eq_true_eq] at hs
  change 1 + sizes ts ≤ 900 at hz
  have h2 := hs.1.1
  have hll := length_sizes ts
  have hIn0 := hIn
  change (Node.mk k' b.w b.h 0 (nodesOf ts)).In w sl fp at hIn
  obtain ⟨g, cap0, hsl, hg, hkd⟩ := hIn.kids (by intro e; have := congrArg List.length e; rw [nodesOf_length] at this; simp at this; rw [this] at h2; simp at h2)
  rw [nodesOf_length] at hsl
  obtain ⟨L, hL⟩ : ∃ L, ts.length = L := ⟨_, rfl⟩
  rw [hL] at hsl h2 hll
  subst hsl
  have hil : i < L := by rw [← hL]; exact (List.getElem?_eq_some_iff.1 hi).1
  have hL9 : L ≤ 900 := by omega
  have HFp : Hid (∀ q ∈ fp, q < w.heap.size) := hIn.lt
  obtain ⟨W, hW⟩ : ∃ W, (w.alloc (.cells #[.int .i64 k', .int .i64 b.w, .int .i64 b.h, .int .i64 0, .slice (some ⟨g, 0, none⟩) L cap0] 73)).alloc (.cells zeroN 73) = W := ⟨_, rfl⟩
  have hbW : Below w.heap.size w W := by rw [← hW]; exact ((Below.refl _ _).alloc (Nat.le_refl _) _).alloc (by simp) _
  have hWs : W.heap.size = w.heap.size + 2 := by rw [← hW]; simp
  have hP : W.heap[w.heap.size]? = some (.cells #[.int .i64 k', .int .i64 b.w, .int .i64 b.h, .int .i64 0, .slice (some ⟨g, 0, none⟩) L cap0] 73 (0, 0)) := by
    rw [← hW]
    exact (Below.heap_alloc _ _ _ (by simp)).trans (heap_alloc_new _ _)
  have hR : W.heap[w.heap.size + 1]? = some (.cells zeroN 73 (0, 0)) := by
    rw [← hW]
    have h := heap_alloc_new (w.alloc (.cells #[.int .i64 k', .int .i64 b.w, .int .i64 b.h, .int .i64 0, .slice (some ⟨g, 0, none⟩) L cap0] 73)) (.cells zeroN 73)
    rw [show (w.alloc (.cells #[.int .i64 k', .int .i64 b.w, .int .i64 b.h, .int .i64 0, .slice (some ⟨g, 0, none⟩) L cap0] 73)).heap.size = w.heap.size + 1 by simp] at h
    exact h
  have HPa : Hid (∀ X, Below W.heap.size W X → X.heap[w.heap.size]? = some (.cells #[.int .i64 k', .int .i64 b.w, .int .i64 b.h, .int .i64 0, .slice (some ⟨g, 0, none⟩) L cap0] 73 (0, 0))) := fun X hX => (hX.block _ (by omega)).trans hP
  have HRe : Hid (∀ X, Below W.heap.size W X → X.heap[w.heap.size + 1]? = some (.cells zeroN 73 (0, 0))) := fun X hX => (hX.block _ (by omega)).trans hR
  have HKid : Hid (∀ (j : Nat) t, ts[j]? = some t → ∃ sa sn sc f, (∀ q ∈ f, q ∈ fp) ∧ ∀ X, Below W.heap.size W X → (nodeOf t).In X (.slice sa sn sc) f ∧ KidIn X g (j * 5) (nodeOf t) (.slice sa sn sc)) := fun j t ht => node_kid (hIn.below hbW) hL j t ht
  have HIds : Hid (∀ (j : Nat) t, ts[j]? = some t → (nodeOf t).ids = t.idl ∧ t.idl.length ≤ 1000 ∧ t.idl ≠ [] ∧ (nodeOf t).cnt ≤ 1000) := fun j t ht => by
    have hsd := soundAll_at ts b k' j t ht hs.2.1
    simp only [Bool.and_eq_true, decide_eq_true_eq] at hsd
    have hkt := kindsAll_at ts j t ht hk.2
    have hst := sizes_at ts j t ht
    have h1 := ids_idl t hkt
    have h3 := ids_cnt (nodeOf t)
    rw [cnt_of] at h3
    exact ⟨h1, by rw [← h1]; omega, by rw [← h1]; exact idl_ne t hkt hsd.1, by rw [cnt_of]; omega⟩
  have HIn : Hid (∀ X, Below w.heap.size w X → (nodeOf (.split b k' ts)).In X (.slice (some ⟨g, 0, none⟩) L cap0) fp) := fun X hX => hIn0.below hX
  have HBW : Hid (Below w.heap.size w W) := hbW
  have HWs : Hid (W.heap.size = w.heap.size + 2) := hWs
  have HW : Hid ((w.alloc (.cells #[.int .i64 k', .int .i64 b.w, .int .i64 b.h, .int .i64 0, .slice (some ⟨g, 0, none⟩) L cap0] 73)).alloc (.cells zeroN 73) = W) := hW
  have HL : Hid (ts.length = L) := hL
  have HPre : Hid (∀ (a : Nat) u, a < i → ts[a]? = some u → q ∉ u.idl) := hpre
  have HQ : Hid (q ∈ s.idl) := hq
  have HI : Hid (ts[i]? = some s) := hi
  have HIH : Hid (PuGood set n k q s s' mv false) := IH
  have hkn : (k' != k) = true := by simpa using hkk
  unfold zeroN at HW
  show Calls Try.prog 52 #[.agg #[.int .i64 k', .int .i64 b.w, .int .i64 b.h, .int .i64 0, .slice (some ⟨g, 0, none⟩) L cap0], .int .i64 q, .int .i64 k, .int .i64 n, .bool set] w _
  clear hkd hIn hIn0 hbW hWs hP hR hW hs hk hz hll hL hpre hq hi IH hkk
  go_enter Try.func52, Try.ntmps52
  go_upto_region 1 with fail
  rw [HW.out]
  go_wp2
  go_loopw [3, 13] (fun u v wr => u = .int .i64 n ∧ ∃ j : Nat, j ≤ i ∧ v = .int .i64 j ∧ Hid (Below W.heap.size W wr)) (fun _ v _ => i - (intOf v).toNat)
  case atStart => exact ⟨rfl, 0, Nat.zero_le _, rfl, Below.refl _ _⟩
  case round =>
    obtain ⟨rfl, j, hj, rfl, HBr⟩ := hrel
    obtain ⟨t, ht⟩ : ∃ t, ts[j]? = some t := ⟨_, List.getElem?_eq_getElem (by rw [HL.out]; omega)⟩
    obtain ⟨sa, sn, sc, f, hf, hKX⟩ := HKid.out j t ht
    obtain ⟨e1, ⟨q0, q1, q2, q3, q4⟩⟩ := hKX wr HBr.out
    obtain ⟨i1, i2, i3, i4⟩ := HIds.out j t ht
    have hjL : j < L := by omega
    have HId : Hid (Calls Try.prog 34 #[.agg #[.int .i64 (nodeOf t).k, .int .i64 (nodeOf t).w, .int .i64 (nodeOf t).h, .int .i64 (nodeOf t).i, .slice sa sn sc]] wr fun e w' => ∃ u, e = .returned u ∧ Below W.heap.size W w' ∧ Calls Try.prog 35 #[u, .int .i64 q] w' fun e w'' => e = .returned (.bool (decide (q ∈ t.idl))) ∧ w' = w'') := by
      refine (ids_good (nodeOf t) i4 _ f wr e1).mono ?_
      rintro e w' ⟨u, rfl, h1, h2⟩
      rw [i1] at h1
      exact ⟨u, rfl, below_step HBr.out h2, has_any u t.idl _ q w' h1 i2 i3⟩
    have b4 : wr.cell? ⟨w.heap.size, 4, none⟩ = some (.slice (some ⟨g, 0, none⟩) L cap0) := cell_atL (HPa.out wr HBr.out) 4
    have HKX : Hid (∀ X, Below W.heap.size W X → (nodeOf t).In X (.slice sa sn sc) f ∧ KidIn X g (j * 5) (nodeOf t) (.slice sa sn sc)) := hKX
    have HT : Hid (ts[j]? = some t) := ht
    have Hf : Hid (∀ q ∈ f, q ∈ fp) := hf
    obtain ⟨nn, hnn⟩ : ∃ x, nodeOf t = x := ⟨_, rfl⟩
    have HNo : Hid (nodeOf t = nn) := hnn
    rw [hnn] at q0 q1 q2 q3 HId
    clear e1 i1 i2 i3 i4 ht hf hKX hnn
    by_cases hlt : j < i
    · have HD : Hid (decide (q ∈ t.idl) = false) := decide_eq_false (HPre.out j t hlt HT.out)
      rw [HD.out] at HId
      go_wp2_with fail
      refine HId.out.mono ?_
      rintro e w2 ⟨u, rfl, hb2, hh⟩
      have HH : Hid (Calls Try.prog 35 #[u, .int .i64 q] w2 fun e w'' => e = .returned (.bool false) ∧ w2 = w'') := hh
      have HB2 : Hid (Below W.heap.size W w2) := hb2
      clear hb2 hh HId q0 q1 q2 q3 q4 b4
      go_wp2_with fail
      refine HH.out.mono ?_
      rintro e w3 ⟨rfl, rfl⟩
      go_wp2
      go_roundw
      case rel => exact ⟨rfl, j + 1, by omega, by go_num, HB2⟩
      case measure => simp [intOf]; omega
    · have hji : j = i := by omega
      subst hji
      have hts : t = s := by
        have h1 := HT.out
        rw [HI.out] at h1
        exact (Option.some.inj h1).symm
      subst hts
      have HD : Hid (decide (q ∈ t.idl) = true) := decide_eq_true HQ.out
      rw [HD.out] at HId
      obtain ⟨nt, hnt⟩ : ∃ x, nodeOf s' = x := ⟨_, rfl⟩
      have HNt : Hid (nodeOf s' = nt) := hnt
      have HPu : Hid (∀ X, Below W.heap.size W X → Calls Try.prog 52 #[.agg #[.int .i64 nn.k, .int .i64 nn.w, .int .i64 nn.h, .int .i64 nn.i, .slice sa sn sc], .int .i64 q, .int .i64 k, .int .i64 n, .bool set] X fun e w' => ∃ ta tn tc fk, e = .returned (.tuple #[.agg #[.int .i64 nt.k, .int .i64 nt.w, .int .i64 nt.h, .int .i64 nt.i, .slice ta tn tc], .int .i64 mv, .bool false]) ∧ (nodeOf s').In w' (.slice ta tn tc) fk ∧ (∀ x ∈ fk, x ∈ fp ∨ W.heap.size ≤ x) ∧ Below W.heap.size W w') := fun X hX => by
        have h := HIH.out _ f X (HKX.out X hX).1
        rw [HNo.out] at h
        refine Calls.mono h ?_
        rintro e w' ⟨ta, tn, tc, fk, rfl, h1, h2, h3⟩
        refine ⟨ta, tn, tc, fk, by rw [HNt.out]; rfl, h1, fun x hx => ?_, below_step hX h3⟩
        rcases h2 x hx with h4 | h4
        · exact .inl (Hf.out x h4)
        · exact .inr (Nat.le_trans hX.size h4)
      go_wp2_with fail
      refine HId.out.mono ?_
      rintro e w2 ⟨u, rfl, hb2, hh⟩
      have HH : Hid (Calls Try.prog 35 #[u, .int .i64 q] w2 fun e w'' => e = .returned (.bool true) ∧ w2 = w'') := hh
      have HB2 : Hid (Below W.heap.size W w2) := hb2
      clear hb2 hh HId q0 q1 q2 q3 q4 b4 hnt
      obtain ⟨_, ⟨q0, q1, q2, q3, q4⟩⟩ := HKX.out w2 HB2.out
      rw [HNo.out] at q0 q1 q2 q3
      have b4 : w2.cell? ⟨w.heap.size, 4, none⟩ = some (.slice (some ⟨g, 0, none⟩) L cap0) := cell_atL (HPa.out w2 HB2.out) 4
      go_wp2_with fail
      refine HH.out.mono ?_
      rintro e w3 ⟨rfl, rfl⟩
      go_wp2_with fail
      refine (HPu.out w2 HB2.out).mono ?_
      rintro e w3 ⟨ta, tn, tc, fk, rfl, hIk, hfk, hb3⟩
      have HIk : Hid ((nodeOf s').In w3 (.slice ta tn tc) fk) := hIk
      have Hfk : Hid (∀ x ∈ fk, x ∈ fp ∨ W.heap.size ≤ x) := hfk
      have HB3 : Hid (Below W.heap.size W w3) := hb3
      clear hIk hfk hb3 HH HPu HB2 q0 q1 q2 q3 q4 b4
      obtain ⟨Z, hZ⟩ : ∃ Z, w3.alloc (.cells #[.int .i64 nt.k, .int .i64 nt.w, .int .i64 nt.h, .int .i64 nt.i, .slice ta tn tc] 73) = Z := ⟨_, rfl⟩
      have HZ : Hid (w3.alloc (.cells #[.int .i64 nt.k, .int .i64 nt.w, .int .i64 nt.h, .int .i64 nt.i, .slice ta tn tc] 73) = Z) := hZ
      have hbZ : Below w3.heap.size w3 Z := by rw [← hZ]; exact (Below.refl _ _).alloc (Nat.le_refl _) _
      have HBZ : Hid (Below W.heap.size W Z) := below_step HB3.out hbZ
      have r0 : Z.cell? ⟨w.heap.size + 1, 0, none⟩ = some (.int .i64 0) := cell_atL (HRe.out Z HBZ.out) 0
      have f0 := free_atL (HRe.out Z HBZ.out) 0
      have r1 : Z.cell? ⟨w.heap.size + 1, 1, none⟩ = some (.int .i64 0) := cell_atL (HRe.out Z HBZ.out) 1
      have f1 := free_atL (HRe.out Z HBZ.out) 1
      have r2 : Z.cell? ⟨w.heap.size + 1, 2, none⟩ = some (.int .i64 0) := cell_atL (HRe.out Z HBZ.out) 2
      have f2 := free_atL (HRe.out Z HBZ.out) 2
      have r3 : Z.cell? ⟨w.heap.size + 1, 3, none⟩ = some (.int .i64 0) := cell_atL (HRe.out Z HBZ.out) 3
      have f3 := free_atL (HRe.out Z HBZ.out) 3
      have r4 : Z.cell? ⟨w.heap.size + 1, 4, none⟩ = some (.slice none 0 0) := cell_atL (HRe.out Z HBZ.out) 4
      have f4 := free_atL (HRe.out Z HBZ.out) 4
      have b0 : Z.cell? ⟨w.heap.size, 0, none⟩ = some (.int .i64 k') := cell_atL (HPa.out Z HBZ.out) 0
      have b1 : Z.cell? ⟨w.heap.size, 1, none⟩ = some (.int .i64 b.w) := cell_atL (HPa.out Z HBZ.out) 1
      have b2 : Z.cell? ⟨w.heap.size, 2, none⟩ = some (.int .i64 b.h) := cell_atL (HPa.out Z HBZ.out) 2
      have b3 : Z.cell? ⟨w.heap.size, 3, none⟩ = some (.int .i64 0) := cell_atL (HPa.out Z HBZ.out) 3
      have b4 : Z.cell? ⟨w.heap.size, 4, none⟩ = some (.slice (some ⟨g, 0, none⟩) L cap0) := cell_atL (HPa.out Z HBZ.out) 4
      have HF : Hid (∀ v0 v1 v2 v3 v4, PuA (.split b k' ts) 0 false fp w (.returned (.tuple #[.agg #[.int .i64 k', .int .i64 b.w, .int .i64 b.h, .int .i64 0, .slice (some ⟨g, 0, none⟩) L cap0], .int .i64 0, .bool false])) (set5 Z (w.heap.size + 1) v0 v1 v2 v3 v4)) := fun v0 v1 v2 v3 v4 => pu_same (HIn.out w (Below.refl _ _)) (below_step HBW.out HBZ.out) v0 v1 v2 v3 v4
      clear hZ hbZ
      go_upto_region 6 with fail
      rw [HZ.out]
      go_wp2
      exact bodyPost_ret (v := .tuple #[.agg #[.int .i64 k', .int .i64 b.w, .int .i64 b.h, .int .i64 0, .slice (some ⟨g, 0, none⟩) L cap0], .int .i64 0, .bool false]) (by simp [results, Try.results52, go_sem, r0, r1, r2, r3, r4]) rfl (HF.out _ _ _ _ _)

end Go.Proofs.Ytkaaadbfmbkjeaa
