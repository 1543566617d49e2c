/-
  Layouts: the document's pushed, here (mkpushl.py).
  Layouts: the document's pushed, here, to an extent (mkpushl.py).
  Layouts: the document's pushed, here, to an extent, the last part (mkpushl.py).
  Layouts: the document's pushed, of every tree.
-/
import Derived.Test.YtkaaadbfmbkjeaaCPi
import Derived.Test.YtkaaadbfmbkjeaaCPl
namespace Go.Proofs.Ytkaaadbfmbkjeaa
open Go.RowKit
set_option linter.unusedVariables false
set_option maxRecDepth 100000

set_option maxHeartbeats 8000000 in
theorem pushed_here0 (n k q : Int) (b : Box) (k' : Int) (ts : List Tree) (i : Nat) (s s' : Tree) (mv : Int) (hi : ts[i]? = some s) (hpre : ∀ (a : Nat) u, a < i → ts[a]? = some u → q ∉ u.idl) (hq : q ∈ s.idl) (hs : (Tree.split b k' ts).sound = true) (hk : (Tree.split b k' ts).kinds) (hz : (Tree.split b k' ts).size ≤ 900) (IH : PuGood false n k q s s' mv false) (hkk : k' = k) (rs : List Tree) (c : Nat) (m got : Int) (hc : c = min i (ts.length - 2)) (hM : Moved k' ts m rs c got) (hm : n = m)  : PuGood false n k q (.split b k' ts) (.split b k' rs) (movedI m got) true := by
  intro sl fp w hIn
  unfold Tree.sound at hs
  simp only [Bool.and_eq_true, decide_eq_true_eq] at hs
  change 1 + sizes ts ≤ 900 at hz
  have h2 := hs.1.1
  have hll := length_sizes ts
  have hIn0 := hIn
  change (Node.mk k' b.w b.h 0 (nodesOf ts)).In w sl fp at hIn
  obtain ⟨g, cap0, hsl, hg, hkd⟩ := hIn.kids (by intro e; have := congrArg List.length e; rw [nodesOf_length] at this; simp at this; rw [this] at h2; simp at h2)
  rw [nodesOf_length] at hsl
  obtain ⟨L, hL⟩ : ∃ L, ts.length = L := ⟨_, rfl⟩
  rw [hL] at hsl h2 hll
  subst hsl
  have hil : i < L := by rw [← hL]; exact (List.getElem?_eq_some_iff.1 hi).1
  have hL9 : L ≤ 900 := by omega
  have HFp : Hid (∀ q ∈ fp, q < w.heap.size) := hIn.lt
  obtain ⟨W, hW⟩ : ∃ W, (w.alloc (.cells #[.int .i64 k', .int .i64 b.w, .int .i64 b.h, .int .i64 0, .slice (some ⟨g, 0, none⟩) L cap0] 73)).alloc (.cells zeroN 73) = W := ⟨_, rfl⟩
  have hbW : Below w.heap.size w W := by rw [← hW]; exact ((Below.refl _ _).alloc (Nat.le_refl _) _).alloc (by simp) _
  have hWs : W.heap.size = w.heap.size + 2 := by rw [← hW]; simp
  have hP : W.heap[w.heap.size]? = some (.cells #[.int .i64 k', .int .i64 b.w, .int .i64 b.h, .int .i64 0, .slice (some ⟨g, 0, none⟩) L cap0] 73 (0, 0)) := by
    rw [← hW]
    exact (Below.heap_alloc _ _ _ (by simp)).trans (heap_alloc_new _ _)
  have hR : W.heap[w.heap.size + 1]? = some (.cells zeroN 73 (0, 0)) := by
    rw [← hW]
    have h := heap_alloc_new (w.alloc (.cells #[.int .i64 k', .int .i64 b.w, .int .i64 b.h, .int .i64 0, .slice (some ⟨g, 0, none⟩) L cap0] 73)) (.cells zeroN 73)
    rw [show (w.alloc (.cells #[.int .i64 k', .int .i64 b.w, .int .i64 b.h, .int .i64 0, .slice (some ⟨g, 0, none⟩) L cap0] 73)).heap.size = w.heap.size + 1 by simp] at h
    exact h
  have HPa : Hid (∀ X, Below W.heap.size W X → X.heap[w.heap.size]? = some (.cells #[.int .i64 k', .int .i64 b.w, .int .i64 b.h, .int .i64 0, .slice (some ⟨g, 0, none⟩) L cap0] 73 (0, 0))) := fun X hX => (hX.block _ (by omega)).trans hP
  have HRe : Hid (∀ X, Below W.heap.size W X → X.heap[w.heap.size + 1]? = some (.cells zeroN 73 (0, 0))) := fun X hX => (hX.block _ (by omega)).trans hR
  have HKid : Hid (∀ (j : Nat) t, ts[j]? = some t → ∃ sa sn sc f, (∀ q ∈ f, q ∈ fp) ∧ ∀ X, Below W.heap.size W X → (nodeOf t).In X (.slice sa sn sc) f ∧ KidIn X g (j * 5) (nodeOf t) (.slice sa sn sc)) := fun j t ht => node_kid (hIn.below hbW) hL j t ht
  have HIds : Hid (∀ (j : Nat) t, ts[j]? = some t → (nodeOf t).ids = t.idl ∧ t.idl.length ≤ 1000 ∧ t.idl ≠ [] ∧ (nodeOf t).cnt ≤ 1000) := fun j t ht => by
    have hsd := soundAll_at ts b k' j t ht hs.2.1
    simp only [Bool.and_eq_true, decide_eq_true_eq] at hsd
    have hkt := kindsAll_at ts j t ht hk.2
    have hst := sizes_at ts j t ht
    have h1 := ids_idl t hkt
    have h3 := ids_cnt (nodeOf t)
    rw [cnt_of] at h3
    exact ⟨h1, by rw [← h1]; omega, by rw [← h1]; exact idl_ne t hkt hsd.1, by rw [cnt_of]; omega⟩
  have HIn : Hid (∀ X, Below w.heap.size w X → (nodeOf (.split b k' ts)).In X (.slice (some ⟨g, 0, none⟩) L cap0) fp) := fun X hX => hIn0.below hX
  have HBW : Hid (Below w.heap.size w W) := hbW
  have HWs : Hid (W.heap.size = w.heap.size + 2) := hWs
  have HW : Hid ((w.alloc (.cells #[.int .i64 k', .int .i64 b.w, .int .i64 b.h, .int .i64 0, .slice (some ⟨g, 0, none⟩) L cap0] 73)).alloc (.cells zeroN 73) = W) := hW
  have HL : Hid (ts.length = L) := hL
  have HPre : Hid (∀ (a : Nat) u, a < i → ts[a]? = some u → q ∉ u.idl) := hpre
  have HQ : Hid (q ∈ s.idl) := hq
  have HI : Hid (ts[i]? = some s) := hi
  have HIH : Hid (PuGood false n k q s s' mv false) := IH
  have hcm : min (i : Int) ((L : Int) - 2) = (c : Int) := by rw [hc, ← hL]; omega
  have hcL : c + 1 < L := by rw [hc, ← hL]; omega
  have hw2 : IntKind.i64.wrap ((L : Int) - 2) = (L : Int) - 2 := by rw [IntKind.wrap_i64]; omega
  have hkn : (k' != k) = false := by simpa using hkk
  obtain ⟨nb, hnb⟩ : ∃ x, nodeOf (.split b k' rs) = x := ⟨_, rfl⟩
  have HNb : Hid (nodeOf (.split b k' rs) = nb) := hnb
  obtain ⟨mm, hmm⟩ : ∃ x, movedI m got = x := ⟨_, rfl⟩
  have HBo : Hid (∀ X, Below W.heap.size W X → Calls Try.prog 77 #[.agg #[.int .i64 k', .int .i64 b.w, .int .i64 b.h, .int .i64 0, .slice (some ⟨g, 0, none⟩) L cap0], .int .i64 c, .int .i64 m] X fun e w' => ∃ ta tn tc fk, e = .returned (.tuple #[.agg #[.int .i64 nb.k, .int .i64 nb.w, .int .i64 nb.h, .int .i64 nb.i, .slice ta tn tc], .int .i64 mm]) ∧ (nodeOf (.split b k' rs)).In w' (.slice ta tn tc) fk ∧ (∀ x ∈ fk, x ∈ fp ∨ W.heap.size ≤ x) ∧ Below W.heap.size W w') := fun X hX => by
    refine (bordR_any b k' ts rs c m got _ fp X hM (by omega) (by omega) (by omega) (HIn.out X (below_step HBW.out hX))).mono ?_
    rintro e w' ⟨ta, tn, tc, fk, rfl, h1, h3, h4⟩
    refine ⟨ta, tn, tc, fk, by rw [hnb, hmm]; rfl, h1, fun x hx => ?_, below_step hX h4⟩
    rcases h3 x hx with h5 | h5
    · exact .inl h5
    · exact .inr (Nat.le_trans hX.size h5)
  rw [hmm]
  subst hm
  unfold zeroN at HW
  show Calls Try.prog 52 #[.agg #[.int .i64 k', .int .i64 b.w, .int .i64 b.h, .int .i64 0, .slice (some ⟨g, 0, none⟩) L cap0], .int .i64 q, .int .i64 k, .int .i64 n, .bool false] w _
  clear hkd hIn hIn0 hbW hWs hP hR hW hs hk hz hll hL hpre hq hi IH hkk hM hc hnb hmm
  go_enter Try.func52, Try.ntmps52
  go_upto_region 1 with fail
  rw [HW.out]
  go_wp2
  go_loopw [3, 13] (fun u v wr => u = .int .i64 n ∧ ∃ j : Nat, j ≤ i ∧ v = .int .i64 j ∧ Hid (Below W.heap.size W wr)) (fun _ v _ => i - (intOf v).toNat)
  case atStart => exact ⟨rfl, 0, Nat.zero_le _, rfl, Below.refl _ _⟩
  case round =>
    obtain ⟨rfl, j, hj, rfl, HBr⟩ := hrel
    obtain ⟨t, ht⟩ : ∃ t, ts[j]? = some t := ⟨_, List.getElem?_eq_getElem (by rw [HL.out]; omega)⟩
    obtain ⟨sa, sn, sc, f, hf, hKX⟩ := HKid.out j t ht
    obtain ⟨e1, ⟨q0, q1, q2, q3, q4⟩⟩ := hKX wr HBr.out
    obtain ⟨i1, i2, i3, i4⟩ := HIds.out j t ht
    have hjL : j < L := by omega
    have HId : Hid (Calls Try.prog 34 #[.agg #[.int .i64 (nodeOf t).k, .int .i64 (nodeOf t).w, .int .i64 (nodeOf t).h, .int .i64 (nodeOf t).i, .slice sa sn sc]] wr fun e w' => ∃ u, e = .returned u ∧ Below W.heap.size W w' ∧ Calls Try.prog 35 #[u, .int .i64 q] w' fun e w'' => e = .returned (.bool (decide (q ∈ t.idl))) ∧ w' = w'') := by
      refine (ids_good (nodeOf t) i4 _ f wr e1).mono ?_
      rintro e w' ⟨u, rfl, h1, h2⟩
      rw [i1] at h1
      exact ⟨u, rfl, below_step HBr.out h2, has_any u t.idl _ q w' h1 i2 i3⟩
    have b4 : wr.cell? ⟨w.heap.size, 4, none⟩ = some (.slice (some ⟨g, 0, none⟩) L cap0) := cell_atL (HPa.out wr HBr.out) 4
    have HKX : Hid (∀ X, Below W.heap.size W X → (nodeOf t).In X (.slice sa sn sc) f ∧ KidIn X g (j * 5) (nodeOf t) (.slice sa sn sc)) := hKX
    have HT : Hid (ts[j]? = some t) := ht
    have Hf : Hid (∀ q ∈ f, q ∈ fp) := hf
    obtain ⟨nn, hnn⟩ : ∃ x, nodeOf t = x := ⟨_, rfl⟩
    have HNo : Hid (nodeOf t = nn) := hnn
    rw [hnn] at q0 q1 q2 q3 HId
    clear e1 i1 i2 i3 i4 ht hf hKX hnn
    by_cases hlt : j < i
    · have HD : Hid (decide (q ∈ t.idl) = false) := decide_eq_false (HPre.out j t hlt HT.out)
      rw [HD.out] at HId
      go_wp2_with fail
      refine HId.out.mono ?_
      rintro e w2 ⟨u, rfl, hb2, hh⟩
      have HH : Hid (Calls Try.prog 35 #[u, .int .i64 q] w2 fun e w'' => e = .returned (.bool false) ∧ w2 = w'') := hh
      have HB2 : Hid (Below W.heap.size W w2) := hb2
      clear hb2 hh HId q0 q1 q2 q3 q4 b4
      go_wp2_with fail
      refine HH.out.mono ?_
      rintro e w3 ⟨rfl, rfl⟩
      go_wp2
      go_roundw
      case rel => exact ⟨rfl, j + 1, by omega, by go_num, HB2⟩
      case measure => simp [intOf]; omega
    · have hji : j = i := by omega
      subst hji
      have hts : t = s := by
        have h1 := HT.out
        rw [HI.out] at h1
        exact (Option.some.inj h1).symm
      subst hts
      have HD : Hid (decide (q ∈ t.idl) = true) := decide_eq_true HQ.out
      rw [HD.out] at HId
      obtain ⟨nt, hnt⟩ : ∃ x, nodeOf s' = x := ⟨_, rfl⟩
      have HNt : Hid (nodeOf s' = nt) := hnt
      have HPu : Hid (∀ X, Below W.heap.size W X → Calls Try.prog 52 #[.agg #[.int .i64 nn.k, .int .i64 nn.w, .int .i64 nn.h, .int .i64 nn.i, .slice sa sn sc], .int .i64 q, .int .i64 k, .int .i64 n, .bool false] X fun e w' => ∃ ta tn tc fk, e = .returned (.tuple #[.agg #[.int .i64 nt.k, .int .i64 nt.w, .int .i64 nt.h, .int .i64 nt.i, .slice ta tn tc], .int .i64 mv, .bool false]) ∧ (nodeOf s').In w' (.slice ta tn tc) fk ∧ (∀ x ∈ fk, x ∈ fp ∨ W.heap.size ≤ x) ∧ Below W.heap.size W w') := fun X hX => by
        have h := HIH.out _ f X (HKX.out X hX).1
        rw [HNo.out] at h
        refine Calls.mono h ?_
        rintro e w' ⟨ta, tn, tc, fk, rfl, h1, h2, h3⟩
        refine ⟨ta, tn, tc, fk, by rw [HNt.out]; rfl, h1, fun x hx => ?_, below_step hX h3⟩
        rcases h2 x hx with h4 | h4
        · exact .inl (Hf.out x h4)
        · exact .inr (Nat.le_trans hX.size h4)
      go_wp2_with fail
      refine HId.out.mono ?_
      rintro e w2 ⟨u, rfl, hb2, hh⟩
      have HH : Hid (Calls Try.prog 35 #[u, .int .i64 q] w2 fun e w'' => e = .returned (.bool true) ∧ w2 = w'') := hh
      have HB2 : Hid (Below W.heap.size W w2) := hb2
      clear hb2 hh HId q0 q1 q2 q3 q4 b4 hnt
      obtain ⟨_, ⟨q0, q1, q2, q3, q4⟩⟩ := HKX.out w2 HB2.out
      rw [HNo.out] at q0 q1 q2 q3
      have b4 : w2.cell? ⟨w.heap.size, 4, none⟩ = some (.slice (some ⟨g, 0, none⟩) L cap0) := cell_atL (HPa.out w2 HB2.out) 4
      go_wp2_with fail
      refine HH.out.mono ?_
      rintro e w3 ⟨rfl, rfl⟩
      go_wp2_with fail
      refine (HPu.out w2 HB2.out).mono ?_
      rintro e w3 ⟨ta, tn, tc, fk, rfl, hIk, hfk, hb3⟩
      have HIk : Hid ((nodeOf s').In w3 (.slice ta tn tc) fk) := hIk
      have Hfk : Hid (∀ x ∈ fk, x ∈ fp ∨ W.heap.size ≤ x) := hfk
      have HB3 : Hid (Below W.heap.size W w3) := hb3
      clear hIk hfk hb3 HH HPu HB2 q0 q1 q2 q3 q4 b4
      obtain ⟨Z, hZ⟩ : ∃ x, w3.alloc (.cells #[.int .i64 nt.k, .int .i64 nt.w, .int .i64 nt.h, .int .i64 nt.i, .slice ta tn tc] 73) = x := ⟨_, rfl⟩
      have HZ : Hid (w3.alloc (.cells #[.int .i64 nt.k, .int .i64 nt.w, .int .i64 nt.h, .int .i64 nt.i, .slice ta tn tc] 73) = Z) := hZ
      have hbZ : Below w3.heap.size w3 Z := by rw [← hZ]; exact (Below.refl _ _).alloc (Nat.le_refl _) _
      have hkZ : Z.heap[w3.heap.size]? = some (.cells #[.int .i64 nt.k, .int .i64 nt.w, .int .i64 nt.h, .int .i64 nt.i, .slice ta tn tc] 73 (0, 0)) := by rw [← hZ]; exact heap_alloc_new _ _
      have HBZ : Hid (Below W.heap.size W Z) := below_step HB3.out hbZ
      have b0 : Z.cell? ⟨w.heap.size, 0, none⟩ = some (.int .i64 k') := cell_atL (HPa.out Z HBZ.out) 0
      have b1 : Z.cell? ⟨w.heap.size, 1, none⟩ = some (.int .i64 b.w) := cell_atL (HPa.out Z HBZ.out) 1
      have b2 : Z.cell? ⟨w.heap.size, 2, none⟩ = some (.int .i64 b.h) := cell_atL (HPa.out Z HBZ.out) 2
      have b3 : Z.cell? ⟨w.heap.size, 3, none⟩ = some (.int .i64 0) := cell_atL (HPa.out Z HBZ.out) 3
      have b4 : Z.cell? ⟨w.heap.size, 4, none⟩ = some (.slice (some ⟨g, 0, none⟩) L cap0) := cell_atL (HPa.out Z HBZ.out) 4
      clear hZ hbZ hkZ
      go_upto_region 6 with fail
      rw [HZ.out]
      go_wp2_with fail
      refine (HBo.out Z HBZ.out).mono ?_
      rintro e w5 ⟨ua, un, uc, fm, rfl, hIm, hfm, hb5⟩
      have HIm : Hid ((nodeOf (.split b k' rs)).In w5 (.slice ua un uc) fm) := hIm
      have Hfm : Hid (∀ x ∈ fm, x ∈ fp ∨ W.heap.size ≤ x) := hfm
      have HB5 : Hid (Below W.heap.size W w5) := hb5
      clear hIm hfm hb5 b0 b1 b2 b3 b4
      obtain ⟨Y, hY⟩ : ∃ x, w5.alloc (.cells #[.int .i64 nb.k, .int .i64 nb.w, .int .i64 nb.h, .int .i64 nb.i, .slice ua un uc] 73) = x := ⟨_, rfl⟩
      have HY : Hid (w5.alloc (.cells #[.int .i64 nb.k, .int .i64 nb.w, .int .i64 nb.h, .int .i64 nb.i, .slice ua un uc] 73) = Y) := hY
      have hbY : Below w5.heap.size w5 Y := by rw [← hY]; exact (Below.refl _ _).alloc (Nat.le_refl _) _
      have hkY : Y.heap[w5.heap.size]? = some (.cells #[.int .i64 nb.k, .int .i64 nb.w, .int .i64 nb.h, .int .i64 nb.i, .slice ua un uc] 73 (0, 0)) := by rw [← hY]; exact heap_alloc_new _ _
      have HBY : Hid (Below W.heap.size W Y) := below_step HB5.out hbY
      have HF : Hid (∀ v0 v1 v2 v3 v4, PuA (.split b k' rs) mm true fp w (.returned (.tuple #[.agg #[.int .i64 nb.k, .int .i64 nb.w, .int .i64 nb.h, .int .i64 nb.i, .slice ua un uc], .int .i64 mm, .bool true])) (set5 Y (w.heap.size + 1) v0 v1 v2 v3 v4)) := fun v0 v1 v2 v3 v4 => pu_made HNb.out (HIm.out.below hbY) (fun q hq => by
        rcases Hfm.out q hq with h | h
        · exact .inl h
        · exact .inr (by have := HWs.out; omega)) HFp.out (below_step HBW.out HBY.out) v0 v1 v2 v3 v4
      have m0 := cell_atL hkY 0
      have m1 := cell_atL hkY 1
      have m2 := cell_atL hkY 2
      have m3 := cell_atL hkY 3
      have m4 := cell_atL hkY 4
      have r0 : Y.cell? ⟨w.heap.size + 1, 0, none⟩ = some (.int .i64 0) := cell_atL (HRe.out Y HBY.out) 0
      have f0 := free_atL (HRe.out Y HBY.out) 0
      have r1 : Y.cell? ⟨w.heap.size + 1, 1, none⟩ = some (.int .i64 0) := cell_atL (HRe.out Y HBY.out) 1
      have f1 := free_atL (HRe.out Y HBY.out) 1
      have r2 : Y.cell? ⟨w.heap.size + 1, 2, none⟩ = some (.int .i64 0) := cell_atL (HRe.out Y HBY.out) 2
      have f2 := free_atL (HRe.out Y HBY.out) 2
      have r3 : Y.cell? ⟨w.heap.size + 1, 3, none⟩ = some (.int .i64 0) := cell_atL (HRe.out Y HBY.out) 3
      have f3 := free_atL (HRe.out Y HBY.out) 3
      have r4 : Y.cell? ⟨w.heap.size + 1, 4, none⟩ = some (.slice none 0 0) := cell_atL (HRe.out Y HBY.out) 4
      have f4 := free_atL (HRe.out Y HBY.out) 4
      clear hY hbY hkY
      go_upto_region 19 with fail
      rw [HY.out]
      go_wp2
      exact bodyPost_ret (v := .tuple #[.agg #[.int .i64 nb.k, .int .i64 nb.w, .int .i64 nb.h, .int .i64 nb.i, .slice ua un uc], .int .i64 mm, .bool true]) (by simp [results, Try.results52, go_sem, r0, r1, r2, r3, r4]) rfl (HF.out _ _ _ _ _)

end Go.Proofs.Ytkaaadbfmbkjeaa

namespace Go.Proofs.Ytkaaadbfmbkjeaa
open Go.RowKit
set_option linter.unusedVariables false
set_option maxRecDepth 100000

set_option maxHeartbeats 8000000 in
theorem pushed_here1 (n k q : Int) (b : Box) (k' : Int) (ts : List Tree) (i : Nat) (s s' : Tree) (mv : Int) (hi : ts[i]? = some s) (hpre : ∀ (a : Nat) u, a < i → ts[a]? = some u → q ∉ u.idl) (hq : q ∈ s.idl) (hs : (Tree.split b k' ts).sound = true) (hk : (Tree.split b k' ts).kinds) (hz : (Tree.split b k' ts).size ≤ 900) (IH : PuGood true n k q s s' mv false) (hkk : k' = k) (rs : List Tree) (c : Nat) (m got : Int) (hc : c = min i (ts.length - 2)) (hM : Moved k' ts m rs c got) (hm : n - s.box.ext k = m) (hnE : 1 ≤ n ∧ n ≤ 1000) (hci : c = i) : PuGood true n k q (.split b k' ts) (.split b k' rs) (movedI m got) true := by
  intro sl fp w hIn
  unfold Tree.sound at hs
  simp only [Bool.and_eq_true, decide_eq_true_eq] at hs
  change 1 + sizes ts ≤ 900 at hz
  have h2 := hs.1.1
  have hll := length_sizes ts
  have hIn0 := hIn
  change (Node.mk k' b.w b.h 0 (nodesOf ts)).In w sl fp at hIn
  obtain ⟨g, cap0, hsl, hg, hkd⟩ := hIn.kids (by intro e; have := congrArg List.length e; rw [nodesOf_length] at this; simp at this; rw [this] at h2; simp at h2)
  rw [nodesOf_length] at hsl
  obtain ⟨L, hL⟩ : ∃ L, ts.length = L := ⟨_, rfl⟩
  rw [hL] at hsl h2 hll
  subst hsl
  have hil : i < L := by rw [← hL]; exact (List.getElem?_eq_some_iff.1 hi).1
  have hL9 : L ≤ 900 := by omega
  have HFp : Hid (∀ q ∈ fp, q < w.heap.size) := hIn.lt
  obtain ⟨W, hW⟩ : ∃ W, (w.alloc (.cells #[.int .i64 k', .int .i64 b.w, .int .i64 b.h, .int .i64 0, .slice (some ⟨g, 0, none⟩) L cap0] 73)).alloc (.cells zeroN 73) = W := ⟨_, rfl⟩
  have hbW : Below w.heap.size w W := by rw [← hW]; exact ((Below.refl _ _).alloc (Nat.le_refl _) _).alloc (by simp) _
  have hWs : W.heap.size = w.heap.size + 2 := by rw [← hW]; simp
  have hP : W.heap[w.heap.size]? = some (.cells #[.int .i64 k', .int .i64 b.w, .int .i64 b.h, .int .i64 0, .slice (some ⟨g, 0, none⟩) L cap0] 73 (0, 0)) := by
    rw [← hW]
    exact (Below.heap_alloc _ _ _ (by simp)).trans (heap_alloc_new _ _)
  have hR : W.heap[w.heap.size + 1]? = some (.cells zeroN 73 (0, 0)) := by
    rw [← hW]
    have h := heap_alloc_new (w.alloc (.cells #[.int .i64 k', .int .i64 b.w, .int .i64 b.h, .int .i64 0, .slice (some ⟨g, 0, none⟩) L cap0] 73)) (.cells zeroN 73)
    rw [show (w.alloc (.cells #[.int .i64 k', .int .i64 b.w, .int .i64 b.h, .int .i64 0, .slice (some ⟨g, 0, none⟩) L cap0] 73)).heap.size = w.heap.size + 1 by simp] at h
    exact h
  have HPa : Hid (∀ X, Below W.heap.size W X → X.heap[w.heap.size]? = some (.cells #[.int .i64 k', .int .i64 b.w, .int .i64 b.h, .int .i64 0, .slice (some ⟨g, 0, none⟩) L cap0] 73 (0, 0))) := fun X hX => (hX.block _ (by omega)).trans hP
  have HRe : Hid (∀ X, Below W.heap.size W X → X.heap[w.heap.size + 1]? = some (.cells zeroN 73 (0, 0))) := fun X hX => (hX.block _ (by omega)).trans hR
  have HKid : Hid (∀ (j : Nat) t, ts[j]? = some t → ∃ sa sn sc f, (∀ q ∈ f, q ∈ fp) ∧ ∀ X, Below W.heap.size W X → (nodeOf t).In X (.slice sa sn sc) f ∧ KidIn X g (j * 5) (nodeOf t) (.slice sa sn sc)) := fun j t ht => node_kid (hIn.below hbW) hL j t ht
  have HIds : Hid (∀ (j : Nat) t, ts[j]? = some t → (nodeOf t).ids = t.idl ∧ t.idl.length ≤ 1000 ∧ t.idl ≠ [] ∧ (nodeOf t).cnt ≤ 1000) := fun j t ht => by
    have hsd := soundAll_at ts b k' j t ht hs.2.1
    simp only [Bool.and_eq_true, decide_eq_true_eq] at hsd
    have hkt := kindsAll_at ts j t ht hk.2
    have hst := sizes_at ts j t ht
    have h1 := ids_idl t hkt
    have h3 := ids_cnt (nodeOf t)
    rw [cnt_of] at h3
    exact ⟨h1, by rw [← h1]; omega, by rw [← h1]; exact idl_ne t hkt hsd.1, by rw [cnt_of]; omega⟩
  have HIn : Hid (∀ X, Below w.heap.size w X → (nodeOf (.split b k' ts)).In X (.slice (some ⟨g, 0, none⟩) L cap0) fp) := fun X hX => hIn0.below hX
  have HBW : Hid (Below w.heap.size w W) := hbW
  have HWs : Hid (W.heap.size = w.heap.size + 2) := hWs
  have HW : Hid ((w.alloc (.cells #[.int .i64 k', .int .i64 b.w, .int .i64 b.h, .int .i64 0, .slice (some ⟨g, 0, none⟩) L cap0] 73)).alloc (.cells zeroN 73) = W) := hW
  have HL : Hid (ts.length = L) := hL
  have HPre : Hid (∀ (a : Nat) u, a < i → ts[a]? = some u → q ∉ u.idl) := hpre
  have HQ : Hid (q ∈ s.idl) := hq
  have HI : Hid (ts[i]? = some s) := hi
  have HIH : Hid (PuGood true n k q s s' mv false) := IH
  have hcm : min (i : Int) ((L : Int) - 2) = (c : Int) := by rw [hc, ← hL]; omega
  have hcL : c + 1 < L := by rw [hc, ← hL]; omega
  have hw2 : IntKind.i64.wrap ((L : Int) - 2) = (L : Int) - 2 := by rw [IntKind.wrap_i64]; omega
  have hkn : (k' != k) = false := by simpa using hkk
  obtain ⟨nb, hnb⟩ : ∃ x, nodeOf (.split b k' rs) = x := ⟨_, rfl⟩
  have HNb : Hid (nodeOf (.split b k' rs) = nb) := hnb
  obtain ⟨mm, hmm⟩ : ∃ x, movedI m got = x := ⟨_, rfl⟩
  have HBo : Hid (∀ X, Below W.heap.size W X → Calls Try.prog 77 #[.agg #[.int .i64 k', .int .i64 b.w, .int .i64 b.h, .int .i64 0, .slice (some ⟨g, 0, none⟩) L cap0], .int .i64 c, .int .i64 m] X fun e w' => ∃ ta tn tc fk, e = .returned (.tuple #[.agg #[.int .i64 nb.k, .int .i64 nb.w, .int .i64 nb.h, .int .i64 nb.i, .slice ta tn tc], .int .i64 mm]) ∧ (nodeOf (.split b k' rs)).In w' (.slice ta tn tc) fk ∧ (∀ x ∈ fk, x ∈ fp ∨ W.heap.size ≤ x) ∧ Below W.heap.size W w') := fun X hX => by
    refine (bordR_any b k' ts rs c m got _ fp X hM (by omega) (by omega) (by omega) (HIn.out X (below_step HBW.out hX))).mono ?_
    rintro e w' ⟨ta, tn, tc, fk, rfl, h1, h3, h4⟩
    refine ⟨ta, tn, tc, fk, by rw [hnb, hmm]; rfl, h1, fun x hx => ?_, below_step hX h4⟩
    rcases h3 x hx with h5 | h5
    · exact .inl h5
    · exact .inr (Nat.le_trans hX.size h5)
  rw [hmm]
  obtain ⟨E, hE⟩ : ∃ x, s.box.ext k = x := ⟨_, rfl⟩
  have hEb : 1 ≤ E ∧ E ≤ 1000 := by
    have hsd := soundAll_at ts b k' i s hi hs.2.1
    simp only [Bool.and_eq_true, decide_eq_true_eq] at hsd
    have h := sides_ext s.box k (s.sound_sides hsd.1)
    rw [hE] at h
    omega
  have HE : Hid ((nodeOf s).ext k = E) := by
    show (nodeOf s).ext k = E
    rw [← hE]
    unfold Node.ext Box.ext
    rw [nodeOf_w, nodeOf_h]
  have hw3 : IntKind.i64.wrap (n - E) = n - E := by rw [IntKind.wrap_i64]; omega
  rw [hE] at hm
  subst hm
  have hci2 : ((c : Int) != (i : Int)) = false := by
    have : (c : Int) = (i : Int) := by omega
    simpa using this
  unfold zeroN at HW
  show Calls Try.prog 52 #[.agg #[.int .i64 k', .int .i64 b.w, .int .i64 b.h, .int .i64 0, .slice (some ⟨g, 0, none⟩) L cap0], .int .i64 q, .int .i64 k, .int .i64 n, .bool true] w _
  clear hkd hIn hIn0 hbW hWs hP hR hW hs hk hz hll hL hpre hq hi IH hkk hM hc hnb hmm hnE hE hEb hci
  go_enter Try.func52, Try.ntmps52
  go_upto_region 1 with fail
  rw [HW.out]
  go_wp2
  go_loopw [3, 13] (fun u v wr => u = .int .i64 n ∧ ∃ j : Nat, j ≤ i ∧ v = .int .i64 j ∧ Hid (Below W.heap.size W wr)) (fun _ v _ => i - (intOf v).toNat)
  case atStart => exact ⟨rfl, 0, Nat.zero_le _, rfl, Below.refl _ _⟩
  case round =>
    obtain ⟨rfl, j, hj, rfl, HBr⟩ := hrel
    obtain ⟨t, ht⟩ : ∃ t, ts[j]? = some t := ⟨_, List.getElem?_eq_getElem (by rw [HL.out]; omega)⟩
    obtain ⟨sa, sn, sc, f, hf, hKX⟩ := HKid.out j t ht
    obtain ⟨e1, ⟨q0, q1, q2, q3, q4⟩⟩ := hKX wr HBr.out
    obtain ⟨i1, i2, i3, i4⟩ := HIds.out j t ht
    have hjL : j < L := by omega
    have HId : Hid (Calls Try.prog 34 #[.agg #[.int .i64 (nodeOf t).k, .int .i64 (nodeOf t).w, .int .i64 (nodeOf t).h, .int .i64 (nodeOf t).i, .slice sa sn sc]] wr fun e w' => ∃ u, e = .returned u ∧ Below W.heap.size W w' ∧ Calls Try.prog 35 #[u, .int .i64 q] w' fun e w'' => e = .returned (.bool (decide (q ∈ t.idl))) ∧ w' = w'') := by
      refine (ids_good (nodeOf t) i4 _ f wr e1).mono ?_
      rintro e w' ⟨u, rfl, h1, h2⟩
      rw [i1] at h1
      exact ⟨u, rfl, below_step HBr.out h2, has_any u t.idl _ q w' h1 i2 i3⟩
    have b4 : wr.cell? ⟨w.heap.size, 4, none⟩ = some (.slice (some ⟨g, 0, none⟩) L cap0) := cell_atL (HPa.out wr HBr.out) 4
    have HKX : Hid (∀ X, Below W.heap.size W X → (nodeOf t).In X (.slice sa sn sc) f ∧ KidIn X g (j * 5) (nodeOf t) (.slice sa sn sc)) := hKX
    have HT : Hid (ts[j]? = some t) := ht
    have Hf : Hid (∀ q ∈ f, q ∈ fp) := hf
    obtain ⟨nn, hnn⟩ : ∃ x, nodeOf t = x := ⟨_, rfl⟩
    have HNo : Hid (nodeOf t = nn) := hnn
    rw [hnn] at q0 q1 q2 q3 HId
    clear e1 i1 i2 i3 i4 ht hf hKX hnn
    by_cases hlt : j < i
    · have HD : Hid (decide (q ∈ t.idl) = false) := decide_eq_false (HPre.out j t hlt HT.out)
      rw [HD.out] at HId
      go_wp2_with fail
      refine HId.out.mono ?_
      rintro e w2 ⟨u, rfl, hb2, hh⟩
      have HH : Hid (Calls Try.prog 35 #[u, .int .i64 q] w2 fun e w'' => e = .returned (.bool false) ∧ w2 = w'') := hh
      have HB2 : Hid (Below W.heap.size W w2) := hb2
      clear hb2 hh HId q0 q1 q2 q3 q4 b4
      go_wp2_with fail
      refine HH.out.mono ?_
      rintro e w3 ⟨rfl, rfl⟩
      go_wp2
      go_roundw
      case rel => exact ⟨rfl, j + 1, by omega, by go_num, HB2⟩
      case measure => simp [intOf]; omega
    · have hji : j = i := by omega
      subst hji
      have hts : t = s := by
        have h1 := HT.out
        rw [HI.out] at h1
        exact (Option.some.inj h1).symm
      subst hts
      have HD : Hid (decide (q ∈ t.idl) = true) := decide_eq_true HQ.out
      rw [HD.out] at HId
      obtain ⟨nt, hnt⟩ : ∃ x, nodeOf s' = x := ⟨_, rfl⟩
      have HNt : Hid (nodeOf s' = nt) := hnt
      have HPu : Hid (∀ X, Below W.heap.size W X → Calls Try.prog 52 #[.agg #[.int .i64 nn.k, .int .i64 nn.w, .int .i64 nn.h, .int .i64 nn.i, .slice sa sn sc], .int .i64 q, .int .i64 k, .int .i64 n, .bool true] X fun e w' => ∃ ta tn tc fk, e = .returned (.tuple #[.agg #[.int .i64 nt.k, .int .i64 nt.w, .int .i64 nt.h, .int .i64 nt.i, .slice ta tn tc], .int .i64 mv, .bool false]) ∧ (nodeOf s').In w' (.slice ta tn tc) fk ∧ (∀ x ∈ fk, x ∈ fp ∨ W.heap.size ≤ x) ∧ Below W.heap.size W w') := fun X hX => by
        have h := HIH.out _ f X (HKX.out X hX).1
        rw [HNo.out] at h
        refine Calls.mono h ?_
        rintro e w' ⟨ta, tn, tc, fk, rfl, h1, h2, h3⟩
        refine ⟨ta, tn, tc, fk, by rw [HNt.out]; rfl, h1, fun x hx => ?_, below_step hX h3⟩
        rcases h2 x hx with h4 | h4
        · exact .inl (Hf.out x h4)
        · exact .inr (Nat.le_trans hX.size h4)
      go_wp2_with fail
      refine HId.out.mono ?_
      rintro e w2 ⟨u, rfl, hb2, hh⟩
      have HH : Hid (Calls Try.prog 35 #[u, .int .i64 q] w2 fun e w'' => e = .returned (.bool true) ∧ w2 = w'') := hh
      have HB2 : Hid (Below W.heap.size W w2) := hb2
      clear hb2 hh HId q0 q1 q2 q3 q4 b4 hnt
      obtain ⟨_, ⟨q0, q1, q2, q3, q4⟩⟩ := HKX.out w2 HB2.out
      rw [HNo.out] at q0 q1 q2 q3
      have b4 : w2.cell? ⟨w.heap.size, 4, none⟩ = some (.slice (some ⟨g, 0, none⟩) L cap0) := cell_atL (HPa.out w2 HB2.out) 4
      go_wp2_with fail
      refine HH.out.mono ?_
      rintro e w3 ⟨rfl, rfl⟩
      go_wp2_with fail
      refine (HPu.out w2 HB2.out).mono ?_
      rintro e w3 ⟨ta, tn, tc, fk, rfl, hIk, hfk, hb3⟩
      have HIk : Hid ((nodeOf s').In w3 (.slice ta tn tc) fk) := hIk
      have Hfk : Hid (∀ x ∈ fk, x ∈ fp ∨ W.heap.size ≤ x) := hfk
      have HB3 : Hid (Below W.heap.size W w3) := hb3
      clear hIk hfk hb3 HH HPu HB2 q0 q1 q2 q3 q4 b4
      obtain ⟨Z, hZ⟩ : ∃ x, w3.alloc (.cells #[.int .i64 nt.k, .int .i64 nt.w, .int .i64 nt.h, .int .i64 nt.i, .slice ta tn tc] 73) = x := ⟨_, rfl⟩
      have HZ : Hid (w3.alloc (.cells #[.int .i64 nt.k, .int .i64 nt.w, .int .i64 nt.h, .int .i64 nt.i, .slice ta tn tc] 73) = Z) := hZ
      have hbZ : Below w3.heap.size w3 Z := by rw [← hZ]; exact (Below.refl _ _).alloc (Nat.le_refl _) _
      have hkZ : Z.heap[w3.heap.size]? = some (.cells #[.int .i64 nt.k, .int .i64 nt.w, .int .i64 nt.h, .int .i64 nt.i, .slice ta tn tc] 73 (0, 0)) := by rw [← hZ]; exact heap_alloc_new _ _
      have HBZ : Hid (Below W.heap.size W Z) := below_step HB3.out hbZ
      have b0 : Z.cell? ⟨w.heap.size, 0, none⟩ = some (.int .i64 k') := cell_atL (HPa.out Z HBZ.out) 0
      have b1 : Z.cell? ⟨w.heap.size, 1, none⟩ = some (.int .i64 b.w) := cell_atL (HPa.out Z HBZ.out) 1
      have b2 : Z.cell? ⟨w.heap.size, 2, none⟩ = some (.int .i64 b.h) := cell_atL (HPa.out Z HBZ.out) 2
      have b3 : Z.cell? ⟨w.heap.size, 3, none⟩ = some (.int .i64 0) := cell_atL (HPa.out Z HBZ.out) 3
      have b4 : Z.cell? ⟨w.heap.size, 4, none⟩ = some (.slice (some ⟨g, 0, none⟩) L cap0) := cell_atL (HPa.out Z HBZ.out) 4
      clear hZ hbZ hkZ
      go_upto_region 6 with fail
      rw [HZ.out]
      obtain ⟨_, ⟨q0, q1, q2, q3, q4⟩⟩ := HKX.out Z HBZ.out
      rw [HNo.out] at q0 q1 q2 q3
      have HEx : Hid (Calls Try.prog 37 #[.agg #[.int .i64 nn.k, .int .i64 nn.w, .int .i64 nn.h, .int .i64 nn.i, .slice sa sn sc], .int .i64 k] Z fun e w' => e = .returned (.int .i64 E) ∧ Below Z.heap.size Z w') := by
        have h := ref_extent nn sa sn sc k Z
        rw [show nn.ext k = E by rw [← HNo.out]; exact HE.out] at h
        exact h
      go_wp2_with fail
      refine HEx.out.mono ?_
      rintro e w4 ⟨rfl, hb4⟩
      have HBw4 : Hid (Below W.heap.size W w4) := below_step HBZ.out hb4
      clear q0 q1 q2 q3 q4 b0 b1 b2 b3 b4 hb4 HEx
      have b0 : w4.cell? ⟨w.heap.size, 0, none⟩ = some (.int .i64 k') := cell_atL (HPa.out w4 HBw4.out) 0
      have b1 : w4.cell? ⟨w.heap.size, 1, none⟩ = some (.int .i64 b.w) := cell_atL (HPa.out w4 HBw4.out) 1
      have b2 : w4.cell? ⟨w.heap.size, 2, none⟩ = some (.int .i64 b.h) := cell_atL (HPa.out w4 HBw4.out) 2
      have b3 : w4.cell? ⟨w.heap.size, 3, none⟩ = some (.int .i64 0) := cell_atL (HPa.out w4 HBw4.out) 3
      have b4 : w4.cell? ⟨w.heap.size, 4, none⟩ = some (.slice (some ⟨g, 0, none⟩) L cap0) := cell_atL (HPa.out w4 HBw4.out) 4
      go_wp2_with fail
      refine (HBo.out w4 HBw4.out).mono ?_
      rintro e w5 ⟨ua, un, uc, fm, rfl, hIm, hfm, hb5⟩
      have HIm : Hid ((nodeOf (.split b k' rs)).In w5 (.slice ua un uc) fm) := hIm
      have Hfm : Hid (∀ x ∈ fm, x ∈ fp ∨ W.heap.size ≤ x) := hfm
      have HB5 : Hid (Below W.heap.size W w5) := hb5
      clear hIm hfm hb5 b0 b1 b2 b3 b4
      obtain ⟨Y, hY⟩ : ∃ x, w5.alloc (.cells #[.int .i64 nb.k, .int .i64 nb.w, .int .i64 nb.h, .int .i64 nb.i, .slice ua un uc] 73) = x := ⟨_, rfl⟩
      have HY : Hid (w5.alloc (.cells #[.int .i64 nb.k, .int .i64 nb.w, .int .i64 nb.h, .int .i64 nb.i, .slice ua un uc] 73) = Y) := hY
      have hbY : Below w5.heap.size w5 Y := by rw [← hY]; exact (Below.refl _ _).alloc (Nat.le_refl _) _
      have hkY : Y.heap[w5.heap.size]? = some (.cells #[.int .i64 nb.k, .int .i64 nb.w, .int .i64 nb.h, .int .i64 nb.i, .slice ua un uc] 73 (0, 0)) := by rw [← hY]; exact heap_alloc_new _ _
      have HBY : Hid (Below W.heap.size W Y) := below_step HB5.out hbY
      have HF : Hid (∀ v0 v1 v2 v3 v4, PuA (.split b k' rs) mm true fp w (.returned (.tuple #[.agg #[.int .i64 nb.k, .int .i64 nb.w, .int .i64 nb.h, .int .i64 nb.i, .slice ua un uc], .int .i64 mm, .bool true])) (set5 Y (w.heap.size + 1) v0 v1 v2 v3 v4)) := fun v0 v1 v2 v3 v4 => pu_made HNb.out (HIm.out.below hbY) (fun q hq => by
        rcases Hfm.out q hq with h | h
        · exact .inl h
        · exact .inr (by have := HWs.out; omega)) HFp.out (below_step HBW.out HBY.out) v0 v1 v2 v3 v4
      have m0 := cell_atL hkY 0
      have m1 := cell_atL hkY 1
      have m2 := cell_atL hkY 2
      have m3 := cell_atL hkY 3
      have m4 := cell_atL hkY 4
      have r0 : Y.cell? ⟨w.heap.size + 1, 0, none⟩ = some (.int .i64 0) := cell_atL (HRe.out Y HBY.out) 0
      have f0 := free_atL (HRe.out Y HBY.out) 0
      have r1 : Y.cell? ⟨w.heap.size + 1, 1, none⟩ = some (.int .i64 0) := cell_atL (HRe.out Y HBY.out) 1
      have f1 := free_atL (HRe.out Y HBY.out) 1
      have r2 : Y.cell? ⟨w.heap.size + 1, 2, none⟩ = some (.int .i64 0) := cell_atL (HRe.out Y HBY.out) 2
      have f2 := free_atL (HRe.out Y HBY.out) 2
      have r3 : Y.cell? ⟨w.heap.size + 1, 3, none⟩ = some (.int .i64 0) := cell_atL (HRe.out Y HBY.out) 3
      have f3 := free_atL (HRe.out Y HBY.out) 3
      have r4 : Y.cell? ⟨w.heap.size + 1, 4, none⟩ = some (.slice none 0 0) := cell_atL (HRe.out Y HBY.out) 4
      have f4 := free_atL (HRe.out Y HBY.out) 4
      clear hY hbY hkY
      go_upto_region 19 with fail
      rw [HY.out]
      go_wp2
      exact bodyPost_ret (v := .tuple #[.agg #[.int .i64 nb.k, .int .i64 nb.w, .int .i64 nb.h, .int .i64 nb.i, .slice ua un uc], .int .i64 mm, .bool true]) (by simp [results, Try.results52, go_sem, r0, r1, r2, r3, r4]) rfl (HF.out _ _ _ _ _)

end Go.Proofs.Ytkaaadbfmbkjeaa

namespace Go.Proofs.Ytkaaadbfmbkjeaa
open Go.RowKit
set_option linter.unusedVariables false
set_option maxRecDepth 100000

set_option maxHeartbeats 8000000 in
theorem pushed_here2 (n k q : Int) (b : Box) (k' : Int) (ts : List Tree) (i : Nat) (s s' : Tree) (mv : Int) (hi : ts[i]? = some s) (hpre : ∀ (a : Nat) u, a < i → ts[a]? = some u → q ∉ u.idl) (hq : q ∈ s.idl) (hs : (Tree.split b k' ts).sound = true) (hk : (Tree.split b k' ts).kinds) (hz : (Tree.split b k' ts).size ≤ 900) (IH : PuGood true n k q s s' mv false) (hkk : k' = k) (rs : List Tree) (c : Nat) (m got : Int) (hc : c = min i (ts.length - 2)) (hM : Moved k' ts m rs c got) (hm : -(n - s.box.ext k) = m) (hnE : 1 ≤ n ∧ n ≤ 1000) (hci : c ≠ i) : PuGood true n k q (.split b k' ts) (.split b k' rs) (movedI m got) true := by
  intro sl fp w hIn
  unfold Tree.sound at hs
  simp only [Bool.and_eq_true, decide_eq_true_eq] at hs
  change 1 + sizes ts ≤ 900 at hz
  have h2 := hs.1.1
  have hll := length_sizes ts
  have hIn0 := hIn
  change (Node.mk k' b.w b.h 0 (nodesOf ts)).In w sl fp at hIn
  obtain ⟨g, cap0, hsl, hg, hkd⟩ := hIn.kids (by intro e; have := congrArg List.length e; rw [nodesOf_length] at this; simp at this; rw [this] at h2; simp at h2)
  rw [nodesOf_length] at hsl
  obtain ⟨L, hL⟩ : ∃ L, ts.length = L := ⟨_, rfl⟩
  rw [hL] at hsl h2 hll
  subst hsl
  have hil : i < L := by rw [← hL]; exact (List.getElem?_eq_some_iff.1 hi).1
  have hL9 : L ≤ 900 := by omega
  have HFp : Hid (∀ q ∈ fp, q < w.heap.size) := hIn.lt
  obtain ⟨W, hW⟩ : ∃ W, (w.alloc (.cells #[.int .i64 k', .int .i64 b.w, .int .i64 b.h, .int .i64 0, .slice (some ⟨g, 0, none⟩) L cap0] 73)).alloc (.cells zeroN 73) = W := ⟨_, rfl⟩
  have hbW : Below w.heap.size w W := by rw [← hW]; exact ((Below.refl _ _).alloc (Nat.le_refl _) _).alloc (by simp) _
  have hWs : W.heap.size = w.heap.size + 2 := by rw [← hW]; simp
  have hP : W.heap[w.heap.size]? = some (.cells #[.int .i64 k', .int .i64 b.w, .int .i64 b.h, .int .i64 0, .slice (some ⟨g, 0, none⟩) L cap0] 73 (0, 0)) := by
    rw [← hW]
    exact (Below.heap_alloc _ _ _ (by simp)).trans (heap_alloc_new _ _)
  have hR : W.heap[w.heap.size + 1]? = some (.cells zeroN 73 (0, 0)) := by
    rw [← hW]
    have h := heap_alloc_new (w.alloc (.cells #[.int .i64 k', .int .i64 b.w, .int .i64 b.h, .int .i64 0, .slice (some ⟨g, 0, none⟩) L cap0] 73)) (.cells zeroN 73)
    rw [show (w.alloc (.cells #[.int .i64 k', .int .i64 b.w, .int .i64 b.h, .int .i64 0, .slice (some ⟨g, 0, none⟩) L cap0] 73)).heap.size = w.heap.size + 1 by simp] at h
    exact h
  have HPa : Hid (∀ X, Below W.heap.size W X → X.heap[w.heap.size]? = some (.cells #[.int .i64 k', .int .i64 b.w, .int .i64 b.h, .int .i64 0, .slice (some ⟨g, 0, none⟩) L cap0] 73 (0, 0))) := fun X hX => (hX.block _ (by omega)).trans hP
  have HRe : Hid (∀ X, Below W.heap.size W X → X.heap[w.heap.size + 1]? = some (.cells zeroN 73 (0, 0))) := fun X hX => (hX.block _ (by omega)).trans hR
  have HKid : Hid (∀ (j : Nat) t, ts[j]? = some t → ∃ sa sn sc f, (∀ q ∈ f, q ∈ fp) ∧ ∀ X, Below W.heap.size W X → (nodeOf t).In X (.slice sa sn sc) f ∧ KidIn X g (j * 5) (nodeOf t) (.slice sa sn sc)) := fun j t ht => node_kid (hIn.below hbW) hL j t ht
  have HIds : Hid (∀ (j : Nat) t, ts[j]? = some t → (nodeOf t).ids = t.idl ∧ t.idl.length ≤ 1000 ∧ t.idl ≠ [] ∧ (nodeOf t).cnt ≤ 1000) := fun j t ht => by
    have hsd := soundAll_at ts b k' j t ht hs.2.1
    simp only [Bool.and_eq_true, decide_eq_true_eq] at hsd
    have hkt := kindsAll_at ts j t ht hk.2
    have hst := sizes_at ts j t ht
    have h1 := ids_idl t hkt
    have h3 := ids_cnt (nodeOf t)
    rw [cnt_of] at h3
    exact ⟨h1, by rw [← h1]; omega, by rw [← h1]; exact idl_ne t hkt hsd.1, by rw [cnt_of]; omega⟩
  have HIn : Hid (∀ X, Below w.heap.size w X → (nodeOf (.split b k' ts)).In X (.slice (some ⟨g, 0, none⟩) L cap0) fp) := fun X hX => hIn0.below hX
  have HBW : Hid (Below w.heap.size w W) := hbW
  have HWs : Hid (W.heap.size = w.heap.size + 2) := hWs
  have HW : Hid ((w.alloc (.cells #[.int .i64 k', .int .i64 b.w, .int .i64 b.h, .int .i64 0, .slice (some ⟨g, 0, none⟩) L cap0] 73)).alloc (.cells zeroN 73) = W) := hW
  have HL : Hid (ts.length = L) := hL
  have HPre : Hid (∀ (a : Nat) u, a < i → ts[a]? = some u → q ∉ u.idl) := hpre
  have HQ : Hid (q ∈ s.idl) := hq
  have HI : Hid (ts[i]? = some s) := hi
  have HIH : Hid (PuGood true n k q s s' mv false) := IH
  have hcm : min (i : Int) ((L : Int) - 2) = (c : Int) := by rw [hc, ← hL]; omega
  have hcL : c + 1 < L := by rw [hc, ← hL]; omega
  have hw2 : IntKind.i64.wrap ((L : Int) - 2) = (L : Int) - 2 := by rw [IntKind.wrap_i64]; omega
  have hkn : (k' != k) = false := by simpa using hkk
  obtain ⟨nb, hnb⟩ : ∃ x, nodeOf (.split b k' rs) = x := ⟨_, rfl⟩
  have HNb : Hid (nodeOf (.split b k' rs) = nb) := hnb
  obtain ⟨mm, hmm⟩ : ∃ x, movedI m got = x := ⟨_, rfl⟩
  have HBo : Hid (∀ X, Below W.heap.size W X → Calls Try.prog 77 #[.agg #[.int .i64 k', .int .i64 b.w, .int .i64 b.h, .int .i64 0, .slice (some ⟨g, 0, none⟩) L cap0], .int .i64 c, .int .i64 m] X fun e w' => ∃ ta tn tc fk, e = .returned (.tuple #[.agg #[.int .i64 nb.k, .int .i64 nb.w, .int .i64 nb.h, .int .i64 nb.i, .slice ta tn tc], .int .i64 mm]) ∧ (nodeOf (.split b k' rs)).In w' (.slice ta tn tc) fk ∧ (∀ x ∈ fk, x ∈ fp ∨ W.heap.size ≤ x) ∧ Below W.heap.size W w') := fun X hX => by
    refine (bordR_any b k' ts rs c m got _ fp X hM (by omega) (by omega) (by omega) (HIn.out X (below_step HBW.out hX))).mono ?_
    rintro e w' ⟨ta, tn, tc, fk, rfl, h1, h3, h4⟩
    refine ⟨ta, tn, tc, fk, by rw [hnb, hmm]; rfl, h1, fun x hx => ?_, below_step hX h4⟩
    rcases h3 x hx with h5 | h5
    · exact .inl h5
    · exact .inr (Nat.le_trans hX.size h5)
  rw [hmm]
  obtain ⟨E, hE⟩ : ∃ x, s.box.ext k = x := ⟨_, rfl⟩
  have hEb : 1 ≤ E ∧ E ≤ 1000 := by
    have hsd := soundAll_at ts b k' i s hi hs.2.1
    simp only [Bool.and_eq_true, decide_eq_true_eq] at hsd
    have h := sides_ext s.box k (s.sound_sides hsd.1)
    rw [hE] at h
    omega
  have HE : Hid ((nodeOf s).ext k = E) := by
    show (nodeOf s).ext k = E
    rw [← hE]
    unfold Node.ext Box.ext
    rw [nodeOf_w, nodeOf_h]
  have hw3 : IntKind.i64.wrap (n - E) = n - E := by rw [IntKind.wrap_i64]; omega
  rw [hE] at hm
  subst hm
  have hci2 : ((c : Int) != (i : Int)) = true := by
    have : (c : Int) ≠ (i : Int) := by omega
    simpa using this
  have hw4 : IntKind.i64.wrap (-(n - E)) = -(n - E) := by rw [IntKind.wrap_i64]; omega
  unfold zeroN at HW
  show Calls Try.prog 52 #[.agg #[.int .i64 k', .int .i64 b.w, .int .i64 b.h, .int .i64 0, .slice (some ⟨g, 0, none⟩) L cap0], .int .i64 q, .int .i64 k, .int .i64 n, .bool true] w _
  clear hkd hIn hIn0 hbW hWs hP hR hW hs hk hz hll hL hpre hq hi IH hkk hM hc hnb hmm hnE hE hEb hci
  go_enter Try.func52, Try.ntmps52
  go_upto_region 1 with fail
  rw [HW.out]
  go_wp2
  go_loopw [3, 13] (fun u v wr => u = .int .i64 n ∧ ∃ j : Nat, j ≤ i ∧ v = .int .i64 j ∧ Hid (Below W.heap.size W wr)) (fun _ v _ => i - (intOf v).toNat)
  case atStart => exact ⟨rfl, 0, Nat.zero_le _, rfl, Below.refl _ _⟩
  case round =>
    obtain ⟨rfl, j, hj, rfl, HBr⟩ := hrel
    obtain ⟨t, ht⟩ : ∃ t, ts[j]? = some t := ⟨_, List.getElem?_eq_getElem (by rw [HL.out]; omega)⟩
    obtain ⟨sa, sn, sc, f, hf, hKX⟩ := HKid.out j t ht
    obtain ⟨e1, ⟨q0, q1, q2, q3, q4⟩⟩ := hKX wr HBr.out
    obtain ⟨i1, i2, i3, i4⟩ := HIds.out j t ht
    have hjL : j < L := by omega
    have HId : Hid (Calls Try.prog 34 #[.agg #[.int .i64 (nodeOf t).k, .int .i64 (nodeOf t).w, .int .i64 (nodeOf t).h, .int .i64 (nodeOf t).i, .slice sa sn sc]] wr fun e w' => ∃ u, e = .returned u ∧ Below W.heap.size W w' ∧ Calls Try.prog 35 #[u, .int .i64 q] w' fun e w'' => e = .returned (.bool (decide (q ∈ t.idl))) ∧ w' = w'') := by
      refine (ids_good (nodeOf t) i4 _ f wr e1).mono ?_
      rintro e w' ⟨u, rfl, h1, h2⟩
      rw [i1] at h1
      exact ⟨u, rfl, below_step HBr.out h2, has_any u t.idl _ q w' h1 i2 i3⟩
    have b4 : wr.cell? ⟨w.heap.size, 4, none⟩ = some (.slice (some ⟨g, 0, none⟩) L cap0) := cell_atL (HPa.out wr HBr.out) 4
    have HKX : Hid (∀ X, Below W.heap.size W X → (nodeOf t).In X (.slice sa sn sc) f ∧ KidIn X g (j * 5) (nodeOf t) (.slice sa sn sc)) := hKX
    have HT : Hid (ts[j]? = some t) := ht
    have Hf : Hid (∀ q ∈ f, q ∈ fp) := hf
    obtain ⟨nn, hnn⟩ : ∃ x, nodeOf t = x := ⟨_, rfl⟩
    have HNo : Hid (nodeOf t = nn) := hnn
    rw [hnn] at q0 q1 q2 q3 HId
    clear e1 i1 i2 i3 i4 ht hf hKX hnn
    by_cases hlt : j < i
    · have HD : Hid (decide (q ∈ t.idl) = false) := decide_eq_false (HPre.out j t hlt HT.out)
      rw [HD.out] at HId
      go_wp2_with fail
      refine HId.out.mono ?_
      rintro e w2 ⟨u, rfl, hb2, hh⟩
      have HH : Hid (Calls Try.prog 35 #[u, .int .i64 q] w2 fun e w'' => e = .returned (.bool false) ∧ w2 = w'') := hh
      have HB2 : Hid (Below W.heap.size W w2) := hb2
      clear hb2 hh HId q0 q1 q2 q3 q4 b4
      go_wp2_with fail
      refine HH.out.mono ?_
      rintro e w3 ⟨rfl, rfl⟩
      go_wp2
      go_roundw
      case rel => exact ⟨rfl, j + 1, by omega, by go_num, HB2⟩
      case measure => simp [intOf]; omega
    · have hji : j = i := by omega
      subst hji
      have hts : t = s := by
        have h1 := HT.out
        rw [HI.out] at h1
        exact (Option.some.inj h1).symm
      subst hts
      have HD : Hid (decide (q ∈ t.idl) = true) := decide_eq_true HQ.out
      rw [HD.out] at HId
      obtain ⟨nt, hnt⟩ : ∃ x, nodeOf s' = x := ⟨_, rfl⟩
      have HNt : Hid (nodeOf s' = nt) := hnt
      have HPu : Hid (∀ X, Below W.heap.size W X → Calls Try.prog 52 #[.agg #[.int .i64 nn.k, .int .i64 nn.w, .int .i64 nn.h, .int .i64 nn.i, .slice sa sn sc], .int .i64 q, .int .i64 k, .int .i64 n, .bool true] X fun e w' => ∃ ta tn tc fk, e = .returned (.tuple #[.agg #[.int .i64 nt.k, .int .i64 nt.w, .int .i64 nt.h, .int .i64 nt.i, .slice ta tn tc], .int .i64 mv, .bool false]) ∧ (nodeOf s').In w' (.slice ta tn tc) fk ∧ (∀ x ∈ fk, x ∈ fp ∨ W.heap.size ≤ x) ∧ Below W.heap.size W w') := fun X hX => by
        have h := HIH.out _ f X (HKX.out X hX).1
        rw [HNo.out] at h
        refine Calls.mono h ?_
        rintro e w' ⟨ta, tn, tc, fk, rfl, h1, h2, h3⟩
        refine ⟨ta, tn, tc, fk, by rw [HNt.out]; rfl, h1, fun x hx => ?_, below_step hX h3⟩
        rcases h2 x hx with h4 | h4
        · exact .inl (Hf.out x h4)
        · exact .inr (Nat.le_trans hX.size h4)
      go_wp2_with fail
      refine HId.out.mono ?_
      rintro e w2 ⟨u, rfl, hb2, hh⟩
      have HH : Hid (Calls Try.prog 35 #[u, .int .i64 q] w2 fun e w'' => e = .returned (.bool true) ∧ w2 = w'') := hh
      have HB2 : Hid (Below W.heap.size W w2) := hb2
      clear hb2 hh HId q0 q1 q2 q3 q4 b4 hnt
      obtain ⟨_, ⟨q0, q1, q2, q3, q4⟩⟩ := HKX.out w2 HB2.out
      rw [HNo.out] at q0 q1 q2 q3
      have b4 : w2.cell? ⟨w.heap.size, 4, none⟩ = some (.slice (some ⟨g, 0, none⟩) L cap0) := cell_atL (HPa.out w2 HB2.out) 4
      go_wp2_with fail
      refine HH.out.mono ?_
      rintro e w3 ⟨rfl, rfl⟩
      go_wp2_with fail
      refine (HPu.out w2 HB2.out).mono ?_
      rintro e w3 ⟨ta, tn, tc, fk, rfl, hIk, hfk, hb3⟩
      have HIk : Hid ((nodeOf s').In w3 (.slice ta tn tc) fk) := hIk
      have Hfk : Hid (∀ x ∈ fk, x ∈ fp ∨ W.heap.size ≤ x) := hfk
      have HB3 : Hid (Below W.heap.size W w3) := hb3
      clear hIk hfk hb3 HH HPu HB2 q0 q1 q2 q3 q4 b4
      obtain ⟨Z, hZ⟩ : ∃ x, w3.alloc (.cells #[.int .i64 nt.k, .int .i64 nt.w, .int .i64 nt.h, .int .i64 nt.i, .slice ta tn tc] 73) = x := ⟨_, rfl⟩
      have HZ : Hid (w3.alloc (.cells #[.int .i64 nt.k, .int .i64 nt.w, .int .i64 nt.h, .int .i64 nt.i, .slice ta tn tc] 73) = Z) := hZ
      have hbZ : Below w3.heap.size w3 Z := by rw [← hZ]; exact (Below.refl _ _).alloc (Nat.le_refl _) _
      have hkZ : Z.heap[w3.heap.size]? = some (.cells #[.int .i64 nt.k, .int .i64 nt.w, .int .i64 nt.h, .int .i64 nt.i, .slice ta tn tc] 73 (0, 0)) := by rw [← hZ]; exact heap_alloc_new _ _
      have HBZ : Hid (Below W.heap.size W Z) := below_step HB3.out hbZ
      have b0 : Z.cell? ⟨w.heap.size, 0, none⟩ = some (.int .i64 k') := cell_atL (HPa.out Z HBZ.out) 0
      have b1 : Z.cell? ⟨w.heap.size, 1, none⟩ = some (.int .i64 b.w) := cell_atL (HPa.out Z HBZ.out) 1
      have b2 : Z.cell? ⟨w.heap.size, 2, none⟩ = some (.int .i64 b.h) := cell_atL (HPa.out Z HBZ.out) 2
      have b3 : Z.cell? ⟨w.heap.size, 3, none⟩ = some (.int .i64 0) := cell_atL (HPa.out Z HBZ.out) 3
      have b4 : Z.cell? ⟨w.heap.size, 4, none⟩ = some (.slice (some ⟨g, 0, none⟩) L cap0) := cell_atL (HPa.out Z HBZ.out) 4
      clear hZ hbZ hkZ
      go_upto_region 6 with fail
      rw [HZ.out]
      obtain ⟨_, ⟨q0, q1, q2, q3, q4⟩⟩ := HKX.out Z HBZ.out
      rw [HNo.out] at q0 q1 q2 q3
      have HEx : Hid (Calls Try.prog 37 #[.agg #[.int .i64 nn.k, .int .i64 nn.w, .int .i64 nn.h, .int .i64 nn.i, .slice sa sn sc], .int .i64 k] Z fun e w' => e = .returned (.int .i64 E) ∧ Below Z.heap.size Z w') := by
        have h := ref_extent nn sa sn sc k Z
        rw [show nn.ext k = E by rw [← HNo.out]; exact HE.out] at h
        exact h
      go_wp2_with fail
      refine HEx.out.mono ?_
      rintro e w4 ⟨rfl, hb4⟩
      have HBw4 : Hid (Below W.heap.size W w4) := below_step HBZ.out hb4
      clear q0 q1 q2 q3 q4 b0 b1 b2 b3 b4 hb4 HEx
      have b0 : w4.cell? ⟨w.heap.size, 0, none⟩ = some (.int .i64 k') := cell_atL (HPa.out w4 HBw4.out) 0
      have b1 : w4.cell? ⟨w.heap.size, 1, none⟩ = some (.int .i64 b.w) := cell_atL (HPa.out w4 HBw4.out) 1
      have b2 : w4.cell? ⟨w.heap.size, 2, none⟩ = some (.int .i64 b.h) := cell_atL (HPa.out w4 HBw4.out) 2
      have b3 : w4.cell? ⟨w.heap.size, 3, none⟩ = some (.int .i64 0) := cell_atL (HPa.out w4 HBw4.out) 3
      have b4 : w4.cell? ⟨w.heap.size, 4, none⟩ = some (.slice (some ⟨g, 0, none⟩) L cap0) := cell_atL (HPa.out w4 HBw4.out) 4
      go_wp2_with fail
      refine (HBo.out w4 HBw4.out).mono ?_
      rintro e w5 ⟨ua, un, uc, fm, rfl, hIm, hfm, hb5⟩
      have HIm : Hid ((nodeOf (.split b k' rs)).In w5 (.slice ua un uc) fm) := hIm
      have Hfm : Hid (∀ x ∈ fm, x ∈ fp ∨ W.heap.size ≤ x) := hfm
      have HB5 : Hid (Below W.heap.size W w5) := hb5
      clear hIm hfm hb5 b0 b1 b2 b3 b4
      obtain ⟨Y, hY⟩ : ∃ x, w5.alloc (.cells #[.int .i64 nb.k, .int .i64 nb.w, .int .i64 nb.h, .int .i64 nb.i, .slice ua un uc] 73) = x := ⟨_, rfl⟩
      have HY : Hid (w5.alloc (.cells #[.int .i64 nb.k, .int .i64 nb.w, .int .i64 nb.h, .int .i64 nb.i, .slice ua un uc] 73) = Y) := hY
      have hbY : Below w5.heap.size w5 Y := by rw [← hY]; exact (Below.refl _ _).alloc (Nat.le_refl _) _
      have hkY : Y.heap[w5.heap.size]? = some (.cells #[.int .i64 nb.k, .int .i64 nb.w, .int .i64 nb.h, .int .i64 nb.i, .slice ua un uc] 73 (0, 0)) := by rw [← hY]; exact heap_alloc_new _ _
      have HBY : Hid (Below W.heap.size W Y) := below_step HB5.out hbY
      have HF : Hid (∀ v0 v1 v2 v3 v4, PuA (.split b k' rs) mm true fp w (.returned (.tuple #[.agg #[.int .i64 nb.k, .int .i64 nb.w, .int .i64 nb.h, .int .i64 nb.i, .slice ua un uc], .int .i64 mm, .bool true])) (set5 Y (w.heap.size + 1) v0 v1 v2 v3 v4)) := fun v0 v1 v2 v3 v4 => pu_made HNb.out (HIm.out.below hbY) (fun q hq => by
        rcases Hfm.out q hq with h | h
        · exact .inl h
        · exact .inr (by have := HWs.out; omega)) HFp.out (below_step HBW.out HBY.out) v0 v1 v2 v3 v4
      have m0 := cell_atL hkY 0
      have m1 := cell_atL hkY 1
      have m2 := cell_atL hkY 2
      have m3 := cell_atL hkY 3
      have m4 := cell_atL hkY 4
      have r0 : Y.cell? ⟨w.heap.size + 1, 0, none⟩ = some (.int .i64 0) := cell_atL (HRe.out Y HBY.out) 0
      have f0 := free_atL (HRe.out Y HBY.out) 0
      have r1 : Y.cell? ⟨w.heap.size + 1, 1, none⟩ = some (.int .i64 0) := cell_atL (HRe.out Y HBY.out) 1
      have f1 := free_atL (HRe.out Y HBY.out) 1
      have r2 : Y.cell? ⟨w.heap.size + 1, 2, none⟩ = some (.int .i64 0) := cell_atL (HRe.out Y HBY.out) 2
      have f2 := free_atL (HRe.out Y HBY.out) 2
      have r3 : Y.cell? ⟨w.heap.size + 1, 3, none⟩ = some (.int .i64 0) := cell_atL (HRe.out Y HBY.out) 3
      have f3 := free_atL (HRe.out Y HBY.out) 3
      have r4 : Y.cell? ⟨w.heap.size + 1, 4, none⟩ = some (.slice none 0 0) := cell_atL (HRe.out Y HBY.out) 4
      have f4 := free_atL (HRe.out Y HBY.out) 4
      clear hY hbY hkY
      go_upto_region 19 with fail
      rw [HY.out]
      go_wp2
      exact bodyPost_ret (v := .tuple #[.agg #[.int .i64 nb.k, .int .i64 nb.w, .int .i64 nb.h, .int .i64 nb.i, .slice ua un uc], .int .i64 mm, .bool true]) (by simp [results, Try.results52, go_sem, r0, r1, r2, r3, r4]) rfl (HF.out _ _ _ _ _)

end Go.Proofs.Ytkaaadbfmbkjeaa

namespace Go.Proofs.Ytkaaadbfmbkjeaa
open Go.RowKit
set_option linter.unusedVariables false
set_option maxRecDepth 100000

set_option maxHeartbeats 1000000 in
theorem pushed_leaf (set : Bool) (n k q : Int) (b : Box) (p : Int) : PuGood set n k q (.leaf b p) (.leaf b p) 0 false := by
  intro sl fp w hIn
  obtain ⟨ad, cap0, hsl⟩ := hIn.sl
  change sl = .slice ad 0 cap0 at hsl
  subst hsl
  obtain ⟨W, hW⟩ : ∃ W, (w.alloc (.cells #[.int .i64 1, .int .i64 b.w, .int .i64 b.h, .int .i64 p, .slice ad 0 cap0] 73)).alloc (.cells zeroN 73) = W := ⟨_, rfl⟩
  have hbW : Below w.heap.size w W := by rw [← hW]; exact ((Below.refl _ _).alloc (Nat.le_refl _) _).alloc (by simp) _
  have hP : W.heap[w.heap.size]? = some (.cells #[.int .i64 1, .int .i64 b.w, .int .i64 b.h, .int .i64 p, .slice ad 0 cap0] 73 (0, 0)) := by
    rw [← hW]
    exact (Below.heap_alloc _ _ _ (by simp)).trans (heap_alloc_new _ _)
  have hR : W.heap[w.heap.size + 1]? = some (.cells zeroN 73 (0, 0)) := by
    rw [← hW]
    have h := heap_alloc_new (w.alloc (.cells #[.int .i64 1, .int .i64 b.w, .int .i64 b.h, .int .i64 p, .slice ad 0 cap0] 73)) (.cells zeroN 73)
    rw [show (w.alloc (.cells #[.int .i64 1, .int .i64 b.w, .int .i64 b.h, .int .i64 p, .slice ad 0 cap0] 73)).heap.size = w.heap.size + 1 by simp] at h
    exact h
  have HF : Hid (∀ v0 v1 v2 v3 v4, PuA (.leaf b p) 0 false fp w (.returned (.tuple #[.agg #[.int .i64 1, .int .i64 b.w, .int .i64 b.h, .int .i64 p, .slice ad 0 cap0], .int .i64 0, .bool false])) (set5 W (w.heap.size + 1) v0 v1 v2 v3 v4)) := fun v0 v1 v2 v3 v4 => pu_made (nn := .mk 1 b.w b.h p []) rfl (hIn.below hbW) (fun q hq => .inl hq) hIn.lt hbW v0 v1 v2 v3 v4
  have b0 := cell_atL hP 0
  have b1 := cell_atL hP 1
  have b2 := cell_atL hP 2
  have b3 := cell_atL hP 3
  have b4 := cell_atL hP 4
  have r0 : W.cell? ⟨w.heap.size + 1, 0, none⟩ = some (.int .i64 0) := cell_atL hR 0
  have r1 : W.cell? ⟨w.heap.size + 1, 1, none⟩ = some (.int .i64 0) := cell_atL hR 1
  have r2 : W.cell? ⟨w.heap.size + 1, 2, none⟩ = some (.int .i64 0) := cell_atL hR 2
  have r3 : W.cell? ⟨w.heap.size + 1, 3, none⟩ = some (.int .i64 0) := cell_atL hR 3
  have r4 : W.cell? ⟨w.heap.size + 1, 4, none⟩ = some (.slice none 0 0) := cell_atL hR 4
  have f0 := free_atL hR 0
  have f1 := free_atL hR 1
  have f2 := free_atL hR 2
  have f3 := free_atL hR 3
  have f4 := free_atL hR 4
  have HW : Hid ((w.alloc (.cells #[.int .i64 1, .int .i64 b.w, .int .i64 b.h, .int .i64 p, .slice ad 0 cap0] 73)).alloc (.cells zeroN 73) = W) := hW
  unfold zeroN at HW
  show Calls Try.prog 52 #[.agg #[.int .i64 1, .int .i64 b.w, .int .i64 b.h, .int .i64 p, .slice ad 0 cap0], .int .i64 q, .int .i64 k, .int .i64 n, .bool set] w _
  clear hIn hbW hP hR hW
  go_enter Try.func52, Try.ntmps52
  go_upto_region 1 with fail
  rw [HW.out]
  go_wp2
  go_loopw [3, 13] (fun u v wr => u = .int .i64 n ∧ v = .int .i64 0 ∧ W = wr) (fun _ _ _ => 0)
  case atStart => exact ⟨rfl, rfl, rfl⟩
  case round =>
    obtain ⟨rfl, rfl, rfl⟩ := hrel
    go_wp2
    exact bodyPost_ret (v := .tuple #[.agg #[.int .i64 1, .int .i64 b.w, .int .i64 b.h, .int .i64 p, .slice ad 0 cap0], .int .i64 0, .bool false]) (by simp [results, Try.results52, go_sem, r0, r1, r2, r3, r4]) rfl (HF.out _ _ _ _ _)

theorem path_split {b : Box} {k' q : Int} {ts : List Tree} {i : Nat} {ps : List Nat} {s : Tree} (hp : (Tree.split b k' ts).path q = some (i :: ps)) (hi : ts[i]? = some s) : s.path q = some ps ∧ q ∈ s.idl ∧ ∀ (a : Nat) u, a < i → ts[a]? = some u → q ∉ u.idl := by
  unfold Tree.path at hp
  obtain ⟨i', u, ps', e, h1, h2, h3⟩ := pathAll_first q ts 0 _ hp
  rw [Nat.zero_add] at e
  injection e with e1 e2
  subst e1
  subst e2
  rw [hi] at h1
  cases h1
  refine ⟨h2, ?_, fun a u ha hu => (path_mem u q).1 (h3 a u ha hu)⟩
  by_cases e : q ∈ s.idl
  · exact e
  · rw [(path_mem s q).2 e] at h2
    cases h2

theorem pushed_any {set : Bool} {n k q : Int} {t : Tree} {ps : List Nat} {t' : Tree} {mv : Int} {ok : Bool} (h : Pu set n k t ps t' mv ok) : t.path q = some ps → t.sound = true → t.kinds → t.size ≤ 900 → (set = true → 1 ≤ n ∧ n ≤ 1000) → PuGood set n k q t t' mv ok := by
  induction h with
  | leaf b p => exact fun _ _ _ _ _ => pushed_leaf set n k q b p
  | deep b k' ts i ps s s' mv hi _ ih =>
    intro hp hs hk hz hn
    obtain ⟨p1, p2, p3⟩ := path_split hp hi
    obtain ⟨c1, c2, c3⟩ := sub_sound [i] (.split b k' ts) s (by simp [Tree.subAt, hi]) hs hk
    exact pushed_deep set n k q b k' ts i s s' mv hi p3 p2 hs hk hz (ih p1 c1 c2 (by omega) hn)
  | none b k' ts i ps s hi _ hkk ih =>
    intro hp hs hk hz hn
    obtain ⟨p1, p2, p3⟩ := path_split hp hi
    obtain ⟨c1, c2, c3⟩ := sub_sound [i] (.split b k' ts) s (by simp [Tree.subAt, hi]) hs hk
    exact pushed_none set n k q b k' ts i s s 0 hi p3 p2 hs hk hz (ih p1 c1 c2 (by omega) hn) hkk
  | here b ts i ps s rs c got hi _ hc hM ih =>
    intro hp hs hk hz hn
    obtain ⟨p1, p2, p3⟩ := path_split hp hi
    obtain ⟨c1, c2, c3⟩ := sub_sound [i] (.split b k ts) s (by simp [Tree.subAt, hi]) hs hk
    have IH := ih p1 c1 c2 (by omega) hn
    cases set with
    | false =>
      have e : byOf false n k ts i s = n := by simp [byOf]
      rw [e] at hM ⊢
      exact pushed_here0 n k q b k ts i s s 0 hi p3 p2 hs hk hz IH rfl rs c n got hc hM rfl
    | true =>
      by_cases hci : c = i
      · have e : byOf true n k ts i s = n - s.box.ext k := by
          unfold byOf
          rw [if_pos rfl, if_pos (by omega)]
        rw [e] at hM ⊢
        exact pushed_here1 n k q b k ts i s s 0 hi p3 p2 hs hk hz IH rfl rs c _ got hc hM rfl (hn rfl) hci
      · have e : byOf true n k ts i s = -(n - s.box.ext k) := by
          unfold byOf
          rw [if_pos rfl, if_neg (by omega)]
        rw [e] at hM ⊢
        exact pushed_here2 n k q b k ts i s s 0 hi p3 p2 hs hk hz IH rfl rs c _ got hc hM rfl (hn rfl) hci

end Go.Proofs.Ytkaaadbfmbkjeaa
