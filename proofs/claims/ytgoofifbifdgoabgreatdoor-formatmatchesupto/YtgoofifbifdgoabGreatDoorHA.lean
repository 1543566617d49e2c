/-
  The document's formats: whether a piece of a pattern stands for a byte.
  The document's formats: a set's end, and its ranges.
-/
import Derived.Test.YtgoofifbifdgoabGreatDoorGM
import Derived.Test.YtgoofifbifdgoabGreatDoorGB
namespace Go.Proofs.YtgoofifbifdgoabGreatDoor
open Go.RowKit
set_option linter.unusedVariables false
set_option maxRecDepth 20000

/-- A piece of the document's. -/
def pieceV (t : Tok) : Value := .agg #[.bool t.many, .bool t.not, .string (str (rangF t.mem))]
theorem in_step {c : UInt8} {r : List UInt8} {i : Nat} {a b : UInt8} (ha : r[i]? = some a) (hb : r[i + 1]? = some b) : inF c (r.drop i) = ((decide (a.toNat ≤ c.toNat) && decide (c.toNat ≤ b.toNat)) || inF c (r.drop (i + 2))) := by
  obtain ⟨h1, h2⟩ := List.getElem?_eq_some_iff.1 ha
  obtain ⟨h3, h4⟩ := List.getElem?_eq_some_iff.1 hb
  rw [List.drop_eq_getElem_cons h1, h2, List.drop_eq_getElem_cons h3, h4]
  rfl
theorem in_end {c : UInt8} {r : List UInt8} {i : Nat} (h : r.length ≤ i + 1) : inF c (r.drop i) = false := by
  have hl : (r.drop i).length ≤ 1 := by rw [List.length_drop]; omega
  match r.drop i, hl with
  | [], _ => rfl
  | [x], _ => rfl
  | x :: y :: l, h => simp at h
set_option maxHeartbeats 4000000 in
theorem one_any (st nt : Bool) (r : List UInt8) (hl : r.length ≤ 4611686018427387904) (c : UInt8) (w : World) : Calls Tryz.prog 22 #[.agg #[.bool st, .bool nt, .string (str r)], .int .u8 (c.toNat : Int)] w fun e w' => e = .returned (.bool (inF c r != nt)) ∧ Below w.heap.size w w' := by
  have HG : Hid (∀ k b (h : k < (str r).size), r[k]? = some b → (str r)[k] = b) := fun k b h hb => str_getF r k b hb h
  have hzs : (str r).size = r.length := rfl
  obtain ⟨z, hz⟩ : ∃ z, str r = z := ⟨_, rfl⟩
  rw [hz] at HG hzs ⊢
  obtain ⟨n, hn⟩ : ∃ n, r.length = n := ⟨_, rfl⟩
  rw [hn] at hl hzs
  have HN := hidK hn
  obtain ⟨w1, hw1⟩ : ∃ w1, w.alloc (.cells #[.bool st, .bool nt, .string z] 55) = w1 := ⟨_, rfl⟩
  have HCell : Hid (∀ X, Below w1.heap.size w1 X → X.cell? ⟨w.heap.size, 1, none⟩ = some (.bool nt) ∧ X.cell? ⟨w.heap.size, 2, none⟩ = some (.string z)) := by
    intro X hX
    have hlt : w.heap.size < w1.heap.size := by rw [← hw1]; simp
    refine ⟨(hX.cell (p := ⟨w.heap.size, 1, none⟩) hlt).trans ?_, (hX.cell (p := ⟨w.heap.size, 2, none⟩) hlt).trans ?_⟩
    · rw [← hw1, World.cell?_alloc_at _ _ _ _ rfl]; rfl
    · rw [← hw1, World.cell?_alloc_at _ _ _ _ rfl]; rfl
  have HB1 : Hid (Below w.heap.size w w1) := by rw [← hw1]; exact (Below.refl _ _).alloc (Nat.le_refl _) _
  clear hz hn
  go_enter Tryz.func22, Tryz.ntmps22
  go_wp2_with fail
  try rw [hw1]
  go_loopw [5] (fun s5 wx => ∃ i : Nat, s5 = .int .i64 (i : Int) ∧ i ≤ n + 1 ∧ Hid (inF c (r.drop i) = inF c r) ∧ Hid (Below w1.heap.size w1 wx)) (fun v _ => n + 1 - (intOf v).toNat)
  case atStart => exact ⟨0, rfl, Nat.zero_le _, rfl, Below.refl _ _⟩
  case round =>
    obtain ⟨i, rfl, hi, HI, HB⟩ := hrel
    obtain ⟨m1, m2⟩ := HCell.out _ HB.out
    by_cases hin : i + 1 < n
    · obtain ⟨a, ha⟩ : ∃ a, r[i]? = some a := ⟨_, List.getElem?_eq_getElem (by rw [HN.out]; omega)⟩
      obtain ⟨b, hb⟩ : ∃ b, r[i + 1]? = some b := ⟨_, List.getElem?_eq_getElem (by rw [HN.out]; omega)⟩
      have ga := HG.out i a (by omega) ha
      have gb := HG.out (i + 1) b (by omega) hb
      have HS := hidK (in_step (c := c) ha hb)
      clear ha hb
      by_cases h1 : a.toNat ≤ c.toNat ∧ c.toNat ≤ b.toNat
      · obtain ⟨h1, h2⟩ := h1
        have HR : Hid ((!nt) = (inF c r != nt)) := by
          show _ = _
          rw [← HI.out, HS.out, decide_eq_true h1, decide_eq_true h2]
          cases nt <;> rfl
        clear HS HI
        go_wp2_with fail
        all_goals go_ret
        all_goals exact ⟨ret_bool HR.out, HB1.out.trans (HB.out.mono HB1.out.size)⟩
      · have HI2 : Hid (inF c (r.drop (i + 2)) = inF c r) := by
          show _ = _
          have h := HI.out
          rw [HS.out] at h
          rw [← h]
          have h2 : (decide (a.toNat ≤ c.toNat) && decide (c.toNat ≤ b.toNat)) = false := by
            cases h3 : (decide (a.toNat ≤ c.toNat) && decide (c.toNat ≤ b.toNat)) with
            | false => rfl
            | true =>
              rw [Bool.and_eq_true, decide_eq_true_eq, decide_eq_true_eq] at h3
              exact absurd h3 h1
          rw [h2, Bool.false_or]
        clear HS HI
        by_cases h2 : a.toNat ≤ c.toNat
        · have h3 : ¬ c.toNat ≤ b.toNat := fun h => h1 ⟨h2, h⟩
          clear h1
          go_wp2_with fail
          all_goals go_roundw
          case rel => exact ⟨i + 2, by go_num, by omega, HI2.out, HB.out⟩
          case measure => simp [intOf]; omega
        · clear h1
          go_wp2_with fail
          all_goals go_roundw
          case rel => exact ⟨i + 2, by go_num, by omega, HI2.out, HB.out⟩
          case measure => simp [intOf]; omega
    · have HR : Hid (nt = (inF c r != nt)) := by
        show _ = _
        rw [← HI.out, in_end (by rw [HN.out]; omega)]
        cases nt <;> rfl
      clear HI
      go_wp2_with fail
      all_goals go_ret
      all_goals exact ⟨ret_bool HR.out, HB1.out.trans (HB.out.mono HB1.out.size)⟩
end Go.Proofs.YtgoofifbifdgoabGreatDoor

namespace Go.Proofs.YtgoofifbifdgoabGreatDoor
set_option linter.unusedVariables false

theorem idx_at {l : List UInt8} {c : UInt8} {o : Nat} (h1 : l[o]? = some c) (h2 : ∀ m, m < o → l[m]? ≠ some c) : Lib.indexByte l c = (o : Int) := by
  have hge := Lib.indexByte_ge l c
  rcases Decidable.em (Lib.indexByte l c = -1) with h | h
  · exact absurd h1 (Lib.indexByte_none h o)
  · obtain ⟨q, hq⟩ : ∃ q : Nat, Lib.indexByte l c = q := ⟨(Lib.indexByte l c).toNat, by omega⟩
    obtain ⟨h3, h4⟩ := Lib.indexByte_some hq
    rcases Nat.lt_trichotomy q o with h5 | h5 | h5
    · exact absurd h3 (h2 q h5)
    · rw [hq, h5]
    · exact absurd h1 (h4 o h5)
theorem idx_no {l : List UInt8} {c : UInt8} (h : ∀ m : Nat, l[m]? ≠ some c) : Lib.indexByte l c = -1 := by
  have hge := Lib.indexByte_ge l c
  rcases Decidable.em (Lib.indexByte l c = -1) with h1 | h1
  · exact h1
  · obtain ⟨q, hq⟩ : ∃ q : Nat, Lib.indexByte l c = q := ⟨(Lib.indexByte l c).toNat, by omega⟩
    exact absurd (Lib.indexByte_some hq).1 (h q)
/-- Where a set's members begin. -/
def setI (p : List UInt8) (at_ : Nat) : Nat := at_ + begN (p.drop at_)
theorem not_at (p : List UInt8) (at_ : Nat) : notB (p.drop at_) = decide (p[at_ + 1]? = some 33) := by
  unfold notB
  rw [List.drop_drop]
  cases h : p[at_ + 1]? with
  | none =>
    rw [List.drop_eq_nil_of_le (List.getElem?_eq_none_iff.1 h)]
    rfl
  | some c =>
    obtain ⟨h1, h2⟩ := List.getElem?_eq_some_iff.1 h
    rw [List.drop_eq_getElem_cons h1, h2]
    show ((33 : UInt8) == c && true) = _
    rw [Bool.and_true]
    by_cases e : c = 33
    · subst e; rfl
    · have h3 : ¬ (33 : UInt8) = c := fun h => e h.symm
      rw [beq_eq_false_iff_ne.2 h3, decide_eq_false (by simpa using e)]
/-- No ] from j up to k. -/
def NoEnd (p : List UInt8) (j k : Nat) : Prop := ∀ m, j ≤ m → m < k → p[m]? ≠ some 93
theorem NoEnd.step {p : List UInt8} {j k : Nat} (h : NoEnd p j k) {c : UInt8} (hc : p[k]? = some c) (h93 : ¬ c.toNat = 93) : NoEnd p j (k + 1) := fun m h1 h2 => by
  rcases Nat.lt_or_ge m k with h3 | h3
  · exact h m h1 h3
  · have e : m = k := by omega
    rw [e, hc]
    intro h4
    exact h93 (by rw [Option.some.inj h4]; rfl)
theorem dset_none {p : List UInt8} {at_ k : Nat} (h : NoEnd p (setI p at_ + 1) k) (hk : p.length ≤ k) : dsetF (p.drop at_) = (⟨false, notB (p.drop at_), []⟩, 0) := by
  unfold dsetF
  rw [if_pos]
  refine idx_no fun m hm => ?_
  rw [List.drop_drop, List.getElem?_drop] at hm
  have hl := (List.getElem?_eq_some_iff.1 hm).1
  have e : at_ + (begN (p.drop at_) + 1) = setI p at_ + 1 := by unfold setI; omega
  rw [e] at hm hl
  exact h _ (by omega) (by omega) hm
theorem dset_some {p : List UInt8} {at_ k : Nat} (h : NoEnd p (setI p at_ + 1) k) (hj : setI p at_ + 1 ≤ k) (hk : p[k]? = some 93) : dsetF (p.drop at_) = (⟨false, notB (p.drop at_), (p.drop (setI p at_)).take (k - setI p at_)⟩, k + 1 - at_) := by
  have e : at_ + (begN (p.drop at_) + 1) = setI p at_ + 1 := by unfold setI; omega
  have hi : Lib.indexByte ((p.drop at_).drop (begN (p.drop at_) + 1)) 93 = ((k - (setI p at_ + 1) : Nat) : Int) := by
    rw [List.drop_drop, e]
    refine idx_at ?_ fun m hm => ?_
    · rw [List.getElem?_drop, show setI p at_ + 1 + (k - (setI p at_ + 1)) = k by omega]
      exact hk
    · rw [List.getElem?_drop]
      exact h _ (by omega) (by omega)
  have hen : endN (p.drop at_) = k - at_ := by
    unfold endN
    rw [hi]
    have e2 : (((k - (setI p at_ + 1) : Nat) : Int)).toNat = k - (setI p at_ + 1) := rfl
    rw [e2]
    unfold setI at hj ⊢
    omega
  unfold dsetF
  rw [if_neg (by rw [hi]; omega), hen, List.drop_drop]
  have e3 : at_ + begN (p.drop at_) = setI p at_ := rfl
  rw [e3, show k - at_ - begN (p.drop at_) = k - setI p at_ by unfold setI; omega, show k - at_ + 1 = k + 1 - at_ by unfold setI at hj; omega]
/-- How far the ranges are. -/
structure RangS (p : List UInt8) (b i k : Nat) (R : List UInt8) : Prop where
  ge : b ≤ i
  le : i ≤ k
  all : R ++ rangG (k - i) ((p.drop i).take (k - i)) = rangF ((p.drop b).take (k - b))
theorem seg_len {p : List UInt8} {i k : Nat} (hk : k ≤ p.length) : ((p.drop i).take (k - i)).length = k - i := by rw [List.length_take, List.length_drop]; omega
theorem RangS.zero {p : List UInt8} {b k : Nat} (h : b ≤ k) (hk : k ≤ p.length) : RangS p b b k [] := ⟨Nat.le_refl _, h, by
  unfold rangF
  rw [List.nil_append, seg_len hk]⟩
theorem seg_cons {p : List UInt8} {i k : Nat} {c : UInt8} (hc : p[i]? = some c) (hik : i < k) : (p.drop i).take (k - i) = c :: (p.drop (i + 1)).take (k - (i + 1)) := by
  obtain ⟨h1, h2⟩ := List.getElem?_eq_some_iff.1 hc
  rw [List.drop_eq_getElem_cons h1, h2, show k - i = (k - (i + 1)) + 1 by omega, List.take_succ_cons]
theorem RangS.three {p : List UInt8} {b i k : Nat} {R : List UInt8} (h : RangS p b i k R) (hk : k ≤ p.length) {c d e : UInt8} (hc : p[i]? = some c) (hd : p[i + 1]? = some d) (he : p[i + 2]? = some e) (h45 : d.toNat = 45) (h3 : i + 2 < k) : RangS p b (i + 3) k (R ++ [c, e]) := by
  refine ⟨by have := h.ge; omega, by omega, ?_⟩
  have ha := h.all
  rw [seg_cons hc (by omega), seg_cons hd (by omega), seg_cons he (by omega), show k - i = (k - (i + 1)) + 1 by omega] at ha
  simp only [rangG] at ha
  have hs : spanF (c :: d :: e :: (p.drop (i + 2 + 1)).take (k - (i + 2 + 1))) = (e, 3) := by simp only [spanF]; rw [if_pos h45]
  rw [hs] at ha
  simp only [List.drop_succ_cons, List.drop_zero] at ha
  have hl : ((p.drop (i + 3)).take (k - (i + 3))).length = k - (i + 3) := seg_len hk
  have e3 : i + 2 + 1 = i + 3 := by omega
  rw [e3] at ha
  rw [rang_fuel (k - (i + 3)) (k - (i + 1)) _ (by omega) (by omega), List.append_assoc]
  exact ha
theorem RangS.one {p : List UInt8} {b i k : Nat} {R : List UInt8} (h : RangS p b i k R) (hk : k ≤ p.length) {c : UInt8} (hc : p[i]? = some c) (hik : i < k) (hn : ¬ (i + 2 < k ∧ ∃ d, p[i + 1]? = some d ∧ d.toNat = 45)) : RangS p b (i + 1) k (R ++ [c, c]) := by
  refine ⟨by have := h.ge; omega, by omega, ?_⟩
  have ha := h.all
  have hl : ((p.drop (i + 1)).take (k - (i + 1))).length = k - (i + 1) := seg_len hk
  rw [seg_cons hc hik, show k - i = (k - (i + 1)) + 1 by omega] at ha
  simp only [rangG] at ha
  have hs : spanF (c :: (p.drop (i + 1)).take (k - (i + 1))) = (c, 1) := by
    by_cases h2 : i + 2 < k
    · obtain ⟨d, hd⟩ : ∃ d, p[i + 1]? = some d := ⟨_, List.getElem?_eq_getElem (by omega)⟩
      obtain ⟨e, he⟩ : ∃ e, p[i + 2]? = some e := ⟨_, List.getElem?_eq_getElem (by omega)⟩
      rw [seg_cons hd (by omega), seg_cons he (by omega)]
      simp only [spanF]
      rw [if_neg (fun h45 => hn ⟨h2, d, hd, h45⟩)]
    · match (p.drop (i + 1)).take (k - (i + 1)), hl with
      | [], _ => rfl
      | [x], _ => rfl
      | x :: y :: l, hl => simp at hl; omega
  rw [hs] at ha
  simp only [List.drop_succ_cons, List.drop_zero] at ha
  rw [List.append_assoc]
  exact ha
theorem RangS.done {p : List UInt8} {b i k : Nat} {R : List UInt8} (h : RangS p b i k R) (hik : k ≤ i) : R = rangF ((p.drop b).take (k - b)) := by
  have ha := h.all
  rw [show k - i = 0 by omega] at ha
  simpa [rangG] using ha
theorem RangS.len {p : List UInt8} {b i k : Nat} {R : List UInt8} (h : RangS p b i k R) (hk : k ≤ p.length) : R.length ≤ 2 * p.length := by
  have h1 := congrArg List.length h.all
  rw [List.length_append] at h1
  have h2 : (rangF ((p.drop b).take (k - b))).length ≤ 2 * ((p.drop b).take (k - b)).length := rang_len _ _
  rw [seg_len hk] at h2
  omega
end Go.Proofs.YtgoofifbifdgoabGreatDoor
