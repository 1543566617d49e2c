/-
  The document's formats: whether a piece of a pattern stands for a byte.
  The document's formats: a set's end, and its ranges.
  Formats: a pattern in which a backslash stands ahead of each byte.
  Formats: the document's rows: which beginnings of a text are of the first tokens.
-/
import Derived.Test.YtlfcjcaofhcfnaaGreatDoorGK
import Derived.Test.YtlfcjcaofhcfnaaGreatDoorGB
namespace Go.Proofs.YtlfcjcaofhcfnaaGreatDoor
open Go.RowKit
set_option linter.unusedVariables false
set_option maxRecDepth 20000

/-- A piece of the document's. -/
def pieceV (t : Tok) : Value := .agg #[.bool t.many, .bool t.not, .string (str (rangF t.mem))]
theorem in_step {c : UInt8} {r : List UInt8} {i : Nat} {a b : UInt8} (ha : r[i]? = some a) (hb : r[i + 1]? = some b) : inF c (r.drop i) = ((decide (a.toNat ≤ c.toNat) && decide (c.toNat ≤ b.toNat)) || inF c (r.drop (i + 2))) := by
  obtain ⟨h1, h2⟩ := List.getElem?_eq_some_iff.1 ha
  obtain ⟨h3, h4⟩ := List.getElem?_eq_some_iff.1 hb
  rw [List.drop_eq_getElem_cons h1, h2, List.drop_eq_getElem_cons h3, h4]
  rfl
theorem in_end {c : UInt8} {r : List UInt8} {i : Nat} (h : r.length ≤ i + 1) : inF c (r.drop i) = false := by
  have hl : (r.drop i).length ≤ 1 := by rw [List.length_drop]; omega
  match r.drop i, hl with
  | [], _ => rfl
  | [x], _ => rfl
  | x :: y :: l, h => simp at h
set_option maxHeartbeats 4000000 in
theorem one_any (st nt : Bool) (r : List UInt8) (hl : r.length ≤ 4611686018427387904) (c : UInt8) (w : World) : Calls Tryz.prog 164 #[.agg #[.bool st, .bool nt, .string (str r)], .int .u8 (c.toNat : Int)] w fun e w' => e = .returned (.bool (inF c r != nt)) ∧ Below w.heap.size w w' := by
  have HG : Hid (∀ k b (h : k < (str r).size), r[k]? = some b → (str r)[k] = b) := fun k b h hb => str_getF r k b hb h
  have hzs : (str r).size = r.length := rfl
  obtain ⟨z, hz⟩ : ∃ z, str r = z := ⟨_, rfl⟩
  rw [hz] at HG hzs ⊢
  obtain ⟨n, hn⟩ : ∃ n, r.length = n := ⟨_, rfl⟩
  rw [hn] at hl hzs
  have HN := hidK hn
  obtain ⟨w1, hw1⟩ : ∃ w1, w.alloc (.cells #[.bool st, .bool nt, .string z] 188) = w1 := ⟨_, rfl⟩
  have HCell : Hid (∀ X, Below w1.heap.size w1 X → X.cell? ⟨w.heap.size, 1, none⟩ = some (.bool nt) ∧ X.cell? ⟨w.heap.size, 2, none⟩ = some (.string z)) := by
    intro X hX
    have hlt : w.heap.size < w1.heap.size := by rw [← hw1]; simp
    refine ⟨(hX.cell (p := ⟨w.heap.size, 1, none⟩) hlt).trans ?_, (hX.cell (p := ⟨w.heap.size, 2, none⟩) hlt).trans ?_⟩
    · rw [← hw1, World.cell?_alloc_at _ _ _ _ rfl]; rfl
    · rw [← hw1, World.cell?_alloc_at _ _ _ _ rfl]; rfl
  have HB1 : Hid (Below w.heap.size w w1) := by rw [← hw1]; exact (Below.refl _ _).alloc (Nat.le_refl _) _
  clear hz hn
  go_enter Tryz.func164, Tryz.ntmps164
  go_wp2_with fail
  try rw [hw1]
  go_loopw [5] (fun s5 wx => ∃ i : Nat, s5 = .int .i64 (i : Int) ∧ i ≤ n + 1 ∧ Hid (inF c (r.drop i) = inF c r) ∧ Hid (Below w1.heap.size w1 wx)) (fun v _ => n + 1 - (intOf v).toNat)
  case atStart => exact ⟨0, rfl, Nat.zero_le _, rfl, Below.refl _ _⟩
  case round =>
    obtain ⟨i, rfl, hi, HI, HB⟩ := hrel
    obtain ⟨m1, m2⟩ := HCell.out _ HB.out
    by_cases hin : i + 1 < n
    · obtain ⟨a, ha⟩ : ∃ a, r[i]? = some a := ⟨_, List.getElem?_eq_getElem (by rw [HN.out]; omega)⟩
      obtain ⟨b, hb⟩ : ∃ b, r[i + 1]? = some b := ⟨_, List.getElem?_eq_getElem (by rw [HN.out]; omega)⟩
      have ga := HG.out i a (by omega) ha
      have gb := HG.out (i + 1) b (by omega) hb
      have HS := hidK (in_step (c := c) ha hb)
      clear ha hb
      by_cases h1 : a.toNat ≤ c.toNat ∧ c.toNat ≤ b.toNat
      · obtain ⟨h1, h2⟩ := h1
        have HR : Hid ((!nt) = (inF c r != nt)) := by
          show _ = _
          rw [← HI.out, HS.out, decide_eq_true h1, decide_eq_true h2]
          cases nt <;> rfl
        clear HS HI
        go_wp2_with fail
        all_goals go_ret
        all_goals exact ⟨ret_bool HR.out, HB1.out.trans (HB.out.mono HB1.out.size)⟩
      · have HI2 : Hid (inF c (r.drop (i + 2)) = inF c r) := by
          show _ = _
          have h := HI.out
          rw [HS.out] at h
          rw [← h]
          have h2 : (decide (a.toNat ≤ c.toNat) && decide (c.toNat ≤ b.toNat)) = false := by
            cases h3 : (decide (a.toNat ≤ c.toNat) && decide (c.toNat ≤ b.toNat)) with
            | false => rfl
            | true =>
              rw [Bool.and_eq_true, decide_eq_true_eq, decide_eq_true_eq] at h3
              exact absurd h3 h1
          rw [h2, Bool.false_or]
        clear HS HI
        by_cases h2 : a.toNat ≤ c.toNat
        · have h3 : ¬ c.toNat ≤ b.toNat := fun h => h1 ⟨h2, h⟩
          clear h1
          go_wp2_with fail
          all_goals go_roundw
          case rel => exact ⟨i + 2, by go_num, by omega, HI2.out, HB.out⟩
          case measure => simp [intOf]; omega
        · clear h1
          go_wp2_with fail
          all_goals go_roundw
          case rel => exact ⟨i + 2, by go_num, by omega, HI2.out, HB.out⟩
          case measure => simp [intOf]; omega
    · have HR : Hid (nt = (inF c r != nt)) := by
        show _ = _
        rw [← HI.out, in_end (by rw [HN.out]; omega)]
        cases nt <;> rfl
      clear HI
      go_wp2_with fail
      all_goals go_ret
      all_goals exact ⟨ret_bool HR.out, HB1.out.trans (HB.out.mono HB1.out.size)⟩
end Go.Proofs.YtlfcjcaofhcfnaaGreatDoor

namespace Go.Proofs.YtlfcjcaofhcfnaaGreatDoor
set_option linter.unusedVariables false

theorem idx_at {l : List UInt8} {c : UInt8} {o : Nat} (h1 : l[o]? = some c) (h2 : ∀ m, m < o → l[m]? ≠ some c) : Lib.indexByte l c = (o : Int) := by
  have hge := Lib.indexByte_ge l c
  rcases Decidable.em (Lib.indexByte l c = -1) with h | h
  · exact absurd h1 (Lib.indexByte_none h o)
  · obtain ⟨q, hq⟩ : ∃ q : Nat, Lib.indexByte l c = q := ⟨(Lib.indexByte l c).toNat, by omega⟩
    obtain ⟨h3, h4⟩ := Lib.indexByte_some hq
    rcases Nat.lt_trichotomy q o with h5 | h5 | h5
    · exact absurd h3 (h2 q h5)
    · rw [hq, h5]
    · exact absurd h1 (h4 o h5)
theorem idx_no {l : List UInt8} {c : UInt8} (h : ∀ m : Nat, l[m]? ≠ some c) : Lib.indexByte l c = -1 := by
  have hge := Lib.indexByte_ge l c
  rcases Decidable.em (Lib.indexByte l c = -1) with h1 | h1
  · exact h1
  · obtain ⟨q, hq⟩ : ∃ q : Nat, Lib.indexByte l c = q := ⟨(Lib.indexByte l c).toNat, by omega⟩
    exact absurd (Lib.indexByte_some hq).1 (h q)
/-- Where a set's members begin. -/
def setI (p : List UInt8) (at_ : Nat) : Nat := at_ + begN (p.drop at_)
theorem not_at (p : List UInt8) (at_ : Nat) : notB (p.drop at_) = decide (p[at_ + 1]? = some 33) := by
  unfold notB
  rw [List.drop_drop]
  cases h : p[at_ + 1]? with
  | none =>
    rw [List.drop_eq_nil_of_le (List.getElem?_eq_none_iff.1 h)]
    rfl
  | some c =>
    obtain ⟨h1, h2⟩ := List.getElem?_eq_some_iff.1 h
    rw [List.drop_eq_getElem_cons h1, h2]
    show ((33 : UInt8) == c && true) = _
    rw [Bool.and_true]
    by_cases e : c = 33
    · subst e; rfl
    · have h3 : ¬ (33 : UInt8) = c := fun h => e h.symm
      rw [beq_eq_false_iff_ne.2 h3, decide_eq_false (by simpa using e)]
/-- No ] from j up to k. -/
def NoEnd (p : List UInt8) (j k : Nat) : Prop := ∀ m, j ≤ m → m < k → p[m]? ≠ some 93
theorem NoEnd.step {p : List UInt8} {j k : Nat} (h : NoEnd p j k) {c : UInt8} (hc : p[k]? = some c) (h93 : ¬ c.toNat = 93) : NoEnd p j (k + 1) := fun m h1 h2 => by
  rcases Nat.lt_or_ge m k with h3 | h3
  · exact h m h1 h3
  · have e : m = k := by omega
    rw [e, hc]
    intro h4
    exact h93 (by rw [Option.some.inj h4]; rfl)
theorem dset_none {p : List UInt8} {at_ k : Nat} (h : NoEnd p (setI p at_ + 1) k) (hk : p.length ≤ k) : dsetF (p.drop at_) = (⟨false, notB (p.drop at_), []⟩, 0) := by
  unfold dsetF
  rw [if_pos]
  refine idx_no fun m hm => ?_
  rw [List.drop_drop, List.getElem?_drop] at hm
  have hl := (List.getElem?_eq_some_iff.1 hm).1
  have e : at_ + (begN (p.drop at_) + 1) = setI p at_ + 1 := by unfold setI; omega
  rw [e] at hm hl
  exact h _ (by omega) (by omega) hm
theorem dset_some {p : List UInt8} {at_ k : Nat} (h : NoEnd p (setI p at_ + 1) k) (hj : setI p at_ + 1 ≤ k) (hk : p[k]? = some 93) : dsetF (p.drop at_) = (⟨false, notB (p.drop at_), (p.drop (setI p at_)).take (k - setI p at_)⟩, k + 1 - at_) := by
  have e : at_ + (begN (p.drop at_) + 1) = setI p at_ + 1 := by unfold setI; omega
  have hi : Lib.indexByte ((p.drop at_).drop (begN (p.drop at_) + 1)) 93 = ((k - (setI p at_ + 1) : Nat) : Int) := by
    rw [List.drop_drop, e]
    refine idx_at ?_ fun m hm => ?_
    · rw [List.getElem?_drop, show setI p at_ + 1 + (k - (setI p at_ + 1)) = k by omega]
      exact hk
    · rw [List.getElem?_drop]
      exact h _ (by omega) (by omega)
  have hen : endN (p.drop at_) = k - at_ := by
    unfold endN
    rw [hi]
    have e2 : (((k - (setI p at_ + 1) : Nat) : Int)).toNat = k - (setI p at_ + 1) := rfl
    rw [e2]
    unfold setI at hj ⊢
    omega
  unfold dsetF
  rw [if_neg (by rw [hi]; omega), hen, List.drop_drop]
  have e3 : at_ + begN (p.drop at_) = setI p at_ := rfl
  rw [e3, show k - at_ - begN (p.drop at_) = k - setI p at_ by unfold setI; omega, show k - at_ + 1 = k + 1 - at_ by unfold setI at hj; omega]
/-- How far the ranges are. -/
structure RangS (p : List UInt8) (b i k : Nat) (R : List UInt8) : Prop where
  ge : b ≤ i
  le : i ≤ k
  all : R ++ rangG (k - i) ((p.drop i).take (k - i)) = rangF ((p.drop b).take (k - b))
theorem seg_len {p : List UInt8} {i k : Nat} (hk : k ≤ p.length) : ((p.drop i).take (k - i)).length = k - i := by rw [List.length_take, List.length_drop]; omega
theorem RangS.zero {p : List UInt8} {b k : Nat} (h : b ≤ k) (hk : k ≤ p.length) : RangS p b b k [] := ⟨Nat.le_refl _, h, by
  unfold rangF
  rw [List.nil_append, seg_len hk]⟩
theorem seg_cons {p : List UInt8} {i k : Nat} {c : UInt8} (hc : p[i]? = some c) (hik : i < k) : (p.drop i).take (k - i) = c :: (p.drop (i + 1)).take (k - (i + 1)) := by
  obtain ⟨h1, h2⟩ := List.getElem?_eq_some_iff.1 hc
  rw [List.drop_eq_getElem_cons h1, h2, show k - i = (k - (i + 1)) + 1 by omega, List.take_succ_cons]
theorem RangS.three {p : List UInt8} {b i k : Nat} {R : List UInt8} (h : RangS p b i k R) (hk : k ≤ p.length) {c d e : UInt8} (hc : p[i]? = some c) (hd : p[i + 1]? = some d) (he : p[i + 2]? = some e) (h45 : d.toNat = 45) (h3 : i + 2 < k) : RangS p b (i + 3) k (R ++ [c, e]) := by
  refine ⟨by have := h.ge; omega, by omega, ?_⟩
  have ha := h.all
  rw [seg_cons hc (by omega), seg_cons hd (by omega), seg_cons he (by omega), show k - i = (k - (i + 1)) + 1 by omega] at ha
  simp only [rangG] at ha
  have hs : spanF (c :: d :: e :: (p.drop (i + 2 + 1)).take (k - (i + 2 + 1))) = (e, 3) := by simp only [spanF]; rw [if_pos h45]
  rw [hs] at ha
  simp only [List.drop_succ_cons, List.drop_zero] at ha
  have hl : ((p.drop (i + 3)).take (k - (i + 3))).length = k - (i + 3) := seg_len hk
  have e3 : i + 2 + 1 = i + 3 := by omega
  rw [e3] at ha
  rw [rang_fuel (k - (i + 3)) (k - (i + 1)) _ (by omega) (by omega), List.append_assoc]
  exact ha
theorem RangS.one {p : List UInt8} {b i k : Nat} {R : List UInt8} (h : RangS p b i k R) (hk : k ≤ p.length) {c : UInt8} (hc : p[i]? = some c) (hik : i < k) (hn : ¬ (i + 2 < k ∧ ∃ d, p[i + 1]? = some d ∧ d.toNat = 45)) : RangS p b (i + 1) k (R ++ [c, c]) := by
  refine ⟨by have := h.ge; omega, by omega, ?_⟩
  have ha := h.all
  have hl : ((p.drop (i + 1)).take (k - (i + 1))).length = k - (i + 1) := seg_len hk
  rw [seg_cons hc hik, show k - i = (k - (i + 1)) + 1 by omega] at ha
  simp only [rangG] at ha
  have hs : spanF (c :: (p.drop (i + 1)).take (k - (i + 1))) = (c, 1) := by
    by_cases h2 : i + 2 < k
    · obtain ⟨d, hd⟩ : ∃ d, p[i + 1]? = some d := ⟨_, List.getElem?_eq_getElem (by omega)⟩
      obtain ⟨e, he⟩ : ∃ e, p[i + 2]? = some e := ⟨_, List.getElem?_eq_getElem (by omega)⟩
      rw [seg_cons hd (by omega), seg_cons he (by omega)]
      simp only [spanF]
      rw [if_neg (fun h45 => hn ⟨h2, d, hd, h45⟩)]
    · match (p.drop (i + 1)).take (k - (i + 1)), hl with
      | [], _ => rfl
      | [x], _ => rfl
      | x :: y :: l, hl => simp at hl; omega
  rw [hs] at ha
  simp only [List.drop_succ_cons, List.drop_zero] at ha
  rw [List.append_assoc]
  exact ha
theorem RangS.done {p : List UInt8} {b i k : Nat} {R : List UInt8} (h : RangS p b i k R) (hik : k ≤ i) : R = rangF ((p.drop b).take (k - b)) := by
  have ha := h.all
  rw [show k - i = 0 by omega] at ha
  simpa [rangG] using ha
theorem RangS.len {p : List UInt8} {b i k : Nat} {R : List UInt8} (h : RangS p b i k R) (hk : k ≤ p.length) : R.length ≤ 2 * p.length := by
  have h1 := congrArg List.length h.all
  rw [List.length_append] at h1
  have h2 : (rangF ((p.drop b).take (k - b))).length ≤ 2 * ((p.drop b).take (k - b)).length := rang_len _ _
  rw [seg_len hk] at h2
  omega
end Go.Proofs.YtlfcjcaofhcfnaaGreatDoor

namespace Go.Proofs.YtlfcjcaofhcfnaaGreatDoor
set_option linter.unusedVariables false

theorem dset_le {l : List UInt8} : (dsetF l).2 ≤ l.length := by
  obtain ⟨h1, h2⟩ := set_both (last_ok l)
  rcases Nat.eq_zero_or_pos (dsetF l).2 with h | h
  · omega
  · rw [← h2 (h1.2 h)]
    exact set_le (last_ok l)
theorem dtok_len {l : List UInt8} (h : l ≠ []) : 1 ≤ (dtokF l).2 ∧ (dtokF l).2 ≤ l.length := by
  rw [← tok_both (last_ok l)]
  exact tok_len (last_ok l) h
theorem dtoks_fuel : ∀ (f g : Nat) (l : List UInt8), l.length ≤ f → l.length ≤ g → dtoksG f l = dtoksG g l
  | 0, 0, _, _, _ => rfl
  | 0, g + 1, l, h1, _ => by
    have e : l = [] := List.length_eq_zero_iff.1 (by omega)
    subst e
    rfl
  | f + 1, 0, l, _, h2 => by
    have e : l = [] := List.length_eq_zero_iff.1 (by omega)
    subst e
    rfl
  | f + 1, g + 1, l, h1, h2 => by
    unfold dtoksG
    by_cases h : l = []
    · rw [if_pos h, if_pos h]
    · rw [if_neg h, if_neg h]
      have := (dtok_len h).1
      have := List.length_pos_iff.2 h
      rw [dtoks_fuel f g (l.drop (dtokF l).2) (by rw [List.length_drop]; omega) (by rw [List.length_drop]; omega)]
theorem dtoks_cons {l : List UInt8} (h : l ≠ []) : dtoksF l = (dtokF l).1 :: dtoksF (l.drop (dtokF l).2) := by
  have h0 := (dtok_len h).1
  have h1 := List.length_pos_iff.2 h
  obtain ⟨n, hn⟩ : ∃ n, l.length = n + 1 := ⟨l.length - 1, by omega⟩
  unfold dtoksF
  rw [hn]
  conv => lhs; unfold dtoksG
  rw [if_neg h, dtoks_fuel n _ (l.drop (dtokF l).2) (by rw [List.length_drop]; omega) (Nat.le_refl _)]
def litT (c : UInt8) : Tok := ⟨false, false, [c]⟩
def starT : Tok := ⟨true, false, []⟩
def anyT : Tok := ⟨false, true, []⟩
def bslF (s : List UInt8) : List UInt8 := s.flatMap fun c => [92, c]
theorem bsl_cons (c : UInt8) (s : List UInt8) : bslF (c :: s) = 92 :: c :: bslF s := rfl
theorem bsl_snoc (c : UInt8) (s : List UInt8) : bslF (s ++ [c]) = bslF s ++ [92, c] := by unfold bslF; rw [List.flatMap_append]; rfl
theorem bsl_len (s : List UInt8) : (bslF s).length = 2 * s.length := by
  induction s with
  | nil => rfl
  | cons c r ih => rw [bsl_cons, List.length_cons, List.length_cons, ih, List.length_cons]; omega
theorem dtok_lit (c : UInt8) (r : List UInt8) : dtokF (92 :: c :: r) = (litT c, 2) := by
  simp only [dtokF]
  rw [if_neg (by decide), if_neg (by decide), if_pos ⟨by decide, by simp⟩]
  rfl
theorem dtoks_bsl (s tail : List UInt8) : dtoksF (bslF s ++ tail) = s.map litT ++ dtoksF tail := by
  induction s with
  | nil => rfl
  | cons c r ih =>
    rw [bsl_cons, List.cons_append, List.cons_append, dtoks_cons (by simp), dtok_lit]
    show litT c :: dtoksF (bslF r ++ tail) = _
    rw [ih]
    rfl
theorem dtoks_star (r : List UInt8) : dtoksF (42 :: r) = starT :: dtoksF r := by rw [dtoks_cons (by simp)]; rfl
theorem dtoks_nil : dtoksF [] = [] := rfl
theorem dtoks_any : dtoksF [63] = [anyT] := rfl
theorem lit_of (c b : UInt8) : (litT c).of b = decide (c = b) := by
  have e : (litT c).of b = ((decide (c.toNat ≤ b.toNat) && decide (b.toNat ≤ c.toNat) || false) != false) := rfl
  rw [e, Bool.or_false]
  by_cases h : c = b
  · subst h; simp
  · have h1 : ¬ c.toNat = b.toNat := fun h2 => h (UInt8.toNat_inj.1 h2)
    rw [decide_eq_false h]
    by_cases h2 : c.toNat ≤ b.toNat
    · have h3 : ¬ b.toNat ≤ c.toNat := by omega
      simp [h2, h3]
    · simp [h2]
theorem any_of (b : UInt8) : anyT.of b = true := rfl
theorem mat_lits (s : List UInt8) (ts : List Tok) : ∀ t, mat (s.map litT ++ ts) t = (s.isPrefixOf t && mat ts (t.drop s.length)) := by
  induction s with
  | nil => intro t; simp
  | cons c r ih =>
    intro t
    show mat (litT c :: (r.map litT ++ ts)) t = _
    cases t with
    | nil => rw [mat_one_nil rfl]; rfl
    | cons d t =>
      rw [mat_one rfl, lit_of, ih]
      have e : (c :: r).isPrefixOf (d :: t) = ((c == d) && r.isPrefixOf t) := rfl
      have e2 : (c == d) = decide (c = d) := by by_cases h : c = d <;> simp [h]
      rw [e, e2, Bool.and_assoc]
      rfl
theorem mat_star_all (t : List UInt8) : mat [starT] t = true := (mat_star rfl [] t).2 ⟨t.length, Nat.le_refl _, by rw [List.drop_length]; rfl⟩
theorem mat_any_one (t : List UInt8) : mat [anyT] t = decide (t.length = 1) := by
  cases t with
  | nil => rfl
  | cons c r =>
    rw [mat_one rfl, any_of, Bool.true_and]
    cases r with
    | nil => rfl
    | cons d r => simp [mat]
theorem exact_same (s t : List UInt8) : mat (dtoksF (bslF s)) t = decide (s = t) := by
  have h := dtoks_bsl s []
  rw [List.append_nil] at h
  rw [h, dtoks_nil, mat_lits]
  by_cases e : s = t
  · subst e
    rw [decide_eq_true rfl, List.drop_length]
    simp [mat]
  · rw [decide_eq_false e]
    rw [Bool.and_eq_false_iff]
    by_cases hp : s.isPrefixOf t = true
    · refine .inr ?_
      obtain ⟨r, hr⟩ := List.isPrefixOf_iff_prefix.1 hp
      subst hr
      rw [List.drop_left' rfl]
      cases r with
      | nil => exact absurd (List.append_nil s).symm e
      | cons c r => rfl
    · exact .inl (by cases h9 : s.isPrefixOf t with | false => rfl | true => exact absurd h9 hp)
theorem exact_begins (s t : List UInt8) : mat (dtoksF (bslF s ++ [42])) t = s.isPrefixOf t := by
  rw [dtoks_bsl, dtoks_star, dtoks_nil, mat_lits, mat_star_all, Bool.and_true]
theorem exact_more (s t : List UInt8) : mat (dtoksF (bslF s ++ [63])) t = (s.isPrefixOf t && decide (t.length = s.length + 1)) := by
  rw [dtoks_bsl, dtoks_any, mat_lits, mat_any_one, List.length_drop]
  congr 1
  exact decide_eq_decide.2 ⟨fun h => by omega, fun h => by omega⟩
theorem exact_within (s t : List UInt8) : mat (dtoksF (42 :: (bslF s ++ [42]))) (t ++ (s ++ t)) = true := by
  rw [dtoks_star, mat_star rfl]
  refine ⟨t.length, by simp, ?_⟩
  rw [List.drop_left' rfl, exact_begins, List.isPrefixOf_iff_prefix]
  exact ⟨t, rfl⟩
theorem exact_behind (s t : List UInt8) : mat (dtoksF (bslF s ++ [42])) (s ++ t) = true := by
  rw [exact_begins, List.isPrefixOf_iff_prefix]
  exact ⟨t, rfl⟩
end Go.Proofs.YtlfcjcaofhcfnaaGreatDoor

namespace Go.Proofs.YtlfcjcaofhcfnaaGreatDoor
set_option linter.unusedVariables false

def upF (p : Nat → Bool) : Nat → Bool
  | 0 => p 0
  | k + 1 => p (k + 1) || upF p k
theorem up_iff (p : Nat → Bool) : ∀ k, upF p k = true ↔ ∃ j, j ≤ k ∧ p j = true
  | 0 => by
    constructor
    · intro h
      exact ⟨0, Nat.le_refl _, h⟩
    · rintro ⟨j, hj, h⟩
      have e : j = 0 := by omega
      rw [e] at h
      exact h
  | k + 1 => by
    simp only [upF, Bool.or_eq_true, up_iff p k]
    constructor
    · rintro (h | ⟨j, hj, h⟩)
      · exact ⟨k + 1, Nat.le_refl _, h⟩
      · exact ⟨j, by omega, h⟩
    · rintro ⟨j, hj, h⟩
      rcases Nat.lt_or_ge j (k + 1) with h1 | h1
      · exact .inr ⟨j, by omega, h⟩
      · have e : j = k + 1 := by omega
        rw [e] at h
        exact .inl h
def standsF (t : Tok) (s : List UInt8) (k : Nat) : Bool := match s[k]? with
  | none => false
  | some c => t.of c
def oneR (t : Tok) (s : List UInt8) (p : Nat → Bool) : Nat → Bool
  | 0 => false
  | k + 1 => p k && standsF t s k
def stepR (t : Tok) (s : List UInt8) (p : Nat → Bool) : Nat → Bool := if t.many then upF p else oneR t s p
def reachF (s : List UInt8) : List Tok → (Nat → Bool) → Nat → Bool
  | [], p => p
  | t :: ts, p => reachF s ts (stepR t s p)
def rowZero : Nat → Bool := fun k => decide (k = 0)

theorem reach_iff (s : List UInt8) : ∀ (ts : List Tok) (p : Nat → Bool), reachF s ts p s.length = true ↔ ∃ k, k ≤ s.length ∧ p k = true ∧ mat ts (s.drop k) = true
  | [], p => by
    constructor
    · intro h
      refine ⟨s.length, Nat.le_refl _, h, ?_⟩
      rw [List.drop_length]
      rfl
    · rintro ⟨k, hk, hp, hm⟩
      have h0 : s.drop k = [] := List.isEmpty_iff.1 hm
      have h1 : s.length ≤ k := by
        have := congrArg List.length h0
        rw [List.length_drop] at this
        simp at this
        omega
      have e : k = s.length := by omega
      rw [e] at hp
      exact hp
  | t :: ts, p => by
    show reachF s ts (stepR t s p) s.length = true ↔ _
    rw [reach_iff s ts]
    unfold stepR
    cases hm : t.many with
    | true =>
      rw [if_pos rfl]
      constructor
      · rintro ⟨k, hk, hp, h⟩
        obtain ⟨j, hj, hj2⟩ := (up_iff p k).1 hp
        refine ⟨j, by omega, hj2, ?_⟩
        rw [star_shift hm]
        exact ⟨k, hj, .inl hk, h⟩
      · rintro ⟨j, hj, hp, h⟩
        rw [star_shift hm] at h
        obtain ⟨k, h1, h2, h3⟩ := h
        exact ⟨k, by omega, (up_iff p k).2 ⟨j, h1, hp⟩, h3⟩
    | false =>
      rw [if_neg (by simp)]
      constructor
      · rintro ⟨k, hk, hp, h⟩
        cases k with
        | zero => cases hp
        | succ k =>
          obtain ⟨c, hc⟩ : ∃ c, s[k]? = some c := ⟨_, List.getElem?_eq_getElem (by omega)⟩
          simp only [oneR, standsF, hc, Bool.and_eq_true] at hp
          refine ⟨k, by omega, hp.1, ?_⟩
          rw [drop_at hc, mat_one hm, hp.2, Bool.true_and]
          exact h
      · rintro ⟨k, hk, hp, h⟩
        rcases Nat.lt_or_ge k s.length with h1 | h1
        · obtain ⟨c, hc⟩ : ∃ c, s[k]? = some c := ⟨_, List.getElem?_eq_getElem h1⟩
          rw [drop_at hc, mat_one hm, Bool.and_eq_true] at h
          refine ⟨k + 1, by omega, ?_, h.2⟩
          simp only [oneR, standsF, hc, Bool.and_eq_true]
          exact ⟨hp, h.1⟩
        · have e : s.drop k = [] := List.drop_eq_nil_of_le h1
          rw [e, mat_one_nil hm] at h
          cases h
theorem reach_mat (ts : List Tok) (s : List UInt8) : reachF s ts rowZero s.length = mat ts s := by
  rw [Bool.eq_iff_iff, reach_iff]
  constructor
  · rintro ⟨k, hk, hp, h⟩
    have e : k = 0 := of_decide_eq_true hp
    rw [e] at h
    exact h
  · intro h
    exact ⟨0, Nat.zero_le _, rfl, h⟩
theorem reach_snoc (s : List UInt8) : ∀ (ts : List Tok) (t : Tok) (p : Nat → Bool), reachF s (ts ++ [t]) p = stepR t s (reachF s ts p)
  | [], _, _ => rfl
  | u :: ts, t, p => reach_snoc s ts t (stepR u s p)
end Go.Proofs.YtlfcjcaofhcfnaaGreatDoor
