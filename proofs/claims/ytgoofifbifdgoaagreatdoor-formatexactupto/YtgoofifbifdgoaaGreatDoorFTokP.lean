/-
  Formats: the tokens of a pattern, and the document's pieces of it.
-/
import Derived.Test.YtgoofifbifdgoaaGreatDoorFOf
import Derived.Lib.IndexLaws
import Derived.Lib.LastIndexByte
namespace Go.Proofs.YtgoofifbifdgoaaGreatDoor
set_option linter.unusedVariables false

def notB (l : List UInt8) : Bool := Lib.hasPrefix (l.drop 1) [33]
def begN (l : List UInt8) : Nat := if notB l then 2 else 1
def endN (l : List UInt8) : Nat := begN l + 1 + (Lib.indexByte (l.drop (begN l + 1)) 93).toNat
def csetF (l : List UInt8) (e : Int) : Tok × Nat :=
  if e ≤ (begN l : Int) then (⟨false, false, []⟩, 0) else (⟨false, notB l, (l.drop (begN l)).take (endN l - begN l)⟩, endN l + 1)
def tokF (l : List UInt8) (e : Int) : Tok × Nat := match l with
  | [] => (⟨false, false, []⟩, 1)
  | c :: r => if c.toNat = 42 then (⟨true, false, []⟩, 1) else if c.toNat = 63 then (⟨false, true, []⟩, 1) else if c.toNat = 92 ∧ r ≠ [] then (⟨false, false, r.take 1⟩, 2) else if c.toNat = 91 ∧ 0 < (csetF (c :: r) e).2 then csetF (c :: r) e else (⟨false, false, [c]⟩, 1)
def toksG : Nat → List UInt8 → Int → List Tok
  | 0, _, _ => []
  | f + 1, l, e => if l = [] then [] else (tokF l e).1 :: toksG f (l.drop (tokF l e).2) (e - ((tokF l e).2 : Int))
def lastE (l : List UInt8) : Int := Lib.lastIndexByte (str l) 93
def toksF (l : List UInt8) : List Tok := toksG l.length l (lastE l)

/-- e is the place of the last ] (below 0: there is none from here on). -/
structure LastOk (l : List UInt8) (e : Int) : Prop where
  lt : e < (l.length : Int)
  all : ∀ k : Nat, l[k]? = some 93 → (k : Int) ≤ e
  hit : 0 ≤ e → l[e.toNat]? = some 93
theorem byte_eq {c : UInt8} {n : Nat} (h : c.toNat = n) (hn : n < 256) : c = UInt8.ofNat n := by
  rw [← h]
  exact (UInt8.ofNat_toNat).symm
theorem data_at (l : List UInt8) {k : Nat} (h : k < l.length) : (str l).data[k]! = l[k] := by
  have e : (str l).data = l.toArray := rfl
  rw [e, getElem!_pos _ _ (by simpa using h)]
  simp
theorem last_ok (l : List UInt8) : LastOk l (lastE l) := by
  have hsz : (str l).size = l.length := rfl
  rcases Lib.lastIndexByte_spec (str l) 93 with ⟨h1, h2⟩ | ⟨i, h1, h2, h3, h4⟩
  · have e : lastE l = -1 := h1
    refine ⟨by rw [e]; omega, fun k hk => ?_, fun h => by rw [e] at h; omega⟩
    obtain ⟨hl, hk⟩ := List.getElem?_eq_some_iff.1 hk
    have := h2 k (by rw [hsz]; exact hl)
    rw [data_at l hl, hk] at this
    exact absurd rfl this
  · have e : lastE l = i := h2
    rw [hsz] at h1
    rw [data_at l h1] at h3
    refine ⟨by rw [e]; omega, fun k hk => ?_, fun _ => ?_⟩
    · obtain ⟨hl, hk⟩ := List.getElem?_eq_some_iff.1 hk
      rw [e]
      rcases Nat.lt_or_ge i k with h | h
      · have := h4 k h (by rw [hsz]; exact hl)
        rw [data_at l hl, hk] at this
        exact absurd rfl this
      · omega
    · rw [e]
      have e2 : ((i : Int)).toNat = i := rfl
      rw [e2, List.getElem?_eq_getElem h1]
      congr 1
      exact byte_eq (n := 93) (by omega) (by decide)
theorem LastOk.drop {l : List UInt8} {e : Int} (h : LastOk l e) {n : Nat} (hn : n ≤ l.length) : LastOk (l.drop n) (e - (n : Int)) := by
  refine ⟨by have := h.lt; rw [List.length_drop]; omega, fun k hk => ?_, fun h0 => ?_⟩
  · rw [List.getElem?_drop] at hk
    have := h.all _ hk
    omega
  · rw [List.getElem?_drop]
    have e1 : n + (e - (n : Int)).toNat = e.toNat := by omega
    rw [e1]
    exact h.hit (by omega)

theorem beg_le (l : List UInt8) : 1 ≤ begN l ∧ begN l ≤ 2 := by unfold begN; split <;> omega
/-- Where there is a ] behind the first member. -/
theorem set_end {l : List UInt8} {e : Int} (h : LastOk l e) (hb : (begN l : Int) < e) : 0 ≤ Lib.indexByte (l.drop (begN l + 1)) 93 ∧ endN l < l.length := by
  have hge := Lib.indexByte_ge (l.drop (begN l + 1)) 93
  have h93 := h.hit (by omega)
  have hbn := beg_le l
  have hne : Lib.indexByte (l.drop (begN l + 1)) 93 ≠ -1 := fun hn => by
    refine Lib.indexByte_none hn (e.toNat - (begN l + 1)) ?_
    rw [List.getElem?_drop]
    have e1 : begN l + 1 + (e.toNat - (begN l + 1)) = e.toNat := by omega
    rw [e1]
    exact h93
  obtain ⟨o, ho⟩ : ∃ o : Nat, Lib.indexByte (l.drop (begN l + 1)) 93 = o := ⟨(Lib.indexByte (l.drop (begN l + 1)) 93).toNat, by omega⟩
  refine ⟨by omega, ?_⟩
  have h2 := (List.getElem?_eq_some_iff.1 (Lib.indexByte_some ho).1).1
  unfold endN
  rw [ho]
  rw [List.length_drop] at h2
  have e2 : ((o : Int)).toNat = o := rfl
  rw [e2]
  omega
theorem set_le {l : List UInt8} {e : Int} (h : LastOk l e) : (csetF l e).2 ≤ l.length := by
  unfold csetF
  split
  · exact Nat.zero_le _
  · rename_i hb
    have := set_end h (by omega)
    simp only
    omega
theorem tok_len {l : List UInt8} {e : Int} (h : LastOk l e) (hl : l ≠ []) : 1 ≤ (tokF l e).2 ∧ (tokF l e).2 ≤ l.length := by
  cases l with
  | nil => exact absurd rfl hl
  | cons c r =>
    simp only [tokF]
    split
    · simp
    split
    · simp
    split
    · rename_i h1
      cases r with
      | nil => exact absurd rfl h1.2
      | cons d r => simp
    split
    · rename_i h1
      exact ⟨h1.2, set_le h⟩
    · simp
theorem tok_mem {l : List UInt8} {e : Int} : (tokF l e).1.mem.length ≤ l.length := by
  cases l with
  | nil => simp [tokF]
  | cons c r =>
    simp only [tokF]
    split
    · simp
    split
    · simp
    split
    · rw [List.length_take, List.length_cons]; omega
    split
    · unfold csetF
      split
      · simp
      · simp only [List.length_take, List.length_drop]; omega
    · simp
theorem toks_few : ∀ (f : Nat) (l : List UInt8) (e : Int), (toksG f l e).length ≤ f
  | 0, _, _ => Nat.le_refl _
  | f + 1, l, e => by
    unfold toksG
    split
    · simp
    · have := toks_few f (l.drop (tokF l e).2) (e - ((tokF l e).2 : Int))
      simp only [List.length_cons]
      omega

/-- The document's pieces: ranges are pairs of bytes. -/
def rangG : Nat → List UInt8 → List UInt8
  | 0, _ => []
  | _ + 1, [] => []
  | f + 1, c :: r => [c, (spanF (c :: r)).1] ++ rangG f ((c :: r).drop (spanF (c :: r)).2)
def rangF (l : List UInt8) : List UInt8 := rangG l.length l
def inF (b : UInt8) : List UInt8 → Bool
  | x :: y :: r => (decide (x.toNat ≤ b.toNat) && decide (b.toNat ≤ y.toNat)) || inF b r
  | _ => false
theorem rang_has : ∀ (f : Nat) (l : List UInt8) (b : UInt8), inF b (rangG f l) = hasG f l b
  | 0, _, _ => rfl
  | _ + 1, [], _ => rfl
  | f + 1, c :: r, b => by
    have h := rang_has f ((c :: r).drop (spanF (c :: r)).2) b
    simp only [rangG, hasG, List.cons_append, List.nil_append, inF, h]
theorem rang_of (t : Tok) (b : UInt8) : (inF b (rangF t.mem) != t.not) = t.of b := by
  unfold rangF Tok.of hasF
  rw [rang_has]
theorem rang_len : ∀ (f : Nat) (l : List UInt8), (rangG f l).length ≤ 2 * f
  | 0, _ => Nat.le_refl _
  | _ + 1, [] => by simp [rangG]
  | f + 1, c :: r => by
    have h := rang_len f ((c :: r).drop (spanF (c :: r)).2)
    simp only [rangG, List.length_append, List.length_cons, List.length_nil]
    omega
theorem rang_fuel : ∀ (f g : Nat) (l : List UInt8), l.length ≤ f → l.length ≤ g → rangG f l = rangG g l
  | 0, g, l, h1, h2 => by
    have e : l = [] := List.length_eq_zero_iff.1 (by omega)
    subst e
    cases g <;> rfl
  | f + 1, 0, l, h1, h2 => by
    have e : l = [] := List.length_eq_zero_iff.1 (by omega)
    subst e
    rfl
  | f + 1, g + 1, [], _, _ => rfl
  | f + 1, g + 1, c :: r, h1, h2 => by
    have hs := span_pos (c :: r)
    have hd : ((c :: r).drop (spanF (c :: r)).2).length ≤ r.length := by rw [List.length_drop, List.length_cons]; omega
    simp only [List.length_cons] at h1 h2
    simp only [rangG]
    rw [rang_fuel f g ((c :: r).drop (spanF (c :: r)).2) (by omega) (by omega)]

/-- The document's set: where it ends. -/
def dsetF (l : List UInt8) : Tok × Nat :=
  if Lib.indexByte (l.drop (begN l + 1)) 93 = -1 then (⟨false, notB l, []⟩, 0) else (⟨false, notB l, (l.drop (begN l)).take (endN l - begN l)⟩, endN l + 1)
theorem set_both {l : List UInt8} {e : Int} (h : LastOk l e) : (0 < (csetF l e).2 ↔ 0 < (dsetF l).2) ∧ (0 < (csetF l e).2 → csetF l e = dsetF l) := by
  by_cases hb : e ≤ (begN l : Int)
  · have h0 : csetF l e = (⟨false, false, []⟩, 0) := by unfold csetF; rw [if_pos hb]
    have hn : Lib.indexByte (l.drop (begN l + 1)) 93 = -1 := by
      have hge := Lib.indexByte_ge (l.drop (begN l + 1)) 93
      rcases Decidable.em (Lib.indexByte (l.drop (begN l + 1)) 93 = -1) with h1 | h1
      · exact h1
      · exfalso
        obtain ⟨o, ho⟩ : ∃ o : Nat, Lib.indexByte (l.drop (begN l + 1)) 93 = o := ⟨(Lib.indexByte (l.drop (begN l + 1)) 93).toNat, by omega⟩
        have h2 := (Lib.indexByte_some ho).1
        rw [List.getElem?_drop] at h2
        have := h.all _ h2
        omega
    have h1 : dsetF l = (⟨false, notB l, []⟩, 0) := by unfold dsetF; rw [if_pos hn]
    rw [h0, h1]
    simp
  · have h0 : csetF l e = (⟨false, notB l, (l.drop (begN l)).take (endN l - begN l)⟩, endN l + 1) := by unfold csetF; rw [if_neg hb]
    have hn := (set_end h (by omega)).1
    have h1 : dsetF l = (⟨false, notB l, (l.drop (begN l)).take (endN l - begN l)⟩, endN l + 1) := by unfold dsetF; rw [if_neg (by omega)]
    rw [h0, h1]
    simp
def dtokF (l : List UInt8) : Tok × Nat := match l with
  | [] => (⟨false, false, []⟩, 1)
  | c :: r => if c.toNat = 42 then (⟨true, false, []⟩, 1) else if c.toNat = 63 then (⟨false, true, []⟩, 1) else if c.toNat = 92 ∧ r ≠ [] then (⟨false, false, r.take 1⟩, 2) else if c.toNat = 91 ∧ 0 < (dsetF (c :: r)).2 then dsetF (c :: r) else (⟨false, false, [c]⟩, 1)
theorem tok_both {l : List UInt8} {e : Int} (h : LastOk l e) : tokF l e = dtokF l := by
  cases l with
  | nil => rfl
  | cons c r =>
    obtain ⟨h1, h2⟩ := set_both h
    simp only [tokF, dtokF]
    split
    · rfl
    split
    · rfl
    split
    · rfl
    by_cases h3 : c.toNat = 91 ∧ 0 < (csetF (c :: r) e).2
    · rw [if_pos h3, if_pos ⟨h3.1, h1.1 h3.2⟩, h2 h3.2]
    · rw [if_neg h3, if_neg (fun h4 => h3 ⟨h4.1, h1.2 h4.2⟩)]
def dtoksG : Nat → List UInt8 → List Tok
  | 0, _ => []
  | f + 1, l => if l = [] then [] else (dtokF l).1 :: dtoksG f (l.drop (dtokF l).2)
theorem toks_both : ∀ (f : Nat) (l : List UInt8) (e : Int), LastOk l e → toksG f l e = dtoksG f l
  | 0, _, _, _ => rfl
  | f + 1, l, e, h => by
    unfold toksG dtoksG
    by_cases h0 : l = []
    · rw [if_pos h0, if_pos h0]
    · rw [if_neg h0, if_neg h0, ← tok_both h, toks_both f _ _ (h.drop (tok_len h h0).2)]
def dtoksF (l : List UInt8) : List Tok := dtoksG l.length l
theorem toks_doc (l : List UInt8) : toksF l = dtoksF l := toks_both _ _ _ (last_ok l)
end Go.Proofs.YtgoofifbifdgoaaGreatDoor
