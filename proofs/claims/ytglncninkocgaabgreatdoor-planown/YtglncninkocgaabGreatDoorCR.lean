/-
  Plain facts on decimal numerals: nothing of the dump.
  Plans, by plain functions: a tree's text; how a list of cells is written from its beginning on.
-/
import Derived.Test.YtglncninkocgaabGreatDoorCQ
import Derived.Test.YtglncninkocgaabGreatDoorCA
import Derived.Lib.ItoaNum
import Derived.Lib.AtoiAll
namespace Go.Proofs.YtglncninkocgaabGreatDoor
open Go.RowKit
open Go.Lib (decDigits parseUint10 parseMag atoiAll)

theorem dec_small {u : Nat} (h : u < 10) : decDigits u = [UInt8.ofNat (48 + u)] := by rw [decDigits, dif_pos h]
theorem dec_big {u : Nat} (h : ¬ u < 10) : decDigits u = decDigits (u / 10) ++ [UInt8.ofNat (48 + u % 10)] := by rw [decDigits, dif_neg h]
theorem digit_nat {d : Nat} (h : d < 10) : (UInt8.ofNat (48 + d)).toNat = 48 + d := by rw [UInt8.toNat_ofNat']; omega

theorem dec_ne (u : Nat) : decDigits u ≠ [] := by
  by_cases h : u < 10
  · rw [dec_small h]; simp
  · rw [dec_big h]; simp

theorem dec_digit (u : Nat) : ∀ c ∈ decDigits u, 48 ≤ c.toNat ∧ c.toNat ≤ 57 := by
  induction u using Nat.strongRecOn with
  | _ u ih =>
    by_cases h : u < 10
    · rw [dec_small h]
      intro c hc
      simp only [List.mem_singleton] at hc
      subst hc
      rw [digit_nat h]
      omega
    · rw [dec_big h]
      intro c hc
      rcases List.mem_append.1 hc with hc | hc
      · exact ih (u / 10) (by omega) c hc
      · simp only [List.mem_singleton] at hc
        subst hc
        rw [digit_nat (by omega)]
        omega

/-- What digits spell. -/
def val (acc : Nat) (l : List UInt8) : Nat := l.foldl (fun a c => a * 10 + (c.toNat - 48)) acc
theorem val_nil (acc : Nat) : val acc [] = acc := rfl
theorem val_cons (acc : Nat) (c : UInt8) (l : List UInt8) : val acc (c :: l) = val (acc * 10 + (c.toNat - 48)) l := by unfold val; rw [List.foldl_cons]
theorem val_snoc (acc : Nat) (l : List UInt8) (c : UInt8) : val acc (l ++ [c]) = val acc l * 10 + (c.toNat - 48) := by
  unfold val; rw [List.foldl_append, List.foldl_cons, List.foldl_nil]
theorem val_append (acc : Nat) (a b : List UInt8) : val acc (a ++ b) = val (val acc a) b := by unfold val; rw [List.foldl_append]
theorem val_ge (l : List UInt8) : ∀ acc, acc ≤ val acc l := by
  induction l with
  | nil => intro acc; exact Nat.le_refl _
  | cons c l ih => intro acc; rw [val_cons]; have := ih (acc * 10 + (c.toNat - 48)); omega

theorem dec_val (u : Nat) : val 0 (decDigits u) = u := by
  induction u using Nat.strongRecOn with
  | _ u ih =>
    by_cases h : u < 10
    · rw [dec_small h, val_cons, val_nil, digit_nat h]; omega
    · rw [dec_big h, val_snoc, ih (u / 10) (by omega), digit_nat (by omega)]; omega
theorem dec_inj {a b : Nat} (h : decDigits a = decDigits b) : a = b := by rw [← dec_val a, h, dec_val]

theorem parse_val (l : List UInt8) : ∀ acc, (∀ c ∈ l, 48 ≤ c.toNat ∧ c.toNat ≤ 57) → val acc l < 18446744073709551616 → parseUint10 acc l = .ok (val acc l) := by
  induction l with
  | nil => intro acc _ _; rfl
  | cons c l ih =>
    intro acc hd hv
    rw [val_cons] at hv ⊢
    have h1 := val_ge l (acc * 10 + (c.toNat - 48))
    have h2 := hd c (List.mem_cons_self ..)
    unfold parseUint10
    rw [if_pos h2, if_neg (by omega), if_neg (by omega)]
    exact ih _ (fun x hx => hd x (List.mem_cons_of_mem _ hx)) hv

theorem atoi_dec {n : Nat} (h : n < 9223372036854775808) : atoiAll (decDigits n) = .ok (n : Int) := by
  have hd := dec_digit n
  have hv := dec_val n
  generalize hl : decDigits n = l at hd hv
  cases l with
  | nil => exact absurd hl (dec_ne n)
  | cons c r =>
    have hc := hd c (List.mem_cons_self ..)
    have hp : parseMag (c :: r) = .ok n := by
      unfold parseMag
      rw [if_neg (by simp), parse_val (c :: r) 0 hd (by rw [hv]; omega), hv]
    unfold atoiAll
    simp only
    rw [if_neg (by omega), hp]
    simp only
    rw [if_neg (by omega), if_neg (by omega), if_neg (by omega)]

/-- The numeral of a number within its bounds, else nothing. -/
def putL (n : Int) : List UInt8 := if 0 ≤ n ∧ n ≤ 4611686018427387904 then decDigits n.toNat else []
theorem putL_in {n : Int} (h : 0 ≤ n ∧ n ≤ 4611686018427387904) : putL n = decDigits n.toNat := if_pos h
theorem putL_out {n : Int} (h : ¬ (0 ≤ n ∧ n ≤ 4611686018427387904)) : putL n = [] := if_neg h
theorem putL_inj {a b : Int} (ha : 0 ≤ a ∧ a ≤ 4611686018427387904) (h : putL a = putL b) : a = b := by
  by_cases hb : 0 ≤ b ∧ b ≤ 4611686018427387904
  · rw [putL_in ha, putL_in hb] at h
    have := dec_inj h
    omega
  · rw [putL_in ha, putL_out hb] at h
    exact absurd h (dec_ne _)

/-- A text is a number's numeral. -/
def Num (l : List UInt8) (n : Int) : Prop := (0 ≤ n ∧ n ≤ 4611686018427387904) ∧ putL n = l

theorem num_atoi {l : List UInt8} {n : Int} (h : Num l n) : atoiAll l = .ok n := by
  obtain ⟨h1, h2⟩ := h
  rw [putL_in h1] at h2
  rw [← h2, atoi_dec (by omega)]
  congr 1
  omega

theorem putL_bounds {n : Int} (h : putL n ≠ []) : 0 ≤ n ∧ n ≤ 4611686018427387904 := by
  by_cases hb : 0 ≤ n ∧ n ≤ 4611686018427387904
  · exact hb
  · exact absurd (putL_out hb) h

theorem dec_length (u : Nat) (h : u < 10000000000000000000) : (decDigits u).length ≤ 19 := by
  rw [Go.Lib.decDigits_length]
  have key : ∀ (k u : Nat), u < 10 ^ (k + 1) → Go.Lib.nDigits u ≤ k + 1 := by
    intro k
    induction k with
    | zero => intro u hu; rw [Go.Lib.nDigits_small (by simpa using hu)]; exact Nat.le_refl _
    | succ k ih =>
      intro u hu
      by_cases h10 : u < 10
      · rw [Go.Lib.nDigits_small h10]; omega
      · rw [Go.Lib.nDigits_big h10]
        have := ih (u / 10) (by rw [Nat.pow_succ] at hu; omega)
        omega
  exact key 18 u (by simpa using h)
theorem putL_length (n : Int) : (putL n).length ≤ 19 := by
  unfold putL
  split
  · exact dec_length _ (by omega)
  · simp

end Go.Proofs.YtglncninkocgaabGreatDoor

namespace Go.Proofs.YtglncninkocgaabGreatDoor
open Go.RowKit
set_option linter.unusedVariables false

def boxT (b : Box) : List UInt8 := putL b.w ++ 120 :: (putL b.h ++ 44 :: (putL b.x ++ 44 :: putL b.y))
def openB (k : Int) : UInt8 := if k = 3 then 91 else 123
def shutB (k : Int) : UInt8 := if k = 3 then 93 else 125
mutual
/-- A tree's text. -/
def Tree.text : Tree → List UInt8
  | .leaf b p => boxT b ++ 44 :: putL p
  | .split b k ts => boxT b ++ openB k :: ((moreT ts).tail ++ [shutB k])
/-- The parts' texts, a comma ahead of each. -/
def moreT : List Tree → List UInt8
  | [] => []
  | t :: ts => 44 :: (t.text ++ moreT ts)
end

/-- What is written so far, and the brackets that are still to be closed. -/
structure St where
  txt : List UInt8
  opn : List UInt8
def popTo (d : Nat) (s : St) : St := ⟨s.txt ++ (s.opn.drop d).reverse, s.opn.take d⟩
def comma (d : Nat) (pd : Int) : List UInt8 := if (d : Int) ≤ pd then [44] else []
def stepB (pd : Int) (s : St) (c : CellV) : St :=
  if c.kind = 2 then ⟨(popTo c.depth.toNat s).txt ++ (comma c.depth.toNat pd ++ (boxT c.box ++ [123])), (popTo c.depth.toNat s).opn ++ [125]⟩
  else if c.kind = 3 then ⟨(popTo c.depth.toNat s).txt ++ (comma c.depth.toNat pd ++ (boxT c.box ++ [91])), (popTo c.depth.toNat s).opn ++ [93]⟩
  else ⟨(popTo c.depth.toNat s).txt ++ (comma c.depth.toNat pd ++ (boxT c.box ++ 44 :: putL c.p)), (popTo c.depth.toNat s).opn⟩
def foldB : Int → St → List CellV → St
  | _, s, [] => s
  | pd, s, c :: l => foldB c.depth (stepB pd s c) l
def lastD : Int → List CellV → Int
  | pd, [] => pd
  | _, c :: l => lastD c.depth l
theorem fold_append : ∀ (a b : List CellV) (pd : Int) (s : St), foldB pd s (a ++ b) = foldB (lastD pd a) (foldB pd s a) b
  | [], _, _, _ => rfl
  | c :: a, b, pd, s => fold_append a b c.depth (stepB pd s c)
theorem lastD_append : ∀ (a b : List CellV) (pd : Int), lastD pd (a ++ b) = lastD (lastD pd a) b
  | [], _, _ => rfl
  | c :: a, b, pd => lastD_append a b c.depth

theorem popTo_pop {d e : Nat} (h : d ≤ e) (s : St) : popTo d (popTo e s) = popTo d s := by
  unfold popTo
  have h1 : s.opn.drop d = (s.opn.take e).drop d ++ s.opn.drop e := by
    conv => lhs; rw [← List.take_append_drop e s.opn]
    rcases Nat.le_total s.opn.length e with hl | hl
    · rw [List.drop_of_length_le hl, List.append_nil, List.append_nil]
    · rw [List.drop_append_of_le_length (by rw [List.length_take]; omega)]
  simp only [St.mk.injEq]
  refine ⟨?_, ?_⟩
  · rw [h1, List.reverse_append, List.append_assoc]
  · rw [List.take_take, Nat.min_eq_left h]
theorem popTo_id {d : Nat} {s : St} (h : s.opn.length ≤ d) : popTo d s = s := by
  unfold popTo
  rw [List.drop_of_length_le h, List.take_of_length_le h, List.reverse_nil, List.append_nil]
theorem popTo_len {d : Nat} {s : St} (h : d ≤ s.opn.length) : (popTo d s).opn.length = d := by
  show (s.opn.take d).length = d
  rw [List.length_take]; omega

mutual
theorem fold_tree : ∀ (t : Tree), t.kinds → ∀ (d : Nat) (pd : Int) (s : St), d ≤ s.opn.length → popTo d (foldB pd s (t.tell d)) = ⟨(popTo d s).txt ++ (comma d pd ++ t.text), (popTo d s).opn⟩ ∧ d ≤ (foldB pd s (t.tell d)).opn.length ∧ (d : Int) ≤ lastD pd (t.tell d)
  | .leaf b p, hk, d, pd, s, hd => by
    have hl := popTo_len hd
    have e : foldB pd s ((Tree.leaf b p).tell d) = ⟨(popTo d s).txt ++ (comma d pd ++ (boxT b ++ 44 :: putL p)), (popTo d s).opn⟩ := by
      show stepB pd s ⟨d, 1, b.x, b.y, b.w, b.h, p⟩ = _
      unfold stepB
      simp only [Int.toNat_natCast]
      rw [if_neg (by omega), if_neg (by omega)]
      rfl
    rw [e]
    refine ⟨?_, by show d ≤ (popTo d s).opn.length; omega, Int.le_refl _⟩
    rw [popTo_id (by show (popTo d s).opn.length ≤ d; omega)]
    rfl
  | .split b k ts, hk, d, pd, s, hd => by
    have hl := popTo_len hd
    have e : foldB pd s ((Tree.split b k ts).tell d) = foldB (d : Int) ⟨(popTo d s).txt ++ (comma d pd ++ (boxT b ++ [openB k])), (popTo d s).opn ++ [shutB k]⟩ (tellAll ts ((d + 1 : Nat) : Int)) := by
      show foldB (d : Int) (stepB pd s ⟨d, k, b.x, b.y, b.w, b.h, 0⟩) (tellAll ts ((d : Int) + 1)) = _
      rw [show ((d + 1 : Nat) : Int) = (d : Int) + 1 from by omega]
      congr 1
      unfold stepB
      simp only [Int.toNat_natCast]
      rcases hk.1 with rfl | rfl
      · rw [if_pos rfl]; rfl
      · rw [if_neg (by omega), if_pos rfl]; rfl
    have hl2 : ((popTo d s).opn ++ [shutB k]).length = d + 1 := by rw [List.length_append]; simp; omega
    obtain ⟨g1, g2, g3⟩ := fold_parts ts hk.2 (d + 1) (d : Int) ⟨(popTo d s).txt ++ (comma d pd ++ (boxT b ++ [openB k])), (popTo d s).opn ++ [shutB k]⟩ (by show d + 1 ≤ ((popTo d s).opn ++ [shutB k]).length; omega)
    rw [e]
    refine ⟨?_, by omega, ?_⟩
    · have hid : popTo (d + 1) ⟨(popTo d s).txt ++ (comma d pd ++ (boxT b ++ [openB k])), (popTo d s).opn ++ [shutB k]⟩ = ⟨(popTo d s).txt ++ (comma d pd ++ (boxT b ++ [openB k])), (popTo d s).opn ++ [shutB k]⟩ := popTo_id (by show ((popTo d s).opn ++ [shutB k]).length ≤ d + 1; omega)
      rw [← popTo_pop (Nat.le_succ d), g1, hid, if_neg (by omega)]
      unfold popTo
      have h1 : (List.take d s.opn ++ [shutB k]).drop d = [shutB k] := by
        rw [List.drop_append_of_le_length (by show d ≤ (popTo d s).opn.length; omega), List.drop_of_length_le (by show (popTo d s).opn.length ≤ d; omega)]; rfl
      have h2 : (List.take d s.opn ++ [shutB k]).take d = List.take d s.opn := by
        rw [List.take_append_of_le_length (by show d ≤ (popTo d s).opn.length; omega), List.take_take, Nat.min_self]
      simp only [h1, h2, St.mk.injEq, and_true]
      show _ = _ ++ (comma d pd ++ (boxT b ++ openB k :: ((moreT ts).tail ++ [shutB k])))
      simp
    · show (d : Int) ≤ lastD (d : Int) (tellAll ts ((d : Int) + 1))
      rcases g3 with rfl | g3
      · exact Int.le_refl _
      · rw [show ((d + 1 : Nat) : Int) = (d : Int) + 1 from by omega] at g3; omega
theorem fold_parts : ∀ (ts : List Tree), kindsAll ts → ∀ (d : Nat) (pd : Int) (s : St), d ≤ s.opn.length → popTo d (foldB pd s (tellAll ts d)) = ⟨(popTo d s).txt ++ (if (d : Int) ≤ pd then moreT ts else (moreT ts).tail), (popTo d s).opn⟩ ∧ d ≤ (foldB pd s (tellAll ts d)).opn.length ∧ (ts = [] ∨ (d : Int) ≤ lastD pd (tellAll ts d))
  | [], hk, d, pd, s, hd => by
    refine ⟨?_, hd, .inl rfl⟩
    show popTo d s = _
    rw [show moreT [] = [] from rfl]
    split <;> simp
  | t :: ts, hk, d, pd, s, hd => by
    obtain ⟨g1, g2, g3⟩ := fold_tree t hk.1 d pd s hd
    obtain ⟨k1, k2, k3⟩ := fold_parts ts hk.2 d (lastD pd (t.tell d)) (foldB pd s (t.tell d)) g2
    have e : foldB pd s (tellAll (t :: ts) d) = foldB (lastD pd (t.tell d)) (foldB pd s (t.tell d)) (tellAll ts d) := fold_append _ _ _ _
    rw [e]
    refine ⟨?_, k2, .inr ?_⟩
    · rw [k1, g1, if_pos g3]
      simp only [St.mk.injEq, and_true]
      unfold comma
      rw [show moreT (t :: ts) = 44 :: (t.text ++ moreT ts) from rfl]
      split <;> simp
    · show (d : Int) ≤ lastD pd (t.tell d ++ tellAll ts d)
      rw [lastD_append]
      rcases k3 with rfl | k3
      · exact g3
      · exact k3
end
theorem fold_all (t : Tree) (h : t.kinds) : popTo 0 (foldB (-1) ⟨[], []⟩ (t.tell 0)) = ⟨t.text, []⟩ := by
  have := (fold_tree t h 0 (-1) ⟨[], []⟩ (Nat.le_refl _)).1
  simp only [Int.natCast_zero] at this
  rw [this]
  rfl
end Go.Proofs.YtglncninkocgaabGreatDoor
