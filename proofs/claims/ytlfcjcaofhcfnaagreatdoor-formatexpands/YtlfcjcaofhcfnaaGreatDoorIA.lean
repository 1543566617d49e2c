/-
  FormatBeside: the walk.
  Formats: sums, products, quotients and comparisons of numbers, as places say them.
  Formats: what FormatSums' texts say.
-/
import Derived.Test.YtlfcjcaofhcfnaaGreatDoorGU
import Derived.Test.YtlfcjcaofhcfnaaGreatDoorGQ
namespace Go.Proofs.YtlfcjcaofhcfnaaGreatDoor
open Go.RowKit
set_option linter.unusedVariables false
set_option maxRecDepth 100000

/-- What Expand answers, by its two parts. -/
def txtF : Except Int (List UInt8) → List UInt8
  | .ok s => s
  | .error _ => []
def codF : Except Int (List UInt8) → Int
  | .ok _ => 0
  | .error k => k
theorem ans_two (r : Except Int (List UInt8)) : ansF r = .returned (.tuple #[.string (str (txtF r)), .int .i64 (codF r)]) := by cases r <;> rfl
theorem cod_ok {vs : Vars} {l : List UInt8} (h : codF (saysF vs l) = 0) : saysF vs l = .ok (txtF (saysF vs l)) := by
  cases hr : saysF vs l with
  | ok s => rfl
  | error k =>
    rw [hr] at h
    have := bad_say vs 16 l k (by rw [says_eq, hr])
    exact absurd h this
theorem txt_short {vs : Vars} {l : List UInt8} : (txtF (saysF vs l)).length ≤ 1024 := by
  cases hr : saysF vs l with
  | ok s =>
    show s.length ≤ 1024
    exact say_short (vs := vs) (r := 16) (l := l) ((says_eq vs l).trans (by rw [hr]))
  | error k => exact Nat.zero_le _
theorem snoc_or (l : List UInt8) : l = [] ∨ ∃ L c, l = L ++ [c] := by
  rcases List.eq_nil_or_concat l with h | ⟨L, c, h⟩
  · exact .inl h
  · exact .inr ⟨L, c, by rw [h, List.concat_eq_append]⟩
/-- How many # a text has. -/
def countF (l : List UInt8) : Nat := l.countP fun c => decide (c.toNat = 35)
theorem count_take {l : List UInt8} {i : Nat} {c : UInt8} (h : l[i]? = some c) : countF (l.take (i + 1)) = countF (l.take i) + if c.toNat = 35 then 1 else 0 := by
  unfold countF
  rw [List.take_add_one, h, Option.toList_some, List.countP_append]
  simp
theorem count_le (l : List UInt8) : countF l ≤ l.length := List.countP_le_length
theorem fine_last {p : List UInt8} {c : UInt8} (h : c.toNat ≠ 35) : Fine (p ++ [c]) := .inl (by
  rw [List.getLast?_append]
  simp only [List.getLast?_singleton, Option.some_or, ne_eq, Option.some.injEq]
  rintro rfl
  exact h rfl)
theorem fine_two {p : List UInt8} (h : countF (p ++ [35, 35]) = 2) : Fine (p ++ [35, 35]) := .inr ⟨p, rfl, fun c hc e => by
  unfold countF at h
  rw [List.countP_append] at h
  have h2 : ([35, 35] : List UInt8).countP (fun c => decide (c.toNat = 35)) = 2 := by decide
  rw [h2] at h
  have h3 : p.countP (fun c => decide (c.toNat = 35)) = 0 := by omega
  rw [List.countP_eq_zero] at h3
  exact h3 c hc (by simpa using e)⟩
theorem bytes_cat (a b : List UInt8) : str a ++ str b = str (a ++ b) := by
  apply ByteArray.ext
  simp [str]
end Go.Proofs.YtlfcjcaofhcfnaaGreatDoor

namespace Go.Proofs.YtlfcjcaofhcfnaaGreatDoor
set_option linter.unusedVariables false
open Go.Lib (decDigits itoa)

/-- Bytes that are gone past one by one. -/
def Quiet (l : List UInt8) : Prop := ∀ c ∈ l, c.toNat ≠ 35 ∧ c.toNat ≠ 44 ∧ c.toNat ≠ 125
theorem quiet_pass {c : UInt8} (h : c.toNat ≠ 35 ∧ c.toNat ≠ 44 ∧ c.toNat ≠ 125) (l : List UInt8) : passF (c :: l) = (1, 0) := by
  cases l with
  | nil => simp only [passF]; rw [if_neg h.2.2]
  | cons d l => simp only [passF]; rw [if_neg h.2.2, if_neg h.1]
theorem ins_quiet : ∀ (p : List UInt8), Quiet p → ∀ (f : Nat) (l : List UInt8) (o : Int) (k : Nat), o ≠ 0 → insG (f + p.length) (p ++ l) o k = insG f l o (k + p.length)
  | [], _, f, l, o, k, ho => rfl
  | c :: p, hp, f, l, o, k, ho => by
    have e := quiet_pass (hp c List.mem_cons_self) (p ++ l)
    rw [List.length_cons, ← Nat.add_assoc, List.cons_append]
    conv => lhs; unfold insG
    rw [if_neg (by simp), e]
    simp only [Int.add_zero]
    rw [if_neg ho]
    simp only [List.drop_succ_cons, List.drop_zero]
    rw [ins_quiet p (fun d hd => hp d (List.mem_cons_of_mem _ hd)) f l o (k + 1) ho]
    congr 1
    omega
theorem cut_quiet : ∀ (p : List UInt8), Quiet p → ∀ (f : Nat) (l cur : List UInt8) (o : Int), cutG (f + p.length) (p ++ l) cur o = cutG f l (cur ++ p) o
  | [], _, f, l, cur, o => by simp
  | c :: p, hp, f, l, cur, o => by
    have hc := hp c List.mem_cons_self
    have e := quiet_pass hc (p ++ l)
    rw [List.length_cons, ← Nat.add_assoc, List.cons_append]
    conv => lhs; unfold cutG
    simp only
    rw [if_neg (by rintro ⟨h, _⟩; exact hc.2.1 h), e]
    simp only [List.drop_succ_cons, List.drop_zero, List.take_succ_cons, List.take_zero, Int.add_zero]
    rw [cut_quiet p (fun d hd => hp d (List.mem_cons_of_mem _ hd)) f l _ o]
    simp
theorem quiet_nil : Quiet [] := fun c hc => by cases hc
theorem quiet_app {a b : List UInt8} (ha : Quiet a) (hb : Quiet b) : Quiet (a ++ b) := fun c hc => (List.mem_append.1 hc).elim (ha c) (hb c)
theorem quiet_itoa (z : Int) : Quiet (itoa z) := fun c hc => by
  have hd : ∀ u : Nat, ∀ c ∈ decDigits u, c.toNat ≠ 35 ∧ c.toNat ≠ 44 ∧ c.toNat ≠ 125 := fun u c h => by
    have := dec_digits u c h
    unfold digitB at this
    rw [Bool.and_eq_true, decide_eq_true_eq, decide_eq_true_eq] at this
    omega
  unfold itoa at hc
  split at hc
  · rcases List.mem_cons.1 hc with rfl | h
    · decide
    · exact hd _ c h
  · exact hd _ c hc
theorem itoa_none (z : Int) : itoa z ≠ [] := by
  unfold itoa
  split
  · simp
  · exact dec_none _
theorem itoa_ident (z : Int) : identF (itoa z) = false := by
  have hd : ∀ u : Nat, identF (decDigits u) = false := fun u => by
    cases h : decDigits u with
    | nil => rfl
    | cons c r =>
      have := dec_digits u c (by rw [h]; exact List.mem_cons_self)
      unfold digitB at this
      rw [Bool.and_eq_true, decide_eq_true_eq, decide_eq_true_eq] at this
      have hs : smallB c = false := by
        unfold smallB
        rw [decide_eq_false (by omega), Bool.false_and]
      simp only [identF, hs, Bool.and_false, Bool.false_and]
  unfold itoa
  split
  · simp only [identF]
    have : smallB 45 = false := by decide
    rw [this]
    simp
  · exact hd _
/-- A place whose inside has one comma at its own depth, its two parts being quiet. -/
theorem inside_two {a b : List UInt8} (ha : Quiet a) (hb : Quiet b) (l : List UInt8) : insideF (a ++ 44 :: b ++ 125 :: l) = some (a.length + 1 + b.length) := by
  unfold insideF
  have e : a ++ 44 :: b ++ 125 :: l = a ++ (44 :: (b ++ 125 :: l)) := by simp
  have hl : (a ++ 44 :: b ++ 125 :: l).length = (1 + l.length + b.length + 1) + a.length := by simp; omega
  rw [hl, e, ins_quiet a ha _ _ 1 0 (by decide)]
  have p1 : passF (44 :: (b ++ 125 :: l)) = (1, 0) := by
    cases b <;> simp [passF]
  conv => lhs; unfold insG
  rw [if_neg (by simp), p1]
  simp only [Int.add_zero, List.drop_succ_cons, List.drop_zero]
  rw [if_neg (by decide), ins_quiet b hb _ _ 1 _ (by decide), Nat.add_comm 1 l.length]
  have p2 : passF (125 :: l) = (1, -1) := by
    cases l <;> simp [passF]
  unfold insG
  rw [if_neg (by simp), p2]
  simp only [Nat.zero_add]
  rw [if_pos (by decide)]
theorem cut_two {a b : List UInt8} (ha : Quiet a) (hb : Quiet b) : cutF (a ++ 44 :: b) = [a, b] := by
  unfold cutF
  have hl : (a ++ 44 :: b).length = (b.length + 1) + a.length := by simp; omega
  rw [hl, cut_quiet a ha]
  conv => lhs; unfold cutG
  simp only [List.nil_append]
  rw [if_pos (by simp)]
  have h := cut_quiet b hb 0 [] [] 0
  rw [Nat.zero_add, List.append_nil] at h
  rw [h]
  rfl
/-- One place behind what is said so far. -/
theorem place_step (pl : List UInt8 → Res) (vs : Vars) (f : Nat) {inn l said s : List UInt8} (hi : insideF (inn ++ 125 :: l) = some inn.length) (hp : pl inn = some (.ok s)) (hs : said.length + s.length ≤ 1024) :
    loopB pl vs (f + 1) (35 :: 123 :: (inn ++ 125 :: l)) said = loopB pl vs f l (said ++ s) := by
  conv => lhs; unfold loopB
  rw [if_neg (by simp)]
  have e : nextB (35 :: 123 :: (inn ++ 125 :: l)) = .place := by
    simp only [nextB]
    rw [if_pos (by decide), if_neg (by decide), if_pos (by decide)]
  rw [e]
  have er : restF (35 :: 123 :: (inn ++ 125 :: l)) = inn ++ 125 :: l := rfl
  simp only [saidN, er, hi]
  rw [List.take_append_of_le_length (Nat.le_refl _), List.take_length, hp]
  simp only
  rw [if_neg (by omega)]
  congr 1
  have e2 : inn.length + 3 = (inn.length + 1) + 1 + 1 := rfl
  rw [e2]
  simp only [List.drop_succ_cons]
  rw [show inn ++ 125 :: l = (inn ++ [125]) ++ l by simp]
  rw [List.drop_append_of_le_length (by simp), List.drop_of_length_le (by simp), List.nil_append]
theorem place_fail (pl : List UInt8 → Res) (vs : Vars) (f : Nat) {inn l said : List UInt8} {k : Int} (hi : insideF (inn ++ 125 :: l) = some inn.length) (hp : pl inn = some (.error k)) :
    loopB pl vs (f + 1) (35 :: 123 :: (inn ++ 125 :: l)) said = some (.error k) := by
  unfold loopB
  rw [if_neg (by simp)]
  have e : nextB (35 :: 123 :: (inn ++ 125 :: l)) = .place := by
    simp only [nextB]
    rw [if_pos (by decide), if_neg (by decide), if_pos (by decide)]
  rw [e]
  have er : restF (35 :: 123 :: (inn ++ 125 :: l)) = inn ++ 125 :: l := rfl
  simp only [saidN, er, hi]
  rw [List.take_append_of_le_length (Nat.le_refl _), List.take_length, hp]
theorem say_quiet (vs : Vars) (r : Nat) {p : List UInt8} (hp : ∀ c ∈ p, c.toNat ≠ 35) (hl : p.length ≤ 1024) : sayF vs r p = some (.ok p) := by
  rw [say_byte]
  have h := plain_run (plG vs r) vs p hp p.length [] [] (by simp) (by simp)
  rw [List.append_nil] at h
  rw [h, if_neg (by simp; omega), loopB_nil]
  rfl
theorem operand_itoa (vs : Vars) (r : Nat) {z : Int} (h : (itoa z).length ≤ 1024) : operandF (sayF vs r) vs (itoa z) = some (.ok (itoa z)) := by
  unfold operandF
  rw [itoa_ident]
  exact say_quiet vs r (fun c hc => (quiet_itoa z c hc).1) h
theorem operand_var (vs : Vars) (r : Nat) {n : List UInt8} (h : identF n = true) : operandF (sayF vs r) vs n = some (.ok (valF vs n)) := by
  unfold operandF
  rw [if_pos h]
theorem place_else (sub : List UInt8 → Res) (vs : Vars) (p : List UInt8) (h : ∀ rest, p ≠ 63 :: rest) : placeF sub vs p = (match colonF p with | some k => headedF sub vs (p.take k) (p.drop (k + 1)) | none => if identF p then some (.ok (valF vs p)) else some (.error 100)) := by
  unfold placeF
  split
  · exact absurd rfl (h _)
  · rfl
theorem colon_at {hn : List UInt8} (h : ∀ c ∈ hn, c.toNat ≠ 58) (rest : List UInt8) : colonF (hn ++ 58 :: rest) = some hn.length := by
  unfold colonF
  rw [List.findIdx?_append, List.findIdx?_eq_none_iff.2 (fun c hc => decide_eq_false (h c hc))]
  simp [List.findIdx?_cons]
theorem num_place {vs : Vars} {r : Nat} {hn : List UInt8} {hd : Hd} {op : Int → Int → Option Int} (hh : hdOf hn = some hd) (hrun : ∀ sub vs p, hd.run sub vs p = numbersF op (bothF (operandF sub vs) p)) (hc : ∀ c ∈ hn, c.toNat ≠ 58) (hne : hn.head? = some 101) {rest a b : List UInt8} (hcut : cutF rest = [a, b]) :
    placeF (sayF vs r) vs (hn ++ 58 :: rest) = numbersF op (twoF (operandF (sayF vs r) vs) [a, b]) := by
  rw [place_else _ _ _ (fun t e => by
    cases hn with
    | nil => cases hne
    | cons c hn =>
      simp at hne
      subst hne
      simp at e), colon_at hc]
  simp only
  rw [List.take_append_of_le_length (Nat.le_refl _), List.take_length]
  have e : (hn ++ 58 :: rest).drop (hn.length + 1) = rest := by
    rw [show hn ++ 58 :: rest = (hn ++ [58]) ++ rest by simp, List.drop_append_of_le_length (by simp), List.drop_of_length_le (by simp), List.nil_append]
  rw [e]
  unfold headedF
  rw [hh]
  simp only
  rw [hrun]
  unfold bothF
  rw [hcut]
theorem two_ok {sub : List UInt8 → Res} {a b A B : List UInt8} (ha : sub a = some (.ok A)) (hb : sub b = some (.ok B)) : twoF sub [a, b] = some (.ok (A, B)) := by simp only [twoF, ha, hb]
theorem two_bad {sub : List UInt8 → Res} {a b : List UInt8} {k : Int} (ha : sub a = some (.error k)) : twoF sub [a, b] = some (.error k) := by simp only [twoF, ha]
theorem nums_ok {op : Int → Int → Option Int} {A B : List UInt8} {x y n : Int} (ha : wholeF A = some x) (hb : wholeF B = some y) (ho : op x y = some n) : numbersF op (some (.ok (A, B))) = some (.ok (itoa n)) := by simp only [numbersF, ha, hb, ho]
theorem nums_no {op : Int → Int → Option Int} {A B : List UInt8} {x y : Int} (ha : wholeF A = some x) (hb : wholeF B = some y) (ho : op x y = none) : numbersF op (some (.ok (A, B))) = some (.error 100) := by simp only [numbersF, ha, hb, ho]
theorem nums_bad {op : Int → Int → Option Int} {A B : List UInt8} (h : wholeF A = none ∨ wholeF B = none) : numbersF op (some (.ok (A, B))) = some (.error 100) := by
  simp only [numbersF]
  cases ha : wholeF A with
  | none => rfl
  | some x =>
    rcases h with h | h
    · rw [ha] at h; cases h
    · rw [h]
theorem whole_far {z : Int} (h : ¬ NumIn z) (h1 : -9223372036854775808 ≤ z) (h2 : z ≤ 9223372036854775807) : wholeF (itoa z) = none := by
  unfold NumIn at h
  have hl : ∀ u : Nat, u ≤ 9223372036854775808 → ¬ (19 < (decDigits u).length ∨ (1 < (decDigits u).length ∧ (decDigits u).head? = some 48)) := fun u hu => by
    have h1 := dec_len 18 u (by omega)
    rintro (h | ⟨h, h2⟩)
    · omega
    · exact dec_lead u h h2
  unfold itoa
  split
  · unfold wholeF
    have e : headF 45 (45 :: decDigits z.natAbs) = (decDigits z.natAbs, true) := by simp [headF]
    simp only [e]
    rw [if_neg (hl _ (by omega)), readU_dec]
    simp only
    rw [if_pos (by omega)]
  · unfold wholeF
    simp only [dec_head45]
    rw [if_neg (hl _ (by omega)), readU_dec]
    simp only
    rw [if_pos (by omega)]
theorem itoa_len64 {z : Int} (h1 : -9223372036854775808 ≤ z) (h2 : z ≤ 9223372036854775807) : (itoa z).length ≤ 20 := by
  unfold itoa
  split
  · have := dec_len 18 z.natAbs (by omega)
    simp only [List.length_cons]
    omega
  · have := dec_len 18 z.toNat (by omega)
    omega

section
variable (x y : Int)
def sumVs : Vars := [([120], itoa x), ([121], itoa y)]
def hLt : List UInt8 := [101, 124, 60, 124]
def hEq : List UInt8 := [101, 124, 61, 61, 124]
def hGt : List UInt8 := [101, 124, 62, 124]
def hAdd : List UInt8 := [101, 124, 43, 124]
def hSub : List UInt8 := [101, 124, 45, 124]
def hMul : List UInt8 := [101, 124, 42, 124]
def hDiv : List UInt8 := [101, 124, 47, 124]
def hMod : List UInt8 := [101, 124, 109, 124]
def xy : List UInt8 := [120, 44, 121]
theorem val_x : valF (sumVs x y) [120] = itoa x := rfl
theorem val_y : valF (sumVs x y) [121] = itoa y := rfl
theorem op_x (r : Nat) : operandF (sayF (sumVs x y) r) (sumVs x y) [120] = some (.ok (itoa x)) := operand_var _ _ (by decide)
theorem op_y (r : Nat) : operandF (sayF (sumVs x y) r) (sumVs x y) [121] = some (.ok (itoa y)) := operand_var _ _ (by decide)
/-- A text that is one place. -/
theorem say_place {vs : Vars} {r : Nat} {inn : List UInt8} (hi : insideF (inn ++ [125]) = some inn.length) {R : Except Int (List UInt8)} (hp : placeF (sayF vs r) vs inn = some R) (hs : ∀ s, R = .ok s → s.length ≤ 1024) : sayF vs (r + 1) (35 :: 123 :: (inn ++ [125])) = some R := by
  rw [say_byte]
  have e : (35 :: 123 :: (inn ++ [125])).length = inn.length + 2 + 1 := by simp
  rw [e]
  cases R with
  | ok s =>
    rw [place_step (plG vs (r + 1)) vs _ hi hp (by have := hs s rfl; simpa using this), loopB_nil]
    rfl
  | error k => exact place_fail (plG vs (r + 1)) vs _ hi hp
end

end Go.Proofs.YtlfcjcaofhcfnaaGreatDoor

namespace Go.Proofs.YtlfcjcaofhcfnaaGreatDoor
set_option linter.unusedVariables false
open Go.Lib (decDigits itoa)

theorem run_lt : ∀ sub vs p, Hd.ltn.run sub vs p = numbersF (fun a b => some (unitF (decide (a < b)))) (bothF (operandF sub vs) p) := fun _ _ _ => by simp only [Hd.run]
theorem run_eq : ∀ sub vs p, Hd.eqn.run sub vs p = numbersF (fun a b => some (unitF (decide (a = b)))) (bothF (operandF sub vs) p) := fun _ _ _ => by simp only [Hd.run]
theorem run_gt : ∀ sub vs p, Hd.gtn.run sub vs p = numbersF (fun a b => some (unitF (decide (b < a)))) (bothF (operandF sub vs) p) := fun _ _ _ => by simp only [Hd.run]
theorem run_add : ∀ sub vs p, Hd.sm.run sub vs p = numbersF (fun a b => nearF (a + b)) (bothF (operandF sub vs) p) := fun _ _ _ => by simp only [Hd.run]
theorem run_sub : ∀ sub vs p, Hd.df.run sub vs p = numbersF (fun a b => nearF (a - b)) (bothF (operandF sub vs) p) := fun _ _ _ => by simp only [Hd.run]
theorem run_mul : ∀ sub vs p, Hd.pr.run sub vs p = numbersF (fun a b => nearF (a * b)) (bothF (operandF sub vs) p) := fun _ _ _ => by simp only [Hd.run]
theorem run_div : ∀ sub vs p, Hd.qt.run sub vs p = numbersF (fun a b => if b = 0 then none else some (a.tdiv b)) (bothF (operandF sub vs) p) := fun _ _ _ => by simp only [Hd.run]
theorem run_mod : ∀ sub vs p, Hd.rm.run sub vs p = numbersF (fun a b => if b = 0 then none else some (a.tmod b)) (bothF (operandF sub vs) p) := fun _ _ _ => by simp only [Hd.run]
theorem near_some {n : Int} (h : NumIn n) : nearF n = some n := by
  unfold nearF farB
  rw [if_pos (decide_eq_false_iff_not.2 (by obtain ⟨h1, h2⟩ := h; omega))]
theorem near_none {n : Int} (h : ¬ NumIn n) : nearF n = none := by
  unfold nearF farB
  rw [if_neg]
  intro e
  rw [decide_eq_false_iff_not] at e
  exact h (by unfold NumIn; omega)
theorem itoa_zero : itoa 0 = [48] := by
  unfold itoa
  rw [if_neg (by omega)]
  exact dec_one (u := 0) (by omega)
theorem itoa_one : itoa 1 = [49] := by
  unfold itoa
  rw [if_neg (by omega)]
  exact dec_one (u := 1) (by omega)
theorem itoa_unit (b : Bool) : itoa (unitF b) = if b then [49] else [48] := by
  cases b
  · exact itoa_zero
  · exact itoa_one
theorem unit_len (b : Bool) : (itoa (unitF b)).length = 1 := by rw [itoa_unit]; cases b <;> rfl
theorem plG_succ (vs : Vars) (r : Nat) : plG vs (r + 1) = placeF (sayF vs r) vs := rfl

section
variable {x y : Int}
def sumF1 (A B : List UInt8) : List UInt8 := 35 :: 123 :: ((hLt ++ 58 :: (A ++ 44 :: [121])) ++ 125 :: (35 :: 123 :: ((hEq ++ 58 :: ([120] ++ 44 :: B)) ++ 125 :: (35 :: 123 :: ((hGt ++ 58 :: ([120] ++ 44 :: [121])) ++ 125 :: [])))))
theorem quiet_lt : Quiet (hLt ++ [58]) := by intro c hc; revert c; decide
theorem quiet_eq : Quiet (hEq ++ [58]) := by intro c hc; revert c; decide
theorem quiet_gt : Quiet (hGt ++ [58]) := by intro c hc; revert c; decide
theorem quiet_x : Quiet [120] := by intro c hc; revert c; decide
theorem quiet_y : Quiet [121] := by intro c hc; revert c; decide
theorem inside_num {hn a b : List UInt8} (hh : Quiet (hn ++ [58])) (ha : Quiet a) (hb : Quiet b) (l : List UInt8) : insideF ((hn ++ 58 :: (a ++ 44 :: b)) ++ 125 :: l) = some (hn ++ 58 :: (a ++ 44 :: b)).length := by
  have h := inside_two (quiet_app hh ha) hb l
  have e : hn ++ [58] ++ a ++ 44 :: b ++ 125 :: l = (hn ++ 58 :: (a ++ 44 :: b)) ++ 125 :: l := by simp
  rw [e] at h
  rw [h]
  simp
  omega
theorem say_cmp (hx : NumIn x) (hy : NumIn y) : sayF (sumVs x y) 16 (sumF1 (itoa x) (itoa y)) = some (.ok (itoa (unitF (decide (x < y))) ++ itoa (unitF (decide (x = y))) ++ itoa (unitF (decide (y < x))))) := by
  have wx := whole_itoa hx
  have wy := whole_itoa hy
  have lx := itoa_len hx
  have ly := itoa_len hy
  have p1 : plG (sumVs x y) 16 (hLt ++ 58 :: (itoa x ++ 44 :: [121])) = some (.ok (itoa (unitF (decide (x < y))))) := by
    rw [show (16 : Nat) = 15 + 1 from rfl, plG_succ]
    rw [num_place (hd := .ltn) rfl run_lt (by decide) rfl (cut_two (quiet_itoa x) quiet_y), two_ok (operand_itoa _ _ (by omega)) (op_y x y 15)]
    exact nums_ok wx wy rfl
  have p2 : plG (sumVs x y) 16 (hEq ++ 58 :: ([120] ++ 44 :: itoa y)) = some (.ok (itoa (unitF (decide (x = y))))) := by
    rw [show (16 : Nat) = 15 + 1 from rfl, plG_succ]
    rw [num_place (hd := .eqn) rfl run_eq (by decide) rfl (cut_two quiet_x (quiet_itoa y)), two_ok (op_x x y 15) (operand_itoa _ _ (by omega))]
    exact nums_ok wx wy rfl
  have p3 : plG (sumVs x y) 16 (hGt ++ 58 :: ([120] ++ 44 :: [121])) = some (.ok (itoa (unitF (decide (y < x))))) := by
    rw [show (16 : Nat) = 15 + 1 from rfl, plG_succ]
    rw [num_place (hd := .gtn) rfl run_gt (by decide) rfl (cut_two quiet_x quiet_y), two_ok (op_x x y 15) (op_y x y 15)]
    exact nums_ok wx wy rfl
  rw [say_byte, fuelB _ _ _ ((sumF1 (itoa x) (itoa y)).length + 1 + 1 + 1) _ _ (Nat.le_refl _) (by omega)]
  conv => lhs; rw [show sumF1 (itoa x) (itoa y) = 35 :: 123 :: ((hLt ++ 58 :: (itoa x ++ 44 :: [121])) ++ 125 :: (35 :: 123 :: ((hEq ++ 58 :: ([120] ++ 44 :: itoa y)) ++ 125 :: (35 :: 123 :: ((hGt ++ 58 :: ([120] ++ 44 :: [121])) ++ 125 :: []))))) from rfl]
  rw [place_step _ _ _ (inside_num quiet_lt (quiet_itoa x) quiet_y _) p1 (by rw [unit_len]; simp), place_step _ _ _ (inside_num quiet_eq quiet_x (quiet_itoa y) _) p2 (by rw [unit_len]; simp [unit_len]), place_step _ _ _ (inside_num quiet_gt quiet_x quiet_y _) p3 (by rw [unit_len]; simp [unit_len]), loopB_nil]
  rfl
def sumIn (hn : List UInt8) : List UInt8 := hn ++ 58 :: [120, 44, 121]
def placeT (inn : List UInt8) : List UInt8 := 35 :: 123 :: (inn ++ [125])
/-- One place of x and y. -/
theorem say_xy {r : Nat} {hn : List UInt8} {hd : Hd} {op : Int → Int → Option Int} (hh : hdOf hn = some hd) (hrun : ∀ sub vs p, hd.run sub vs p = numbersF op (bothF (operandF sub vs) p)) (hc : ∀ c ∈ hn, c.toNat ≠ 58) (hne : hn.head? = some 101) (hq : Quiet (hn ++ [58])) (hx : NumIn x) (hy : NumIn y) :
    sayF (sumVs x y) (r + 1) (placeT (sumIn hn)) = some (match op x y with | none => .error 100 | some n => .ok (itoa n)) ∨ ∃ n, op x y = some n ∧ ¬ NumIn n := by
  by_cases hb : ∃ n, op x y = some n ∧ ¬ NumIn n
  · exact .inr hb
  refine .inl (say_place (R := match op x y with | none => .error 100 | some n => .ok (itoa n)) (inside_num hq quiet_x quiet_y []) ?_ ?_)
  · show placeF _ _ (hn ++ 58 :: ([120] ++ 44 :: [121])) = _
    rw [num_place hh hrun hc hne (cut_two quiet_x quiet_y), two_ok (op_x x y r) (op_y x y r)]
    cases ho : op x y with
    | none => exact nums_no (whole_itoa hx) (whole_itoa hy) ho
    | some n => exact nums_ok (whole_itoa hx) (whole_itoa hy) ho
  · intro s hs
    cases ho : op x y with
    | none => rw [ho] at hs; cases hs
    | some n =>
      rw [ho] at hs
      cases hs
      have := itoa_len (z := n) (Classical.byContradiction fun h => hb ⟨n, ho, h⟩)
      omega
theorem ident_place (inn : List UInt8) : identF (placeT inn) = false := by
  have : smallB 35 = false := by decide
  simp [placeT, identF, this]
theorem op_place {vs : Vars} {r : Nat} {inn : List UInt8} {R : Except Int (List UInt8)} (h : sayF vs r (placeT inn) = some R) : operandF (sayF vs r) vs (placeT inn) = some R := by
  unfold operandF
  rw [ident_place]
  exact h
theorem quiet_add : Quiet (hAdd ++ [58]) := by intro c hc; revert c; decide
theorem quiet_div : Quiet (hDiv ++ [58]) := by intro c hc; revert c; decide
theorem quiet_mod : Quiet (hMod ++ [58]) := by intro c hc; revert c; decide
theorem say_sum (r : Nat) (hx : NumIn x) (hy : NumIn y) : sayF (sumVs x y) (r + 1) (placeT (sumIn hAdd)) = some (match nearF (x + y) with | none => .error 100 | some n => .ok (itoa n)) := by
  rcases say_xy (r := r) (hd := .sm) (hn := hAdd) rfl run_add (by decide) rfl quiet_add hx hy with h | ⟨n, h1, h2⟩
  · exact h
  · exact absurd (near_in h1) h2
theorem say_div (r : Nat) (hx : NumIn x) (hy : NumIn y) : sayF (sumVs x y) (r + 1) (placeT (sumIn hDiv)) = some (if y = 0 then .error 100 else .ok (itoa (x.tdiv y))) := by
  rcases say_xy (r := r) (hd := .qt) (hn := hDiv) rfl run_div (by decide) rfl quiet_div hx hy with h | ⟨n, h1, h2⟩
  · rw [h]
    by_cases h0 : y = 0 <;> simp [h0]
  · exfalso
    by_cases h0 : y = 0
    · simp [h0] at h1
    · simp [h0] at h1
      exact h2 (by rw [← h1]; exact tdiv_near hx)
theorem say_mod (r : Nat) (hx : NumIn x) (hy : NumIn y) : sayF (sumVs x y) (r + 1) (placeT (sumIn hMod)) = some (if y = 0 then .error 100 else .ok (itoa (x.tmod y))) := by
  rcases say_xy (r := r) (hd := .rm) (hn := hMod) rfl run_mod (by decide) rfl quiet_mod hx hy with h | ⟨n, h1, h2⟩
  · rw [h]
    by_cases h0 : y = 0 <;> simp [h0]
  · exfalso
    by_cases h0 : y = 0
    · simp [h0] at h1
    · simp [h0] at h1
      exact h2 (by rw [← h1]; exact tmod_near hx)
def sumF2 : List UInt8 := placeT (hSub ++ 58 :: (placeT (sumIn hAdd) ++ 44 :: [121]))
theorem say_back (hx : NumIn x) (hy : NumIn y) : sayF (sumVs x y) 16 sumF2 = some (if farB (x + y) = false then .ok (itoa x) else .error 100) := by
  refine say_place (R := if farB (x + y) = false then .ok (itoa x) else .error 100) (by decide) ?_ ?_
  · rw [num_place (hd := .df) rfl run_sub (by decide) rfl (a := placeT (sumIn hAdd)) (b := [121]) (by decide)]
    by_cases h : NumIn (x + y)
    · have h1 := say_sum 14 hx hy
      rw [near_some h] at h1
      rw [if_pos (by unfold farB; rw [decide_eq_false_iff_not]; obtain ⟨h2, h3⟩ := h; omega), two_ok (op_place h1) (op_y x y 15)]
      refine nums_ok (whole_itoa h) (whole_itoa hy) ?_
      show nearF (x + y - y) = some x
      rw [show x + y - y = x by omega]
      exact near_some hx
    · have h1 := say_sum 14 hx hy
      rw [near_none h] at h1
      rw [if_neg (by unfold farB; rw [decide_eq_false_iff_not]; intro h2; exact h (by unfold NumIn; omega)), two_bad (op_place h1)]
      rfl
  · intro s hs
    split at hs
    · cases hs
      have := itoa_len hx
      omega
    · cases hs
def sumF3 : List UInt8 := placeT (hAdd ++ 58 :: (placeT (hMul ++ 58 :: (placeT (sumIn hDiv) ++ 44 :: [121])) ++ 44 :: placeT (sumIn hMod)))
theorem mul_near (hx : NumIn x) : NumIn (x.tdiv y * y) := by
  have h : (x.tdiv y * y).natAbs ≤ x.natAbs := by
    rw [Int.natAbs_mul, Int.natAbs_tdiv]
    exact Nat.div_mul_le_self _ _
  obtain ⟨h1, h2⟩ := hx
  unfold NumIn
  omega
theorem say_parts (hx : NumIn x) (hy : NumIn y) (h0 : y ≠ 0) : sayF (sumVs x y) 16 sumF3 = some (.ok (itoa x)) := by
  have hm : sayF (sumVs x y) 15 (placeT (hMul ++ 58 :: (placeT (sumIn hDiv) ++ 44 :: [121]))) = some (.ok (itoa (x.tdiv y * y))) := by
    refine say_place (R := .ok (itoa (x.tdiv y * y))) (by decide) ?_ (fun s hs => by cases hs; have := itoa_len (mul_near (y := y) hx); omega)
    have h1 := say_div 13 hx hy
    rw [if_neg h0] at h1
    rw [num_place (hd := .pr) rfl run_mul (by decide) rfl (a := placeT (sumIn hDiv)) (b := [121]) (by decide), two_ok (op_place h1) (op_y x y 14)]
    exact nums_ok (whole_itoa (tdiv_near hx)) (whole_itoa hy) (near_some (mul_near hx))
  refine say_place (R := .ok (itoa x)) (by decide) ?_ (fun s hs => by cases hs; have := itoa_len hx; omega)
  have h1 := say_mod 14 hx hy
  rw [if_neg h0] at h1
  rw [num_place (hd := .sm) rfl run_add (by decide) rfl (a := placeT (hMul ++ 58 :: (placeT (sumIn hDiv) ++ 44 :: [121]))) (b := placeT (sumIn hMod)) (by decide), two_ok (op_place hm) (op_place h1)]
  refine nums_ok (whole_itoa (mul_near hx)) (whole_itoa (tmod_near hx)) ?_
  show nearF (x.tdiv y * y + x.tmod y) = some x
  rw [show x.tdiv y * y + x.tmod y = x by rw [Int.mul_comm]; exact Int.mul_tdiv_add_tmod x y]
  exact near_some hx
def sumF0 (A B : List UInt8) : List UInt8 := placeT (hLt ++ 58 :: (A ++ 44 :: B))
theorem say_far (h : ¬ NumIn x ∨ ¬ NumIn y) (x1 : -9223372036854775808 ≤ x) (x2 : x ≤ 9223372036854775807) (y1 : -9223372036854775808 ≤ y) (y2 : y ≤ 9223372036854775807) : sayF [] 16 (sumF0 (itoa x) (itoa y)) = some (.error 100) := by
  have lx := itoa_len64 x1 x2
  have ly := itoa_len64 y1 y2
  refine say_place (R := .error 100) (inside_num quiet_lt (quiet_itoa x) (quiet_itoa y) []) ?_ (fun s hs => by cases hs)
  rw [num_place (hd := .ltn) rfl run_lt (by decide) rfl (cut_two (quiet_itoa x) (quiet_itoa y)), two_ok (operand_itoa _ _ (by omega)) (operand_itoa _ _ (by omega))]
  exact nums_bad (h.imp (fun k => whole_far k x1 x2) fun k => whole_far k y1 y2)
end

end Go.Proofs.YtlfcjcaofhcfnaaGreatDoor
