/-
  Formats: numbers written and read; what heads say is short.
  Formats: what a text says, byte by byte; two texts side by side.
  Formats: an error has a number that is not 0.
-/
import Derived.Test.YtlfcjcaofhcfnaaGreatDoorGA
namespace Go.Proofs.YtlfcjcaofhcfnaaGreatDoor
set_option linter.unusedVariables false
open Go.Lib (decDigits itoa)

theorem dec_one {u : Nat} (h : u < 10) : decDigits u = [UInt8.ofNat (48 + u)] := by rw [decDigits, dif_pos h]
theorem dec_more {u : Nat} (h : ¬ u < 10) : decDigits u = decDigits (u / 10) ++ [UInt8.ofNat (48 + u % 10)] := by rw [decDigits, dif_neg h]
theorem dig_nat {d : Nat} (h : d < 10) : (UInt8.ofNat (48 + d)).toNat = 48 + d := by rw [UInt8.toNat_ofNat']; omega
theorem dec_len : ∀ (k u : Nat), u < 10 ^ (k + 1) → (decDigits u).length ≤ k + 1
  | 0, u, h => by rw [dec_one (by omega)]; exact Nat.le_refl _
  | k + 1, u, h => by
    by_cases h10 : u < 10
    · rw [dec_one h10]
      simp
    · rw [dec_more h10, List.length_append]
      have := dec_len k (u / 10) (by rw [Nat.pow_succ] at h; omega)
      simp
      omega
theorem dec_none (u : Nat) : decDigits u ≠ [] := by
  by_cases h : u < 10
  · rw [dec_one h]; simp
  · rw [dec_more h]; simp
theorem dec_digits (u : Nat) : ∀ c ∈ decDigits u, digitB c = true := by
  induction u using Nat.strongRecOn with
  | ind u ih =>
    have key : ∀ d, d < 10 → digitB (UInt8.ofNat (48 + d)) = true := fun d hd => by
      unfold digitB
      rw [dig_nat hd, Bool.and_eq_true, decide_eq_true_eq, decide_eq_true_eq]
      omega
    intro c hc
    by_cases h : u < 10
    · rw [dec_one h] at hc
      rw [List.mem_singleton.1 hc]
      exact key u h
    · rw [dec_more h] at hc
      rcases List.mem_append.1 hc with h1 | h1
      · exact ih (u / 10) (by omega) c h1
      · rw [List.mem_singleton.1 h1]
        exact key _ (by omega)
theorem read_snoc : ∀ (l : List UInt8) (n : Nat) (c : UInt8), readD n (l ++ [c]) = (readD n l).bind fun m => if digitB c then some (m * 10 + (c.toNat - 48)) else none
  | [], n, c => by simp [readD]
  | d :: l, n, c => by
    simp only [List.cons_append, readD]
    split
    · exact read_snoc l _ c
    · rfl
theorem dec_read (u : Nat) : readD 0 (decDigits u) = some u := by
  induction u using Nat.strongRecOn with
  | ind u ih =>
    have key : ∀ d, d < 10 → digitB (UInt8.ofNat (48 + d)) = true := fun d hd => by
      unfold digitB
      rw [dig_nat hd, Bool.and_eq_true, decide_eq_true_eq, decide_eq_true_eq]
      omega
    by_cases h : u < 10
    · rw [dec_one h]
      simp only [readD, key u h, if_true]
      rw [dig_nat h]
      congr 1
      omega
    · rw [dec_more h, read_snoc, ih (u / 10) (by omega)]
      simp only [Option.bind_some, key (u % 10) (by omega), if_true]
      rw [dig_nat (by omega)]
      congr 1
      omega
theorem dec_lead (u : Nat) : 1 < (decDigits u).length → (decDigits u).head? ≠ some 48 := by
  induction u using Nat.strongRecOn with
  | ind u ih =>
    intro hl
    by_cases h : u < 10
    · rw [dec_one h] at hl
      simp at hl
    · rw [dec_more h]
      rw [List.head?_append]
      by_cases h2 : u / 10 < 10
      · rw [dec_one h2]
        simp only [List.head?_cons, Option.some_or, ne_eq, Option.some.injEq]
        intro e
        have := congrArg UInt8.toNat e
        rw [dig_nat h2] at this
        have e2 : (48 : UInt8).toNat = 48 := rfl
        omega
      · have h3 : 1 < (decDigits (u / 10)).length := by
          rw [dec_more h2, List.length_append]
          have := List.length_pos_iff.2 (dec_none (u / 10 / 10))
          simp
          omega
        have h4 := ih (u / 10) (by omega) h3
        cases hd : (decDigits (u / 10)).head? with
        | none =>
          have := List.head?_eq_none_iff.1 hd
          exact absurd this (dec_none _)
        | some c =>
          rw [hd] at h4
          simpa using h4
theorem dec_head45 (u : Nat) : headF 45 (decDigits u) = (decDigits u, false) := by
  cases h : decDigits u with
  | nil => exact absurd h (dec_none u)
  | cons c r =>
    have hc := dec_digits u c (by rw [h]; exact List.mem_cons_self)
    have hn : c ≠ 45 := by
      rintro rfl
      revert hc
      decide
    simp only [headF]
    rw [if_neg hn]
theorem whole_dec {u : Nat} (hu : u ≤ 4611686018427387904) : (decDigits u).length ≤ 19 ∧ ¬ (19 < (decDigits u).length ∨ (1 < (decDigits u).length ∧ (decDigits u).head? = some 48)) := by
  have h1 := dec_len 18 u (by omega)
  exact ⟨h1, by rintro (h | ⟨h, h2⟩); omega; exact dec_lead u h h2⟩
theorem readU_dec (u : Nat) : readU (decDigits u) = some u := by
  unfold readU
  rw [if_neg (dec_none u), dec_read]
theorem whole_itoa {z : Int} (h : NumIn z) : wholeF (itoa z) = some z := by
  obtain ⟨h1, h2⟩ := h
  unfold itoa
  split
  · rename_i hz
    unfold wholeF
    have e : headF 45 (45 :: decDigits z.natAbs) = (decDigits z.natAbs, true) := by simp [headF]
    simp only [e]
    rw [if_neg (whole_dec (by omega)).2, readU_dec]
    simp only
    rw [if_neg (by omega)]
    congr 1
    simp only [if_true]
    omega
  · rename_i hz
    unfold wholeF
    simp only [dec_head45]
    rw [if_neg (whole_dec (by omega)).2, readU_dec]
    simp only
    rw [if_neg (by omega)]
    congr 1
    simp only [Bool.false_eq_true, if_false]
    omega
theorem itoa_len {z : Int} (h : NumIn z) : (itoa z).length ≤ 20 := by
  obtain ⟨h1, h2⟩ := h
  unfold itoa
  split
  · have := (whole_dec (u := z.natAbs) (by omega)).1
    simp only [List.length_cons]
    omega
  · have := (whole_dec (u := z.toNat) (by omega)).1
    omega
theorem yes_len (b : Bool) : (yesF b).length = 1 := by cases b <;> rfl
theorem texts_short {q : List UInt8 → List UInt8 → Bool} {r : Option (Except Int (List UInt8 × List UInt8))} {s : List UInt8} (h : textsF q r = some (.ok s)) : s.length ≤ 20 := by
  unfold textsF at h
  split at h
  · cases h
  · cases h
  · cases h
    rw [yes_len]
    omega
theorem whole_near {l : List UInt8} {z : Int} (h : wholeF l = some z) : NumIn z := by
  unfold wholeF at h
  split at h
  · cases h
  · split at h
    · cases h
    · split at h
      · cases h
      · have h2 := (Option.some.inj h).symm
        subst h2
        unfold NumIn
        split <;> omega
theorem numbers_short {op : Int → Int → Option Int} (hop : ∀ a b n, NumIn a → op a b = some n → NumIn n) {r : Option (Except Int (List UInt8 × List UInt8))} {s : List UInt8} (h : numbersF op r = some (.ok s)) : s.length ≤ 20 := by
  unfold numbersF at h
  split at h
  · cases h
  · cases h
  · split at h
    · cases h
    · rename_i a ha
      split at h
      · cases h
      · split at h
        · cases h
        · rename_i n hn
          cases h
          exact itoa_len (hop _ _ _ (whole_near ha) hn)
theorem near_in {n m : Int} (h : nearF n = some m) : NumIn m := by
  unfold nearF at h
  split at h
  · rename_i hf
    cases h
    unfold farB at hf
    rw [decide_eq_false_iff_not] at hf
    unfold NumIn
    omega
  · cases h
theorem unit_in (b : Bool) : NumIn (unitF b) := by cases b <;> (unfold NumIn unitF; simp)
theorem tdiv_near {a b : Int} (ha : NumIn a) : NumIn (a.tdiv b) := by
  have h := Int.natAbs_tdiv_le_natAbs a b
  obtain ⟨h1, h2⟩ := ha
  unfold NumIn
  omega
theorem tmod_near {a b : Int} (ha : NumIn a) : NumIn (a.tmod b) := by
  have h : (a.tmod b).natAbs ≤ a.natAbs := by rw [Int.natAbs_tmod]; exact Nat.mod_le _ _
  obtain ⟨h1, h2⟩ := ha
  unfold NumIn
  omega
theorem run_short {sub : List UInt8 → Res} {vs : Vars} (hd : Hd) {p s : List UInt8} (h : hd.run sub vs p = some (.ok s)) : s.length ≤ 20 ∨ s = p := by
  cases hd with
  | lit => cases h; exact .inr rfl
  | neg =>
    simp only [Hd.run, notF] at h
    split at h
    · cases h
    · cases h
    · cases h
      left
      rw [yes_len]
      omega
  | sm => exact .inl (numbers_short (fun a b n _ hn => near_in hn) h)
  | df => exact .inl (numbers_short (fun a b n _ hn => near_in hn) h)
  | pr => exact .inl (numbers_short (fun a b n _ hn => near_in hn) h)
  | qt => exact .inl (numbers_short (fun a b n ha hn => by split at hn <;> cases hn; exact tdiv_near ha) (op := fun a b => if b = 0 then none else some (a.tdiv b)) h)
  | rm => exact .inl (numbers_short (fun a b n ha hn => by split at hn <;> cases hn; exact tmod_near ha) (op := fun a b => if b = 0 then none else some (a.tmod b)) h)
  | eqn => exact .inl (numbers_short (op := fun a b => some (unitF (decide (a = b)))) (fun a b n _ hn => by cases hn; exact unit_in _) h)
  | ltn => exact .inl (numbers_short (op := fun a b => some (unitF (decide (a < b)))) (fun a b n _ hn => by cases hn; exact unit_in _) h)
  | gtn => exact .inl (numbers_short (op := fun a b => some (unitF (decide (b < a)))) (fun a b n _ hn => by cases hn; exact unit_in _) h)
  | _ => exact .inl (texts_short h)

end Go.Proofs.YtlfcjcaofhcfnaaGreatDoor

namespace Go.Proofs.YtlfcjcaofhcfnaaGreatDoor
set_option linter.unusedVariables false

def plG (vs : Vars) : Nat → List UInt8 → Res
  | 0 => fun _ => some (.error 101)
  | r + 1 => placeF (sayF vs r) vs
theorem say_loop (vs : Vars) (r : Nat) (l : List UInt8) : sayF vs r l = loopF (plG vs r) vs l.length l [] := by cases r <;> rfl
/-- The beginning of a text, byte by byte. -/
def nextB : List UInt8 → Nxt
  | [] => .plain 0
  | [c] => .says [c] 1
  | c :: d :: _ => if c.toNat = 35 then (if d.toNat = 35 ∨ d.toNat = 44 ∨ d.toNat = 125 then .says [d] 2 else if d.toNat = 123 then .place else if shortF d ≠ [] then .name (shortF d) else .says [c] 1) else .says [c] 1
def saidN (pl : List UInt8 → Res) (vs : Vars) (l : List UInt8) (x : Nxt) : Option (Except Int (List UInt8 × Nat)) := match x with
  | .plain n => some (.ok (l.take n, n))
  | .says s n => some (.ok (s, n))
  | .name s => some (.ok (valF vs s, 2))
  | .place => match insideF (restF l) with
    | none => some (.error 100)
    | some k => match pl ((restF l).take k) with
      | none => none
      | some (.error e) => some (.error e)
      | some (.ok s) => some (.ok (s, k + 3))
theorem said_next (pl : List UInt8 → Res) (vs : Vars) (l : List UInt8) : saidF pl vs l = saidN pl vs l (nextF l) := by
  unfold saidF saidN
  cases nextF l <;> rfl
def loopB (pl : List UInt8 → Res) (vs : Vars) : Nat → List UInt8 → List UInt8 → Res
  | 0, _, said => some (.ok said)
  | f + 1, l, said => if l = [] then some (.ok said) else match saidN pl vs l (nextB l) with
    | none => none
    | some (.error e) => some (.error e)
    | some (.ok (s, n)) => if 1024 < said.length + s.length then some (.error 2) else loopB pl vs f (l.drop n) (said ++ s)
/-- Where a place ends lies within the text. -/
theorem insG_lt : ∀ (f : Nat) (l : List UInt8) (o : Int) (k r : Nat), insG f l o k = some r → k ≤ r ∧ r < k + l.length
  | 0, l, o, k, r, h => by cases h
  | f + 1, l, o, k, r, h => by
    unfold insG at h
    split at h
    · cases h
    · rename_i hl
      have hp := pass_pos l
      have hle := pass_le hl
      split at h
      · cases h
        have := List.length_pos_iff.2 hl
        omega
      · have h2 := insG_lt f _ _ _ r h
        rw [List.length_drop] at h2
        omega
theorem insideF_lt {l : List UInt8} {k : Nat} (h : insideF l = some k) : k < l.length := by
  have := insG_lt _ _ _ _ _ h
  omega
theorem pass_app {l g : List UInt8} (hl : l ≠ []) (h : l ≠ [35]) : passF (l ++ g) = passF l := by
  match l, hl, h with
  | [c], _, h =>
    have hc : c.toNat ≠ 35 := fun e => h (by rw [show c = 35 from UInt8.toNat_inj.1 e])
    cases g with
    | nil => rfl
    | cons d g =>
      simp only [List.cons_append, List.nil_append, passF]
      split
      · rfl
      · first | rfl | (rw [if_neg hc]) | (split <;> first | rfl | contradiction)
  | c :: d :: r, _, _ => rfl
theorem insG_app (g : List UInt8) : ∀ (f F : Nat) (l : List UInt8) (o : Int) (k r : Nat), f ≤ F → 1 ≤ o → insG f l o k = some r → insG F (l ++ g) o k = some r
  | 0, F, l, o, k, r, hF, ho, h => by cases h
  | f + 1, 0, l, o, k, r, hF, ho, h => by omega
  | f + 1, F + 1, l, o, k, r, hF, ho, h => by
    unfold insG at h
    split at h
    · cases h
    · rename_i hl
      by_cases h35 : l = [35]
      · subst h35
        have e : passF [35] = (1, 0) := by decide
        rw [e] at h
        simp only at h
        rw [if_neg (by omega)] at h
        cases f with
        | zero => cases h
        | succ f =>
          unfold insG at h
          simp at h
      · have e := pass_app (g := g) hl h35
        have hle := pass_le hl
        have hs := pass_small l
        unfold insG
        rw [if_neg (by simp [hl]), e]
        split at h
        · rename_i h0
          rw [if_pos h0]
          exact h
        · rename_i h0
          rw [if_neg h0, List.drop_append_of_le_length hle]
          exact insG_app g f F _ _ _ r (by omega) (by omega) h
theorem inside_app {l : List UInt8} {k : Nat} (h : insideF l = some k) (g : List UInt8) : insideF (l ++ g) = some k := insG_app g _ _ _ _ _ _ (by simp) (by omega) h
theorem nextB_pos {pl : List UInt8 → Res} {vs : Vars} {l s : List UInt8} {n : Nat} (hl : l ≠ []) (h : saidN pl vs l (nextB l) = some (.ok (s, n))) : 1 ≤ n ∧ n ≤ l.length := by
  match l, hl, h with
  | [c], _, h =>
    simp only [nextB, saidN, Option.some.injEq, Except.ok.injEq, Prod.mk.injEq] at h
    simp
    omega
  | c :: d :: r, _, h =>
    have e : (c :: d :: r).length = r.length + 2 := rfl
    rw [e]
    simp only [nextB] at h
    split at h
    · split at h
      · simp only [saidN, Option.some.injEq, Except.ok.injEq, Prod.mk.injEq] at h
        omega
      split at h
      · simp only [saidN] at h
        split at h
        · cases h
        · rename_i k hk
          have := insideF_lt hk
          simp only [restF, List.drop_succ_cons, List.drop_zero] at this
          split at h
          · cases h
          · cases h
          · simp only [Option.some.injEq, Except.ok.injEq, Prod.mk.injEq] at h
            omega
      split at h
      · simp only [saidN, Option.some.injEq, Except.ok.injEq, Prod.mk.injEq] at h
        omega
      · simp only [saidN, Option.some.injEq, Except.ok.injEq, Prod.mk.injEq] at h
        omega
    · simp only [saidN, Option.some.injEq, Except.ok.injEq, Prod.mk.injEq] at h
      omega
theorem loopB_nil (pl : List UInt8 → Res) (vs : Vars) (f : Nat) (said : List UInt8) : loopB pl vs f [] said = some (.ok said) := by
  cases f with
  | zero => rfl
  | succ f => unfold loopB; rw [if_pos rfl]
theorem fuelB (pl : List UInt8 → Res) (vs : Vars) : ∀ (f g : Nat) (l said : List UInt8), l.length ≤ f → l.length ≤ g → loopB pl vs f l said = loopB pl vs g l said
  | 0, g, l, said, h1, h2 => by
    have e : l = [] := List.length_eq_zero_iff.1 (by omega)
    subst e
    rw [loopB_nil, loopB_nil]
  | f + 1, 0, l, said, h1, h2 => by
    have e : l = [] := List.length_eq_zero_iff.1 (by omega)
    subst e
    rw [loopB_nil, loopB_nil]
  | f + 1, g + 1, l, said, h1, h2 => by
    unfold loopB
    split
    · rfl
    · rename_i hl
      cases hx : saidN pl vs l (nextB l) with
      | none => rfl
      | some x => cases x with
        | error e => rfl
        | ok p =>
          obtain ⟨s, n⟩ := p
          have hn := nextB_pos hl hx
          simp only
          split
          · rfl
          · exact fuelB pl vs f g _ _ (by rw [List.length_drop]; omega) (by rw [List.length_drop]; omega)
theorem nextB_plain {c : UInt8} (h : c.toNat ≠ 35) (l : List UInt8) : nextB (c :: l) = .says [c] 1 := by
  cases l with
  | nil => rfl
  | cons d l => simp only [nextB]; rw [if_neg h]
theorem plain_run (pl : List UInt8 → Res) (vs : Vars) : ∀ (p : List UInt8), (∀ c ∈ p, c.toNat ≠ 35) → ∀ (f : Nat) (l said : List UInt8), said.length ≤ 1024 → (p ++ l).length ≤ f → loopB pl vs f (p ++ l) said = if 1024 < said.length + p.length then some (.error 2) else loopB pl vs f l (said ++ p)
  | [], hp, f, l, said, hs, hf => by
    rw [if_neg (by simp; omega), List.append_nil, List.nil_append]
  | c :: p, hp, 0, l, said, hs, hf => by simp at hf
  | c :: p, hp, f + 1, l, said, hs, hf => by
    have hc := hp c List.mem_cons_self
    simp only [List.cons_append, List.length_cons] at hf
    rw [List.cons_append]
    conv => lhs; unfold loopB
    rw [if_neg (by simp), nextB_plain hc]
    simp only [saidN, List.drop_succ_cons, List.drop_zero, List.length_cons, List.length_nil]
    by_cases h : 1024 < said.length + 1
    · rw [if_pos (by omega), if_pos (by omega)]
    · rw [if_neg (by omega), plain_run pl vs p (fun d hd => hp d (List.mem_cons_of_mem _ hd)) f l (said ++ [c]) (by simp; omega) (by omega)]
      simp only [List.length_append, List.length_cons, List.length_nil, List.append_assoc, List.cons_append, List.nil_append]
      by_cases h2 : 1024 < said.length + (0 + 1) + p.length
      · rw [if_pos h2, if_pos (by omega)]
      · rw [if_neg h2, if_neg (by omega)]
        rw [List.length_append] at hf
        exact fuelB pl vs f (f + 1) l _ (by omega) (by omega)
theorem take_while (p : UInt8 → Bool) : ∀ l : List UInt8, l.take (l.takeWhile p).length = l.takeWhile p
  | [] => rfl
  | c :: l => by
    simp only [List.takeWhile_cons]
    split
    · simp [take_while p l]
    · rfl
theorem mem_while {p : UInt8 → Bool} {c : UInt8} : ∀ {l : List UInt8}, c ∈ l.takeWhile p → p c = true
  | [], h => by cases h
  | d :: l, h => by
    simp only [List.takeWhile_cons] at h
    split at h
    · rename_i hd
      rcases List.mem_cons.1 h with rfl | h
      · exact hd
      · exact mem_while h
    · cases h
theorem loop_byte (pl : List UInt8 → Res) (vs : Vars) : ∀ (n : Nat) (l said : List UInt8) (f g : Nat), l.length ≤ n → l.length ≤ f → l.length ≤ g → said.length ≤ 1024 → loopF pl vs f l said = loopB pl vs g l said
  | n, l, said, 0, g, hn, hf, hg, hs => by
    have e : l = [] := List.length_eq_zero_iff.1 (by omega)
    subst e
    rw [loopB_nil]
    rfl
  | n, l, said, f + 1, 0, hn, hf, hg, hs => by
    have e : l = [] := List.length_eq_zero_iff.1 (by omega)
    subst e
    rw [loopB_nil]
    unfold loopF
    rw [if_pos rfl]
  | 0, l, said, f + 1, g + 1, hn, hf, hg, hs => by
    have e : l = [] := List.length_eq_zero_iff.1 (by omega)
    subst e
    rw [loopB_nil]
    unfold loopF
    rw [if_pos rfl]
  | n + 1, l, said, f + 1, g + 1, hn, hf, hg, hs => by
    by_cases hl : l = []
    · subst hl
      rw [loopB_nil]
      unfold loopF
      rw [if_pos rfl]
    unfold loopF
    rw [if_neg hl, said_next]
    by_cases h0 : 0 < plainF l
    · have hx : nextF l = .plain (plainF l) := by unfold nextF; rw [if_pos h0]
      rw [hx]
      simp only [saidN]
      have hpl : l.take (plainF l) = l.takeWhile fun c => decide (c.toNat ≠ 35) := take_while _ l
      have hle : plainF l ≤ l.length := by
        have := congrArg List.length hpl
        rw [List.length_take] at this
        unfold plainF at this ⊢
        omega
      have hlen : (l.take (plainF l)).length = plainF l := by rw [List.length_take]; omega
      have hsp : l = l.take (plainF l) ++ l.drop (plainF l) := (List.take_append_drop _ _).symm
      have hall : ∀ c ∈ l.take (plainF l), c.toNat ≠ 35 := fun c hc => by
        rw [hpl] at hc
        have := mem_while hc
        rwa [decide_eq_true_eq] at this
      conv => rhs; rw [hsp]
      rw [plain_run pl vs _ hall (g + 1) _ said hs (by rw [← hsp]; exact hg)]
      split
      · rfl
      · rename_i hlt
        exact loop_byte pl vs n _ _ f (g + 1) (by rw [List.length_drop]; omega) (by rw [List.length_drop]; omega) (by rw [List.length_drop]; omega) (by rw [List.length_append]; omega)
    · have hx : nextF l = nextB l := by
        match l, hl, h0 with
        | [c], _, h0 => unfold nextF; rw [if_neg h0]; rfl
        | c :: d :: r, _, h0 =>
          have hc : c.toNat = 35 := by
            apply Decidable.byContradiction
            intro hc
            apply h0
            unfold plainF
            rw [List.takeWhile_cons, if_pos (by simpa using hc)]
            simp
          unfold nextF
          rw [if_neg h0]
          simp only [nextB]
          rw [if_pos hc]
      rw [hx]
      unfold loopB
      rw [if_neg hl]
      cases hy : saidN pl vs l (nextB l) with
      | none => rfl
      | some y => cases y with
        | error e => rfl
        | ok p =>
          obtain ⟨s, m⟩ := p
          have hm := nextB_pos hl hy
          simp only
          split
          · rfl
          · exact loop_byte pl vs n _ _ f g (by rw [List.length_drop]; omega) (by rw [List.length_drop]; omega) (by rw [List.length_drop]; omega) (by rw [List.length_append]; omega)
theorem say_byte (vs : Vars) (r : Nat) (l : List UInt8) : sayF vs r l = loopB (plG vs r) vs l.length l [] := by
  rw [say_loop]
  exact loop_byte _ _ l.length l [] _ _ (Nat.le_refl _) (Nat.le_refl _) (Nat.le_refl _) (by simp)

/-- What is said behind something. -/
theorem accB (pl : List UInt8 → Res) (vs : Vars) : ∀ (f : Nat) (l a b : List UInt8), loopB pl vs f l a = some (.ok b) → a.length ≤ 1024 → a.length ≤ b.length ∧ b.length ≤ 1024 ∧ ∀ said : List UInt8, said.length + a.length ≤ 1024 → loopB pl vs f l (said ++ a) = if 1024 < said.length + b.length then some (.error 2) else some (.ok (said ++ b))
  | 0, l, a, b, h, ha => by
    cases h
    refine ⟨Nat.le_refl _, ha, fun said hs => ?_⟩
    rw [if_neg (by omega)]
    rfl
  | f + 1, l, a, b, h, ha => by
    unfold loopB at h
    split at h
    · rename_i hl
      cases h
      subst hl
      refine ⟨Nat.le_refl _, ha, fun said hs => ?_⟩
      rw [if_neg (by omega), loopB_nil]
    · rename_i hl
      cases hx : saidN pl vs l (nextB l) with
      | none => rw [hx] at h; cases h
      | some x => cases x with
        | error e => rw [hx] at h; cases h
        | ok p =>
          obtain ⟨s, n⟩ := p
          rw [hx] at h
          simp only at h
          split at h
          · cases h
          · rename_i hle
            obtain ⟨k1, k2, k3⟩ := accB pl vs f _ _ _ h (by rw [List.length_append]; omega)
            rw [List.length_append] at k1
            refine ⟨by omega, k2, fun said hs => ?_⟩
            unfold loopB
            rw [if_neg hl, hx]
            simp only
            rw [List.length_append]
            by_cases h2 : 1024 < said.length + a.length + s.length
            · rw [if_pos h2, if_pos (by omega)]
            · rw [if_neg h2, List.append_assoc]
              exact k3 said (by rw [List.length_append]; omega)
/-- A text behind which another one may stand. -/
def Fine (l : List UInt8) : Prop := l.getLast? ≠ some 35 ∨ ∃ p, l = p ++ [35, 35] ∧ ∀ c ∈ p, c.toNat ≠ 35
theorem Fine.ne {l : List UInt8} (h : Fine l) : l ≠ [35] := by
  rintro rfl
  rcases h with h | ⟨p, h, _⟩
  · exact h rfl
  · have := congrArg List.length h
    simp at this
theorem next_app {l g : List UInt8} (hl : l ≠ []) (h : l ≠ [35]) : nextB (l ++ g) = nextB l := by
  match l, hl, h with
  | [c], _, h =>
    have hc : c.toNat ≠ 35 := fun e => h (by rw [show c = 35 from UInt8.toNat_inj.1 e])
    rw [List.cons_append, nextB_plain hc]
    rfl
  | c :: d :: r, _, _ => rfl
theorem said_app {pl : List UInt8 → Res} {vs : Vars} {l g s : List UInt8} {n : Nat} (hl : l ≠ []) (h : l ≠ [35]) (hs : saidN pl vs l (nextB l) = some (.ok (s, n))) : saidN pl vs (l ++ g) (nextB (l ++ g)) = some (.ok (s, n)) := by
  rw [next_app hl h]
  cases hx : nextB l with
  | plain k =>
    match l, hl with
    | [c], _ => cases hx
    | c :: d :: r, _ =>
      simp only [nextB] at hx
      repeat (first | (split at hx) | cases hx)
  | says t k => rw [hx] at hs; exact hs
  | name t => rw [hx] at hs; exact hs
  | place =>
    rw [hx] at hs
    have h2 : 2 ≤ l.length := by
      match l, hl with
      | [c], _ => cases hx
      | c :: d :: r, _ => simp
    have e : restF (l ++ g) = restF l ++ g := List.drop_append_of_le_length h2
    simp only [saidN] at hs ⊢
    rw [e]
    cases hk : insideF (restF l) with
    | none => rw [hk] at hs; cases hs
    | some k =>
      rw [hk] at hs
      have hlt := insideF_lt hk
      rw [inside_app hk g]
      simp only
      rw [List.take_append_of_le_length (by omega)]
      exact hs
theorem Fine.drop {pl : List UInt8 → Res} {vs : Vars} {l s : List UInt8} {n : Nat} (h : Fine l) (hl : l ≠ []) (hs : saidN pl vs l (nextB l) = some (.ok (s, n))) : Fine (l.drop n) := by
  rcases h with h | ⟨p, rfl, hp⟩
  · left
    rw [List.getLast?_drop]
    split
    · simp
    · exact h
  · cases p with
    | nil =>
      have e : nextB ([] ++ [35, 35]) = .says [35] 2 := rfl
      rw [e] at hs
      cases hs
      left
      decide
    | cons c p =>
      rw [List.cons_append, nextB_plain (hp c List.mem_cons_self)] at hs
      cases hs
      exact .inr ⟨p, rfl, fun d hd => hp d (List.mem_cons_of_mem _ hd)⟩
theorem beside_run (pl : List UInt8 → Res) (vs : Vars) (g : List UInt8) : ∀ (f : Nat) (l said s : List UInt8), l.length ≤ f → Fine l → loopB pl vs f l said = some (.ok s) → ∀ F, (l ++ g).length ≤ F → loopB pl vs F (l ++ g) said = loopB pl vs F g s
  | 0, l, said, s, hf, hF, h, F, hFl => by
    have e : l = [] := List.length_eq_zero_iff.1 (by omega)
    subst e
    cases h
    rfl
  | f + 1, l, said, s, hf, hF, h, F, hFl => by
    unfold loopB at h
    split at h
    · rename_i hl
      subst hl
      cases h
      rfl
    · rename_i hl
      cases hx : saidN pl vs l (nextB l) with
      | none => rw [hx] at h; cases h
      | some x => cases x with
        | error e => rw [hx] at h; cases h
        | ok p =>
          obtain ⟨t, n⟩ := p
          rw [hx] at h
          simp only at h
          split at h
          · cases h
          · rename_i hle
            have hn := nextB_pos hl hx
            rw [List.length_append] at hFl
            cases F with
            | zero => omega
            | succ F =>
              conv => lhs; unfold loopB
              rw [if_neg (by simp [hl]), said_app hl hF.ne hx]
              simp only
              rw [if_neg hle, List.drop_append_of_le_length hn.2, beside_run pl vs g f _ _ _ (by rw [List.length_drop]; omega) (hF.drop hl hx) h F (by rw [List.length_append, List.length_drop]; omega)]
              exact fuelB pl vs F (F + 1) g s (by omega) (by omega)
theorem say_beside {vs : Vars} {r : Nat} {f g s t : List UInt8} (hF : Fine f) (hf : sayF vs r f = some (.ok s)) (hg : sayF vs r g = some (.ok t)) : sayF vs r (f ++ g) = if 1024 < s.length + t.length then some (.error 2) else some (.ok (s ++ t)) := by
  rw [say_byte] at hf hg ⊢
  have h1 := accB _ _ _ _ _ _ hf (by simp)
  have h2 := (accB _ _ _ _ _ _ hg (by simp)).2.2 s (by simpa using h1.2.1)
  rw [List.append_nil] at h2
  rw [beside_run _ _ g f.length f [] s (Nat.le_refl _) hF hf _ (Nat.le_refl _), ← h2]
  exact fuelB _ _ _ _ _ _ (by simp) (Nat.le_refl _)

end Go.Proofs.YtlfcjcaofhcfnaaGreatDoor

namespace Go.Proofs.YtlfcjcaofhcfnaaGreatDoor
set_option linter.unusedVariables false

def Bad (r : Res) : Prop := ∀ k, r = some (.error k) → k ≠ 0
theorem bad_ok (s : List UInt8) : Bad (some (.ok s)) := fun k h => by cases h
theorem bad_err {e : Int} (he : e ≠ 0) : Bad (some (.error e)) := fun k h => by cases h; exact he
theorem bad_then {r : Res} {k : List UInt8 → Res} (h : Bad r) (hk : ∀ s, Bad (k s)) : Bad (r.then k) := by
  cases r with
  | none => intro k h; cases h
  | some x => cases x with
    | error e => exact h
    | ok s => exact hk s
theorem bad_operand {sub : List UInt8 → Res} (h : ∀ l, Bad (sub l)) (vs : Vars) (l : List UInt8) : Bad (operandF sub vs l) := by
  unfold operandF
  split
  · exact bad_ok _
  · exact h l
theorem bad_both {sub : List UInt8 → Res} (h : ∀ l, Bad (sub l)) (p : List UInt8) : ∀ k, bothF sub p = some (.error k) → k ≠ 0 := by
  intro k hk
  unfold bothF twoF at hk
  split at hk
  · rename_i a b _
    split at hk
    · cases hk
    · rename_i e he
      cases hk
      exact h a _ he
    · split at hk
      · cases hk
      · rename_i e he
        cases hk
        exact h b _ he
      · cases hk
  · cases hk
    decide
theorem bad_texts {q : List UInt8 → List UInt8 → Bool} {r : Option (Except Int (List UInt8 × List UInt8))} (h : ∀ k, r = some (.error k) → k ≠ 0) : Bad (textsF q r) := by
  intro k hk
  unfold textsF at hk
  split at hk
  · cases hk
  · cases hk
    exact h _ rfl
  · cases hk
theorem bad_numbers {op : Int → Int → Option Int} {r : Option (Except Int (List UInt8 × List UInt8))} (h : ∀ k, r = some (.error k) → k ≠ 0) : Bad (numbersF op r) := by
  intro k hk
  unfold numbersF at hk
  split at hk
  · cases hk
  · cases hk
    exact h _ rfl
  · repeat (first | (cases hk; decide) | cases hk | split at hk)
theorem bad_run {sub : List UInt8 → Res} (h : ∀ l, Bad (sub l)) (vs : Vars) (hd : Hd) (p : List UInt8) : Bad (hd.run sub vs p) := by
  have h1 := bad_both h p
  have h2 := bad_both (bad_operand h vs) p
  cases hd <;> simp only [Hd.run] <;> first | exact bad_texts h1 | exact bad_texts h2 | exact bad_numbers h2 | exact bad_ok _ | skip
  intro k hk
  unfold notF at hk
  split at hk
  · cases hk
  · rename_i e he
    cases hk
    exact bad_operand h vs p _ he
  · cases hk
theorem bad_turned : ∀ ts l, Bad (turnedF ts l)
  | [], l => bad_ok _
  | t :: ts, l => by
    simp only [turnedF]
    split
    · exact bad_err (by decide)
    · exact bad_turned ts _
theorem bad_place {sub : List UInt8 → Res} (h : ∀ l, Bad (sub l)) (vs : Vars) (l : List UInt8) : Bad (placeF sub vs l) := by
  have ho := bad_operand h vs
  unfold placeF
  split
  · unfold choiceF
    split
    · refine bad_then (ho _) fun s => ?_
      split
      · exact h _
      · exact bad_ok _
    · refine bad_then (ho _) fun s => ?_
      split <;> exact h _
    · exact bad_err (by decide)
  · split
    · unfold headedF
      split
      · exact bad_run h vs _ _
      · split
        · intro k hk; cases hk
        · exact bad_err (by decide)
        · exact bad_then (ho _) (bad_turned _)
    · split
      · exact bad_ok _
      · exact bad_err (by decide)
theorem bad_loop {pl : List UInt8 → Res} (h : ∀ l, Bad (pl l)) (vs : Vars) : ∀ f l said, Bad (loopF pl vs f l said)
  | 0, l, said => bad_ok _
  | f + 1, l, said => by
    unfold loopF
    split
    · exact bad_ok _
    · split
      · intro k hk; cases hk
      · rename_i e he
        intro k hk
        cases hk
        unfold saidF at he
        split at he
        · cases he
        · cases he
        · cases he
        · split at he
          · cases he
            decide
          · split at he
            · cases he
            · rename_i e2 he2
              cases he
              exact h _ _ he2
            · cases he
      · split
        · exact bad_err (by decide)
        · exact bad_loop h vs f _ _
theorem bad_say (vs : Vars) : ∀ r l, Bad (sayF vs r l)
  | 0, l => bad_loop (fun _ => bad_err (by decide)) vs _ _ _
  | r + 1, l => bad_loop (bad_place (bad_say vs r) vs) vs _ _ _

end Go.Proofs.YtlfcjcaofhcfnaaGreatDoor
