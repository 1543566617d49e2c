/-
  Buffers: a stack of texts as a list, numerals, names of numbers (nothing of the dump).
-/
import Derived.Test.YtgbaeajcgiaboaaDoorPlainN
import Derived.Lib.ItoaNum
namespace Go.Proofs.YtgbaeajcgiaboaaDoor
open Go.RowKit
open Go.Lib (decDigits)
set_option linter.unusedVariables false

theorem dec_small {u : Nat} (h : u < 10) : decDigits u = [UInt8.ofNat (48 + u)] := by rw [decDigits, dif_pos h]
theorem dec_big {u : Nat} (h : ¬ u < 10) : decDigits u = decDigits (u / 10) ++ [UInt8.ofNat (48 + u % 10)] := by rw [decDigits, dif_neg h]
theorem digit_nat {d : Nat} (h : d < 10) : (UInt8.ofNat (48 + d)).toNat = 48 + d := by rw [UInt8.toNat_ofNat']; omega
theorem dec_ne (u : Nat) : decDigits u ≠ [] := by
  by_cases h : u < 10
  · rw [dec_small h]; simp
  · rw [dec_big h]; simp
/-- What digits spell. -/
def val (acc : Nat) (l : List UInt8) : Nat := l.foldl (fun a c => a * 10 + (c.toNat - 48)) acc
theorem val_nil (acc : Nat) : val acc [] = acc := rfl
theorem val_cons (acc : Nat) (c : UInt8) (l : List UInt8) : val acc (c :: l) = val (acc * 10 + (c.toNat - 48)) l := by unfold val; rw [List.foldl_cons]
theorem val_snoc (acc : Nat) (l : List UInt8) (c : UInt8) : val acc (l ++ [c]) = val acc l * 10 + (c.toNat - 48) := by
  unfold val; rw [List.foldl_append, List.foldl_cons, List.foldl_nil]
theorem dec_val (u : Nat) : val 0 (decDigits u) = u := by
  induction u using Nat.strongRecOn with
  | _ u ih =>
    by_cases h : u < 10
    · rw [dec_small h, val_cons, val_nil, digit_nat h]; omega
    · rw [dec_big h, val_snoc, ih (u / 10) (by omega), digit_nat (by omega)]; omega
theorem dec_inj {a b : Nat} (h : decDigits a = decDigits b) : a = b := by rw [← dec_val a, h, dec_val]
/-- The numeral of a number within its bounds, else nothing. -/
def putL (n : Int) : List UInt8 := if 0 ≤ n ∧ n ≤ 4611686018427387904 then decDigits n.toNat else []
theorem putL_in {n : Int} (h : 0 ≤ n ∧ n ≤ 4611686018427387904) : putL n = decDigits n.toNat := if_pos h
theorem putL_out {n : Int} (h : ¬ (0 ≤ n ∧ n ≤ 4611686018427387904)) : putL n = [] := if_neg h
theorem putL_nat {n : Nat} (h : n ≤ 4611686018427387904) : putL (n : Int) = decDigits n := by
  rw [putL_in ⟨by omega, by omega⟩]
  rfl
theorem dec_length (u : Nat) (h : u < 10000000000000000000) : (decDigits u).length ≤ 19 := by
  rw [Go.Lib.decDigits_length]
  have key : ∀ (k u : Nat), u < 10 ^ (k + 1) → Go.Lib.nDigits u ≤ k + 1 := by
    intro k
    induction k with
    | zero => intro u hu; rw [Go.Lib.nDigits_small (by simpa using hu)]; exact Nat.le_refl _
    | succ k ih =>
      intro u hu
      by_cases h10 : u < 10
      · rw [Go.Lib.nDigits_small h10]; omega
      · rw [Go.Lib.nDigits_big h10]
        have := ih (u / 10) (by rw [Nat.pow_succ] at hu; omega)
        omega
  exact key 18 u (by simpa using h)
theorem putL_length (n : Int) : (putL n).length ≤ 19 := by
  unfold putL
  split
  · exact dec_length _ (by omega)
  · simp

/-- A buffer: its name, its text, whether it is automatic. -/
structure Kp where
  n : ByteArray
  t : ByteArray
  a : Bool
instance : Inhabited Kp := ⟨⟨ByteArray.empty, ByteArray.empty, false⟩⟩
def encK (k : Kp) : List Value := [.string k.n, .string k.t, .bool k.a]
def cellsK (l : List Kp) : List Value := l.flatMap encK
theorem cellsK_cons (k : Kp) (l : List Kp) : cellsK (k :: l) = encK k ++ cellsK l := List.flatMap_cons
theorem cellsK_append (a b : List Kp) : cellsK (a ++ b) = cellsK a ++ cellsK b := List.flatMap_append
theorem cellsK_len (l : List Kp) : (cellsK l).length = l.length * 3 := by
  induction l with
  | nil => rfl
  | cons k l ih => rw [cellsK_cons, List.length_append, ih, List.length_cons]; simp [encK]; omega
theorem cellsK_one (l : List Kp) : ∀ u ∈ cellsK l, u.oneCell' = true := by
  intro u hu
  obtain ⟨k, _, hk⟩ := List.mem_flatMap.1 hu
  simp only [encK, List.mem_cons, List.not_mem_nil, or_false] at hk
  rcases hk with rfl | rfl | rfl <;> rfl
theorem cellsK_at : ∀ (l : List Kp) (j : Nat) (hj : j < l.length) (c : Nat) (u : Value), (encK l[j])[c]? = some u → (cellsK l)[j * 3 + c]? = some u
  | k :: l, 0, _, c, u, h => by
    rw [cellsK_cons, List.getElem?_append_left (by have := (List.getElem?_eq_some_iff.1 h).1; simpa using this)]
    simpa using h
  | k :: l, j + 1, hj, c, u, h => by
    rw [cellsK_cons, List.getElem?_append_right (by simp [encK]; omega)]
    have := cellsK_at l j (by simpa using hj) c u (by simpa using h)
    rw [← this]
    congr 1
    simp [encK]; omega
theorem cellsK_take (l : List Kp) (k : Nat) : cellsK (l.take k) = (cellsK l).take (k * 3) := by
  by_cases hk : k ≤ l.length
  · have h := cellsK_append (l.take k) (l.drop k)
    rw [List.take_append_drop] at h
    rw [h, List.take_left' (by rw [cellsK_len, List.length_take]; omega)]
  · rw [List.take_of_length_le (by omega), List.take_of_length_le (by rw [cellsK_len]; omega)]
theorem cellsK_drop (l : List Kp) (k : Nat) : cellsK (l.drop k) = (cellsK l).drop (k * 3) := by
  by_cases hk : k ≤ l.length
  · have h := cellsK_append (l.take k) (l.drop k)
    rw [List.take_append_drop] at h
    rw [h, List.drop_left' (by rw [cellsK_len, List.length_take]; omega)]
  · rw [List.drop_of_length_le (by omega), List.drop_of_length_le (by rw [cellsK_len]; omega)]
    rfl

/-- The first place that fits; -1: there is none. -/
def fidx (p : Kp → Bool) (l : List Kp) : Int :=
  match l.findIdx? p with
  | some i => (i : Int)
  | none => -1
theorem fidx_hit {p : Kp → Bool} {l : List Kp} {k : Nat} (hk : k < l.length) (hp : p l[k] = true) (hn : ∀ j (hj : j < l.length), j < k → p l[j] = false) : fidx p l = k := by
  have h : l.findIdx? p = some k := List.findIdx?_eq_some_iff_getElem.2 ⟨hk, hp, fun j hj => by rw [hn j (by omega) hj]; simp⟩
  unfold fidx
  rw [h]
theorem fidx_miss {p : Kp → Bool} {l : List Kp} (hn : ∀ j (hj : j < l.length), p l[j] = false) : fidx p l = -1 := by
  have h : l.findIdx? p = none := List.findIdx?_eq_none_iff.2 fun x hx => by
    obtain ⟨j, hj, rfl⟩ := List.getElem_of_mem hx
    exact hn j hj
  unfold fidx
  rw [h]
theorem fidx_cases (p : Kp → Bool) (l : List Kp) : (fidx p l = -1 ∧ ∀ x ∈ l, p x = false) ∨ ∃ k : Nat, ∃ h : k < l.length, fidx p l = k ∧ p l[k] = true ∧ ∀ j (hj : j < l.length), j < k → p l[j] = false := by
  cases h : l.findIdx? p with
  | none =>
    refine .inl ⟨by unfold fidx; rw [h], List.findIdx?_eq_none_iff.1 h⟩
  | some k =>
    obtain ⟨h1, h2, h3⟩ := List.findIdx?_eq_some_iff_getElem.1 h
    exact .inr ⟨k, h1, by unfold fidx; rw [h], h2, fun j hj hjk => by simpa using h3 j hjk⟩
theorem fidx_lt (p : Kp → Bool) (l : List Kp) : fidx p l < l.length := by
  rcases fidx_cases p l with ⟨h, _⟩ | ⟨k, hk, h, _⟩ <;> omega
theorem fidx_ge (p : Kp → Bool) (l : List Kp) : -1 ≤ fidx p l := by
  rcases fidx_cases p l with ⟨h, _⟩ | ⟨k, hk, h, _⟩ <;> omega
/-- Has it this name. -/
def nmd (n : ByteArray) (k : Kp) : Bool := decide (k.n = n)
def isA (k : Kp) : Bool := k.a

/-- How many are automatic, how many not. -/
def autos (l : List Kp) : Nat := (l.filter isA).length
def named (l : List Kp) : Nat := (l.filter (fun k => !k.a)).length
theorem autos_named (l : List Kp) : autos l + named l = l.length := by
  induction l with
  | nil => rfl
  | cons k l ih =>
    unfold autos named isA at *
    cases h : k.a <;> simp [h] <;> omega
theorem autos_append (a b : List Kp) : autos (a ++ b) = autos a + autos b := by unfold autos; rw [List.filter_append, List.length_append]
theorem named_append (a b : List Kp) : named (a ++ b) = named a + named b := by unfold named; rw [List.filter_append, List.length_append]
theorem autos_cons (k : Kp) (l : List Kp) : autos (k :: l) = (if k.a then 1 else 0) + autos l := by
  unfold autos isA
  cases h : k.a <;> simp [h]; omega
theorem named_cons (k : Kp) (l : List Kp) : named (k :: l) = (if k.a then 0 else 1) + named l := by
  unfold named
  cases h : k.a <;> simp [h]; omega
/-- The oldest automatic ones gone. -/
def trimG : Nat → List Kp → List Kp
  | _, [] => []
  | r, k :: l => if k.a then (match r with | 0 => trimG 0 l | r + 1 => k :: trimG r l) else k :: trimG r l
theorem trimG_snoc : ∀ (l : List Kp) (r : Nat) (x : Kp), trimG r (l ++ [x]) = trimG r l ++ (if x.a = true ∧ r ≤ autos l then [] else [x])
  | [], r, x => by
    show trimG r [x] = [] ++ _
    cases hx : x.a <;> cases r <;> simp [trimG, hx, autos]
  | k :: l, r, x => by
    rw [List.cons_append]
    cases hk : k.a
    · have ih := trimG_snoc l r x
      rw [autos_cons, hk]
      simp only [trimG, hk, Bool.false_eq_true, if_false, ih, List.cons_append, Nat.zero_add]
    · cases r with
      | zero =>
        have ih := trimG_snoc l 0 x
        rw [autos_cons, hk]
        simp only [trimG, hk, if_true, ih]
        simp
      | succ r =>
        have ih := trimG_snoc l r x
        rw [autos_cons, hk]
        simp only [trimG, hk, if_true, ih, List.cons_append]
        congr 2
        simp only [Nat.add_comm 1, Nat.add_le_add_iff_right]
theorem trimG_all : ∀ (l : List Kp) (r : Nat), autos l ≤ r → trimG r l = l
  | [], _, _ => rfl
  | k :: l, r, h => by
    rw [autos_cons] at h
    cases hk : k.a
    · rw [hk] at h
      have ih := trimG_all l r (by simpa using h)
      simp only [trimG, hk, Bool.false_eq_true, if_false, ih]
    · rw [hk] at h
      cases r with
      | zero => simp at h
      | succ r =>
        have ih := trimG_all l r (by simp at h; omega)
        simp only [trimG, hk, if_true, ih]
theorem trimG_len : ∀ (l : List Kp) (r : Nat), (trimG r l).length ≤ l.length
  | [], _ => Nat.le_refl _
  | k :: l, r => by
    cases hk : k.a
    · have ih := trimG_len l r
      simp only [trimG, hk, Bool.false_eq_true, if_false, List.length_cons]; omega
    · cases r with
      | zero =>
        have ih := trimG_len l 0
        simp only [trimG, hk, if_true, List.length_cons]; omega
      | succ r =>
        have ih := trimG_len l r
        simp only [trimG, hk, if_true, List.length_cons]; omega
theorem trimG_sub : ∀ (l : List Kp) (r : Nat), (trimG r l).Sublist l
  | [], _ => List.Sublist.slnil
  | k :: l, r => by
    cases hk : k.a
    · have ih := trimG_sub l r
      simp only [trimG, hk, Bool.false_eq_true, if_false]
      exact ih.cons_cons k
    · cases r with
      | zero =>
        have ih := trimG_sub l 0
        simp only [trimG, hk, if_true]
        exact ih.cons k
      | succ r =>
        have ih := trimG_sub l r
        simp only [trimG, hk, if_true]
        exact ih.cons_cons k
theorem trimG_autos : ∀ (l : List Kp) (r : Nat), autos (trimG r l) ≤ r ∧ named (trimG r l) = named l
  | [], _ => ⟨Nat.zero_le _, rfl⟩
  | k :: l, r => by
    cases hk : k.a
    · have ih := trimG_autos l r
      simp only [trimG, hk, Bool.false_eq_true, if_false, autos_cons, named_cons]
      omega
    · cases r with
      | zero =>
        have ih := trimG_autos l 0
        simp only [trimG, hk, if_true, named_cons]
        omega
      | succ r =>
        have ih := trimG_autos l r
        simp only [trimG, hk, if_true, autos_cons, named_cons]
        omega

theorem nodup_len {α : Type} : ∀ {l es : List α}, l.Pairwise (fun a b => a ≠ b) → (∀ x ∈ l, x ∈ es) → l.length ≤ es.length
  | [], _, _, _ => Nat.zero_le _
  | a :: l, es, hp, h => by
    obtain ⟨p1, p2⟩ := List.pairwise_cons.1 hp
    obtain ⟨s, t, rfl⟩ := List.append_of_mem (h a (by simp))
    have := nodup_len (l := l) (es := s ++ t) p2 fun x hx => by
      have hx2 := h x (by simp [hx])
      have hne := p1 x hx
      simp only [List.mem_append, List.mem_cons] at hx2 ⊢
      rcases hx2 with q | q | q
      · exact .inl q
      · exact absurd q.symm hne
      · exact .inr q
    simp only [List.length_append, List.length_cons] at this ⊢
    omega

/-- The name of a number. -/
def stemL : List UInt8 := [98, 117, 102, 102, 101, 114]
def nm (c : Nat) : ByteArray := str (stemL ++ decDigits c)
theorem nm_inj {a b : Nat} (h : nm a = nm b) : a = b := by
  have h1 : stemL ++ decDigits a = stemL ++ decDigits b := by
    have := congrArg (fun x : ByteArray => x.data.toList) h
    simpa only [nm, str_data] using this
  exact dec_inj (List.append_cancel_left h1)
theorem nm_size {c : Nat} (h : c < 10000000000000000000) : (nm c).size ≤ 25 := by
  have := dec_length c h
  unfold nm
  rw [str_size, List.length_append]
  simp only [stemL, List.length_cons, List.length_nil]
  omega
theorem nm_pos (c : Nat) : 0 < (nm c).size := by
  unfold nm
  rw [str_size, List.length_append]
  simp only [stemL, List.length_cons, List.length_nil]
  omega
def tkn (l : List Kp) (c : Nat) : Prop := 0 ≤ fidx (nmd (nm c)) l
instance (l : List Kp) (c : Nat) : Decidable (tkn l c) := inferInstanceAs (Decidable (0 ≤ fidx (nmd (nm c)) l))
theorem tkn_mem {l : List Kp} {c : Nat} (h : tkn l c) : nm c ∈ l.map Kp.n := by
  rcases fidx_cases (nmd (nm c)) l with ⟨h1, _⟩ | ⟨k, hk, h1, h2, _⟩
  · unfold tkn at h; omega
  · exact List.mem_map.2 ⟨l[k], List.getElem_mem hk, of_decide_eq_true h2⟩
def nxF : Nat → List Kp → Nat → Nat
  | 0, _, c => c
  | f + 1, l, c => if tkn l c then nxF f l (c + 1) else c
theorem nxF_spec : ∀ (f : Nat) (l : List Kp) (c : Nat), c ≤ nxF f l c ∧ nxF f l c ≤ c + f ∧ (∀ m, c ≤ m → m < nxF f l c → tkn l m) ∧ (¬ tkn l (nxF f l c) ∨ nxF f l c = c + f)
  | 0, l, c => ⟨Nat.le_refl _, Nat.le_refl _, fun m h1 h2 => by simp only [nxF] at h2; omega, .inr rfl⟩
  | f + 1, l, c => by
    by_cases h : tkn l c
    · have ih := nxF_spec f l (c + 1)
      simp only [nxF, h, if_true]
      refine ⟨by omega, by omega, fun m h1 h2 => ?_, ?_⟩
      · by_cases e : m = c
        · rw [e]; exact h
        · exact ih.2.2.1 m (by omega) h2
      · rcases ih.2.2.2 with q | q
        · exact .inl q
        · exact .inr (by omega)
    · have e : nxF (f + 1) l c = c := by simp only [nxF, h, if_false]
      rw [e]
      exact ⟨Nat.le_refl _, by omega, fun m h1 h2 => by omega, .inl h⟩
/-- The next number whose name is free. -/
def nx (l : List Kp) (c : Nat) : Nat := nxF (l.length + 1) l c
theorem nx_ge (l : List Kp) (c : Nat) : c ≤ nx l c := (nxF_spec _ _ _).1
theorem nx_taken (l : List Kp) (c : Nat) : ∀ m, c ≤ m → m < nx l c → tkn l m := (nxF_spec _ _ _).2.2.1
theorem nx_le (l : List Kp) (c : Nat) : nx l c ≤ c + l.length + 1 := (nxF_spec (l.length + 1) l c).2.1
theorem nx_free (l : List Kp) (c : Nat) : ¬ tkn l (nx l c) := by
  rcases (nxF_spec (l.length + 1) l c).2.2.2 with h | h
  · exact h
  · exfalso
    have ht := (nxF_spec (l.length + 1) l c).2.2.1
    rw [h] at ht
    have := nodup_len (l := (List.range (l.length + 1)).map fun i => nm (c + i)) (es := l.map Kp.n) (by
      rw [List.pairwise_map]
      refine List.Pairwise.imp (R := fun a b => a < b) (fun {a b} hab e => ?_) (by simpa using List.pairwise_lt_range)
      have := nm_inj e
      omega) fun x hx => by
        obtain ⟨i, hi, rfl⟩ := List.mem_map.1 hx
        exact tkn_mem (ht (c + i) (by omega) (by have := List.mem_range.1 hi; omega))
    simp at this
    omega
end Go.Proofs.YtgbaeajcgiaboaaDoor
