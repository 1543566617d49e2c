/-
  Buffers: what replacing makes of a text (nothing of the memory).
-/
import Derived.Test.YtgbaeajcgiaboaaDoorPlainN
import Derived.Lib.Replace
import Derived.Lib.ReplaceLaws
namespace Go.Proofs.YtgbaeajcgiaboaaDoor
open Go.RowKit
open Go.Lib (index occAt count replaceK replaceNum replace replaceAll)
set_option linter.unusedVariables false

/-- Every instance from the left replaced; so many bytes are passed by first. -/
def repS (old new : List UInt8) : Nat → List UInt8 → List UInt8
  | _, [] => []
  | k + 1, _ :: s => repS old new k s
  | 0, c :: s => if old.isPrefixOf (c :: s) then new ++ repS old new (old.length - 1) s else c :: repS old new 0 s
theorem repS_nil (old new : List UInt8) (k : Nat) : repS old new k [] = [] := by cases k <;> rfl
theorem repS_skip (old new : List UInt8) : ∀ (k : Nat) (s : List UInt8), repS old new k s = repS old new 0 (s.drop k)
  | 0, s => by rw [List.drop_zero]
  | k + 1, [] => by rw [List.drop_nil, repS_nil, repS_nil]
  | k + 1, c :: s => by rw [List.drop_succ_cons]; exact repS_skip old new k s
theorem repS_hit {old : List UInt8} (new : List UInt8) (h1 : old ≠ []) {s : List UInt8} (h : old.isPrefixOf s = true) : repS old new 0 s = new ++ repS old new 0 (s.drop old.length) := by
  cases s with
  | nil => cases old with
    | nil => exact absurd rfl h1
    | cons a t => simp at h
  | cons c s =>
    cases old with
    | nil => exact absurd rfl h1
    | cons a t =>
      have e : repS (a :: t) new 0 (c :: s) = new ++ repS (a :: t) new ((a :: t).length - 1) s := by
        show (if _ then _ else _) = _
        rw [if_pos h]
      rw [e, repS_skip]
      rfl
theorem repS_miss {old : List UInt8} (new : List UInt8) {c : UInt8} {s : List UInt8} (h : old.isPrefixOf (c :: s) = false) : repS old new 0 (c :: s) = c :: repS old new 0 s := by
  show (if _ then _ else _) = _
  rw [if_neg (by rw [h]; decide)]
theorem repS_none {old : List UInt8} (new : List UInt8) : ∀ {s : List UInt8}, (∀ j, j ≤ s.length → occAt s old j = false) → repS old new 0 s = s
  | [], _ => rfl
  | c :: s, h => by
    have h0 : old.isPrefixOf (c :: s) = false := by simpa [occAt] using h 0 (Nat.zero_le _)
    rw [repS_miss new h0, repS_none new (s := s) fun j hj => by simpa [occAt] using h (j + 1) (Nat.succ_le_succ hj)]
theorem repS_first {old : List UInt8} (new : List UInt8) (h1 : old ≠ []) : ∀ {s : List UInt8} {i : Nat}, i ≤ s.length → occAt s old i = true → (∀ j, j < i → occAt s old j = false) → repS old new 0 s = s.take i ++ new ++ repS old new 0 (s.drop (i + old.length))
  | s, 0, _, h, _ => by
    rw [repS_hit new h1 (s := s) (by simpa [occAt] using h), List.take_zero, List.nil_append, Nat.zero_add]
  | [], i + 1, hi, _, _ => by simp at hi
  | c :: s, i + 1, hi, h, hn => by
    have h0 : old.isPrefixOf (c :: s) = false := by simpa [occAt] using hn 0 (Nat.succ_pos i)
    have ih := repS_first new h1 (s := s) (i := i) (Nat.le_of_succ_le_succ hi) (by simpa [occAt] using h) (fun j hj => by simpa [occAt] using hn (j + 1) (Nat.succ_lt_succ hj))
    rw [repS_miss new h0, ih, List.take_succ_cons, Nat.add_right_comm, List.drop_succ_cons]
    rfl
theorem repK_repS {old : List UInt8} (new : List UInt8) (h1 : old ≠ []) : ∀ (n : Nat) (s : List UInt8), s.length ≤ n → replaceK old new (count s old) s = repS old new 0 s := by
  intro n
  induction n with
  | zero =>
    intro s hs
    obtain rfl : s = [] := List.eq_nil_of_length_eq_zero (by omega)
    have hix : index [] old = -1 := by
      cases old with
      | nil => exact absurd rfl h1
      | cons a t => rfl
    rw [Go.Lib.count_miss hix]
    rfl
  | succ n ih =>
    intro s hs
    rcases Go.Lib.index_spec s old with ⟨hix, hno⟩ | ⟨i, hix, hi, ho, hno⟩
    · rw [Go.Lib.count_miss hix, repS_none new hno]
      rfl
    · have hpos : 0 < old.length := List.length_pos_iff.2 h1
      have hroom := Go.Lib.index_room s old (by omega)
      rw [Go.Lib.count_hit h1 hix, Nat.add_comm, Go.Lib.replaceK_hit old new _ s i hix, repS_first new h1 hi ho hno, ih _ (by rw [List.length_drop]; omega)]
theorem repS_one (c : UInt8) (new : List UInt8) : ∀ (s : List UInt8), repS [c] new 0 s = s.flatMap fun b => if b == c then new else [b]
  | [] => rfl
  | b :: s => by
    rw [List.flatMap_cons, ← repS_one c new s]
    cases h : (b == c)
    · rw [repS_miss new (by simp [List.isPrefixOf]; intro e; subst e; simp at h)]
      simp
    · rw [repS_hit new (by simp) (by simp [List.isPrefixOf]; exact (beq_iff_eq.1 h).symm)]
      simp
theorem repS_same (c : UInt8) (s : List UInt8) : repS [c] [c] 0 s = s := by
  rw [repS_one]
  induction s with
  | nil => rfl
  | cons b s ih =>
    rw [List.flatMap_cons, ih]
    cases h : (b == c)
    · simp
    · simp [beq_iff_eq.1 h]
/-- All instances of another text. -/
theorem all_repS {old new : List UInt8} (h1 : old ≠ []) (hne : old ≠ new) (s : List UInt8) : replaceAll s old new = repS old new 0 s := by
  unfold replaceAll replace
  rw [if_neg (by simpa using hne)]
  unfold replaceNum
  rw [if_pos (.inl (by decide))]
  exact repK_repS new h1 _ s (Nat.le_refl _)
theorem all_one (c : UInt8) (new s : List UInt8) : replaceAll s [c] new = repS [c] new 0 s := by
  by_cases hne : [c] = new
  · subst hne
    unfold replaceAll replace
    rw [if_pos (by simp), repS_same]
  · exact all_repS (by simp) hne s
theorem repS_len_nil (old : List UInt8) : ∀ (k : Nat) (s : List UInt8), (repS old [] k s).length ≤ s.length
  | _, [] => by rw [repS_nil]; exact Nat.le_refl _
  | k + 1, c :: s => by
    have := repS_len_nil old k s
    show (repS old [] k s).length ≤ _
    rw [List.length_cons]; omega
  | 0, c :: s => by
    show (if old.isPrefixOf (c :: s) then [] ++ repS old [] (old.length - 1) s else c :: repS old [] 0 s).length ≤ _
    split
    · have := repS_len_nil old (old.length - 1) s
      rw [List.nil_append, List.length_cons]; omega
    · have := repS_len_nil old 0 s
      rw [List.length_cons, List.length_cons]; omega
/-- How many line ends. -/
def nls (s : List UInt8) : Nat := (s.filter (· == 10)).length
theorem nls_le (s : List UInt8) : nls s ≤ s.length := List.length_filter_le _ _
theorem nls_snoc (s : List UInt8) (c : UInt8) : nls (s ++ [c]) = nls s + (if c = 10 then 1 else 0) := by
  unfold nls
  rw [List.filter_append, List.length_append]
  by_cases h : c = 10
  · subst h; rfl
  · have : (c == 10) = false := by simpa using h
    simp [this, h]
theorem nls_cons (s : List UInt8) (c : UInt8) : nls (c :: s) = nls s + (if c = 10 then 1 else 0) := by
  unfold nls
  by_cases h : c = 10
  · subst h; rfl
  · have : (c == 10) = false := by simpa using h
    rw [List.filter_cons, this, if_neg h]; rfl
theorem one_len (new : List UInt8) (s : List UInt8) : (repS [10] new 0 s).length + nls s = s.length + nls s * new.length := by
  rw [repS_one]
  induction s with
  | nil => simp [nls]
  | cons b s ih =>
    rw [List.flatMap_cons, List.length_append, List.length_cons, nls_cons]
    generalize (List.flatMap (fun b => if b == 10 then new else [b]) s).length = F at *
    by_cases h : b = 10
    · have h' : (b == 10) = true := by simpa using h
      rw [if_pos h, if_pos h', Nat.add_mul]; omega
    · have h' : ¬ (b == 10) = true := by simpa using h
      rw [if_neg h, if_neg h']
      show 1 + F + _ = _
      simp only [Nat.add_zero]
      omega
def joinL (x t : List UInt8) : List UInt8 := repS [10] x 0 t
theorem join_hit (x : List UInt8) {t : List UInt8} {k : Nat} (hk : k < t.length) (h : t[k] = 10) : joinL x (t.drop k) = x ++ joinL x (t.drop (k + 1)) := by
  unfold joinL
  rw [repS_one, repS_one, List.drop_eq_getElem_cons hk, List.flatMap_cons, h]
  rfl
theorem join_miss (x : List UInt8) {t : List UInt8} {k : Nat} (hk : k < t.length) (h : t[k] ≠ 10) : joinL x (t.drop k) = [t[k]] ++ joinL x (t.drop (k + 1)) := by
  unfold joinL
  rw [repS_one, repS_one, List.drop_eq_getElem_cons hk, List.flatMap_cons, if_neg (by simpa using h)]
def markL : List UInt8 := [27, 91, 50, 48, 49, 126]
def begL : List UInt8 := [27, 91, 50, 48, 48, 126]
def remL (t : List UInt8) : List UInt8 := repS markL [] 0 t
theorem rem_hit {t : List UInt8} {k : Nat} (h : markL.isPrefixOf (t.drop k) = true) : remL (t.drop k) = remL (t.drop (k + 6)) := by
  unfold remL
  rw [repS_hit [] (by decide) h, List.nil_append, List.drop_drop]
  rfl
theorem rem_miss {t : List UInt8} {k : Nat} (hk : k < t.length) (h : markL.isPrefixOf (t.drop k) = false) : remL (t.drop k) = [t[k]] ++ remL (t.drop (k + 1)) := by
  unfold remL
  have e := List.drop_eq_getElem_cons hk
  rw [e] at h ⊢
  rw [repS_miss [] h]
  rfl
theorem rem_len (t : List UInt8) : (remL t).length ≤ t.length := repS_len_nil _ _ _
/-- What pasting makes of a text. -/
def pasteL (t x : List UInt8) (br : Bool) : List UInt8 := if br then begL ++ joinL x (remL t) ++ markL else joinL x t
/-- Whether the mark stands at a place. -/
theorem mark_at (t : ByteArray) (k : Nat) : markL.isPrefixOf (t.data.toList.drop k) = (decide (k + 6 ≤ t.size) && ((t.extract k (k + 6)).toList == markL)) := by
  have hl : t.data.toList.length = t.size := by rw [Array.length_toList]; rfl
  have e : (t.extract k (k + 6)).toList = (t.data.toList.drop k).take 6 := by
    rw [Go.Lib.toList_data, ByteArray.data_extract, Array.toList_extract]
    simp [List.extract]
  rw [e]
  by_cases h6 : k + 6 ≤ t.size
  · rw [decide_eq_true h6, Bool.true_and, Bool.eq_iff_iff, List.isPrefixOf_iff_prefix, beq_iff_eq, List.prefix_iff_eq_take]
    exact ⟨fun h => h.symm, fun h => h.symm⟩
  · rw [decide_eq_false h6, Bool.false_and]
    cases hp : markL.isPrefixOf (t.data.toList.drop k)
    · rfl
    · have := (List.isPrefixOf_iff_prefix.1 hp).length_le
      rw [List.length_drop, hl] at this
      have : markL.length = 6 := rfl
      omega
end Go.Proofs.YtgbaeajcgiaboaaDoor
