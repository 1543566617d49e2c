/-
  Beginnings of escapes, of rows, of lines.
-/
import Derived.Test.YtplolaondmeccaaGreatDoorWBegS
namespace Go.Proofs.YtplolaondmeccaaGreatDoor
open Go.RowKit
set_option linter.unusedVariables false

theorem append_prefix {a b q : List UInt8} (h : q <+: a ++ b) : q <+: a ∨ ∃ q', q = a ++ q' ∧ q' <+: b := by
  rcases List.prefix_or_prefix_of_prefix h (List.prefix_append a b) with h1 | ⟨q', rfl⟩
  · exact .inl h1
  · exact .inr ⟨q', rfl, (List.prefix_append_right_inj a).1 h⟩

/-- A code that was cut off: what may stand behind it. -/
def mendB (b : UInt8) (n : Nat) : UInt8 := if b.toNat < 32 then (if n = 1 then 92 else if n = 2 then 28 else UInt8.ofNat (b.toNat / 8 * 8 + 4)) else 92
def mendE (n : Nat) : List UInt8 := if n = 1 then [49, 51, 52] else if n = 2 then [51, 52] else [52]
theorem mend_all : ∀ b : Fin 256, (b.val < 32 ∨ b.val = 92) → ∀ n : Fin 4, 1 ≤ n.val → (code (UInt8.ofNat b.val)).take n.val ++ mendE n.val = code (mendB (UInt8.ofNat b.val) n.val) ∧ mustB (mendB (UInt8.ofNat b.val) n.val) = true := by decide +kernel
theorem mend (b : UInt8) (h : mustB b = true) (n : Nat) (h1 : 1 ≤ n) (h2 : n < 4) : (code b).take n ++ mendE n = code (mendB b n) ∧ mustB (mendB b n) = true := by
  have := mend_all ⟨b.toNat, b.toNat_lt⟩ (of_must h) ⟨n, h2⟩ h1
  simpa using this
theorem mendE_mem (n : Nat) : mendE n ∈ [[49, 51, 52], [51, 52], [(52 : UInt8)]] := by
  unfold mendE
  split
  · simp
  · split <;> simp

theorem short_prefix {c q : List UInt8} (h : q <+: c) : q = [] ∨ q = c ∨ ∃ n, 1 ≤ n ∧ n < c.length ∧ q = c.take n := by
  have e := List.prefix_iff_eq_take.1 h
  have hl := h.length_le
  by_cases h0 : q.length = 0
  · exact .inl (List.length_eq_zero_iff.1 h0)
  by_cases h1 : q.length = c.length
  · exact .inr (.inl (h.eq_of_length h1))
  · exact .inr (.inr ⟨q.length, by omega, by omega, e⟩)

/-- What begins an escape is an escape, or one with a code cut off. -/
theorem esc_prefix : ∀ (u q : List UInt8), q <+: esc u → (∃ v, v <+: u ∧ q = esc v) ∨ ∃ v b n, v.length < u.length ∧ v <+: u ∧ mustB b = true ∧ 1 ≤ n ∧ n < 4 ∧ q = esc v ++ (code b).take n
  | [], q, h => .inl ⟨[], List.prefix_refl _, List.prefix_nil.1 h⟩
  | b :: u, q, h => by
    rw [esc_cons] at h
    have key : (q <+: esc1 b ∧ q ≠ esc1 b) ∨ ∃ q', q = esc1 b ++ q' ∧ q' <+: esc u := by
      rcases append_prefix h with h | h
      · by_cases e : q = esc1 b
        · exact .inr ⟨[], by rw [e, List.append_nil], List.nil_prefix⟩
        · exact .inl ⟨h, e⟩
      · exact .inr h
    rcases key with ⟨h, hne⟩ | ⟨q', rfl, hq'⟩
    · rcases short_prefix h with rfl | e | ⟨n, h1, h2, rfl⟩
      · exact .inl ⟨[], List.nil_prefix, rfl⟩
      · exact absurd e hne
      · cases hm : mustB b
        · have : esc1 b = [b] := by unfold esc1; rw [hm]; rfl
          rw [this] at h2
          simp at h2
          omega
        · rw [esc1_must hm] at h2 ⊢
          exact .inr ⟨[], b, n, by simp, List.nil_prefix, hm, h1, h2, rfl⟩
    · rcases esc_prefix u q' hq' with ⟨v, hv, rfl⟩ | ⟨v, c, n, hl, hv, hm, h1, h2, rfl⟩
      · exact .inl ⟨b :: v, List.cons_prefix_cons.2 ⟨rfl, hv⟩, (esc_cons b v).symm⟩
      · exact .inr ⟨b :: v, c, n, by simpa using hl, List.cons_prefix_cons.2 ⟨rfl, hv⟩, hm, h1, h2, by rw [esc_cons, List.append_assoc]⟩

theorem esc_yes {lo hi : Nat} {u : List UInt8} (h1 : lo ≤ u.length) (h2 : u.length ≤ hi) : ((fEsc lo hi).read (esc u)).isSome = true := by
  show ((unesc (esc u)).bind fun t => if lo ≤ t.length ∧ t.length ≤ hi then some (fun e : Ev => { e with text := str t }) else none).isSome = true
  rw [unesc_some rfl]
  show (if lo ≤ u.length ∧ u.length ≤ hi then some (fun e : Ev => { e with text := str u }) else none).isSome = true
  rw [if_pos ⟨h1, h2⟩]
  rfl

theorem ends_esc (lo hi : Nat) : endsL (fEsc lo hi) = [[49, 51, 52], [51, 52], [52]] := by show Lib.fields [49, 51, 52, 32, 51, 52, 32, 52] = _; decide

theorem cuts_esc (lo hi : Nat) (h1 : lo ≤ 1) (h2 : 1 ≤ hi) : Cuts (fEsc lo hi) := by
  intro t q h hq
  obtain ⟨g, hg⟩ := some_of h
  obtain ⟨u, rfl, hu1, hu2, _⟩ := read_esc hg
  rcases esc_prefix u q hq with ⟨v, hv, rfl⟩ | ⟨v, c, n, hl, _, hm, hn1, hn2, rfl⟩
  · by_cases hlo : lo ≤ v.length
    · exact begF_self (esc_yes hlo (Nat.le_trans hv.length_le hu2))
    · obtain rfl : v = [] := List.length_eq_zero_iff.1 (by omega)
      refine begF_end (e := [52]) (by rw [ends_esc]; decide) ?_
      exact esc_yes (u := [52]) (by simpa using h1) (by simpa using h2)
  · obtain ⟨e, hb⟩ := mend c hm n hn1 hn2
    refine begF_end (e := mendE n) (by rw [ends_esc]; exact mendE_mem n) ?_
    rw [List.append_assoc, e, ← esc1_must hb, ← esc_snoc]
    exact esc_yes (by simp; omega) (by simp; omega)

theorem body_yes (u : List UInt8) : (fBody.read (escB u)).isSome = true := by
  show ((unescB (escB u)).map fun t (e : Ev) => { e with text := str t }).isSome = true
  rw [unescB_some rfl]
  rfl
theorem ends_body : endsL fBody = [[49, 51, 52], [51, 52], [52], [53]] := by show Lib.fields [49, 51, 52, 32, 51, 52, 32, 52, 32, 53] = _; decide
theorem body_mem (n : Nat) : mendE n ∈ endsL fBody := by rw [ends_body]; have := mendE_mem n; simp only [List.mem_cons] at this ⊢; rcases this with h | h | h | h <;> simp_all
theorem escB_37 (r : List UInt8) : escB (37 :: r) = code 37 ++ esc r := escB_pct 37 r rfl rfl
theorem mend_not37 : ∀ b : Fin 256, (b.val < 32 ∨ b.val = 92) → ∀ n : Fin 4, 1 ≤ n.val → mendB (UInt8.ofNat b.val) n.val ≠ 37 := by decide +kernel
theorem mend_ne (b : UInt8) (h : mustB b = true) (n : Nat) (h1 : 1 ≤ n) (h2 : n < 4) : mendB b n ≠ 37 := by
  have := mend_not37 ⟨b.toNat, b.toNat_lt⟩ (of_must h) ⟨n, h2⟩ h1
  simpa using this

theorem cuts_body : Cuts fBody := by
  intro t q h hq
  obtain ⟨g, hg⟩ := some_of h
  obtain ⟨u, rfl, _⟩ := read_body hg
  rcases key37 u with ⟨r, rfl, e⟩ | ⟨hno, e⟩
  · rw [e] at hq
    rcases append_prefix hq with h | ⟨q', rfl, hq'⟩
    · rcases short_prefix h with rfl | rfl | ⟨n, h1, h2, rfl⟩
      · exact begF_self (body_yes [])
      · have := body_yes [37]
        rw [escB_37, show esc [] = [] from rfl, List.append_nil] at this
        exact begF_self this
      · have h4 : (code 37).length = 4 := code_length 37
        rcases (show n = 1 ∨ n = 2 ∨ n = 3 by omega) with rfl | rfl | rfl
        · exact begF_end (body_mem 1) (body_yes [92])
        · exact begF_end (body_mem 2) (body_yes [28])
        · exact begF_end (e := [53]) (by rw [ends_body]; decide) (body_yes [37])
    · rcases esc_prefix r q' hq' with ⟨v, hv, rfl⟩ | ⟨v, c, n, hl, _, hm, hn1, hn2, rfl⟩
      · rw [← escB_37]
        exact begF_self (body_yes _)
      · obtain ⟨e2, hb⟩ := mend c hm n hn1 hn2
        refine begF_end (body_mem n) ?_
        rw [List.append_assoc, List.append_assoc, e2, ← esc1_must hb, ← esc_snoc, ← escB_37]
        exact body_yes _
  · rw [e] at hq
    rcases esc_prefix u q hq with ⟨v, hv, rfl⟩ | ⟨v, c, n, hl, hv, hm, hn1, hn2, rfl⟩
    · rw [← escB_not (l := v) (fun r er => by subst er; obtain ⟨x, rfl⟩ := hv; exact hno _ rfl)]
      exact begF_self (body_yes _)
    · obtain ⟨e2, hb⟩ := mend c hm n hn1 hn2
      refine begF_end (body_mem n) ?_
      rw [List.append_assoc, e2, ← esc1_must hb, ← esc_snoc, ← escB_not]
      · exact body_yes _
      · intro r er
        cases v with
        | nil =>
          have : mendB c n = 37 := by simpa using (List.cons.inj er).1
          exact mend_ne c hm n hn1 hn2 this
        | cons a v =>
          have ha : a = 37 := (List.cons.inj er).1
          subst ha
          obtain ⟨x, rfl⟩ := hv
          exact hno _ rfl

theorem cuts_reason : Cuts fReason := by
  intro t q h hq
  obtain ⟨g, hg⟩ := some_of h
  rcases read_reason hg with ⟨rfl, _⟩ | ⟨r, rfl, hr⟩
  · obtain rfl : q = [] := List.prefix_nil.1 hq
    exact begF_self rfl
  · rcases List.prefix_cons_iff.1 hq with rfl | ⟨q', rfl, hq'⟩
    · exact begF_self rfl
    · have h2 := cuts_esc 1 1024 (by decide) (by decide) r q' (by rw [hr]; rfl) hq'
      unfold begF at h2 ⊢
      exact h2

theorem cuts_all (k : Nat) : ∀ F ∈ fieldsOf k, Cuts F := by
  have hn1 : (0 : Int) ≤ maxN := by decide
  have i36 : ∀ f, Cuts (fId 36 f) := fun f => cuts_id 36 f (by decide) (by decide)
  have i37 : ∀ f, Cuts (fId 37 f) := fun f => cuts_id 37 f (by decide) (by decide)
  have i64 : ∀ f, Cuts (fId 64 f) := fun f => cuts_id 64 f (by decide) (by decide)
  have n0 : ∀ f, Cuts (fNum maxN f) := cuts_num maxN hn1
  have n1 : ∀ f, Cuts (fNum 1 f) := cuts_num 1 (by decide)
  have n2 : ∀ f, Cuts (fNum 9999 f) := cuts_num 9999 (by decide)
  have e1 := cuts_esc 1 256 (by decide) (by decide)
  have e2 := cuts_esc 0 1024 (by decide) (by decide)
  have b := cuts_body
  have r := cuts_reason
  have nm := cuts_name
  have wd := cuts_word
  have pl := cuts_plan
  have z := cuts_zoom
  have c := cuts_colon
  intro F hF
  unfold fieldsOf at hF
  split at hF <;> simp only [List.mem_cons, List.not_mem_nil, or_false] at hF <;> (try rcases hF with rfl | rfl | rfl | rfl | rfl | rfl | rfl) <;> (try rcases hF with rfl | rfl | rfl | rfl) <;> (try rcases hF with rfl | rfl | rfl) <;> (try rcases hF with rfl | rfl) <;> (try subst hF) <;> (first | apply i36 | apply i37 | apply i64 | apply n0 | apply n1 | apply n2 | apply pl | assumption)

/-! Rows. -/
noncomputable def begRow : List FSpec → List UInt8 → Bool
  | [], _ => false
  | [F], l => begF F l
  | F :: G :: fs, l => if 32 ∈ l then (F.read (l.takeWhile (· != 32))).isSome && begRow (G :: fs) ((l.dropWhile (· != 32)).drop 1) else begF F l

theorem take_bar {l : List UInt8} (h : (32 : UInt8) ∈ l) : l = l.takeWhile (· != 32) ++ 32 :: (l.dropWhile (· != 32)).drop 1 := by
  rw [← drop_split l h, List.takeWhile_append_dropWhile]
theorem take_none : ∀ l : List UInt8, (32 : UInt8) ∉ l.takeWhile (· != 32)
  | [] => by simp
  | b :: l => by
    rw [List.takeWhile_cons]
    cases hb : (b != 32)
    · simp
    · have := take_none l
      have hb' : b ≠ 32 := by simpa using hb
      simp only [if_true, List.mem_cons, not_or]
      exact ⟨fun e => hb' e.symm, this⟩
theorem bar_take (a r : List UInt8) (h : (32 : UInt8) ∉ a) : (a ++ 32 :: r).takeWhile (· != 32) = a ∧ ((a ++ 32 :: r).dropWhile (· != 32)).drop 1 = r := by
  induction a with
  | nil => simp
  | cons b a ih =>
    have hb : (b != 32) = true := by simp; intro e; exact h (by simp [e])
    have := ih (fun hm => h (List.mem_cons_of_mem _ hm))
    simp [hb, this]

theorem begRow_pre : ∀ (fs : List FSpec), (∀ F ∈ fs, Cuts F) → ∀ l q, begRow fs l = true → q <+: l → begRow fs q = true
  | [], _, _, _, h, _ => h
  | [F], hF, l, q, h, hq => begF_pre (hF F (by simp)) h hq
  | F :: G :: fs, hF, l, q, h, hq => by
    unfold begRow at h ⊢
    by_cases hl : (32 : UInt8) ∈ l
    · rw [if_pos hl, Bool.and_eq_true] at h
      have el := take_bar hl
      have hn := take_none l
      obtain ⟨a, ha⟩ : ∃ a, l.takeWhile (· != 32) = a := ⟨_, rfl⟩
      obtain ⟨r, hr⟩ : ∃ r, (l.dropWhile (· != 32)).drop 1 = r := ⟨_, rfl⟩
      rw [ha] at h el hn
      rw [hr] at h el
      rw [el] at hq
      rcases append_prefix hq with h1 | ⟨q', rfl, hq'⟩
      · rw [if_neg (fun hm => hn (h1.subset hm))]
        exact hF F (by simp) a q h.1 h1
      · rcases List.prefix_cons_iff.1 hq' with rfl | ⟨q2, rfl, hq2⟩
        · rw [List.append_nil, if_neg hn]
          exact hF F (by simp) a a h.1 (List.prefix_refl _)
        · obtain ⟨e1, e2⟩ := bar_take a q2 hn
          rw [if_pos (by simp), e1, e2, h.1, Bool.true_and]
          exact begRow_pre (G :: fs) (fun F' h' => hF F' (List.mem_cons_of_mem _ h')) r q2 h.2 hq2
    · rw [if_neg hl] at h
      rw [if_neg (fun hm => hl (hq.subset hm))]
      exact begF_pre (hF F (by simp)) h hq

/-- A whole row's text begins one. -/
theorem begRow_whole : ∀ (fs : List FSpec) (l : List UInt8) (e e' : Ev), fs ≠ [] → ¬ (cutK (fs.length - 1) l).length < fs.length → readAll fs (cutK (fs.length - 1) l) e = some e' → begRow fs l = true
  | [], _, _, _, h, _, _ => absurd rfl h
  | [F], l, e, e', _, _, h => by
    obtain ⟨g, hg, _⟩ := readAll_cons (F := F) (fs := []) (t := l) (ts := []) h
    exact begF_self (by rw [hg]; rfl)
  | F :: G :: fs, l, e, e', _, hlen, h => by
    unfold begRow
    have hlen' : (F :: G :: fs).length - 1 = fs.length + 1 := by simp
    rw [hlen'] at hlen h
    by_cases hl : (32 : UInt8) ∈ l
    · rw [if_pos hl]
      unfold cutK at hlen h
      rw [if_pos hl] at hlen h
      obtain ⟨g, hg, h2⟩ := readAll_cons h
      rw [hg, Option.isSome_some, Bool.true_and]
      exact begRow_whole (G :: fs) _ _ _ (by simp) (by simp at hlen ⊢; omega) h2
    · unfold cutK at hlen
      rw [if_neg hl] at hlen
      simp at hlen

noncomputable def begS (k : Nat) (l : List UInt8) : Bool := if headOf k <+: l then begRow (fieldsOf k) (l.drop (headOf k).length) else decide (l <+: headOf k)

theorem begS_pre (k : Nat) (l q : List UInt8) (h : begS k l = true) (hq : q <+: l) : begS k q = true := by
  unfold begS at h ⊢
  by_cases hh : headOf k <+: q
  · rw [if_pos (hh.trans hq)] at h
    rw [if_pos hh]
    refine begRow_pre _ (cuts_all k) _ _ h ?_
    obtain ⟨a, rfl⟩ := hh
    obtain ⟨b, rfl⟩ := hq
    rw [List.append_assoc, List.drop_left, List.drop_left]
    exact List.prefix_append _ _
  · rw [if_neg hh, decide_eq_true_eq]
    by_cases hl : headOf k <+: l
    · exact (List.prefix_or_prefix_of_prefix hq hl).resolve_right hh
    · rw [if_neg hl, decide_eq_true_eq] at h
      exact hq.trans h

theorem fields_ne (k : Nat) (h1 : 1 ≤ k) (h2 : k ≤ 24) : fieldsOf k ≠ [] := by
  have := (fields_len k h1 h2).1
  intro e
  rw [e] at this
  simp at this

theorem begS_whole {k : Nat} (h1 : 1 ≤ k) (h2 : k ≤ 24) {l : List UInt8} {e : Ev} (h : readS k l = some e) : begS k l = true := by
  have hp := readS_head h
  unfold begS
  rw [if_pos hp]
  unfold readS at h
  rw [if_pos hp] at h
  dsimp only at h
  split at h
  · cases h
  · rename_i hlen
    exact begRow_whole _ _ _ _ (fields_ne k h1 h2) hlen h

end Go.Proofs.YtplolaondmeccaaGreatDoor
