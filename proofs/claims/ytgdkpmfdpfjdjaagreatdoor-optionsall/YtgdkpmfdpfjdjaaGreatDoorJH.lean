/-
  Keys: names lead back.
  Keys: the first character of a character's bytes (pure).
  Keys: lists of keys.
  Keys: all keys that are no plain characters, by the document.
  Keys: what the document reads is what the program reads (pure).
-/
import Derived.Test.YtgdkpmfdpfjdjaaGreatDoorHE
import Derived.Test.YtgdkpmfdpfjdjaaGreatDoorJG
import Derived.Test.YtgdkpmfdpfjdjaaGreatDoorKFir
import Derived.Lib.TrimUEq
namespace Go.Proofs.YtgdkpmfdpfjdjaaGreatDoor
open Go.RowKit
set_option linter.unusedVariables false
set_option maxRecDepth 100000

/-- The first byte of a character's bytes. -/
theorem enc_one {c : Int} (h0 : 0 ≤ c) (h1 : c < 128) : Lib.encodeRune c = [c.toNat.toUInt8] := by
  unfold Lib.encodeRune
  rw [Lib.encodeRuneZ_one h0 (by omega)]
  rfl
theorem u8_nat (z : Int) (h0 : 0 ≤ z) (h1 : z < 256) : (z.toNat.toUInt8).toNat = z.toNat := by rw [UInt8.toNat_ofNat']; omega
theorem enc_high {c : Int} (h0 : 128 ≤ c) (h1 : c ≤ 1114111) (h2 : c < 55296 ∨ 57343 < c) : ∃ b r, Lib.encodeRune c = b :: r ∧ 192 ≤ b.toNat ∧ r ≠ [] := by
  rw [← r8_enc (by omega) h1 h2]
  unfold r8F
  rw [if_neg (by omega)]
  split
  · exact ⟨_, _, rfl, by rw [u8_nat _ (by omega) (by omega)]; omega, by simp⟩
  · split
    · exact ⟨_, _, rfl, by rw [u8_nat _ (by omega) (by omega)]; omega, by simp⟩
    · exact ⟨_, _, rfl, by rw [u8_nat _ (by omega) (by omega)]; omega, by simp⟩
/-- A character's bytes are read as that character. -/
theorem dec_enc {c : Int} (h0 : 0 ≤ c) (h1 : c ≤ 1114111) (h2 : c < 55296 ∨ 57343 < c) : ((dec (Lib.encodeRune c)).1 : Int) = c ∧ (dec (Lib.encodeRune c)).2 = (Lib.encodeRune c).length := by
  have hne : ∀ l : List UInt8, l ≠ [] → dec l = Lib.decodeN l.length (l.getD 0 0).toNat (l.getD 1 0).toNat (l.getD 2 0).toNat (l.getD 3 0).toNat := fun l hl => by
    unfold dec
    rw [if_neg (by intro e; exact hl (List.length_eq_zero_iff.1 e))]
    exact Lib.decodeL_N l
  rw [← r8_enc h0 h1 h2]
  unfold r8F
  by_cases a : c < 128
  · rw [if_pos a, hne _ (by simp)]
    simp only [List.getD_cons_zero, List.length_cons, List.length_nil, u8_nat c h0 (by omega)]
    unfold Lib.decodeN
    rw [if_pos (by omega)]
    exact ⟨by omega, rfl⟩
  · rw [if_neg a]
    by_cases b : c < 2048
    · rw [if_pos b, hne _ (by simp)]
      simp only [List.getD_cons_zero, List.getD_cons_succ, List.length_cons, List.length_nil, u8_nat (192 + c / 64) (by omega) (by omega), u8_nat (128 + c % 64) (by omega) (by omega)]
      unfold Lib.decodeN
      rw [if_neg (by omega), if_pos (by omega), if_pos (by omega)]
      exact ⟨by omega, rfl⟩
    · rw [if_neg b]
      by_cases d : c < 65536
      · rw [if_pos d, hne _ (by simp)]
        simp only [List.getD_cons_zero, List.getD_cons_succ, List.length_cons, List.length_nil, u8_nat (224 + c / 4096) (by omega) (by omega), u8_nat (128 + c / 64 % 64) (by omega) (by omega), u8_nat (128 + c % 64) (by omega) (by omega)]
        unfold Lib.decodeN
        rw [if_neg (by omega), if_neg (by omega), if_pos (by omega), if_pos (by omega)]
        exact ⟨by omega, rfl⟩
      · rw [if_neg d, hne _ (by simp)]
        simp only [List.getD_cons_zero, List.getD_cons_succ, List.length_cons, List.length_nil, u8_nat (240 + c / 262144) (by omega) (by omega), u8_nat (128 + c / 4096 % 64) (by omega) (by omega), u8_nat (128 + c / 64 % 64) (by omega) (by omega), u8_nat (128 + c % 64) (by omega) (by omega)]
        unfold Lib.decodeN
        rw [if_neg (by omega), if_neg (by omega), if_neg (by omega), if_pos (by omega), if_pos (by omega)]
        exact ⟨by omega, rfl⟩
/-- A character's bytes are no other name. -/
theorem names_two : (∀ s ∈ spT, 2 ≤ s.name.length ∧ (s.name.headD 0).toNat < 128) ∧ (∀ p ∈ nmT, 2 ≤ p.2.length ∧ (p.2.headD 0).toNat < 128) := by decide
theorem enc_shape {c : Int} (h0 : 0 ≤ c) (h1 : c ≤ 1114111) (h2 : c < 55296 ∨ 57343 < c) : (Lib.encodeRune c).length ≤ 1 ∨ 192 ≤ ((Lib.encodeRune c).headD 0).toNat := by
  by_cases a : c < 128
  · left; rw [enc_one h0 a]; simp
  · right
    obtain ⟨b, r, e, hb, _⟩ := enc_high (by omega) h1 h2
    rw [e]; exact hb
theorem enc_nosp {c : Int} (h0 : 0 ≤ c) (h1 : c ≤ 1114111) (h2 : c < 55296 ∨ 57343 < c) : (∀ s ∈ spT, s.name ≠ Lib.encodeRune c) ∧ (∀ p ∈ nmT, p.2 ≠ Lib.encodeRune c) := by
  have hs := enc_shape h0 h1 h2
  refine ⟨fun s hm e => ?_, fun p hm e => ?_⟩
  · have := names_two.1 s hm
    rw [e] at this
    omega
  · have := names_two.2 p hm
    rw [e] at this
    omega
theorem chr_of {c : Int} (h : chrB c = true) : 0 ≤ c ∧ c ≤ 1114111 ∧ (c < 55296 ∨ 57343 < c) ∧ spcB c = false ∧ nmF c = none := by
  have h1 : 33 ≤ c ∧ c ≤ 126 ∨ 160 ≤ c ∧ c ≤ 1114111 ∧ (c < 55296 ∨ 57343 < c) := by simpa [chrB] using h
  refine ⟨by omega, by omega, by omega, by simp [spcB]; omega, nm_no fun j p hp => ?_⟩
  have hm : p ∈ nmT := List.mem_of_getElem? hp
  simp only [nmT, List.mem_cons, List.not_mem_nil, or_false] at hm
  rcases hm with e | e | e | e | e | e <;> rw [e] <;> simp only <;> omega
theorem bare_chr {c : Int} (h : chrB c = true) : bareF c = Lib.encodeRune c := by
  obtain ⟨_, _, _, h4, h5⟩ := chr_of h
  rw [bare_of h4, h5]
  rfl
theorem find_none {p : Sp → Bool} {l : List Sp} (h : ∀ s ∈ l, p s = false) (i : Nat) : findT p l i = none := find_no fun j s hs => h s (List.mem_of_getElem? hs)
theorem bc_chr {c : Int} (h : chrB c = true) : bcF (Lib.encodeRune c) = c := by
  obtain ⟨h0, h1, h2, _, _⟩ := chr_of h
  obtain ⟨n1, n2⟩ := enc_nosp h0 h1 h2
  obtain ⟨d1, _⟩ := dec_enc h0 h1 h2
  unfold bcF
  rw [find_none (fun s hs => by simpa using n1 s hs)]
  simp only []
  unfold nrF
  rw [pfind_no fun j p hp => n2 p (List.mem_of_getElem? hp)]
  simp only []
  unfold chrF
  rw [d1, if_pos ⟨rfl, h⟩]
theorem sp_closed : ∀ k : Fin 22, bcF (spT.getD k.val ⟨[], [], [], []⟩).name = 16777217 + (k.val : Int) ∧ bareF (16777217 + (k.val : Int)) = (spT.getD k.val ⟨[], [], [], []⟩).name := by decide
theorem sp_back (k : Fin 22) : ∃ s, spT[k.val]? = some s ∧ bcF s.name = 16777217 + (k.val : Int) ∧ bareF (16777217 + (k.val : Int)) = s.name := by
  have hk : k.val < spT.length := k.isLt
  have h := sp_closed k
  rw [List.getD_eq_getElem?_getD, List.getElem?_eq_getElem hk] at h
  exact ⟨_, List.getElem?_eq_getElem hk, h.1, h.2⟩
theorem nm_back : ∀ p ∈ nmT, bcF p.2 = p.1 ∧ bareF p.1 = p.2 := by
  intro p hm
  simp only [nmT, List.mem_cons, List.not_mem_nil, or_false] at hm
  rcases hm with e | e | e | e | e | e <;> rw [e] <;> decide
/-- The code of a key's bare name is its code. -/
theorem bc_bare {c m : Int} (hv : validB c m = true) : bcF (bareF c) = c := by
  by_cases h4 : spcB c = true
  · obtain ⟨k, s, e, hk, hs, _⟩ := spc_at h4
    obtain ⟨s', h1, h2, h3⟩ := sp_back ⟨k, hk⟩
    simp only at h2 h3
    rw [e, h3, h2]
  · by_cases hn : c = 32 ∨ c = 13 ∨ c = 9 ∨ c = 27 ∨ c = 127 ∨ c = 16777239
    · rcases hn with h | h | h | h | h | h <;> subst h <;> decide
    · have hc : chrB c = true := by
        unfold validB at hv
        rw [if_neg (by omega), if_neg (by simp [oneB]; omega), if_neg (by omega), if_neg h4] at hv
        simp [plainM, ctrlM, chrB, ctlB] at hv ⊢
        omega
      rw [bare_chr hc]
      exact bc_chr hc
/-- A bare name has no modifier ahead. -/
theorem bare_ahead {c m : Int} (hv : validB c m = true) : ∀ p ∈ mdT, p.2.isPrefixOf (bareF c) = false := by
  by_cases h4 : spcB c = true
  · obtain ⟨k, s, e, hk, hs, _⟩ := spc_at h4
    obtain ⟨s', h1, _, h3⟩ := sp_back ⟨k, hk⟩
    simp only at h3
    have hall : ∀ s ∈ spT, ∀ p ∈ mdT, p.2.isPrefixOf s.name = false := by decide
    rw [e, h3]
    exact hall s' (List.mem_of_getElem? h1)
  · by_cases hn : c = 32 ∨ c = 13 ∨ c = 9 ∨ c = 27 ∨ c = 127 ∨ c = 16777239
    · rcases hn with h | h | h | h | h | h <;> subst h <;> decide
    · have hc : chrB c = true := by
        unfold validB at hv
        rw [if_neg (by omega), if_neg (by simp [oneB]; omega), if_neg (by omega), if_neg h4] at hv
        simp [plainM, ctrlM, chrB, ctlB] at hv ⊢
        omega
      obtain ⟨h0, h1, h2, _, _⟩ := chr_of hc
      rw [bare_chr hc]
      by_cases a : c < 128
      · rw [enc_one h0 a]
        intro p hp
        simp only [mdT, List.mem_cons, List.not_mem_nil, or_false] at hp
        rcases hp with e | e | e <;> rw [e] <;> simp [List.isPrefixOf]
      · obtain ⟨b, r, e, hb, _⟩ := enc_high (by omega) h1 h2
        rw [e]
        intro p hp
        have hne : ∀ x : UInt8, x.toNat < 128 → (x == b) = false := fun x hx => by
          simp only [beq_eq_false_iff_ne, ne_eq]
          intro q
          rw [q] at hx
          omega
        simp only [mdT, List.mem_cons, List.not_mem_nil, or_false] at hp
        rcases hp with e | e | e <;> rw [e] <;> simp only [List.isPrefixOf]
        · rw [hne 67 (by decide)]; rfl
        · rw [hne 77 (by decide)]; rfl
        · rw [hne 83 (by decide)]; rfl
theorem md_mods {m : Int} (h0 : 0 ≤ m) (h7 : m ≤ 7) (x : List UInt8) (hx : ∀ p ∈ mdT, p.2.isPrefixOf x = false) : mdF mdT (modF m ++ x) 0 = (x, m) := by
  have hC : ([67, 45] : List UInt8).isPrefixOf x = false := hx (4, [67, 45]) (by simp [mdT])
  have hM : ([77, 45] : List UInt8).isPrefixOf x = false := hx (2, [77, 45]) (by simp [mdT])
  have hS : ([83, 45] : List UInt8).isPrefixOf x = false := hx (1, [83, 45]) (by simp [mdT])
  rcases (by omega : m = 0 ∨ m = 1 ∨ m = 2 ∨ m = 3 ∨ m = 4 ∨ m = 5 ∨ m = 6 ∨ m = 7) with e | e | e | e | e | e | e | e <;> subst e <;>
    simp [modF, hasM, mdT, mdF, List.isPrefixOf, hC, hM, hS]
/-- A key's name means it. -/
theorem read_name {c m : Int} (hv : validB c m = true) : readF (nameF c m) = some (c, m) := by
  obtain ⟨_, _, h0, h7⟩ := valid_code hv
  unfold readF nameF
  rw [if_pos hv, md_mods h0 h7 _ (bare_ahead hv)]
  simp only [bc_bare hv]
  rw [if_pos hv]
theorem name_some {c m : Int} (hv : validB c m = true) : nameF c m ≠ [] := by
  intro e
  have h := read_name hv
  rw [e] at h
  have h2 : readF [] = none := by decide
  rw [h2] at h
  cases h
theorem find_get {p : Sp → Bool} : ∀ {l : List Sp} {i k : Nat}, findT p l i = some k → ∃ s, l[k - i]? = some s ∧ i ≤ k ∧ p s = true
  | [], _, _, h => by cases h
  | a :: r, i, k, h => by
    unfold findT at h
    split at h
    · cases h
      rename_i q
      exact ⟨a, by simp, Nat.le_refl _, q⟩
    · obtain ⟨s, h1, h2, h3⟩ := find_get h
      refine ⟨s, ?_, by omega, h3⟩
      rw [show k - i = (k - (i + 1)) + 1 by omega, List.getElem?_cons_succ]
      exact h1
/-- A code that a text means has that text for its bare name. -/
theorem bare_bc {x : List UInt8} (h : bcF x ≠ 0) : bareF (bcF x) = x := by
  unfold bcF at h ⊢
  split at h
  · rename_i i hi
    obtain ⟨s, h1, _, h3⟩ := find_get hi
    rw [Nat.sub_zero] at h1
    have hk : i < 22 := by have := (List.getElem?_eq_some_iff.1 h1).1; rw [spT_len] at this; exact this
    obtain ⟨s', g1, _, g3⟩ := sp_back ⟨i, hk⟩
    simp only at g1 g3
    rw [g3]
    have : s' = s := Option.some.inj (g1.symm.trans h1)
    rw [this]
    simpa using h3
  · rename_i hi
    unfold nrF at h ⊢
    split at h
    · rename_i p hp
      have hm := List.mem_of_find?_eq_some hp
      have he : p.2 = x := by simpa using List.find?_some hp
      rw [(nm_back p hm).2, he]
    · rename_i hp
      unfold chrF at h ⊢
      split at h
      · rename_i q
        rw [if_pos q, bare_chr q.2]
        exact q.1
      · exact absurd rfl h
theorem md_back (l : List UInt8) : modF (mdF mdT l 0).2 ++ (mdF mdT l 0).1 = l := by
  have hp : ∀ (t x : List UInt8), t.isPrefixOf x = true → t ++ x.drop t.length = x := fun t x h => by
    obtain ⟨r, e⟩ := List.isPrefixOf_iff_prefix.1 h
    rw [← e]
    simp
  unfold mdT mdF mdF mdF mdF
  by_cases a : ([67, 45] : List UInt8).isPrefixOf l = true
  · have e1 := hp _ _ a
    simp only [a, if_true]
    by_cases b : ([77, 45] : List UInt8).isPrefixOf (l.drop ([67, 45] : List UInt8).length) = true
    · have e2 := hp _ _ b
      simp only [b, if_true]
      by_cases d : ([83, 45] : List UInt8).isPrefixOf ((l.drop ([67, 45] : List UInt8).length).drop ([77, 45] : List UInt8).length) = true
      · have e3 := hp _ _ d
        simp only [d, if_true]
        rw [show modF (0 + 4 + 2 + 1) = [67, 45] ++ ([77, 45] ++ [83, 45]) from rfl, List.append_assoc, List.append_assoc, e3, e2, e1]
      · simp only [d, if_false, Bool.false_eq_true]
        rw [show modF (0 + 4 + 2) = [67, 45] ++ [77, 45] from rfl, List.append_assoc, e2, e1]
    · simp only [b, if_false, Bool.false_eq_true]
      by_cases d : ([83, 45] : List UInt8).isPrefixOf (l.drop ([67, 45] : List UInt8).length) = true
      · have e3 := hp _ _ d
        simp only [d, if_true]
        rw [show modF (0 + 4 + 1) = [67, 45] ++ [83, 45] from rfl, List.append_assoc, e3, e1]
      · simp only [d, if_false, Bool.false_eq_true]
        rw [show modF (0 + 4) = [67, 45] from rfl, e1]
  · simp only [a, if_false, Bool.false_eq_true]
    by_cases b : ([77, 45] : List UInt8).isPrefixOf l = true
    · have e2 := hp _ _ b
      simp only [b, if_true]
      by_cases d : ([83, 45] : List UInt8).isPrefixOf (l.drop ([77, 45] : List UInt8).length) = true
      · have e3 := hp _ _ d
        simp only [d, if_true]
        rw [show modF (0 + 2 + 1) = [77, 45] ++ [83, 45] from rfl, List.append_assoc, e3, e2]
      · simp only [d, if_false, Bool.false_eq_true]
        rw [show modF (0 + 2) = [77, 45] from rfl, e2]
    · simp only [b, if_false, Bool.false_eq_true]
      by_cases d : ([83, 45] : List UInt8).isPrefixOf l = true
      · have e3 := hp _ _ d
        simp only [d, if_true]
        rw [show modF (0 + 1) = [83, 45] from rfl, e3]
      · simp only [d, if_false, Bool.false_eq_true]
        rfl
/-- A name that means a key is its name. -/
theorem name_read {l : List UInt8} {k : Int × Int} (h : readF l = some k) : validB k.1 k.2 = true ∧ nameF k.1 k.2 = l := by
  unfold readF at h
  split at h
  · rename_i hv
    cases h
    refine ⟨hv, ?_⟩
    unfold nameF
    rw [if_pos hv]
    have hc : bcF (mdF mdT l 0).1 ≠ 0 := by
      intro e
      rw [e] at hv
      simp [validB, oneB, spcB, chrB, ctlB] at hv
    simp only []
    rw [bare_bc hc]
    exact md_back l
  · cases h
end Go.Proofs.YtgdkpmfdpfjdjaaGreatDoor

namespace Go.Proofs.YtgdkpmfdpfjdjaaGreatDoor
open Go.RowKit
set_option linter.unusedVariables false
set_option maxRecDepth 100000

theorem fOk_low {t : List UInt8} (h : topT.getD (t.length - 1) 0 < ((t.headD 0).toNat : Int)) : fOk t = false := by
  unfold fOk worthF
  simp only []
  rw [if_pos (Or.inr h)]
  simp
theorem worth_two {b0 b1 : UInt8} {c : Int} (e0 : (b0.toNat : Int) = 192 + c / 64) (e1 : (b1.toNat : Int) = 128 + c % 64) (h0 : 0 ≤ c) (h1 : c < 2048) : worthF [b0, b1] = c := by
  unfold worthF wloop wloop
  simp only [List.length_cons, List.length_nil, List.headD_cons, List.drop_succ_cons, List.drop_zero]
  have t0 : headT.getD (0 + 1 + 1 - 1) 0 = 192 := rfl
  have t1 : topT.getD (0 + 1 + 1 - 1) 0 = 223 := rfl
  rw [t0, t1, if_neg (by omega), if_neg (by omega)]
  omega
theorem worth_three {b0 b1 b2 : UInt8} {c : Int} (e0 : (b0.toNat : Int) = 224 + c / 4096) (e1 : (b1.toNat : Int) = 128 + c / 64 % 64) (e2 : (b2.toNat : Int) = 128 + c % 64) (h0 : 0 ≤ c) (h1 : c < 65536) : worthF [b0, b1, b2] = c := by
  unfold worthF wloop wloop wloop
  simp only [List.length_cons, List.length_nil, List.headD_cons, List.drop_succ_cons, List.drop_zero]
  have t0 : headT.getD (0 + 1 + 1 + 1 - 1) 0 = 224 := rfl
  have t1 : topT.getD (0 + 1 + 1 + 1 - 1) 0 = 239 := rfl
  rw [t0, t1, if_neg (by omega), if_neg (by omega), if_neg (by omega)]
  omega
theorem worth_four {b0 b1 b2 b3 : UInt8} {c : Int} (e0 : (b0.toNat : Int) = 240 + c / 262144) (e1 : (b1.toNat : Int) = 128 + c / 4096 % 64) (e2 : (b2.toNat : Int) = 128 + c / 64 % 64) (e3 : (b3.toNat : Int) = 128 + c % 64) (h0 : 0 ≤ c) (h1 : c < 2097152) : worthF [b0, b1, b2, b3] = c := by
  unfold worthF wloop wloop wloop wloop
  simp only [List.length_cons, List.length_nil, List.headD_cons, List.drop_succ_cons, List.drop_zero]
  have t0 : headT.getD (0 + 1 + 1 + 1 + 1 - 1) 0 = 240 := rfl
  have t1 : topT.getD (0 + 1 + 1 + 1 + 1 - 1) 0 = 247 := rfl
  rw [t0, t1, if_neg (by omega), if_neg (by omega), if_neg (by omega), if_neg (by omega)]
  omega
theorem fOk_of {t : List UInt8} {c : Int} (hw : worthF t = c) (hr : r8F c = t) (h0 : 0 ≤ c) (h1 : c ≤ 1114111) (h2 : c < 55296 ∨ 57343 < c) : fOk t = true := by
  unfold fOk
  rw [hw]
  exact decide_eq_true ⟨h0, hr, h1, h2⟩
theorem u8_int (z : Int) (h0 : 0 ≤ z) (h1 : z < 256) : (((z.toNat.toUInt8).toNat : Nat) : Int) = z := by rw [u8_nat z h0 h1]; omega
theorem low_no (t : List UInt8) (T : Int) (hT : topT.getD (t.length - 1) 0 = T) (h : T < ((t.headD 0).toNat : Int)) : ¬ fOk t = true := by rw [fOk_low (by rw [hT]; exact h)]; decide
/-- The first character of a character's bytes is that character, and they are all of it. -/
theorem first_enc {c : Int} (h0 : 128 ≤ c) (h1 : c ≤ 1114111) (h2 : c < 55296 ∨ 57343 < c) : firstF (r8F c) = some (c, (r8F c).length) := by
  obtain ⟨t, ht⟩ : ∃ t, r8F c = t := ⟨_, rfl⟩
  have hb := ht
  rw [ht]
  unfold r8F at hb
  rw [if_neg (by omega)] at hb
  by_cases q : c < 2048
  · rw [if_pos q] at hb
    have w := worth_two (u8_int (192 + c / 64) (by omega) (by omega)) (u8_int (128 + c % 64) (by omega) (by omega)) (by omega) q
    have k0 := u8_int (192 + c / 64) (by omega) (by omega)
    obtain ⟨b0, hb0⟩ : ∃ b, (192 + c / 64).toNat.toUInt8 = b := ⟨_, rfl⟩
    rw [hb0] at hb w k0
    rw [hb] at w
    have ok := fOk_of w ht (by omega) h1 h2
    subst hb
    unfold firstF
    rw [firstG_step (by decide) (by simp), if_neg (by exact low_no [b0] 127 rfl (show (127 : Int) < (b0.toNat : Int) by omega)), firstG_step (by decide) (by simp)]
    rw [if_pos (by exact ok)]
    exact congrArg some (Prod.ext w rfl)
  · rw [if_neg q] at hb
    by_cases q3 : c < 65536
    · rw [if_pos q3] at hb
      have w := worth_three (u8_int (224 + c / 4096) (by omega) (by omega)) (u8_int (128 + c / 64 % 64) (by omega) (by omega)) (u8_int (128 + c % 64) (by omega) (by omega)) (by omega) q3
      have k0 := u8_int (224 + c / 4096) (by omega) (by omega)
      obtain ⟨b0, hb0⟩ : ∃ b, (224 + c / 4096).toNat.toUInt8 = b := ⟨_, rfl⟩
      rw [hb0] at hb w k0
      rw [hb] at w
      have ok := fOk_of w ht (by omega) h1 h2
      subst hb
      unfold firstF
      rw [firstG_step (by decide) (by simp), if_neg (by exact low_no [b0] 127 rfl (show (127 : Int) < (b0.toNat : Int) by omega)), firstG_step (by decide) (by simp), if_neg (by exact low_no [b0, _] 223 rfl (show (223 : Int) < (b0.toNat : Int) by omega)), firstG_step (by decide) (by simp)]
      rw [if_pos (by exact ok)]
      exact congrArg some (Prod.ext w rfl)
    · rw [if_neg q3] at hb
      have w := worth_four (u8_int (240 + c / 262144) (by omega) (by omega)) (u8_int (128 + c / 4096 % 64) (by omega) (by omega)) (u8_int (128 + c / 64 % 64) (by omega) (by omega)) (u8_int (128 + c % 64) (by omega) (by omega)) (by omega) (by omega)
      have k0 := u8_int (240 + c / 262144) (by omega) (by omega)
      obtain ⟨b0, hb0⟩ : ∃ b, (240 + c / 262144).toNat.toUInt8 = b := ⟨_, rfl⟩
      rw [hb0] at hb w k0
      rw [hb] at w
      have ok := fOk_of w ht (by omega) h1 h2
      subst hb
      unfold firstF
      rw [firstG_step (by decide) (by simp), if_neg (by exact low_no [b0] 127 rfl (show (127 : Int) < (b0.toNat : Int) by omega)), firstG_step (by decide) (by simp), if_neg (by exact low_no [b0, _] 223 rfl (show (223 : Int) < (b0.toNat : Int) by omega)), firstG_step (by decide) (by simp), if_neg (by exact low_no [b0, _, _] 239 rfl (show (239 : Int) < (b0.toNat : Int) by omega)), firstG_step (by decide) (by simp)]
      rw [if_pos (by exact ok)]
      exact congrArg some (Prod.ext w rfl)
end Go.Proofs.YtgdkpmfdpfjdjaaGreatDoor

namespace Go.Proofs.YtgdkpmfdpfjdjaaGreatDoor
open Go.RowKit
set_option linter.unusedVariables false
set_option maxRecDepth 100000

theorem addr_add (g o j : Nat) : (⟨g, o, none⟩ : Addr).add j = ⟨g, o + j, none⟩ := by unfold Addr.add; split <;> simp_all
def keyV (k : Int × Int) : List Value := [.int .i64 k.1, .int .i64 k.2]
/-- A list of keys that is one's own. -/
def KeysAt (w : World) (B : Nat) (v : Value) (ks : List (Int × Int)) : Prop := w.ownsRow B 115 2 v ks.length (ks.flatMap keyV)
theorem keys_flat (ks : List (Int × Int)) : (ks.flatMap keyV).length = ks.length * 2 := by
  induction ks with
  | nil => rfl
  | cons k r ih => rw [List.flatMap_cons, List.length_append, ih]; simp [keyV]; omega
theorem KeysAt.nil (w : World) (B : Nat) : KeysAt w B (.slice none 0 0) [] := World.ownsRow_nil w B _ _
theorem KeysAt.keep {w w' : World} {B : Nat} {v : Value} {ks : List (Int × Int)} (h : KeysAt w B v ks) (hk : ∀ g, v.ownBlock = some g → w'.heap[g]? = w.heap[g]?) : KeysAt w' B v ks := by
  refine ⟨h.1, ?_⟩
  rcases h.2 with h0 | ⟨g, cap, cur, rfl, hb, hg, r⟩
  · exact .inl h0
  · exact .inr ⟨g, cap, cur, rfl, hb, (hk g rfl).trans hg, r⟩
theorem KeysAt.blk {w : World} {B : Nat} {v : Value} {ks : List (Int × Int)} (h : KeysAt w B v ks) {g : Nat} (hg : v.ownBlock = some g) : B ≤ g ∧ ∃ cur, w.heap[g]? = some (.cells cur 115 (0, 0)) := by
  rcases h.2 with ⟨e, _⟩ | ⟨g', cap, cur, e, hb, hk, _⟩
  · rw [e] at hg; cases hg
  · rw [e] at hg; cases hg
    exact ⟨hb, cur, hk⟩
theorem KeysAt.below {w w' : World} {B : Nat} {v : Value} {ks : List (Int × Int)} (h : KeysAt w B v ks) (hb : Below w.heap.size w w') : KeysAt w' B v ks := h.keep fun g hg => by
  obtain ⟨_, cur, hk⟩ := h.blk hg
  exact hb.block g (lt_block hk)
theorem KeysAt.slice {w : World} {B : Nat} {v : Value} {ks : List (Int × Int)} (h : KeysAt w B v ks) : ∃ a c, v = .slice a ks.length c := by
  rcases h.2 with ⟨e, h0⟩ | ⟨g', cap, cur, e, hb, hk, _⟩
  · exact ⟨_, _, by rw [e, h0]⟩
  · exact ⟨_, _, e⟩
theorem infoKeyE : (Tryz.prog.info? 115).map (fun i => (i.zero, i.size, i.bytes)) = some (some (.agg #[.int .i64 0, .int .i64 0]), 2, 16) := by kernel_rfl
theorem underKeys : Tryz.prog.underlying 147 = some (.slice 115) := by kernel_rfl
/-- A key is appended. -/
theorem wpList_append_key (w : World) {ops : Array Oper} {rest : List Oper} {o : Oper} {a : Act} {Q : Exit → Act → World → Prop} (hgd : o.guard = none) (s x : Operand)
    (ho : o.op = .call { callee := .builtin .append, args := #[s, x], argTypes := #[147, 147] })
    (B : Nat) (v : Value) (ks : List (Int × Int)) (hs : a.eval s = v) (hown : KeysAt w B v ks) (G : Nat) (k : Int × Int) (hx : a.eval x = .slice (some ⟨G, 0, none⟩) 1 1) (hG : w.heap[G]? = some (.cells #[.int .i64 k.1, .int .i64 k.2] 115 (0, 0)))
    (hlen : ks.length ≤ 20000000) (hbase : B ≤ w.heap.size)
    (h : ∀ v' w', KeysAt w' B v' (ks ++ [k]) → w.grownBy w' v.ownBlock → wpList Tryz.prog ops Q rest (a.put o.dst v') w') : wpList Tryz.prog ops Q (o :: rest) a w := by
  obtain ⟨i0, hi, hz0, hz1, hz2⟩ := info_parts infoKeyE
  refine wpList_append_own w hgd s x 147 ho B 115 i0 (.agg #[.int .i64 0, .int .i64 0]) 2 16 underKeys hi hz0 hz1 hz2 rfl (by decide) v ks.length (ks.flatMap keyV) hs hown ⟨G, 0, none⟩ 1 1 (keyV k) hx rfl ?_ ?_ (by unfold maxLen; omega) (by omega) hbase ?_
  · intro j u hu
    rw [addr_add, Nat.zero_add, cell_at hG j]
    match j, hu with
    | 0, hu => exact hu
    | 1, hu => exact hu
    | j + 2, hu => simp [keyV] at hu
  · intro u hu
    simp only [keyV, List.mem_cons, List.not_mem_nil, or_false] at hu
    rcases hu with e | e <;> rw [e] <;> rfl
  · intro v' w' h2 h3 _
    refine h v' w' ?_ h3
    unfold KeysAt
    rw [List.length_append, List.flatMap_append]
    simpa using h2
/-- Keys that can be read. -/
def SeeK (w : World) (v : Value) (ks : List (Int × Int)) : Prop := ∃ ad c, v = .slice ad ks.length c ∧ (ks ≠ [] → ∃ g o, ad = some ⟨g, o, none⟩ ∧ ∀ j (hj : j < ks.length), w.cell? ⟨g, o + j * 2, none⟩ = some (.int .i64 ks[j].1) ∧ w.cell? ⟨g, o + j * 2 + 1, none⟩ = some (.int .i64 ks[j].2))
theorem SeeK.below {w w' : World} {v : Value} {ks : List (Int × Int)} (h : SeeK w v ks) (hb : Below w.heap.size w w') : SeeK w' v ks := by
  obtain ⟨ad, c, rfl, hc⟩ := h
  refine ⟨ad, c, rfl, fun hl => ?_⟩
  obtain ⟨g, o, rfl, hk⟩ := hc hl
  exact ⟨g, o, rfl, fun j hj => ⟨(hb.cell (World.block_lt_of_cell? w _ (hk j hj).1)).trans (hk j hj).1, (hb.cell (World.block_lt_of_cell? w _ (hk j hj).2)).trans (hk j hj).2⟩⟩
theorem flat_at : ∀ (ks : List (Int × Int)) (j : Nat) (hj : j < ks.length), (ks.flatMap keyV)[j * 2]? = some (.int .i64 ks[j].1) ∧ (ks.flatMap keyV)[j * 2 + 1]? = some (.int .i64 ks[j].2)
  | k :: r, 0, _ => ⟨rfl, rfl⟩
  | k :: r, j + 1, hj => by
    have h := flat_at r j (by simpa using hj)
    rw [show (j + 1) * 2 = j * 2 + 2 by omega, List.flatMap_cons]
    simp only [keyV, List.cons_append, List.nil_append, List.getElem?_cons_succ, List.getElem_cons_succ]
    exact h
theorem KeysAt.see {w : World} {B : Nat} {v : Value} {ks : List (Int × Int)} (h : KeysAt w B v ks) : SeeK w v ks := by
  rcases h.2 with ⟨e, h0⟩ | ⟨g, cap, cur, e, hb, hk, h1, h2, h3, h4⟩
  · have : ks = [] := List.length_eq_zero_iff.1 h0
    subst this
    exact ⟨_, _, e, fun h => absurd rfl h⟩
  · subst e
    refine ⟨_, _, rfl, fun _ => ⟨g, 0, rfl, fun j hj => ?_⟩⟩
    obtain ⟨f1, f2⟩ := flat_at ks j hj
    have g1 := World.ownsRow.cells h (g := g) rfl (j * 2) _ f1
    have g2 := World.ownsRow.cells h (g := g) rfl (j * 2 + 1) _ f2
    rw [addr_add] at g1 g2
    exact ⟨g1, g2⟩
theorem SeeK.lit {w : World} {g n : Nat} {T : TypeId} (ks : List (Int × Int)) (hg : w.heap[g]? = some (.cells (ks.flatMap keyV).toArray T (0, 0))) (hn : ks.length = n) (c : Nat) : SeeK w (.slice (some ⟨g, 0, none⟩) n c) ks := by
  subst hn
  refine ⟨_, _, rfl, fun _ => ⟨g, 0, rfl, fun j hj => ?_⟩⟩
  obtain ⟨f1, f2⟩ := flat_at ks j hj
  rw [cell_at hg, cell_at hg, Nat.zero_add]
  exact ⟨by simpa using f1, by simpa using f2⟩
end Go.Proofs.YtgdkpmfdpfjdjaaGreatDoor

namespace Go.Proofs.YtgdkpmfdpfjdjaaGreatDoor
open Go.RowKit
set_option linter.unusedVariables false
set_option maxRecDepth 100000

/-- Codes from a on, with modifiers m. -/
def runF (a m : Int) : Nat → List (Int × Int)
  | 0 => []
  | n + 1 => runF a m n ++ [(a + n, m)]
theorem run_len (a m : Int) : ∀ n, (runF a m n).length = n
  | 0 => rfl
  | n + 1 => by unfold runF; rw [List.length_append, run_len a m n]; rfl
def rowF (m : Int) : List (Int × Int) := runF 0 m 128 ++ runF 16777217 m 23
def allF : Nat → List (Int × Int)
  | 0 => []
  | n + 1 => allF n ++ rowF n
theorem row_len (m : Int) : (rowF m).length = 151 := by unfold rowF; rw [List.length_append, run_len, run_len]
theorem all_len : ∀ n, (allF n).length = n * 151
  | 0 => rfl
  | n + 1 => by unfold allF; rw [List.length_append, all_len n, row_len]; omega
/-- A list of one's own, made since w. -/
structure Al (w wr : World) (v : Value) (ks : List (Int × Int)) : Prop where
  below : Below w.heap.size w wr
  keys : KeysAt wr w.heap.size v ks
theorem Al.grow {w wr w2 : World} {v v' : Value} {ks : List (Int × Int)} {k : Int × Int} (h : Al w wr v ks) (o : Obj) (hk : KeysAt w2 w.heap.size v' (ks ++ [k])) (hg : (wr.alloc o).grownBy w2 v.ownBlock) : Al w w2 v' (ks ++ [k]) := by
  have hb := below_step h.below ((Below.refl _ _).alloc (Nat.le_refl _) o)
  exact ⟨hb.grown hg hb.size (fun q hq => (h.keys.blk hq).1), hk⟩
set_option maxHeartbeats 8000000 in
theorem rall_any (w : World) : Calls Tryz.prog 92 #[] w fun r w' => ∃ v, r = .returned v ∧ Al w w' v (allF 8) := by
  go_enter Tryz.func92, Tryz.ntmps92
  go_wp2_with fail
  go_loopw [2, 1] (fun mv lv wr => ∃ n : Nat, n ≤ 8 ∧ mv = .int .i64 n ∧ Hid (Al w wr lv (allF n))) (fun mv _ _ => 8 - (intOf mv).toNat)
  case atStart => exact ⟨0, Nat.zero_le _, rfl, ⟨Below.refl _ _, KeysAt.nil _ _⟩⟩
  case round =>
    obtain ⟨n, hn, rfl, HA⟩ := hrel
    by_cases hlt : n < 8
    · have i1 : (n : Int) ≤ 7 := by omega
      have HLa : Hid ((allF n).length ≤ 1208) := by show _ ≤ _; rw [all_len]; omega
      obtain ⟨a0, c0, rfl⟩ := HA.out.keys.slice
      go_wp2_with fail
      go_loopw [3, 1] (fun cv lv wr => ∃ k : Nat, k ≤ 128 ∧ cv = .int .i64 k ∧ Hid (Al w wr lv (allF n ++ runF 0 n k))) (fun cv _ _ => 128 - (intOf cv).toNat)
      case atStart => exact ⟨0, Nat.zero_le _, rfl, by rw [show runF 0 n 0 = [] from rfl, List.append_nil]; exact HA⟩
      case round =>
        obtain ⟨k, hk, rfl, HB⟩ := hrel
        have HLb : Hid ((allF n ++ runF 0 n k).length ≤ 4000) := by show _ ≤ _; rw [List.length_append, run_len]; have := HLa.out; omega
        obtain ⟨ks, hks⟩ : ∃ ks, allF n ++ runF 0 n k = ks := ⟨_, rfl⟩
        have HKs := hidK hks
        rw [hks] at HB HLb
        obtain ⟨a1, c1, rfl⟩ := HB.out.keys.slice
        obtain ⟨kn, hkn⟩ : ∃ kn, ks.length = kn := ⟨_, rfl⟩
        rw [hkn] at HB ⊢
        clear hks
        by_cases hkl : k < 128
        · have j1 : (k : Int) < 128 := by omega
          have HKe := hidK (HB.out.keys.below ((Below.refl _ _).alloc (Nat.le_refl _) (.cells #[.int .i64 (k : Int), .int .i64 (n : Int)] 115)))
          have HSz : Hid (w.heap.size ≤ (wr.alloc (.cells #[.int .i64 (k : Int), .int .i64 (n : Int)] 115)).heap.size) := by have := HB.out.below.size; show _ ≤ _; simp; omega
          go_wp2_with (at_builtin; refine wpList_append_key _ rfl (.tmp 13) (.tmp 17) rfl w.heap.size _ ks rfl HKe.out wr.heap.size ((k : Int), (n : Int)) rfl (heap_alloc_new wr _) ?x1 HSz.out ?_; (case x1 => have := HLb.out; omega); intro tv' w6 hk6 hg6; have HR : Hid (Al w w6 tv' (allF n ++ runF 0 n (k + 1))) := (by
            have h1 := HB.out.grow _ hk6 hg6
            have e : ks ++ [((k : Int), (n : Int))] = allF n ++ runF 0 n (k + 1) := by rw [← HKs.out]; unfold runF; rw [List.append_assoc, Int.zero_add]; cases k <;> rfl
            rw [e] at h1
            exact h1); clear hk6 hg6)
          go_roundw
          case rel => exact ⟨k + 1, by omega, by first | rfl | go_num, HR⟩
          case measure => simp [intOf]; omega
        · have HB2 : Hid (Al w wr (.slice a1 kn c1) (allF n ++ runF 0 n 128)) := by
            have e : k = 128 := by omega
            rw [← e, HKs.out]
            exact HB
          have j1 : ¬ (k : Int) < 128 := by omega
          obtain ⟨kz, hkz⟩ : ∃ kz : Int, (k : Int) = kz := ⟨_, rfl⟩
          rw [hkz] at j1 ⊢
          clear HB HKs HLb hkn hkz hk hkl
          go_wp2_with fail
          go_loopw [4, 1] (fun cv lv wr => ∃ k : Nat, k ≤ 23 ∧ cv = .int .i64 (16777217 + (k : Int)) ∧ Hid (Al w wr lv (allF n ++ runF 0 n 128 ++ runF 16777217 n k))) (fun cv _ _ => 23 - (intOf cv - 16777217).toNat)
          case atStart => exact ⟨0, Nat.zero_le _, rfl, by rw [show runF 16777217 n 0 = [] from rfl, List.append_nil]; exact HB2⟩
          case round =>
            obtain ⟨k, hk, rfl, HB⟩ := hrel
            have HLb : Hid ((allF n ++ runF 0 n 128 ++ runF 16777217 n k).length ≤ 4000) := by show _ ≤ _; rw [List.length_append, List.length_append, run_len, run_len]; have := HLa.out; omega
            obtain ⟨ks, hks⟩ : ∃ ks, allF n ++ runF 0 n 128 ++ runF 16777217 n k = ks := ⟨_, rfl⟩
            have HKs := hidK hks
            rw [hks] at HB HLb
            obtain ⟨a1, c1, rfl⟩ := HB.out.keys.slice
            obtain ⟨kn, hkn⟩ : ∃ kn, ks.length = kn := ⟨_, rfl⟩
            rw [hkn] at HB ⊢
            clear hks
            by_cases hkl : k < 23
            · have j1 : (16777217 : Int) + (k : Int) ≤ 16777239 := by omega
              have HKe := hidK (HB.out.keys.below ((Below.refl _ _).alloc (Nat.le_refl _) (.cells #[.int .i64 (16777217 + (k : Int)), .int .i64 (n : Int)] 115)))
              have HSz : Hid (w.heap.size ≤ (wr.alloc (.cells #[.int .i64 (16777217 + (k : Int)), .int .i64 (n : Int)] 115)).heap.size) := by have := HB.out.below.size; show _ ≤ _; simp; omega
              go_wp2_with (at_builtin; refine wpList_append_key _ rfl (.tmp 23) (.tmp 27) rfl w.heap.size _ ks rfl HKe.out wr.heap.size (16777217 + (k : Int), (n : Int)) rfl (heap_alloc_new wr _) ?x1 HSz.out ?_; (case x1 => have := HLb.out; omega); intro tv' w6 hk6 hg6; have HR : Hid (Al w w6 tv' (allF n ++ runF 0 n 128 ++ runF 16777217 n (k + 1))) := (by
                have h1 := HB.out.grow _ hk6 hg6
                have e : ks ++ [(16777217 + (k : Int), (n : Int))] = allF n ++ runF 0 n 128 ++ runF 16777217 n (k + 1) := by rw [← HKs.out]; rw [show runF 16777217 n (k + 1) = runF 16777217 n k ++ [(16777217 + (k : Int), (n : Int))] from rfl, List.append_assoc]
                rw [e] at h1
                exact h1); clear hk6 hg6)
              go_roundw
              case rel => exact ⟨k + 1, by omega, by first | go_num | (simp; omega), HR⟩
              case measure => simp [intOf]; omega
            · obtain rfl : k = 23 := by omega
              have HR : Hid (Al w wr (.slice a1 kn c1) (allF (n + 1))) := by
                show Al w wr _ (allF n ++ rowF n)
                unfold rowF
                rw [← List.append_assoc, HKs.out]
                exact HB.out
              go_wp2_with fail
              go_roundw
              case rel => exact ⟨n + 1, by omega, by first | rfl | go_num, HR⟩
              case measure => simp [intOf]; omega
    · obtain rfl : n = 8 := by omega
      go_wp2_with fail
      go_ret
      exact ⟨_, rfl, HA.out⟩
end Go.Proofs.YtgdkpmfdpfjdjaaGreatDoor

namespace Go.Proofs.YtgdkpmfdpfjdjaaGreatDoor
open Go.RowKit
set_option linter.unusedVariables false
set_option maxRecDepth 100000

theorem mem_run {a m c : Int} (h0 : a ≤ c) : ∀ n : Nat, c < a + n → (c, m) ∈ runF a m n
  | 0, h => absurd h (by omega)
  | n + 1, h => by
    unfold runF
    by_cases e : c = a + n
    · rw [e]; exact List.mem_append_right _ List.mem_cons_self
    · exact List.mem_append_left _ (mem_run h0 n (by omega))
theorem mem_row {m c : Int} (h : 0 ≤ c ∧ c < 128 ∨ 16777217 ≤ c ∧ c ≤ 16777239) : (c, m) ∈ rowF m := by
  unfold rowF
  rcases h with h | h
  · exact List.mem_append_left _ (mem_run h.1 128 (by omega))
  · exact List.mem_append_right _ (mem_run h.1 23 (by omega))
theorem mem_all {c : Int} {m : Nat} (h : (c, (m : Int)) ∈ rowF m) : ∀ n : Nat, m < n → (c, (m : Int)) ∈ allF n
  | 0, h => absurd h (by omega)
  | n + 1, hm => by
    unfold allF
    by_cases e : m = n
    · rw [← e]; exact List.mem_append_right _ h
    · exact List.mem_append_left _ (mem_all h n (by omega))
theorem valid_where {c m : Int} (h : validB c m = true) : (0 ≤ m ∧ m ≤ 7 ∧ (0 ≤ c ∧ c < 128 ∨ 16777217 ≤ c ∧ c ≤ 16777239)) ∨ ((m = 0 ∨ m = 2) ∧ 128 ≤ c ∧ chrB c = true) := by
  unfold validB plainM ctrlM at h
  by_cases a : c = 32
  · rw [if_pos a] at h
    simp only [Bool.or_eq_true, decide_eq_true_eq] at h
    left; omega
  · rw [if_neg a] at h
    by_cases b : oneB c = true
    · rw [if_pos b] at h
      simp only [Bool.or_eq_true, decide_eq_true_eq, oneB] at h b
      left; omega
    · rw [if_neg b] at h
      by_cases d : c = 16777239
      · rw [if_pos d] at h
        simp only [decide_eq_true_eq] at h
        left; omega
      · rw [if_neg d] at h
        by_cases e : spcB c = true
        · rw [if_pos e] at h
          simp only [decide_eq_true_eq, spcB] at h e
          left; omega
        · rw [if_neg e] at h
          simp only [Bool.or_eq_true, Bool.and_eq_true, decide_eq_true_eq] at h
          rcases h with ⟨hm, hc⟩ | ⟨hm, hc⟩
          · by_cases q : c < 128
            · have hc2 := hc
              simp only [chrB, decide_eq_true_eq] at hc2
              left; omega
            · exact .inr ⟨hm, by omega, hc⟩
          · simp only [ctlB, decide_eq_true_eq] at hc
            left; omega
/-- A name without M-, and whether it has one. -/
def restF (l : List UInt8) : List UInt8 × Int := if 2 < l.length ∧ l.take 2 = [77, 45] then (l.drop 2, 2) else (l, 0)
def hitB (l : List UInt8) (k : Int × Int) : Bool := validB k.1 k.2 && decide (nameF k.1 k.2 = l)
def lastF (l : List UInt8) : Option (Int × Int) :=
  match firstF (restF l).1 with
  | some (c, n) => if n = (restF l).1.length ∧ hitB l (c, (restF l).2) = true then some (c, (restF l).2) else none
  | none => none
def readR (l : List UInt8) : Option (Int × Int) :=
  match (allF 8).find? (hitB l) with
  | some k => some k
  | none => lastF l
theorem hit_read {l : List UInt8} {k : Int × Int} (h : hitB l k = true) : readF l = some k := by
  unfold hitB at h
  simp only [Bool.and_eq_true, decide_eq_true_eq] at h
  rw [← h.2]
  exact read_name h.1
theorem rest_enc {c m : Int} (hm : m = 0 ∨ m = 2) (h0 : 128 ≤ c) (hc : chrB c = true) (l : List UInt8) (hl : modF m ++ r8F c = l) : restF l = (r8F c, m) := by
  obtain ⟨k0, k1, k2, k3, k4⟩ := chr_of hc
  obtain ⟨b, r, e, hb, hr⟩ := enc_high h0 k1 k2
  rw [← r8_enc (by omega) k1 k2] at e
  rw [e] at hl ⊢
  subst hl
  unfold restF
  rcases hm with rfl | rfl
  · have z : modF 0 = [] := rfl
    rw [z, List.nil_append, if_neg]
    rintro ⟨_, h⟩
    cases r with
    | nil => exact absurd rfl hr
    | cons d r =>
      have h2 : b = 77 := by injection h
      rw [h2] at hb
      exact absurd hb (by decide)
  · have z : modF 2 = [77, 45] := rfl
    rw [z, if_pos ⟨by simp, rfl⟩]
    rfl
theorem read_same (l : List UInt8) : readR l = readF l := by
  unfold readR
  cases hf : (allF 8).find? (hitB l) with
  | some k => exact (hit_read (List.find?_some hf)).symm
  | none =>
    show lastF l = _
    by_cases hn : readF l = none
    · rw [hn]
      unfold lastF
      cases hq : firstF (restF l).1 with
      | none => rfl
      | some p =>
        obtain ⟨c, n⟩ := p
        show (if _ then _ else _) = _
        rw [if_neg]
        rintro ⟨_, h⟩
        rw [hit_read h] at hn
        cases hn
    · obtain ⟨k, hk⟩ := Option.ne_none_iff_exists'.1 hn
      obtain ⟨hv, hname⟩ := name_read hk
      obtain ⟨c, m⟩ := k
      have hit : hitB l (c, m) = true := by unfold hitB; simp only [Bool.and_eq_true, decide_eq_true_eq]; exact ⟨hv, hname⟩
      rcases valid_where hv with ⟨m0, m7, hc⟩ | ⟨hm, h128, hc⟩
      · obtain ⟨M, rfl⟩ : ∃ M : Nat, m = (M : Int) := ⟨m.toNat, by omega⟩
        have := List.find?_eq_none.1 hf _ (mem_all (m := M) (mem_row hc) 8 (by omega))
        exact absurd hit this
      · obtain ⟨k0, k1, k2, k3, k4⟩ := chr_of hc
        have hl : modF m ++ r8F c = l := by
          rw [← hname]
          unfold nameF
          rw [if_pos hv]
          show _ = modF m ++ bareF c
          rw [bare_chr hc, r8_enc (by omega) k1 k2]
        have hr := rest_enc hm h128 hc l hl
        rw [hk]
        unfold lastF
        rw [hr, first_enc h128 k1 k2]
        show (if _ then _ else _) = _
        rw [if_pos ⟨rfl, hit⟩]
end Go.Proofs.YtgdkpmfdpfjdjaaGreatDoor
