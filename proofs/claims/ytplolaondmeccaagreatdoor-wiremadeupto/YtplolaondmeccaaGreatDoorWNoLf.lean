/-
  No line holds a line's end.
-/
import Derived.Test.YtplolaondmeccaaGreatDoorWInv
namespace Go.Proofs.YtplolaondmeccaaGreatDoor
open Go.RowKit
set_option linter.unusedVariables false

/-- What a field reads holds no line feed. -/
def NoLf (F : FSpec) : Prop := ∀ t g, F.read t = some g → ¬ (10 : UInt8) ∈ t

theorem num_nolf {t : List UInt8} {n : Int} (h : Num t n) : ¬ (10 : UInt8) ∈ t := fun hm => by
  obtain ⟨h1, rfl⟩ := h
  unfold putL at hm
  rw [if_pos h1] at hm
  have := (dec_digit _ _ hm).1
  exact absurd this (by decide)
theorem esc_nolf (l : List UInt8) : ¬ (10 : UInt8) ∈ esc l := fun hm => by
  unfold esc at hm
  obtain ⟨c, _, hm⟩ := List.mem_flatMap.1 hm
  cases hc : mustB c with
  | true =>
    rw [esc1_must hc] at hm
    unfold code at hm
    simp only [List.mem_cons, List.not_mem_nil, or_false] at hm
    have h1 := d1_nat c
    have h2 := d2_nat c
    have h3 := d3_nat c
    rcases hm with h | h | h | h
    · exact absurd h (by decide)
    · rw [← h, show (10 : UInt8).toNat = 10 from rfl] at h1; omega
    · rw [← h, show (10 : UInt8).toNat = 10 from rfl] at h2; omega
    · rw [← h, show (10 : UInt8).toNat = 10 from rfl] at h3; omega
  | false =>
    rw [esc1_not hc] at hm
    have := List.mem_singleton.1 hm
    subst this
    exact absurd hc (by decide)
theorem escB_nolf (l : List UInt8) : ¬ (10 : UInt8) ∈ escB l := by
  cases l with
  | nil => exact fun h => by cases h
  | cons c l =>
    show ¬ (10 : UInt8) ∈ (if c = 37 then code 37 ++ esc l else esc (c :: l))
    split
    · intro h
      rcases List.mem_append.1 h with h | h
      · exact absurd h (by decide)
      · exact esc_nolf l h
    · exact esc_nolf _
theorem name_nolf {t : List UInt8} (h : nameB (str t) = true) : ¬ (10 : UInt8) ∈ t := fun hm => by
  unfold nameB at h
  split at h
  · have h1 := (Bool.and_eq_true _ _ ▸ h).1
    rw [str_data] at h1
    exact absurd (List.all_eq_true.1 h1 10 hm) (by decide)
  · cases h
theorem drop_nil {p : UInt8 → Bool} : ∀ l : List UInt8, l.dropWhile p = [] → ∀ x ∈ l, p x = true
  | [], _, x, hx => by cases hx
  | c :: l, h, x, hx => by
    cases hc : p c with
    | false => simp only [List.dropWhile_cons, hc] at h; cases h
    | true =>
      simp only [List.dropWhile_cons, hc, if_true] at h
      rcases List.mem_cons.1 hx with rfl | hx
      · exact hc
      · exact drop_nil l h x hx
theorem plan_nolf {t : List UInt8} (h : planOk t = true) : ¬ (10 : UInt8) ∈ t := fun hm => by
  unfold planOk at h
  simp only [Bool.and_eq_true] at h
  have h1 := List.isEmpty_iff.1 h.2.2
  unfold Lib.trimLeftS at h1
  have h2 := drop_nil t h1 10 hm
  exact absurd h2 (by decide)

theorem nl_num (m : Int) (f : NF) : NoLf (fNum m f) := fun t g h => by obtain ⟨n, h1, _⟩ := read_num h; exact num_nolf h1
theorem nl_id (c : UInt8) (hc : c ≠ 10) (f : NF) : NoLf (fId c f) := fun t g h => by
  obtain ⟨n, ⟨r, rfl, h1, _⟩, _⟩ := read_id h
  intro hm
  rcases List.mem_cons.1 hm with e | e
  · exact hc e.symm
  · exact num_nolf h1 e
theorem nl_name : NoLf fName := fun t g h => name_nolf (read_name h).1
theorem nl_word : NoLf fWord := fun t g h => name_nolf (Bool.and_eq_true _ _ ▸ (read_word h).1).1
theorem nl_plan (f : PF) : NoLf (fPlan f) := fun t g h => plan_nolf (read_plan h).1
theorem nl_zoom : NoLf fZoom := fun t g h => by
  obtain ⟨z, rfl, _⟩ := read_zoom h
  cases z <;> decide
theorem nl_colon : NoLf fColon := fun t g h => by obtain ⟨rfl, _⟩ := read_colon h; decide
theorem nl_esc (lo hi : Nat) : NoLf (fEsc lo hi) := fun t g h => by obtain ⟨u, rfl, _⟩ := read_esc h; exact esc_nolf u
theorem nl_body : NoLf fBody := fun t g h => by obtain ⟨u, rfl, _⟩ := read_body h; exact escB_nolf u
theorem nl_reason : NoLf fReason := fun t g h => by
  rcases read_reason h with ⟨rfl, _⟩ | ⟨r, rfl, h1⟩
  · exact fun h => by cases h
  · intro hm
    rcases List.mem_cons.1 hm with e | e
    · exact absurd e (by decide)
    · exact nl_esc _ _ _ _ h1 e

theorem nl_row (k : Nat) (h1 : 1 ≤ k) (h2 : k ≤ 24) : ∀ F ∈ fieldsOf k, NoLf F := by
  intro F hF
  rcases (show k = 1 ∨ k = 2 ∨ k = 3 ∨ k = 4 ∨ k = 5 ∨ k = 6 ∨ k = 7 ∨ k = 8 ∨ k = 9 ∨ k = 10 ∨ k = 11 ∨ k = 12 ∨ k = 13 ∨ k = 14 ∨ k = 15 ∨ k = 16 ∨ k = 17 ∨ k = 18 ∨ k = 19 ∨ k = 20 ∨ k = 21 ∨ k = 22 ∨ k = 23 ∨ k = 24 by omega) with rfl | rfl | rfl | rfl | rfl | rfl | rfl | rfl | rfl | rfl | rfl | rfl | rfl | rfl | rfl | rfl | rfl | rfl | rfl | rfl | rfl | rfl | rfl | rfl
  all_goals
    simp only [fieldsOf, List.mem_cons, List.not_mem_nil, or_false] at hF
    rcases hF with rfl | rfl | rfl | rfl | rfl | rfl | rfl
  all_goals first
    | exact nl_num _ _
    | exact nl_id _ (by decide) _
    | exact nl_name
    | exact nl_word
    | exact nl_plan _
    | exact nl_zoom
    | exact nl_colon
    | exact nl_esc _ _
    | exact nl_body
    | exact nl_reason

theorem readAll_nolf : ∀ (fs : List FSpec) (ts : List (List UInt8)) (e0 e : Ev), (∀ F ∈ fs, NoLf F) → ts.length ≤ fs.length → readAll fs ts e0 = some e → ∀ t ∈ ts, ¬ (10 : UInt8) ∈ t
  | _, [], _, _, _, _, _, t, ht => by cases ht
  | [], _ :: _, _, _, _, hl, _, _, _ => by simp at hl
  | F :: fs, t :: ts, e0, e, hF, hl, h, u, hu => by
    obtain ⟨g, h1, h2⟩ := readAll_cons h
    rcases List.mem_cons.1 hu with rfl | hu
    · exact hF F (List.mem_cons_self ..) _ g h1
    · exact readAll_nolf fs ts _ e (fun G hG => hF G (List.mem_cons_of_mem _ hG)) (by simpa using hl) h2 u hu

theorem joinW_two (a b : List UInt8) (r : List (List UInt8)) : joinW (a :: b :: r) = a ++ 32 :: joinW (b :: r) := by simp [joinW, List.intercalate]
theorem joinW_nolf : ∀ ts : List (List UInt8), (∀ t ∈ ts, ¬ (10 : UInt8) ∈ t) → ¬ (10 : UInt8) ∈ joinW ts
  | [], _ => fun h => by cases h
  | [a], h => by
    rw [show joinW [a] = a by simp [joinW, List.intercalate]]
    exact h a (List.mem_cons_self ..)
  | a :: b :: r, h => by
    rw [joinW_two]
    intro hm
    rcases List.mem_append.1 hm with hm | hm
    · exact h a (List.mem_cons_self ..) hm
    · rcases List.mem_cons.1 hm with e | hm
      · exact absurd e (by decide)
      · exact joinW_nolf (b :: r) (fun t ht => h t (List.mem_cons_of_mem _ ht)) hm

theorem heads_nolf : ∀ k, k < 25 → (headOf k).contains 10 = false := by decide
theorem fields_pos (k : Nat) (h1 : 1 ≤ k) (h2 : k ≤ 24) : 1 ≤ (fieldsOf k).length := (fields_len k h1 h2).1

theorem read_nolf {k : Nat} (h1 : 1 ≤ k) (h2 : k ≤ 24) {l : List UInt8} {e : Ev} (h : readS k l = some e) : ¬ (10 : UInt8) ∈ l := by
  have hh := readS_head h
  unfold readS at h
  rw [if_pos hh] at h
  simp only at h
  split at h
  · cases h
  · intro hm
    obtain ⟨r, rfl⟩ := hh
    rw [List.drop_left] at h
    rcases List.mem_append.1 hm with hm | hm
    · have := heads_nolf k (by omega)
      rw [List.contains_eq_mem, decide_eq_false_iff_not] at this
      exact this hm
    · have hp := fields_pos k h1 h2
      have hc := cutK_length ((fieldsOf k).length - 1) r
      rw [← joinW_cutK ((fieldsOf k).length - 1) r] at hm
      exact joinW_nolf _ (readAll_nolf _ _ _ _ (nl_row k h1 h2) (by omega) h) hm

/-- No line of an event holds a line feed. -/
theorem enc_nolf {e : Ev} {l : List UInt8} (h : encS e = some l) : ¬ (10 : UInt8) ∈ l := by
  rcases encS_cases e with h0 | ⟨k, h1, h2, _, h3, h4⟩
  · rw [h0] at h; cases h
  · rw [h4] at h
    cases h
    exact read_nolf h1 h2 h3

end Go.Proofs.YtplolaondmeccaaGreatDoor
