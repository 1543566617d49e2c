/-
  The walk of WireTotal.
-/
import Derived.Test.YtplolaondmeccaaGreatDoorWInv
import Derived.Test.YtplolaondmeccaaGreatDoorWSure
import Derived.WalkKit
import Derived.Laws.StructEq
namespace Go.Proofs.YtplolaondmeccaaGreatDoor
open Go.RowKit
set_option linter.unusedVariables false

/-- What a field reads is no longer than its text. -/
def Keep (F : FSpec) : Prop := ∀ t g e, F.read t = some g → t.length ≤ slim → e.Fits → (g e).Fits

theorem fits_set {e : Ev} (h : e.Fits) (f : NF) (n : Int) (h0 : 0 ≤ n) (h1 : n ≤ 4611686018427387904) : (f.set n e).Fits := by
  refine ⟨?_, ?_, ?_, ?_, fun f' => ?_⟩
  · cases f <;> exact h.name
  · cases f <;> exact h.text
  · cases f <;> exact h.layout
  · cases f <;> exact h.visible
  · by_cases hf : f' = f
    · subst hf
      rw [get_set]
      omega
    · rw [get_other f' f hf]
      exact h.num f'
theorem fits_text {e : Ev} (h : e.Fits) (u : List UInt8) (hu : u.length ≤ slim) : ({ e with text := str u } : Ev).Fits := ⟨h.name, by show (str u).size ≤ _; rw [str_size]; exact hu, h.layout, h.visible, fun f => by have := h.num f; cases f <;> exact this⟩
theorem fits_name {e : Ev} (h : e.Fits) (u : List UInt8) (hu : u.length ≤ slim) : ({ e with name := str u } : Ev).Fits := ⟨by show (str u).size ≤ _; rw [str_size]; exact hu, h.text, h.layout, h.visible, fun f => by have := h.num f; cases f <;> exact this⟩
theorem fits_zoom {e : Ev} (h : e.Fits) (z : Bool) : ({ e with zoom := z } : Ev).Fits := ⟨h.name, h.text, h.layout, h.visible, fun f => by have := h.num f; cases f <;> exact this⟩
theorem fits_plan {e : Ev} (h : e.Fits) (f : PF) (u : List UInt8) (hu : u.length ≤ slim) : (f.set (str u) e).Fits := by
  cases f
  · exact ⟨h.name, h.text, by show (str u).size ≤ _; rw [str_size]; exact hu, h.visible, fun f => by have := h.num f; cases f <;> exact this⟩
  · exact ⟨h.name, h.text, h.layout, by show (str u).size ≤ _; rw [str_size]; exact hu, fun f => by have := h.num f; cases f <;> exact this⟩
theorem zero_get (f : NF) (k : Int) : f.get (Ev.zero k) = 0 := by cases f <;> rfl
theorem fits_zero (k : Int) : (Ev.zero k).Fits := ⟨Nat.zero_le _, Nat.zero_le _, Nat.zero_le _, Nat.zero_le _, fun f => by rw [zero_get]; decide⟩

theorem escB_ge (u : List UInt8) : u.length ≤ (escB u).length := by
  cases u with
  | nil => simp [escB]
  | cons c u =>
    show _ ≤ (if c = 37 then code 37 ++ esc u else esc (c :: u)).length
    split
    · have := (esc_length u).1
      rw [List.length_append, code_length, List.length_cons]
      omega
    · exact (esc_length (c :: u)).1

theorem keep_num (m : Int) (f : NF) : Keep (fNum m f) := fun t g e h hl he => by obtain ⟨n, hn, _, rfl⟩ := read_num h; exact fits_set he f n hn.1.1 hn.1.2
theorem keep_id (c : UInt8) (f : NF) : Keep (fId c f) := fun t g e h hl he => by obtain ⟨n, ⟨r, _, hn, _⟩, rfl⟩ := read_id h; exact fits_set he f n hn.1.1 hn.1.2
theorem keep_name : Keep fName := fun t g e h hl he => by obtain ⟨_, rfl⟩ := read_name h; exact fits_name he t hl
theorem keep_word : Keep fWord := fun t g e h hl he => by obtain ⟨_, rfl⟩ := read_word h; exact fits_name he t hl
theorem keep_plan (f : PF) : Keep (fPlan f) := fun t g e h hl he => by obtain ⟨_, rfl⟩ := read_plan h; exact fits_plan he f t hl
theorem keep_zoom : Keep fZoom := fun t g e h hl he => by obtain ⟨z, _, rfl⟩ := read_zoom h; exact fits_zoom he z
theorem keep_colon : Keep fColon := fun t g e h hl he => by obtain ⟨_, rfl⟩ := read_colon h; exact he
theorem keep_esc (lo hi : Nat) : Keep (fEsc lo hi) := fun t g e h hl he => by
  obtain ⟨u, rfl, _, _, rfl⟩ := read_esc h
  exact fits_text he u (Nat.le_trans (esc_length u).1 hl)
theorem keep_body : Keep fBody := fun t g e h hl he => by
  obtain ⟨u, rfl, rfl⟩ := read_body h
  exact fits_text he u (Nat.le_trans (escB_ge u) hl)
theorem keep_reason : Keep fReason := fun t g e h hl he => by
  rcases read_reason h with ⟨_, rfl⟩ | ⟨r, rfl, hr⟩
  · exact he
  · exact keep_esc 1 1024 r g e hr (by simp at hl; omega) he
theorem keep_all (k : Nat) (h1 : 1 ≤ k) (h2 : k ≤ 24) : ∀ F ∈ fieldsOf k, Keep F := by
  rcases (show k = 1 ∨ k = 2 ∨ k = 3 ∨ k = 4 ∨ k = 5 ∨ k = 6 ∨ k = 7 ∨ k = 8 ∨ k = 9 ∨ k = 10 ∨ k = 11 ∨ k = 12 ∨ k = 13 ∨ k = 14 ∨ k = 15 ∨ k = 16 ∨ k = 17 ∨ k = 18 ∨ k = 19 ∨ k = 20 ∨ k = 21 ∨ k = 22 ∨ k = 23 ∨ k = 24 by omega) with rfl | rfl | rfl | rfl | rfl | rfl | rfl | rfl | rfl | rfl | rfl | rfl | rfl | rfl | rfl | rfl | rfl | rfl | rfl | rfl | rfl | rfl | rfl | rfl
  all_goals
    unfold fieldsOf
    intro F hF
    simp only [List.mem_cons, List.not_mem_nil, or_false] at hF
    rcases hF with rfl | rfl | rfl | rfl | rfl | rfl | rfl
  all_goals first | exact keep_num _ _ | exact keep_id _ _ | exact keep_name | exact keep_word | exact keep_plan _ | exact keep_zoom | exact keep_colon | exact keep_esc _ _ | exact keep_body | exact keep_reason
theorem readAll_fits : ∀ (fs : List FSpec) (ts : List (List UInt8)) (e0 e : Ev), (∀ F ∈ fs, Keep F) → (∀ t ∈ ts, t.length ≤ slim) → e0.Fits → readAll fs ts e0 = some e → e.Fits
  | [], [], e0, e, _, _, h0, h => by cases h; exact h0
  | [], t :: ts, e0, e, _, _, h0, h => by cases h
  | G :: fs, [], e0, e, _, _, h0, h => by cases h; exact h0
  | G :: fs, t :: ts, e0, e, hf, ht, h0, h => by
    obtain ⟨g, hg, h2⟩ := readAll_cons h
    exact readAll_fits fs ts (g e0) e (fun H hH => hf H (List.mem_cons_of_mem _ hH)) (fun t' h' => ht t' (List.mem_cons_of_mem _ h')) (hf G List.mem_cons_self t g e0 hg (ht t List.mem_cons_self) h0) h2
theorem decS_fits (l : List UInt8) (hl : l.length ≤ slim) : (decS l).Fits := by
  have hp := kindS_pos l
  have hb : (badEv l).Fits := fits_text (fits_zero 25) l hl
  by_cases h : kindS l = 25
  · unfold decS
    rw [if_pos h]
    exact hb
  · cases hr : readS (kindS l) l with
    | none =>
      unfold decS
      rw [if_neg h, hr]
      exact hb
    | some e =>
      have hd : decS l = e := by unfold decS; rw [if_neg h, hr]; rfl
      rw [hd]
      have hpre := readS_head hr
      unfold readS at hr
      rw [if_pos hpre] at hr
      have h' : (if (cutK ((fieldsOf (kindS l)).length - 1) (l.drop (headOf (kindS l)).length)).length < (fieldsOf (kindS l)).length then none else readAll (fieldsOf (kindS l)) (cutK ((fieldsOf (kindS l)).length - 1) (l.drop (headOf (kindS l)).length)) (Ev.zero (kindS l))) = some e := hr
      split at h'
      · cases h'
      · refine readAll_fits _ _ _ _ (keep_all _ hp.1 (by omega)) (fun t ht => ?_) (fits_zero _) h'
        have := cutK_le _ _ t ht
        rw [List.length_drop] at this
        omega

theorem class_bad : classK 25 = 0 := by decide
theorem class_good {k : Int} (h1 : 1 ≤ k) (h2 : k ≤ 24) : classK k ≠ 0 := by
  unfold classK
  rw [if_neg (by omega)]
  split
  · decide
  · split
    · decide
    · split
      · decide
      · split <;> decide

end Go.Proofs.YtplolaondmeccaaGreatDoor
