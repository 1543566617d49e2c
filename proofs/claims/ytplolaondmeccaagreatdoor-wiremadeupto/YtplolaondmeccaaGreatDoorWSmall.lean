/-
  How long a line is, by the event's own texts.
-/
import Derived.Test.YtplolaondmeccaaGreatDoorWSure
import Derived.Test.YtplolaondmeccaaGreatDoorWRowE
namespace Go.Proofs.YtplolaondmeccaaGreatDoor
open Go.RowKit
set_option linter.unusedVariables false

def Ev.bulk (ev : Ev) : Nat := ev.name.size + ev.text.size + ev.layout.size + ev.visible.size
/-- How long a written field can be, by the event's own texts. -/
def Small (F : FSpec) : Prop := ∀ ev : Ev, (F.put ev).length ≤ 4 * ev.bulk + 21
theorem small_num (m : Int) (f : NF) : Small (fNum m f) := fun ev => by
  have := putL_length (f.get ev)
  show (putL _).length ≤ _
  omega
theorem small_id (c : UInt8) (f : NF) : Small (fId c f) := fun ev => by
  have := putL_length (f.get ev)
  show (putI c _).length ≤ _
  unfold putI
  split
  · simp; omega
  · simp
theorem small_name : Small fName := fun ev => by show ev.name.data.toList.length ≤ _; rw [size_data]; unfold Ev.bulk; omega
theorem small_word : Small fWord := fun ev => by show ev.name.data.toList.length ≤ _; rw [size_data]; unfold Ev.bulk; omega
theorem small_plan (f : PF) : Small (fPlan f) := fun ev => by
  show (f.get ev).data.toList.length ≤ _
  rw [size_data]
  unfold Ev.bulk
  cases f
  · show ev.layout.size ≤ _; omega
  · show ev.visible.size ≤ _; omega
theorem small_zoom : Small fZoom := fun ev => by
  show (if ev.zoom then [90] else [45] : List UInt8).length ≤ _
  split <;> simp
theorem small_colon : Small fColon := fun ev => by show 1 ≤ _; omega
theorem esc_small (lo hi : Nat) (ev : Ev) : ((fEsc lo hi).put ev).length ≤ 4 * ev.bulk := by
  have := (esc_length ev.text.data.toList).2
  rw [size_data] at this
  show (if hi < ev.text.size then [] else esc ev.text.data.toList).length ≤ _
  unfold Ev.bulk
  split
  · simp
  · omega
theorem small_esc (lo hi : Nat) : Small (fEsc lo hi) := fun ev => by have := esc_small lo hi ev; omega
theorem small_body : Small fBody := fun ev => by
  have := escB_length ev.text.data.toList
  rw [size_data] at this
  show (escB _).length ≤ _
  unfold Ev.bulk
  omega
theorem small_reason : Small fReason := fun ev => by
  have := esc_small 1 1024 ev
  show (if ev.text.size = 0 then [] else 32 :: (fEsc 1 1024).put ev).length ≤ _
  split
  · simp
  · simp; omega
theorem small_all (k : Nat) (h1 : 1 ≤ k) (h2 : k ≤ 24) : ∀ F ∈ fieldsOf k, Small F := by
  rcases (show k = 1 ∨ k = 2 ∨ k = 3 ∨ k = 4 ∨ k = 5 ∨ k = 6 ∨ k = 7 ∨ k = 8 ∨ k = 9 ∨ k = 10 ∨ k = 11 ∨ k = 12 ∨ k = 13 ∨ k = 14 ∨ k = 15 ∨ k = 16 ∨ k = 17 ∨ k = 18 ∨ k = 19 ∨ k = 20 ∨ k = 21 ∨ k = 22 ∨ k = 23 ∨ k = 24 by omega) with rfl | rfl | rfl | rfl | rfl | rfl | rfl | rfl | rfl | rfl | rfl | rfl | rfl | rfl | rfl | rfl | rfl | rfl | rfl | rfl | rfl | rfl | rfl | rfl
  all_goals
    unfold fieldsOf
    intro F hF
    simp only [List.mem_cons, List.not_mem_nil, or_false] at hF
    rcases hF with rfl | rfl | rfl | rfl | rfl | rfl | rfl
  all_goals first | exact small_num _ _ | exact small_id _ _ | exact small_name | exact small_word | exact small_plan _ | exact small_zoom | exact small_colon | exact small_esc _ _ | exact small_body | exact small_reason

theorem write_small (k : Nat) (h1 : 1 ≤ k) (h2 : k ≤ 24) (ev : Ev) : (writeS k ev).length + 1 ≤ 28 * (ev.bulk + 15) := by
  have h3 := joinW_length (4 * ev.bulk + 21) ((fieldsOf k).map (·.put ev)) (fun x hx => by
    obtain ⟨F, hF, rfl⟩ := List.mem_map.1 hx
    exact small_all k h1 h2 F hF ev)
  have h4 := (fields_len k h1 h2).2
  have h5 := head_length k
  rw [List.length_map] at h3
  have h6 := Nat.le_trans h3 (Nat.mul_le_mul_right _ h4)
  unfold writeS
  rw [List.length_append]
  omega
theorem enc_small {e : Ev} {l : List UInt8} (h : encS e = some l) : l.length + 1 ≤ 28 * (e.bulk + 15) := by
  rcases encS_cases e with h0 | ⟨k, h1, h2, _, _, h4⟩
  · rw [h0] at h; cases h
  · rw [h4] at h
    cases h
    exact write_small k h1 h2 e

end Go.Proofs.YtplolaondmeccaaGreatDoor
