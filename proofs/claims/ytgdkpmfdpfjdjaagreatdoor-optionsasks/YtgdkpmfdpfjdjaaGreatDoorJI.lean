/-
  Keys: a key's name, by the document.
  Keys: a special key's name, by the document.
  Keys: the document's Read.
-/
import Derived.Test.YtgdkpmfdpfjdjaaGreatDoorKRefV
import Derived.Test.YtgdkpmfdpfjdjaaGreatDoorHD
import Derived.Test.YtgdkpmfdpfjdjaaGreatDoorJG
import Derived.Test.YtgdkpmfdpfjdjaaGreatDoorJH
import Derived.Test.YtgdkpmfdpfjdjaaGreatDoorHE
import Derived.RegionTactic
import Derived.BigRegion
import Derived.Deep.RegionHeld3
import Derived.BigQuiet
import Derived.Deep.QuietTactic
namespace Go.Proofs.YtgdkpmfdpfjdjaaGreatDoor
open Go.RowKit
set_option linter.unusedVariables false
set_option maxRecDepth 100000

def wordsL : List (List UInt8) := [[85, 112], [68, 111, 119, 110], [82, 105, 103, 104, 116], [76, 101, 102, 116], [72, 111, 109, 101], [69, 110, 100], [73, 110, 115, 101, 114, 116], [68, 101, 108, 101, 116, 101], [80, 97, 103, 101, 85, 112], [80, 97, 103, 101, 68, 111, 119, 110], [70, 49], [70, 50], [70, 51], [70, 52], [70, 53], [70, 54], [70, 55], [70, 56], [70, 57], [70, 49, 48], [70, 49, 49], [70, 49, 50], [66, 84, 97, 98]]
theorem words_at : ∀ k : Fin 23, ∃ x, wordsL[k.val]? = some x ∧ x.length ≤ 9 ∧ (#[.string ⟨#[85, 112]⟩, .string ⟨#[68, 111, 119, 110]⟩, .string ⟨#[82, 105, 103, 104, 116]⟩, .string ⟨#[76, 101, 102, 116]⟩, .string ⟨#[72, 111, 109, 101]⟩, .string ⟨#[69, 110, 100]⟩, .string ⟨#[73, 110, 115, 101, 114, 116]⟩, .string ⟨#[68, 101, 108, 101, 116, 101]⟩, .string ⟨#[80, 97, 103, 101, 85, 112]⟩, .string ⟨#[80, 97, 103, 101, 68, 111, 119, 110]⟩, .string ⟨#[70, 49]⟩, .string ⟨#[70, 50]⟩, .string ⟨#[70, 51]⟩, .string ⟨#[70, 52]⟩, .string ⟨#[70, 53]⟩, .string ⟨#[70, 54]⟩, .string ⟨#[70, 55]⟩, .string ⟨#[70, 56]⟩, .string ⟨#[70, 57]⟩, .string ⟨#[70, 49, 48]⟩, .string ⟨#[70, 49, 49]⟩, .string ⟨#[70, 49, 50]⟩, .string ⟨#[66, 84, 97, 98]⟩] : Array Value)[k.val]? = some (.string (str x)) := by
  intro k
  match k with
  | ⟨0, _⟩ => exact ⟨_, rfl, by decide, rfl⟩
  | ⟨1, _⟩ => exact ⟨_, rfl, by decide, rfl⟩
  | ⟨2, _⟩ => exact ⟨_, rfl, by decide, rfl⟩
  | ⟨3, _⟩ => exact ⟨_, rfl, by decide, rfl⟩
  | ⟨4, _⟩ => exact ⟨_, rfl, by decide, rfl⟩
  | ⟨5, _⟩ => exact ⟨_, rfl, by decide, rfl⟩
  | ⟨6, _⟩ => exact ⟨_, rfl, by decide, rfl⟩
  | ⟨7, _⟩ => exact ⟨_, rfl, by decide, rfl⟩
  | ⟨8, _⟩ => exact ⟨_, rfl, by decide, rfl⟩
  | ⟨9, _⟩ => exact ⟨_, rfl, by decide, rfl⟩
  | ⟨10, _⟩ => exact ⟨_, rfl, by decide, rfl⟩
  | ⟨11, _⟩ => exact ⟨_, rfl, by decide, rfl⟩
  | ⟨12, _⟩ => exact ⟨_, rfl, by decide, rfl⟩
  | ⟨13, _⟩ => exact ⟨_, rfl, by decide, rfl⟩
  | ⟨14, _⟩ => exact ⟨_, rfl, by decide, rfl⟩
  | ⟨15, _⟩ => exact ⟨_, rfl, by decide, rfl⟩
  | ⟨16, _⟩ => exact ⟨_, rfl, by decide, rfl⟩
  | ⟨17, _⟩ => exact ⟨_, rfl, by decide, rfl⟩
  | ⟨18, _⟩ => exact ⟨_, rfl, by decide, rfl⟩
  | ⟨19, _⟩ => exact ⟨_, rfl, by decide, rfl⟩
  | ⟨20, _⟩ => exact ⟨_, rfl, by decide, rfl⟩
  | ⟨21, _⟩ => exact ⟨_, rfl, by decide, rfl⟩
  | ⟨22, _⟩ => exact ⟨_, rfl, by decide, rfl⟩
  | ⟨k + 23, h⟩ => exact absurd h (by omega)
theorem words_bare {c : Int} {k : Nat} {x : List UInt8} (hc : c = 16777217 + (k : Int)) (hx : wordsL[k]? = some x) : bareF c = x := by
  have hk : k < 23 := (List.getElem?_eq_some_iff.1 hx).1
  subst hc
  rcases (by omega : k = 0 ∨ k = 1 ∨ k = 2 ∨ k = 3 ∨ k = 4 ∨ k = 5 ∨ k = 6 ∨ k = 7 ∨ k = 8 ∨ k = 9 ∨ k = 10 ∨ k = 11 ∨ k = 12 ∨ k = 13 ∨ k = 14 ∨ k = 15 ∨ k = 16 ∨ k = 17 ∨ k = 18 ∨ k = 19 ∨ k = 20 ∨ k = 21 ∨ k = 22) with h | h | h | h | h | h | h | h | h | h | h | h | h | h | h | h | h | h | h | h | h | h | h <;> subst h <;> (cases hx; rfl)
set_option maxHeartbeats 1000000 in
theorem rwords_any (w : World) : Calls Tryz.prog 121 #[] w fun r w' => r = .returned (.slice (some ⟨w.heap.size, 0, none⟩) 23 23) ∧ w' = w.alloc (.cells #[.string ⟨#[85, 112]⟩, .string ⟨#[68, 111, 119, 110]⟩, .string ⟨#[82, 105, 103, 104, 116]⟩, .string ⟨#[76, 101, 102, 116]⟩, .string ⟨#[72, 111, 109, 101]⟩, .string ⟨#[69, 110, 100]⟩, .string ⟨#[73, 110, 115, 101, 114, 116]⟩, .string ⟨#[68, 101, 108, 101, 116, 101]⟩, .string ⟨#[80, 97, 103, 101, 85, 112]⟩, .string ⟨#[80, 97, 103, 101, 68, 111, 119, 110]⟩, .string ⟨#[70, 49]⟩, .string ⟨#[70, 50]⟩, .string ⟨#[70, 51]⟩, .string ⟨#[70, 52]⟩, .string ⟨#[70, 53]⟩, .string ⟨#[70, 54]⟩, .string ⟨#[70, 55]⟩, .string ⟨#[70, 56]⟩, .string ⟨#[70, 57]⟩, .string ⟨#[70, 49, 48]⟩, .string ⟨#[70, 49, 49]⟩, .string ⟨#[70, 49, 50]⟩, .string ⟨#[66, 84, 97, 98]⟩] 9) := by
  go_enter Tryz.func121, Tryz.ntmps121
  go_wp2_with fail
  go_ret
  exact ⟨rfl, rfl⟩
/-- The k-th word. -/
theorem rwords_at (k : Nat) (hk : k < 23) (x : List UInt8) (hx : wordsL[k]? = some x) (w : World) : Calls Tryz.prog 121 #[] w fun r w' => ∃ g, r = .returned (.slice (some ⟨g, 0, none⟩) 23 23) ∧ Below w.heap.size w w' ∧ w'.cell? ⟨g, k, none⟩ = some (.string (str x)) := by
  refine (rwords_any w).mono ?_
  rintro e w' ⟨rfl, rfl⟩
  refine ⟨_, rfl, (Below.refl _ _).alloc (Nat.le_refl _) _, ?_⟩
  obtain ⟨x', h1, _, h2⟩ := words_at ⟨k, hk⟩
  have : x' = x := Option.some.inj (h1.symm.trans hx)
  subst this
  rw [cell_at (heap_alloc_new w _)]
  exact h2
set_option maxHeartbeats 8000000 in
theorem rname_at (c m : Int) (hv : validB c m = true) (hc : c = 32 ∨ c = 13 ∨ c = 9 ∨ c = 27 ∨ c = 127) (R : ByteArray) (hR : str (modF m ++ bareF c) = R) (w : World) : Calls Tryz.prog 94 #[.agg #[.int .i64 c, .int .i64 m]] w fun r w' => r = .returned (.string R) ∧ Below w.heap.size w w' := by
  obtain ⟨W, hW⟩ : ∃ W, w.alloc (.cells #[.int .i64 c, .int .i64 m] 115) = W := ⟨_, rfl⟩
  obtain ⟨K, hK⟩ : ∃ K, w.heap.size = K := ⟨_, rfl⟩
  have hk : Kb w W K c m := by rw [← hW, ← hK]; exact Kb.new w _ _
  have H := hidK hk
  have HK := hidK hK
  have k0 := hk.c0
  have k1 := hk.c1
  have HV : Hid (∀ X, Calls Tryz.prog 93 #[.agg #[.int .i64 c, .int .i64 m]] X fun r w' => r = .returned (.bool true) ∧ Below X.heap.size X w') := fun X => by rw [← hv]; exact rvalid_any c m X
  clear hk
  have hm : (c = 32 ∧ (m = 0 ∨ m = 2 ∨ m = 4 ∨ m = 6)) ∨ ((c = 13 ∨ c = 9 ∨ c = 27 ∨ c = 127) ∧ (m = 0 ∨ m = 2)) := by
    rcases hc with h | h | h | h | h
    · left
      subst h
      simp [validB, plainM, ctrlM] at hv
      exact ⟨rfl, by omega⟩
    all_goals
      right
      subst h
      simp [validB, oneB, plainM] at hv
      exact ⟨by simp, by omega⟩
  clear hv hc
  rcases hm with ⟨h, h'⟩ | ⟨h, h'⟩
  · subst h
    rcases h' with h | h | h | h
    · subst h
      have HR : Hid ((⟨#[83, 112, 97, 99, 101]⟩ : ByteArray) = R) := hR
      clear hR
      go_enter Tryz.func94, Tryz.ntmps94
      go_wp2_with fail
      refine (HV.out _).mono ?_
      rintro e w1 ⟨rfl, hb1⟩
      have H1 := hidK (H.out.more hb1)
      have a0 := H1.out.c0
      have a1 := H1.out.c1
      clear hb1 k0 k1
      go_wp2_with fail
      go_ret
      exact ⟨by rw [← HR.out]; rfl, by first | exact H1.out.below | (rw [← HK.out]; exact H1.out.below)⟩
    · subst h
      have HR : Hid ((⟨#[77, 45, 83, 112, 97, 99, 101]⟩ : ByteArray) = R) := hR
      clear hR
      go_enter Tryz.func94, Tryz.ntmps94
      go_wp2_with fail
      refine (HV.out _).mono ?_
      rintro e w1 ⟨rfl, hb1⟩
      have H1 := hidK (H.out.more hb1)
      have a0 := H1.out.c0
      have a1 := H1.out.c1
      clear hb1 k0 k1
      go_wp2_with fail
      go_ret
      exact ⟨by rw [← HR.out]; rfl, by first | exact H1.out.below | (rw [← HK.out]; exact H1.out.below)⟩
    · subst h
      have HR : Hid ((⟨#[67, 45, 83, 112, 97, 99, 101]⟩ : ByteArray) = R) := hR
      clear hR
      go_enter Tryz.func94, Tryz.ntmps94
      go_wp2_with fail
      refine (HV.out _).mono ?_
      rintro e w1 ⟨rfl, hb1⟩
      have H1 := hidK (H.out.more hb1)
      have a0 := H1.out.c0
      have a1 := H1.out.c1
      clear hb1 k0 k1
      go_wp2_with fail
      go_ret
      exact ⟨by rw [← HR.out]; rfl, by first | exact H1.out.below | (rw [← HK.out]; exact H1.out.below)⟩
    · subst h
      have HR : Hid ((⟨#[67, 45, 77, 45, 83, 112, 97, 99, 101]⟩ : ByteArray) = R) := hR
      clear hR
      go_enter Tryz.func94, Tryz.ntmps94
      go_wp2_with fail
      refine (HV.out _).mono ?_
      rintro e w1 ⟨rfl, hb1⟩
      have H1 := hidK (H.out.more hb1)
      have a0 := H1.out.c0
      have a1 := H1.out.c1
      clear hb1 k0 k1
      go_wp2_with fail
      go_ret
      exact ⟨by rw [← HR.out]; rfl, by first | exact H1.out.below | (rw [← HK.out]; exact H1.out.below)⟩
  · rcases h with h | h | h | h
    · subst h
      rcases h' with h | h
      · subst h
        have HR : Hid ((⟨#[69, 110, 116, 101, 114]⟩ : ByteArray) = R) := hR
        clear hR
        go_enter Tryz.func94, Tryz.ntmps94
        go_wp2_with fail
        refine (HV.out _).mono ?_
        rintro e w1 ⟨rfl, hb1⟩
        have H1 := hidK (H.out.more hb1)
        have a0 := H1.out.c0
        have a1 := H1.out.c1
        clear hb1 k0 k1
        go_wp2_with fail
        go_ret
        exact ⟨by rw [← HR.out]; rfl, by first | exact H1.out.below | (rw [← HK.out]; exact H1.out.below)⟩
      · subst h
        have HR : Hid ((⟨#[77, 45, 69, 110, 116, 101, 114]⟩ : ByteArray) = R) := hR
        clear hR
        go_enter Tryz.func94, Tryz.ntmps94
        go_wp2_with fail
        refine (HV.out _).mono ?_
        rintro e w1 ⟨rfl, hb1⟩
        have H1 := hidK (H.out.more hb1)
        have a0 := H1.out.c0
        have a1 := H1.out.c1
        clear hb1 k0 k1
        go_wp2_with fail
        go_ret
        exact ⟨by rw [← HR.out]; rfl, by first | exact H1.out.below | (rw [← HK.out]; exact H1.out.below)⟩
    · subst h
      rcases h' with h | h
      · subst h
        have HR : Hid ((⟨#[84, 97, 98]⟩ : ByteArray) = R) := hR
        clear hR
        go_enter Tryz.func94, Tryz.ntmps94
        go_wp2_with fail
        refine (HV.out _).mono ?_
        rintro e w1 ⟨rfl, hb1⟩
        have H1 := hidK (H.out.more hb1)
        have a0 := H1.out.c0
        have a1 := H1.out.c1
        clear hb1 k0 k1
        go_wp2_with fail
        go_ret
        exact ⟨by rw [← HR.out]; rfl, by first | exact H1.out.below | (rw [← HK.out]; exact H1.out.below)⟩
      · subst h
        have HR : Hid ((⟨#[77, 45, 84, 97, 98]⟩ : ByteArray) = R) := hR
        clear hR
        go_enter Tryz.func94, Tryz.ntmps94
        go_wp2_with fail
        refine (HV.out _).mono ?_
        rintro e w1 ⟨rfl, hb1⟩
        have H1 := hidK (H.out.more hb1)
        have a0 := H1.out.c0
        have a1 := H1.out.c1
        clear hb1 k0 k1
        go_wp2_with fail
        go_ret
        exact ⟨by rw [← HR.out]; rfl, by first | exact H1.out.below | (rw [← HK.out]; exact H1.out.below)⟩
    · subst h
      rcases h' with h | h
      · subst h
        have HR : Hid ((⟨#[69, 115, 99, 97, 112, 101]⟩ : ByteArray) = R) := hR
        clear hR
        go_enter Tryz.func94, Tryz.ntmps94
        go_wp2_with fail
        refine (HV.out _).mono ?_
        rintro e w1 ⟨rfl, hb1⟩
        have H1 := hidK (H.out.more hb1)
        have a0 := H1.out.c0
        have a1 := H1.out.c1
        clear hb1 k0 k1
        go_wp2_with fail
        go_ret
        exact ⟨by rw [← HR.out]; rfl, by first | exact H1.out.below | (rw [← HK.out]; exact H1.out.below)⟩
      · subst h
        have HR : Hid ((⟨#[77, 45, 69, 115, 99, 97, 112, 101]⟩ : ByteArray) = R) := hR
        clear hR
        go_enter Tryz.func94, Tryz.ntmps94
        go_wp2_with fail
        refine (HV.out _).mono ?_
        rintro e w1 ⟨rfl, hb1⟩
        have H1 := hidK (H.out.more hb1)
        have a0 := H1.out.c0
        have a1 := H1.out.c1
        clear hb1 k0 k1
        go_wp2_with fail
        go_ret
        exact ⟨by rw [← HR.out]; rfl, by first | exact H1.out.below | (rw [← HK.out]; exact H1.out.below)⟩
    · subst h
      rcases h' with h | h
      · subst h
        have HR : Hid ((⟨#[66, 83, 112, 97, 99, 101]⟩ : ByteArray) = R) := hR
        clear hR
        go_enter Tryz.func94, Tryz.ntmps94
        go_wp2_with fail
        refine (HV.out _).mono ?_
        rintro e w1 ⟨rfl, hb1⟩
        have H1 := hidK (H.out.more hb1)
        have a0 := H1.out.c0
        have a1 := H1.out.c1
        clear hb1 k0 k1
        go_wp2_with fail
        go_ret
        exact ⟨by rw [← HR.out]; rfl, by first | exact H1.out.below | (rw [← HK.out]; exact H1.out.below)⟩
      · subst h
        have HR : Hid ((⟨#[77, 45, 66, 83, 112, 97, 99, 101]⟩ : ByteArray) = R) := hR
        clear hR
        go_enter Tryz.func94, Tryz.ntmps94
        go_wp2_with fail
        refine (HV.out _).mono ?_
        rintro e w1 ⟨rfl, hb1⟩
        have H1 := hidK (H.out.more hb1)
        have a0 := H1.out.c0
        have a1 := H1.out.c1
        clear hb1 k0 k1
        go_wp2_with fail
        go_ret
        exact ⟨by rw [← HR.out]; rfl, by first | exact H1.out.below | (rw [← HK.out]; exact H1.out.below)⟩
set_option maxHeartbeats 8000000 in
theorem rname_chr (c m : Int) (hv : validB c m = true) (h1 : c ≠ 32) (h2 : oneB c = false) (h3 : c ≠ 16777239) (h4 : spcB c = false) (R : ByteArray) (hR : str (modF m ++ bareF c) = R) (w : World) : Calls Tryz.prog 94 #[.agg #[.int .i64 c, .int .i64 m]] w fun r w' => r = .returned (.string R) ∧ Below w.heap.size w w' := by
  obtain ⟨W, hW⟩ : ∃ W, w.alloc (.cells #[.int .i64 c, .int .i64 m] 115) = W := ⟨_, rfl⟩
  obtain ⟨K, hK⟩ : ∃ K, w.heap.size = K := ⟨_, rfl⟩
  have hk : Kb w W K c m := by rw [← hW, ← hK]; exact Kb.new w _ _
  have H := hidK hk
  have HK := hidK hK
  have k0 := hk.c0
  have k1 := hk.c1
  have HV : Hid (∀ X, Calls Tryz.prog 93 #[.agg #[.int .i64 c, .int .i64 m]] X fun r w' => r = .returned (.bool true) ∧ Below X.heap.size X w') := fun X => by rw [← hv]; exact rvalid_any c m X
  clear hk
  have hm : (m = 0 ∨ m = 2 ∨ m = 4 ∨ m = 6) ∧ 33 ≤ c ∧ c ≤ 1114111 ∧ (c < 55296 ∨ 57343 < c) := by
    unfold validB at hv
    rw [if_neg h1, if_neg (by simp [h2]), if_neg h3, if_neg (by simp [h4])] at hv
    simp [plainM, ctrlM, chrB, ctlB] at hv
    omega
  obtain ⟨hm, c0, c1, c2⟩ := hm
  have hnm : nmF c = none := by
    refine nm_no fun j p hp => ?_
    have ho : ¬ (c = 13 ∨ c = 9 ∨ c = 27 ∨ c = 127) := by simpa [oneB] using h2
    have hm : p ∈ nmT := List.mem_of_getElem? hp
    simp only [nmT, List.mem_cons, List.not_mem_nil, or_false] at hm
    rcases hm with e | e | e | e | e | e <;> rw [e] <;> simp only <;> omega
  have hb : bareF c = r8F c := by rw [bare_of h4, hnm, r8_enc (by omega) c1 c2]; rfl
  have HU := hidK (rutf8_any c (by omega) (by omega))
  obtain ⟨U, hU⟩ : ∃ U, str (r8F c) = U := ⟨_, rfl⟩
  rw [hU] at HU
  have hUz : U.size ≤ 4 := by
    rw [← hU, str_size]
    unfold r8F
    split
    · simp
    · split
      · simp
      · split <;> simp
  have ho : ¬ (c = 13 ∨ c = 9 ∨ c = 27 ∨ c = 127) := by simpa [oneB] using h2
  have e1 : (c == 32) = false := by simpa using h1
  have e2 : (c == 13) = false := by simp; omega
  have e3 : (c == 9) = false := by simp; omega
  have e4 : (c == 27) = false := by simp; omega
  have e5 : (c == 127) = false := by simp; omega
  have e6 : ¬ (16777217 : Int) ≤ c := by omega
  have HRR : Hid (∀ l, modF m = l → str l ++ U = R) := fun l hl => by rw [← hR, hb, ← hU, hl, str_catK]
  clear hv h1 h2 h3 h4 hR ho hnm hb hU c0 c1 c2
  rcases hm with h | h | h | h
  · subst h
    have HR : Hid ((⟨#[]⟩ : ByteArray) ++ U = R) := HRR.out [] rfl
    clear HRR
    go_enter Tryz.func94, Tryz.ntmps94
    go_wp2_with fail
    refine (HV.out _).mono ?_
    rintro e w1 ⟨rfl, hb1⟩
    have H1 := hidK (H.out.more hb1)
    have a0 := H1.out.c0
    have a1 := H1.out.c1
    clear hb1 k0 k1
    go_wp2_with (go_at_call 122; refine (HU.out _).mono ?_; rintro e w2 ⟨rfl, hb2⟩)
    go_ret
    exact ⟨by rw [← HR.out]; first | rfl | simp, by first | exact below_step H1.out.below hb2 | (rw [← HK.out]; exact below_step H1.out.below hb2)⟩
  · subst h
    have HR : Hid ((⟨#[77, 45]⟩ : ByteArray) ++ U = R) := HRR.out [77, 45] rfl
    clear HRR
    go_enter Tryz.func94, Tryz.ntmps94
    go_wp2_with fail
    refine (HV.out _).mono ?_
    rintro e w1 ⟨rfl, hb1⟩
    have H1 := hidK (H.out.more hb1)
    have a0 := H1.out.c0
    have a1 := H1.out.c1
    clear hb1 k0 k1
    go_wp2_with (go_at_call 122; refine (HU.out _).mono ?_; rintro e w2 ⟨rfl, hb2⟩)
    go_ret
    exact ⟨by rw [← HR.out]; first | rfl | simp, by first | exact below_step H1.out.below hb2 | (rw [← HK.out]; exact below_step H1.out.below hb2)⟩
  · subst h
    have HR : Hid ((⟨#[67, 45]⟩ : ByteArray) ++ U = R) := HRR.out [67, 45] rfl
    clear HRR
    go_enter Tryz.func94, Tryz.ntmps94
    go_wp2_with fail
    refine (HV.out _).mono ?_
    rintro e w1 ⟨rfl, hb1⟩
    have H1 := hidK (H.out.more hb1)
    have a0 := H1.out.c0
    have a1 := H1.out.c1
    clear hb1 k0 k1
    go_wp2_with (go_at_call 122; refine (HU.out _).mono ?_; rintro e w2 ⟨rfl, hb2⟩)
    go_ret
    exact ⟨by rw [← HR.out]; first | rfl | simp, by first | exact below_step H1.out.below hb2 | (rw [← HK.out]; exact below_step H1.out.below hb2)⟩
  · subst h
    have HR : Hid ((⟨#[67, 45, 77, 45]⟩ : ByteArray) ++ U = R) := HRR.out [67, 45, 77, 45] rfl
    clear HRR
    go_enter Tryz.func94, Tryz.ntmps94
    go_wp2_with fail
    refine (HV.out _).mono ?_
    rintro e w1 ⟨rfl, hb1⟩
    have H1 := hidK (H.out.more hb1)
    have a0 := H1.out.c0
    have a1 := H1.out.c1
    clear hb1 k0 k1
    go_wp2_with (go_at_call 122; refine (HU.out _).mono ?_; rintro e w2 ⟨rfl, hb2⟩)
    go_ret
    exact ⟨by rw [← HR.out]; first | rfl | simp, by first | exact below_step H1.out.below hb2 | (rw [← HK.out]; exact below_step H1.out.below hb2)⟩
end Go.Proofs.YtgdkpmfdpfjdjaaGreatDoor

namespace Go.Proofs.YtgdkpmfdpfjdjaaGreatDoor
open Go.RowKit
set_option linter.unusedVariables false
set_option maxRecDepth 100000

set_option maxHeartbeats 8000000 in
theorem rname_special (c m : Int) (hv : validB c m = true) (k : Nat) (hk : k < 23) (hc : c = 16777217 + (k : Int)) (R : ByteArray) (hR : str (modF m ++ bareF c) = R) (w : World) : Calls Tryz.prog 94 #[.agg #[.int .i64 c, .int .i64 m]] w fun r w' => r = .returned (.string R) ∧ Below w.heap.size w w' := by
  obtain ⟨W, hW⟩ : ∃ W, w.alloc (.cells #[.int .i64 c, .int .i64 m] 115) = W := ⟨_, rfl⟩
  obtain ⟨K, hK⟩ : ∃ K, w.heap.size = K := ⟨_, rfl⟩
  have hkb : Kb w W K c m := by rw [← hW, ← hK]; exact Kb.new w _ _
  have H := hidK hkb
  have HK := hidK hK
  have k0 := hkb.c0
  have k1 := hkb.c1
  have HV : Hid (∀ X, Calls Tryz.prog 93 #[.agg #[.int .i64 c, .int .i64 m]] X fun r w' => r = .returned (.bool true) ∧ Below X.heap.size X w') := fun X => by rw [← hv]; exact rvalid_any c m X
  clear hkb
  obtain ⟨x, hx, hx9, _⟩ := words_at ⟨k, hk⟩
  have hb : bareF c = x := words_bare hc hx
  have HWo := hidK (rwords_at k hk x hx)
  obtain ⟨U, hU⟩ : ∃ U, str x = U := ⟨_, rfl⟩
  rw [hU] at HWo
  have hUz : U.size ≤ 9 := by rw [← hU]; exact hx9
  have e1 : (c == 32) = false := by simp; omega
  have e2 : (c == 13) = false := by simp; omega
  have e3 : (c == 9) = false := by simp; omega
  have e4 : (c == 27) = false := by simp; omega
  have e5 : (c == 127) = false := by simp; omega
  have e6 : (16777217 : Int) ≤ c := by omega
  have hi : c - 16777217 = (k : Int) := by omega
  have hk2 : (k : Int) < 23 := by omega
  have hwr : IntKind.i64.wrap (k : Int) = (k : Int) := by
    have := IntKind.wrap_i64 (k : Int)
    omega
  have HRR : Hid (∀ l, modF m = l → str l ++ U = R) := fun l hl => by rw [← hR, hb, ← hU, hl, str_catK]
  obtain ⟨_, _, hm0, hm7⟩ := valid_code hv
  have hm : m = 0 ∨ m = 1 ∨ m = 2 ∨ m = 3 ∨ m = 4 ∨ m = 5 ∨ m = 6 ∨ m = 7 := by omega
  clear hv hR hb hU hx hx9 hm0 hm7 hc
  rcases hm with h | h | h | h | h | h | h | h
  · subst h
    have HR : Hid ((⟨#[]⟩ : ByteArray) ++ U = R) := HRR.out [] rfl
    clear HRR
    go_enter Tryz.func94, Tryz.ntmps94
    go_wp2_with fail
    refine (HV.out _).mono ?_
    rintro e w1 ⟨rfl, hb1⟩
    have H1 := hidK (H.out.more hb1)
    have a0 := H1.out.c0
    have a1 := H1.out.c1
    clear hb1 k0 k1
    go_wp2_with fail
    go_region_with (go_at_call 121; refine (HWo.out _).mono ?_; rintro e w2 ⟨g, rfl, hb2, hcell⟩; have a02 : w2.cell? ⟨K, 0, none⟩ = some (.int .i64 c) := (H1.out.more (below_step (by repeat (first | exact Below.refl _ _ | apply Below.drew)) hb2)).c0; have HB2 := hidK hb2; clear hb2)
    all_goals go_wp2_with fail
    all_goals go_ret
    all_goals refine ⟨by rw [← HR.out]; first | rfl | simp, ?_⟩
    all_goals first | rw [← HK.out] | skip
    all_goals exact below_step H1.out.below (below_step (by repeat (first | exact Below.refl _ _ | apply Below.drew)) HB2.out)
  · subst h
    have HR : Hid ((⟨#[83, 45]⟩ : ByteArray) ++ U = R) := HRR.out [83, 45] rfl
    clear HRR
    go_enter Tryz.func94, Tryz.ntmps94
    go_wp2_with fail
    refine (HV.out _).mono ?_
    rintro e w1 ⟨rfl, hb1⟩
    have H1 := hidK (H.out.more hb1)
    have a0 := H1.out.c0
    have a1 := H1.out.c1
    clear hb1 k0 k1
    go_wp2_with fail
    go_region_with (go_at_call 121; refine (HWo.out _).mono ?_; rintro e w2 ⟨g, rfl, hb2, hcell⟩; have a02 : w2.cell? ⟨K, 0, none⟩ = some (.int .i64 c) := (H1.out.more (below_step (by repeat (first | exact Below.refl _ _ | apply Below.drew)) hb2)).c0; have HB2 := hidK hb2; clear hb2)
    all_goals go_wp2_with fail
    all_goals go_ret
    all_goals refine ⟨by rw [← HR.out]; first | rfl | simp, ?_⟩
    all_goals first | rw [← HK.out] | skip
    all_goals exact below_step H1.out.below (below_step (by repeat (first | exact Below.refl _ _ | apply Below.drew)) HB2.out)
  · subst h
    have HR : Hid ((⟨#[77, 45]⟩ : ByteArray) ++ U = R) := HRR.out [77, 45] rfl
    clear HRR
    go_enter Tryz.func94, Tryz.ntmps94
    go_wp2_with fail
    refine (HV.out _).mono ?_
    rintro e w1 ⟨rfl, hb1⟩
    have H1 := hidK (H.out.more hb1)
    have a0 := H1.out.c0
    have a1 := H1.out.c1
    clear hb1 k0 k1
    go_wp2_with fail
    go_region_with (go_at_call 121; refine (HWo.out _).mono ?_; rintro e w2 ⟨g, rfl, hb2, hcell⟩; have a02 : w2.cell? ⟨K, 0, none⟩ = some (.int .i64 c) := (H1.out.more (below_step (by repeat (first | exact Below.refl _ _ | apply Below.drew)) hb2)).c0; have HB2 := hidK hb2; clear hb2)
    all_goals go_wp2_with fail
    all_goals go_ret
    all_goals refine ⟨by rw [← HR.out]; first | rfl | simp, ?_⟩
    all_goals first | rw [← HK.out] | skip
    all_goals exact below_step H1.out.below (below_step (by repeat (first | exact Below.refl _ _ | apply Below.drew)) HB2.out)
  · subst h
    have HR : Hid ((⟨#[77, 45, 83, 45]⟩ : ByteArray) ++ U = R) := HRR.out [77, 45, 83, 45] rfl
    clear HRR
    go_enter Tryz.func94, Tryz.ntmps94
    go_wp2_with fail
    refine (HV.out _).mono ?_
    rintro e w1 ⟨rfl, hb1⟩
    have H1 := hidK (H.out.more hb1)
    have a0 := H1.out.c0
    have a1 := H1.out.c1
    clear hb1 k0 k1
    go_wp2_with fail
    go_region_with (go_at_call 121; refine (HWo.out _).mono ?_; rintro e w2 ⟨g, rfl, hb2, hcell⟩; have a02 : w2.cell? ⟨K, 0, none⟩ = some (.int .i64 c) := (H1.out.more (below_step (by repeat (first | exact Below.refl _ _ | apply Below.drew)) hb2)).c0; have HB2 := hidK hb2; clear hb2)
    all_goals go_wp2_with fail
    all_goals go_ret
    all_goals refine ⟨by rw [← HR.out]; first | rfl | simp, ?_⟩
    all_goals first | rw [← HK.out] | skip
    all_goals exact below_step H1.out.below (below_step (by repeat (first | exact Below.refl _ _ | apply Below.drew)) HB2.out)
  · subst h
    have HR : Hid ((⟨#[67, 45]⟩ : ByteArray) ++ U = R) := HRR.out [67, 45] rfl
    clear HRR
    go_enter Tryz.func94, Tryz.ntmps94
    go_wp2_with fail
    refine (HV.out _).mono ?_
    rintro e w1 ⟨rfl, hb1⟩
    have H1 := hidK (H.out.more hb1)
    have a0 := H1.out.c0
    have a1 := H1.out.c1
    clear hb1 k0 k1
    go_wp2_with fail
    go_region_with (go_at_call 121; refine (HWo.out _).mono ?_; rintro e w2 ⟨g, rfl, hb2, hcell⟩; have a02 : w2.cell? ⟨K, 0, none⟩ = some (.int .i64 c) := (H1.out.more (below_step (by repeat (first | exact Below.refl _ _ | apply Below.drew)) hb2)).c0; have HB2 := hidK hb2; clear hb2)
    all_goals go_wp2_with fail
    all_goals go_ret
    all_goals refine ⟨by rw [← HR.out]; first | rfl | simp, ?_⟩
    all_goals first | rw [← HK.out] | skip
    all_goals exact below_step H1.out.below (below_step (by repeat (first | exact Below.refl _ _ | apply Below.drew)) HB2.out)
  · subst h
    have HR : Hid ((⟨#[67, 45, 83, 45]⟩ : ByteArray) ++ U = R) := HRR.out [67, 45, 83, 45] rfl
    clear HRR
    go_enter Tryz.func94, Tryz.ntmps94
    go_wp2_with fail
    refine (HV.out _).mono ?_
    rintro e w1 ⟨rfl, hb1⟩
    have H1 := hidK (H.out.more hb1)
    have a0 := H1.out.c0
    have a1 := H1.out.c1
    clear hb1 k0 k1
    go_wp2_with fail
    go_region_with (go_at_call 121; refine (HWo.out _).mono ?_; rintro e w2 ⟨g, rfl, hb2, hcell⟩; have a02 : w2.cell? ⟨K, 0, none⟩ = some (.int .i64 c) := (H1.out.more (below_step (by repeat (first | exact Below.refl _ _ | apply Below.drew)) hb2)).c0; have HB2 := hidK hb2; clear hb2)
    all_goals go_wp2_with fail
    all_goals go_ret
    all_goals refine ⟨by rw [← HR.out]; first | rfl | simp, ?_⟩
    all_goals first | rw [← HK.out] | skip
    all_goals exact below_step H1.out.below (below_step (by repeat (first | exact Below.refl _ _ | apply Below.drew)) HB2.out)
  · subst h
    have HR : Hid ((⟨#[67, 45, 77, 45]⟩ : ByteArray) ++ U = R) := HRR.out [67, 45, 77, 45] rfl
    clear HRR
    go_enter Tryz.func94, Tryz.ntmps94
    go_wp2_with fail
    refine (HV.out _).mono ?_
    rintro e w1 ⟨rfl, hb1⟩
    have H1 := hidK (H.out.more hb1)
    have a0 := H1.out.c0
    have a1 := H1.out.c1
    clear hb1 k0 k1
    go_wp2_with fail
    go_region_with (go_at_call 121; refine (HWo.out _).mono ?_; rintro e w2 ⟨g, rfl, hb2, hcell⟩; have a02 : w2.cell? ⟨K, 0, none⟩ = some (.int .i64 c) := (H1.out.more (below_step (by repeat (first | exact Below.refl _ _ | apply Below.drew)) hb2)).c0; have HB2 := hidK hb2; clear hb2)
    all_goals go_wp2_with fail
    all_goals go_ret
    all_goals refine ⟨by rw [← HR.out]; first | rfl | simp, ?_⟩
    all_goals first | rw [← HK.out] | skip
    all_goals exact below_step H1.out.below (below_step (by repeat (first | exact Below.refl _ _ | apply Below.drew)) HB2.out)
  · subst h
    have HR : Hid ((⟨#[67, 45, 77, 45, 83, 45]⟩ : ByteArray) ++ U = R) := HRR.out [67, 45, 77, 45, 83, 45] rfl
    clear HRR
    go_enter Tryz.func94, Tryz.ntmps94
    go_wp2_with fail
    refine (HV.out _).mono ?_
    rintro e w1 ⟨rfl, hb1⟩
    have H1 := hidK (H.out.more hb1)
    have a0 := H1.out.c0
    have a1 := H1.out.c1
    clear hb1 k0 k1
    go_wp2_with fail
    go_region_with (go_at_call 121; refine (HWo.out _).mono ?_; rintro e w2 ⟨g, rfl, hb2, hcell⟩; have a02 : w2.cell? ⟨K, 0, none⟩ = some (.int .i64 c) := (H1.out.more (below_step (by repeat (first | exact Below.refl _ _ | apply Below.drew)) hb2)).c0; have HB2 := hidK hb2; clear hb2)
    all_goals go_wp2_with fail
    all_goals go_ret
    all_goals refine ⟨by rw [← HR.out]; first | rfl | simp, ?_⟩
    all_goals first | rw [← HK.out] | skip
    all_goals exact below_step H1.out.below (below_step (by repeat (first | exact Below.refl _ _ | apply Below.drew)) HB2.out)
theorem rname_no (c m : Int) (hv : validB c m = false) (w : World) : Calls Tryz.prog 94 #[.agg #[.int .i64 c, .int .i64 m]] w fun r w' => r = .returned (.string (str [])) ∧ Below w.heap.size w w' := by
  have HV : Hid (∀ W, Calls Tryz.prog 93 #[.agg #[.int .i64 c, .int .i64 m]] W fun r w' => r = .returned (.bool false) ∧ Below W.heap.size W w') := fun W => by rw [← hv]; exact rvalid_any c m W
  have HFin : Hid (∀ W, Below (w.alloc (.cells #[.int .i64 c, .int .i64 m] 115)).heap.size (w.alloc (.cells #[.int .i64 c, .int .i64 m] 115)) W → Below w.heap.size w W) := fun W h => below_step ((Below.refl _ _).alloc (Nat.le_refl _) _) h
  clear hv
  go_enter Tryz.func94, Tryz.ntmps94
  go_wp2_with fail
  refine (HV.out _).mono ?_
  rintro e w1 ⟨rfl, hb1⟩
  have HB1 := hidK (HFin.out _ hb1)
  clear hb1
  go_wp2_with fail
  go_ret
  exact ⟨rfl, HB1.out⟩
theorem rname_any (c m : Int) (w : World) : Calls Tryz.prog 94 #[.agg #[.int .i64 c, .int .i64 m]] w fun r w' => r = .returned (.string (str (nameF c m))) ∧ Below w.heap.size w w' := by
  unfold nameF
  cases hv : validB c m with
  | false => rw [if_neg (by decide)]; exact rname_no c m hv w
  | true =>
    rw [if_pos rfl]
    by_cases h1 : c = 32
    · exact rname_at c m hv (.inl h1) _ rfl w
    · by_cases h2 : oneB c = true
      · exact rname_at c m hv (.inr (by simpa [oneB] using h2)) _ rfl w
      · by_cases h3 : c = 16777239
        · exact rname_special c m hv 22 (by decide) h3 _ rfl w
        · by_cases h4 : spcB c = true
          · obtain ⟨k, s, e, hk, _, _⟩ := spc_at h4
            exact rname_special c m hv k (by omega) e _ rfl w
          · exact rname_chr c m hv h1 (by simpa using h2) h3 (by simpa using h4) _ rfl w
end Go.Proofs.YtgdkpmfdpfjdjaaGreatDoor

namespace Go.Proofs.YtgdkpmfdpfjdjaaGreatDoor
open Go.RowKit
set_option linter.unusedVariables false
set_option maxRecDepth 100000

/-- The key's block, told with a number. -/
theorem key_end2 {fn : Func} {p u : Tmp} (h : fn.results = #[.cell p 115, .tmp u]) {a : Act} {w W : World} {R : Ending → World → Prop} {Z : Nat} {c m a' b' : Int} (hk : Kb w W Z c m) (hZ : w.heap.size ≤ Z)
    (hp : a.tmps.getD p undef = .pointer (some ⟨Z, 0, none⟩)) (hdf : a.defers = []) (hR : ∀ X, Below w.heap.size w X → R (.returned (.tuple #[.agg #[.int .i64 a', .int .i64 b'], a.tmps.getD u undef])) X) :
    bodyPost Tryz.prog fn R .ret a ((W.setCell ⟨Z, 0, none⟩ (.int .i64 a')).setCell ⟨Z, 1, none⟩ (.int .i64 b')) :=
  ret_cell2 h hp (hk.put hZ a' b').key Tryz.underlying115 rfl infoKey hdf (hR _ (hk.put hZ a' b').below)
theorem Rd.code {w W : World} {Z K : Nat} {m : Int} (h : Rd w W Z K m) (c : Int) : Kb w (W.setCell ⟨K, 0, none⟩ (.int .i64 c)) Z 0 0 ∧ (W.setCell ⟨K, 0, none⟩ (.int .i64 c)).heap[K]? = some (.cells #[.int .i64 c, .int .i64 m] 115 (0, 0)) :=
  ⟨⟨h.below.setCell (p := ⟨K, 0, none⟩) (by have := h.zk; simp only; omega) _, put_other h.z (by have := h.zk; omega) _ _⟩, put_at h.k 0 _⟩
theorem last_none {l rest : List UInt8} {m : Int} (hre : restF l = (rest, m)) (hf : firstF rest = none) : lastF l = none := by
  unfold lastF
  rw [hre]
  dsimp only
  rw [hf]
theorem last_some {l rest : List UInt8} {m c : Int} {n : Nat} (hre : restF l = (rest, m)) (hf : firstF rest = some (c, n)) : lastF l = if n = rest.length ∧ hitB l (c, m) = true then some (c, m) else none := by
  unfold lastF
  rw [hre]
  dsimp only
  rw [hf]
theorem hit_v {l : List UInt8} {c m : Int} (h : validB c m = false) : hitB l (c, m) = false := by
  unfold hitB
  rw [h]
  rfl
theorem hit_n {l : List UInt8} {c m : Int} (h : ¬ nameF c m = l) : hitB l (c, m) = false := by
  unfold hitB
  rw [decide_eq_false h, Bool.and_false]
theorem hit_y {l : List UInt8} {c m : Int} (h : validB c m = true) (h2 : nameF c m = l) : hitB l (c, m) = true := by
  unfold hitB
  rw [h, decide_eq_true h2]
  rfl
theorem last_miss {l : List UInt8} {c m : Int} {n Rn : Nat} (h : lastF l = if n = Rn ∧ hitB l (c, m) = true then some (c, m) else none) (h2 : hitB l (c, m) = false) : lastF l = none := by
  rw [h, if_neg (fun q => by rw [h2] at q; cases q.2)]
theorem last_far {l : List UInt8} {c m : Int} {n Rn : Nat} (h : lastF l = if n = Rn ∧ hitB l (c, m) = true then some (c, m) else none) (h2 : ¬ n = Rn) : lastF l = none := by
  rw [h, if_neg (fun q => h2 q.1)]
theorem last_hit {l : List UInt8} {c m : Int} {n Rn : Nat} (h : lastF l = if n = Rn ∧ hitB l (c, m) = true then some (c, m) else none) (h1 : n = Rn) (h2 : hitB l (c, m) = true) : lastF l = some (c, m) := by
  rw [h, if_pos ⟨h1, h2⟩]
set_option maxHeartbeats 8000000 in
theorem rread_any (l : List UInt8) (hl : l.length ≤ 140737488355328) (w : World) : Calls Tryz.prog 71 #[.string (str l)] w fun r w' => r = .returned (rdV l) ∧ Below w.heap.size w w' := by
  obtain ⟨R, hR⟩ : ∃ R, rdV l = R := ⟨_, rfl⟩
  obtain ⟨V, Z, hV, hZ, HKb, HZl, z0, z1, f0, f1⟩ := key_new w
  have HAl := hidK (rall_any V)
  have hA1 := all_len 8
  have hrs : readR l = readF l := read_same l
  unfold readR at hrs
  obtain ⟨A, hA⟩ : ∃ A, allF 8 = A := ⟨_, rfl⟩
  rw [hA] at HAl hA1 hrs
  have HA1 : Hid (A.length = 1208) := hA1
  have HRs := hidK hrs
  have HR := hidK hR
  obtain ⟨T, hTT⟩ : ∃ T, str l = T := ⟨_, rfl⟩
  have HTT := hidK hTT
  rw [hR, hTT]
  clear hA1 hrs hR hA hTT z0 z1 f0 f1
  go_enter Tryz.func71, Tryz.ntmps71
  go_wp2_with fail
  refine HAl.out.mono ?_
  rintro e w1 ⟨v1, rfl, hal⟩
  obtain ⟨a0, c0, rfl⟩ := hal.keys.slice
  have hsee := hal.keys.see
  obtain ⟨a0', c0', e0, hsee⟩ := hsee
  obtain ⟨g, o, ead, hcell⟩ := hsee (fun e => by have := HA1.out; rw [e] at this; exact absurd this (by decide))
  cases e0
  cases ead
  have HB1 := hidK hal.below
  have HCe := hidK hcell
  rw [HA1.out]
  clear hal hsee hcell HAl
  go_wp2_with fail
  go_loopw [5] (fun iv wr => ∃ k : Nat, k ≤ 1208 ∧ iv = .int .i64 k ∧ Hid (Below w1.heap.size w1 wr) ∧ Hid (∀ q ∈ A.take k, hitB l q = false)) (fun iv _ => 1208 - (intOf iv).toNat)
  case atStart => exact ⟨0, Nat.zero_le _, rfl, Below.refl _ _, fun q hq => by simp at hq⟩
  case round =>
    obtain ⟨k, hk, rfl, HB, HS⟩ := hrel
    by_cases hlt : k < 1208
    · have hka : k < A.length := by rw [HA1.out]; exact hlt
      obtain ⟨b1, b2⟩ := HCe.out k hka
      obtain ⟨⟨x, y⟩, hxy⟩ : ∃ q, A[k] = q := ⟨_, rfl⟩
      rw [hxy] at b1 b2
      simp only at b1 b2
      have HCl : Hid (∀ X, Below w1.heap.size w1 X → X.cell? ⟨g, o + k * 2, none⟩ = some (.int .i64 x) ∧ X.cell? ⟨g, o + k * 2 + 1, none⟩ = some (.int .i64 y)) := fun X hX => ⟨(hX.cell (World.block_lt_of_cell? w1 _ b1)).trans b1, (hX.cell (World.block_lt_of_cell? w1 _ b2)).trans b2⟩
      clear b1 b2
      obtain ⟨e1, e2⟩ := HCl.out _ HB.out
      have hi1 : (k : Int) < 1208 := by omega
      have hi0 : (0 : Int) ≤ (k : Int) := by omega
      have HVa := hidK (rvalid_any x y)
      have HNa := hidK (rname_any x y)
      have HNext : Hid (hitB l (x, y) = false → ∀ q ∈ A.take (k + 1), hitB l q = false) := fun hn q hq => by
        rw [List.take_succ_eq_append_getElem hka, hxy] at hq
        rcases List.mem_append.1 hq with h | h
        · exact HS.out q h
        · rw [List.mem_singleton.1 h]; exact hn
      have HHit : Hid (hitB l (x, y) = true → R = .tuple #[.agg #[.int .i64 x, .int .i64 y], .int .i64 0]) := fun hh => by
        rw [← HR.out]; unfold rdV; rw [hit_read hh]
      clear hxy hka
      cases hv : validB x y with
      | false =>
        have HN2 := hidK (HNext.out (by unfold hitB; simp [hv]))
        rw [hv] at HVa
        clear HHit HNext hv
        go_wp2_with fail
        refine (HVa.out _).mono ?_
        rintro e w2 ⟨rfl, hb2⟩
        have HBn : Hid (Below w1.heap.size w1 w2) := below_step HB.out hb2
        clear hb2
        obtain ⟨n1, n2⟩ := HCl.out _ HBn.out
        go_wp2_with fail
        go_roundw
        case rel => exact ⟨k + 1, by omega, by first | rfl | go_num, HBn, HN2⟩
        case measure => simp [intOf]; omega
      | true =>
        rw [hv] at HVa
        obtain ⟨N, hN⟩ : ∃ N, str (nameF x y) = N := ⟨_, rfl⟩
        rw [hN] at HNa
        by_cases hn : nameF x y = l
        · have y1 : (N.toList == T.toList) = true := by rw [← hN, hn, HTT.out]; simp
          have HHi := hidK (HHit.out (by unfold hitB; simp [hv, hn]))
          clear HHit HNext hv hn hN
          go_wp2_with fail
          refine (HVa.out _).mono ?_
          rintro e w2 ⟨rfl, hb2⟩
          have HBn : Hid (Below w1.heap.size w1 w2) := below_step HB.out hb2
          clear hb2
          obtain ⟨n1, n2⟩ := HCl.out _ HBn.out
          go_wp2_with fail
          refine (HNa.out _).mono ?_
          rintro e w3 ⟨rfl, hb3⟩
          have HBm : Hid (Below w1.heap.size w1 w3) := below_step HBn.out hb3
          clear hb3
          obtain ⟨o1, o2⟩ := HCl.out _ HBm.out
          have HKe := hidK (HKb.out.more (below_step HB1.out HBm.out))
          have z0 := HKe.out.c0
          have z1 := HKe.out.c1
          have f0 := HKe.out.f 0
          have f1 := HKe.out.f 1
          go_wp2_with fail
          refine key_end2 rfl HKe.out HZl.out rfl rfl fun X hX => ⟨?_, hX⟩
          rw [HHi.out]
          rfl
        · have y1 : (N.toList == T.toList) = false := by rw [← hN, ← HTT.out, str_toList, str_toList]; simpa using hn
          have HN2 := hidK (HNext.out (by unfold hitB; simp [hn]))
          clear HHit HNext hv hn hN
          go_wp2_with fail
          refine (HVa.out _).mono ?_
          rintro e w2 ⟨rfl, hb2⟩
          have HBn : Hid (Below w1.heap.size w1 w2) := below_step HB.out hb2
          clear hb2
          obtain ⟨n1, n2⟩ := HCl.out _ HBn.out
          go_wp2_with fail
          refine (HNa.out _).mono ?_
          rintro e w3 ⟨rfl, hb3⟩
          have HBm : Hid (Below w1.heap.size w1 w3) := below_step HBn.out hb3
          clear hb3
          obtain ⟨o1, o2⟩ := HCl.out _ HBm.out
          go_wp2_with fail
          go_roundw
          case rel => exact ⟨k + 1, by omega, by first | rfl | go_num, HBm, HN2⟩
          case measure => simp [intOf]; omega
    · have hk8 : k = 1208 := by omega
      have hfn : A.find? (hitB l) = none := List.find?_eq_none.2 (fun q hq => by
        rw [HS.out q (by rw [hk8, List.take_of_length_le (by rw [HA1.out]; exact Nat.le_refl _)]; exact hq)]
        decide)
      have hlast : lastF l = readF l := by
        have h := HRs.out
        rw [hfn] at h
        exact h
      have HLa := hidK hlast
      obtain ⟨U, hU⟩ : ∃ U, wr.heap.size = U := ⟨_, rfl⟩
      have hKw := HKb.out.more (below_step HB1.out HB.out)
      have HRz : Hid (∀ m : Int, Rd w (wr.alloc (.cells #[.int .i64 0, .int .i64 m] 115)) Z U m) := fun m => ⟨below_step hKw.below ((Below.refl _ _).alloc (Nat.le_refl _) _), alloc_at hKw.key _, by rw [← hU]; exact heap_alloc_new wr _, HZl.out, by have := lt_block hKw.key; omega⟩
      obtain ⟨Nn, hNn⟩ : ∃ n, l.length = n := ⟨_, rfl⟩
      have zT : T.size = Nn := by rw [← HTT.out, ← hNn]; rfl
      have j1 : ¬ (k : Int) < 1208 := by omega
      clear hfn hlast hKw hk hlt HS
      by_cases h2 : 2 < Nn
      · have i2 : (2 : Int) < (Nn : Int) := by omega
        obtain ⟨S2, hS2⟩ : ∃ S, str (l.take 2) = S := ⟨_, rfl⟩
        have hsl : ∀ X : World, (Instr.slice 9 (.string T) none (some (.int .i64 2)) none).run Tryz.prog X = .ok (.string S2) X := fun X => by rw [← hS2, ← str_takeF, HTT.out]; exact slice_to T 2 (by omega) X
        by_cases hM : l.take 2 = [77, 45]
        · have y2 : (S2.toList == [77, 45]) = true := by rw [← hS2, str_toList, hM]; rfl
          have y3 : S2.toList = [77, 45] := by rw [← hS2, str_toList, hM]
          obtain ⟨rest, hrest⟩ : ∃ r, l.drop 2 = r := ⟨_, rfl⟩
          obtain ⟨RS, hRS⟩ : ∃ S, str rest = S := ⟨_, rfl⟩
          have hsd : ∀ X : World, (Instr.slice 9 (.string T) (some (.int .i64 2)) none none).run Tryz.prog X = .ok (.string RS) X := fun X => by rw [← hRS, ← hrest, ← str_dropF, HTT.out]; exact slice_from T 2 _ rfl (by omega) X
          obtain ⟨Rn, hRn⟩ : ∃ n, rest.length = n := ⟨_, rfl⟩
          have zR : RS.size = Rn := by rw [← hRS]; exact hRn
          obtain ⟨m, hm2⟩ : ∃ m : Int, (2 : Int) = m := ⟨_, rfl⟩
          have hre : restF l = (rest, m) := by unfold restF; rw [if_pos ⟨by omega, hM⟩, hrest, hm2]
          have hrl : rest.length ≤ 140737488355328 := by rw [← hrest, List.length_drop]; omega
          have HRd : Hid (Rd w (wr.alloc (.cells #[.int .i64 0, .int .i64 2] 115)) Z U m) := by rw [← hm2]; exact HRz.out 2
          have HRe : Hid (Rd w ((wr.alloc (.cells #[.int .i64 0, .int .i64 0] 115)).setCell ⟨U, 1, none⟩ (.int .i64 2)) Z U m) := by rw [← hm2]; exact (HRz.out 0).add 2
          clear hM hrest hS2 hm2 HRz
          have HNo : Hid (lastF l = none → R = .tuple #[.agg #[.int .i64 0, .int .i64 0], .int .i64 210]) := fun h => by rw [← HR.out]; unfold rdV; rw [← HLa.out, h]
          have hlb : rest.length ≤ 140737488355328 := hrl
          obtain ⟨fo, hf⟩ : ∃ fo, firstF rest = fo := ⟨_, rfl⟩
          cases fo with
          | none =>
            have HFi : Hid (∀ X, Calls Tryz.prog 95 #[.string RS] X fun r w' => r = .returned (.tuple #[.int .i64 0, .int .i64 0, .bool false]) ∧ Below X.heap.size X w') := fun X => by
              have h := rfirst_any rest hlb X
              rw [hf, hRS] at h
              exact h
            have HNn := hidK (HNo.out (last_none hre hf))
            clear hf hlb HNo hRS hre hrl
            go_wp2_with fail
            refine (HFi.out _).mono ?_
            rintro e w5 ⟨rfl, hb5⟩
            have HR5 : Hid (Rd w w5 Z U m) := (by first | exact HRd.out.more hb5 | exact HRe.out.more hb5)
            clear hb5
            have u0 : w5.cell? ⟨U, 0, none⟩ = some (.int .i64 0) := cell_at HR5.out.k 0
            have v0 : w5.frozen? ⟨U, 0, none⟩ = false := free_at HR5.out.k 0
            have HKx := hidK (HR5.out.code 0).1
            have HUx := hidK (HR5.out.code 0).2
            obtain ⟨X5, hX5⟩ : ∃ X5, w5.setCell ⟨U, 0, none⟩ (.int .i64 0) = X5 := ⟨_, rfl⟩
            rw [hX5] at HKx HUx
            have t0 : X5.cell? ⟨U, 0, none⟩ = some (.int .i64 0) := cell_at HUx.out 0
            have t1 : X5.cell? ⟨U, 1, none⟩ = some (.int .i64 m) := cell_at HUx.out 1
            have z0 := HKx.out.c0
            have z1 := HKx.out.c1
            have f0 := HKx.out.f 0
            have f1 := HKx.out.f 1
            go_wp2_with fail
            refine key_end2 rfl HKx.out HZl.out rfl rfl fun X hX => ⟨?_, hX⟩
            rw [HNn.out]
            rfl
          | some p =>
            obtain ⟨c, n⟩ := p
            have HFi : Hid (∀ X, Calls Tryz.prog 95 #[.string RS] X fun r w' => r = .returned (.tuple #[.int .i64 c, .int .i64 n, .bool true]) ∧ Below X.heap.size X w') := fun X => by
              have h := rfirst_any rest hlb X
              rw [hf, hRS] at h
              exact h
            have hlf2 : lastF l = if n = rest.length ∧ hitB l (c, m) = true then some (c, m) else none := last_some hre hf
            rw [hRn] at hlf2
            clear hf hlb hre hrl
            by_cases hnR : n = Rn
            · have i5 : (n : Int) = (Rn : Int) := by omega
              have HVc := hidK (rvalid_any c m)
              obtain ⟨vb, hv⟩ : ∃ vb, validB c m = vb := ⟨_, rfl⟩
              cases vb with
              | false =>
                have HNn := hidK (HNo.out (last_miss hlf2 (hit_v hv)))
                rw [hv] at HVc
                clear hlf2 hv HNo hRS
                go_wp2_with fail
                refine (HFi.out _).mono ?_
                rintro e w5 ⟨rfl, hb5⟩
                have HR5 : Hid (Rd w w5 Z U m) := (by first | exact HRd.out.more hb5 | exact HRe.out.more hb5)
                clear hb5
                have u0 : w5.cell? ⟨U, 0, none⟩ = some (.int .i64 0) := cell_at HR5.out.k 0
                have v0 : w5.frozen? ⟨U, 0, none⟩ = false := free_at HR5.out.k 0
                have HKx := hidK (HR5.out.code c).1
                have HUx := hidK (HR5.out.code c).2
                obtain ⟨X5, hX5⟩ : ∃ X5, w5.setCell ⟨U, 0, none⟩ (.int .i64 c) = X5 := ⟨_, rfl⟩
                rw [hX5] at HKx HUx
                have t0 : X5.cell? ⟨U, 0, none⟩ = some (.int .i64 c) := cell_at HUx.out 0
                have t1 : X5.cell? ⟨U, 1, none⟩ = some (.int .i64 m) := cell_at HUx.out 1
                go_wp2_with fail
                refine (HVc.out _).mono ?_
                rintro e w6 ⟨rfl, hb6⟩
                have HK6 := hidK (HKx.out.more hb6)
                clear hb6
                have z0 := HK6.out.c0
                have z1 := HK6.out.c1
                have f0 := HK6.out.f 0
                have f1 := HK6.out.f 1
                go_wp2_with fail
                refine key_end2 rfl HK6.out HZl.out rfl rfl fun X hX => ⟨?_, hX⟩
                rw [HNn.out]
                rfl
              | true =>
                have HNc := hidK (rname_any c m)
                obtain ⟨N, hN⟩ : ∃ N, str (nameF c m) = N := ⟨_, rfl⟩
                rw [hv] at HVc
                rw [hN] at HNc
                by_cases hn : nameF c m = l
                · have y1 : (N.toList == T.toList) = true := by rw [← hN, hn, HTT.out]; simp
                  have HHi : Hid (R = .tuple #[.agg #[.int .i64 c, .int .i64 m], .int .i64 0]) := by
                    show R = _
                    rw [← HR.out]; unfold rdV; rw [← HLa.out, last_hit hlf2 hnR (hit_y hv hn)]
                  clear hlf2 hv HNo hRS hN hn
                  go_wp2_with fail
                  refine (HFi.out _).mono ?_
                  rintro e w5 ⟨rfl, hb5⟩
                  have HR5 : Hid (Rd w w5 Z U m) := (by first | exact HRd.out.more hb5 | exact HRe.out.more hb5)
                  clear hb5
                  have u0 : w5.cell? ⟨U, 0, none⟩ = some (.int .i64 0) := cell_at HR5.out.k 0
                  have v0 : w5.frozen? ⟨U, 0, none⟩ = false := free_at HR5.out.k 0
                  have HKx := hidK (HR5.out.code c).1
                  have HUx := hidK (HR5.out.code c).2
                  obtain ⟨X5, hX5⟩ : ∃ X5, w5.setCell ⟨U, 0, none⟩ (.int .i64 c) = X5 := ⟨_, rfl⟩
                  rw [hX5] at HKx HUx
                  have t0 : X5.cell? ⟨U, 0, none⟩ = some (.int .i64 c) := cell_at HUx.out 0
                  have t1 : X5.cell? ⟨U, 1, none⟩ = some (.int .i64 m) := cell_at HUx.out 1
                  go_wp2_with fail
                  refine (HVc.out _).mono ?_
                  rintro e w6 ⟨rfl, hb6⟩
                  have HK6 := hidK (HKx.out.more hb6)
                  have HU6 := hidK ((hb6.block U (lt_block HUx.out)).trans HUx.out)
                  clear hb6
                  have s0 : w6.cell? ⟨U, 0, none⟩ = some (.int .i64 c) := cell_at HU6.out 0
                  have s1 : w6.cell? ⟨U, 1, none⟩ = some (.int .i64 m) := cell_at HU6.out 1
                  go_wp2_with fail
                  refine (HNc.out _).mono ?_
                  rintro e w7 ⟨rfl, hb7⟩
                  have HK7 := hidK (HK6.out.more hb7)
                  have HU7 := hidK ((hb7.block U (lt_block HU6.out)).trans HU6.out)
                  clear hb7
                  have r0 : w7.cell? ⟨U, 0, none⟩ = some (.int .i64 c) := cell_at HU7.out 0
                  have r1 : w7.cell? ⟨U, 1, none⟩ = some (.int .i64 m) := cell_at HU7.out 1
                  have z0 := HK7.out.c0
                  have z1 := HK7.out.c1
                  have f0 := HK7.out.f 0
                  have f1 := HK7.out.f 1
                  go_wp2_with fail
                  refine key_end2 rfl HK7.out HZl.out rfl rfl fun X hX => ⟨?_, hX⟩
                  rw [HHi.out]
                  rfl
                · have y1 : (N.toList == T.toList) = false := by rw [← hN, ← HTT.out, str_toList, str_toList]; simpa using hn
                  have HNn := hidK (HNo.out (last_miss hlf2 (hit_n hn)))
                  clear hlf2 hv HNo hRS hN hn
                  go_wp2_with fail
                  refine (HFi.out _).mono ?_
                  rintro e w5 ⟨rfl, hb5⟩
                  have HR5 : Hid (Rd w w5 Z U m) := (by first | exact HRd.out.more hb5 | exact HRe.out.more hb5)
                  clear hb5
                  have u0 : w5.cell? ⟨U, 0, none⟩ = some (.int .i64 0) := cell_at HR5.out.k 0
                  have v0 : w5.frozen? ⟨U, 0, none⟩ = false := free_at HR5.out.k 0
                  have HKx := hidK (HR5.out.code c).1
                  have HUx := hidK (HR5.out.code c).2
                  obtain ⟨X5, hX5⟩ : ∃ X5, w5.setCell ⟨U, 0, none⟩ (.int .i64 c) = X5 := ⟨_, rfl⟩
                  rw [hX5] at HKx HUx
                  have t0 : X5.cell? ⟨U, 0, none⟩ = some (.int .i64 c) := cell_at HUx.out 0
                  have t1 : X5.cell? ⟨U, 1, none⟩ = some (.int .i64 m) := cell_at HUx.out 1
                  go_wp2_with fail
                  refine (HVc.out _).mono ?_
                  rintro e w6 ⟨rfl, hb6⟩
                  have HK6 := hidK (HKx.out.more hb6)
                  have HU6 := hidK ((hb6.block U (lt_block HUx.out)).trans HUx.out)
                  clear hb6
                  have s0 : w6.cell? ⟨U, 0, none⟩ = some (.int .i64 c) := cell_at HU6.out 0
                  have s1 : w6.cell? ⟨U, 1, none⟩ = some (.int .i64 m) := cell_at HU6.out 1
                  go_wp2_with fail
                  refine (HNc.out _).mono ?_
                  rintro e w7 ⟨rfl, hb7⟩
                  have HK7 := hidK (HK6.out.more hb7)
                  clear hb7
                  have z0 := HK7.out.c0
                  have z1 := HK7.out.c1
                  have f0 := HK7.out.f 0
                  have f1 := HK7.out.f 1
                  go_wp2_with fail
                  refine key_end2 rfl HK7.out HZl.out rfl rfl fun X hX => ⟨?_, hX⟩
                  rw [HNn.out]
                  rfl
            · have i5 : ¬ (n : Int) = (Rn : Int) := by omega
              have HNn := hidK (HNo.out (last_far hlf2 hnR))
              clear hlf2 HNo hRS
              go_wp2_with fail
              refine (HFi.out _).mono ?_
              rintro e w5 ⟨rfl, hb5⟩
              have HR5 : Hid (Rd w w5 Z U m) := (by first | exact HRd.out.more hb5 | exact HRe.out.more hb5)
              clear hb5
              have u0 : w5.cell? ⟨U, 0, none⟩ = some (.int .i64 0) := cell_at HR5.out.k 0
              have v0 : w5.frozen? ⟨U, 0, none⟩ = false := free_at HR5.out.k 0
              have HKx := hidK (HR5.out.code c).1
              have HUx := hidK (HR5.out.code c).2
              obtain ⟨X5, hX5⟩ : ∃ X5, w5.setCell ⟨U, 0, none⟩ (.int .i64 c) = X5 := ⟨_, rfl⟩
              rw [hX5] at HKx HUx
              have t0 : X5.cell? ⟨U, 0, none⟩ = some (.int .i64 c) := cell_at HUx.out 0
              have t1 : X5.cell? ⟨U, 1, none⟩ = some (.int .i64 m) := cell_at HUx.out 1
              have z0 := HKx.out.c0
              have z1 := HKx.out.c1
              have f0 := HKx.out.f 0
              have f1 := HKx.out.f 1
              go_wp2_with fail
              refine key_end2 rfl HKx.out HZl.out rfl rfl fun X hX => ⟨?_, hX⟩
              rw [HNn.out]
              rfl
        · have y2 : (S2.toList == [77, 45]) = false := by rw [← hS2, str_toList]; simpa using hM
          have y3 : ¬ S2.toList = [77, 45] := by rw [← hS2, str_toList]; exact hM
          obtain ⟨rest, hrest⟩ : ∃ r, l = r := ⟨_, rfl⟩
          have hre : restF l = (rest, 0) := by unfold restF; rw [if_neg (fun h => hM h.2), hrest]
          have hRS : str rest = T := by rw [← hrest, HTT.out]
          have hRn : rest.length = Nn := by rw [← hrest, hNn]
          have hrl : rest.length ≤ 140737488355328 := by rw [← hrest]; exact hl
          obtain ⟨m, HRd, hre⟩ : ∃ m : Int, Hid (Rd w (wr.alloc (.cells #[.int .i64 0, .int .i64 0] 115)) Z U m) ∧ restF l = (rest, m) := ⟨0, HRz.out 0, hre⟩
          have HRe := hidK HRd.out
          clear hM hrest hS2 HRz
          have HNo : Hid (lastF l = none → R = .tuple #[.agg #[.int .i64 0, .int .i64 0], .int .i64 210]) := fun h => by rw [← HR.out]; unfold rdV; rw [← HLa.out, h]
          have hlb : rest.length ≤ 140737488355328 := hrl
          obtain ⟨fo, hf⟩ : ∃ fo, firstF rest = fo := ⟨_, rfl⟩
          cases fo with
          | none =>
            have HFi : Hid (∀ X, Calls Tryz.prog 95 #[.string T] X fun r w' => r = .returned (.tuple #[.int .i64 0, .int .i64 0, .bool false]) ∧ Below X.heap.size X w') := fun X => by
              have h := rfirst_any rest hlb X
              rw [hf, hRS] at h
              exact h
            have HNn := hidK (HNo.out (last_none hre hf))
            clear hf hlb HNo hRS hre hrl
            go_wp2_with fail
            refine (HFi.out _).mono ?_
            rintro e w5 ⟨rfl, hb5⟩
            have HR5 : Hid (Rd w w5 Z U m) := (by first | exact HRd.out.more hb5 | exact HRe.out.more hb5)
            clear hb5
            have u0 : w5.cell? ⟨U, 0, none⟩ = some (.int .i64 0) := cell_at HR5.out.k 0
            have v0 : w5.frozen? ⟨U, 0, none⟩ = false := free_at HR5.out.k 0
            have HKx := hidK (HR5.out.code 0).1
            have HUx := hidK (HR5.out.code 0).2
            obtain ⟨X5, hX5⟩ : ∃ X5, w5.setCell ⟨U, 0, none⟩ (.int .i64 0) = X5 := ⟨_, rfl⟩
            rw [hX5] at HKx HUx
            have t0 : X5.cell? ⟨U, 0, none⟩ = some (.int .i64 0) := cell_at HUx.out 0
            have t1 : X5.cell? ⟨U, 1, none⟩ = some (.int .i64 m) := cell_at HUx.out 1
            have z0 := HKx.out.c0
            have z1 := HKx.out.c1
            have f0 := HKx.out.f 0
            have f1 := HKx.out.f 1
            go_wp2_with fail
            refine key_end2 rfl HKx.out HZl.out rfl rfl fun X hX => ⟨?_, hX⟩
            rw [HNn.out]
            rfl
          | some p =>
            obtain ⟨c, n⟩ := p
            have HFi : Hid (∀ X, Calls Tryz.prog 95 #[.string T] X fun r w' => r = .returned (.tuple #[.int .i64 c, .int .i64 n, .bool true]) ∧ Below X.heap.size X w') := fun X => by
              have h := rfirst_any rest hlb X
              rw [hf, hRS] at h
              exact h
            have hlf2 : lastF l = if n = rest.length ∧ hitB l (c, m) = true then some (c, m) else none := last_some hre hf
            rw [hRn] at hlf2
            clear hf hlb hre hrl
            by_cases hnR : n = Nn
            · have i5 : (n : Int) = (Nn : Int) := by omega
              have HVc := hidK (rvalid_any c m)
              obtain ⟨vb, hv⟩ : ∃ vb, validB c m = vb := ⟨_, rfl⟩
              cases vb with
              | false =>
                have HNn := hidK (HNo.out (last_miss hlf2 (hit_v hv)))
                rw [hv] at HVc
                clear hlf2 hv HNo hRS
                go_wp2_with fail
                refine (HFi.out _).mono ?_
                rintro e w5 ⟨rfl, hb5⟩
                have HR5 : Hid (Rd w w5 Z U m) := (by first | exact HRd.out.more hb5 | exact HRe.out.more hb5)
                clear hb5
                have u0 : w5.cell? ⟨U, 0, none⟩ = some (.int .i64 0) := cell_at HR5.out.k 0
                have v0 : w5.frozen? ⟨U, 0, none⟩ = false := free_at HR5.out.k 0
                have HKx := hidK (HR5.out.code c).1
                have HUx := hidK (HR5.out.code c).2
                obtain ⟨X5, hX5⟩ : ∃ X5, w5.setCell ⟨U, 0, none⟩ (.int .i64 c) = X5 := ⟨_, rfl⟩
                rw [hX5] at HKx HUx
                have t0 : X5.cell? ⟨U, 0, none⟩ = some (.int .i64 c) := cell_at HUx.out 0
                have t1 : X5.cell? ⟨U, 1, none⟩ = some (.int .i64 m) := cell_at HUx.out 1
                go_wp2_with fail
                refine (HVc.out _).mono ?_
                rintro e w6 ⟨rfl, hb6⟩
                have HK6 := hidK (HKx.out.more hb6)
                clear hb6
                have z0 := HK6.out.c0
                have z1 := HK6.out.c1
                have f0 := HK6.out.f 0
                have f1 := HK6.out.f 1
                go_wp2_with fail
                refine key_end2 rfl HK6.out HZl.out rfl rfl fun X hX => ⟨?_, hX⟩
                rw [HNn.out]
                rfl
              | true =>
                have HNc := hidK (rname_any c m)
                obtain ⟨N, hN⟩ : ∃ N, str (nameF c m) = N := ⟨_, rfl⟩
                rw [hv] at HVc
                rw [hN] at HNc
                by_cases hn : nameF c m = l
                · have y1 : (N.toList == T.toList) = true := by rw [← hN, hn, HTT.out]; simp
                  have HHi : Hid (R = .tuple #[.agg #[.int .i64 c, .int .i64 m], .int .i64 0]) := by
                    show R = _
                    rw [← HR.out]; unfold rdV; rw [← HLa.out, last_hit hlf2 hnR (hit_y hv hn)]
                  clear hlf2 hv HNo hRS hN hn
                  go_wp2_with fail
                  refine (HFi.out _).mono ?_
                  rintro e w5 ⟨rfl, hb5⟩
                  have HR5 : Hid (Rd w w5 Z U m) := (by first | exact HRd.out.more hb5 | exact HRe.out.more hb5)
                  clear hb5
                  have u0 : w5.cell? ⟨U, 0, none⟩ = some (.int .i64 0) := cell_at HR5.out.k 0
                  have v0 : w5.frozen? ⟨U, 0, none⟩ = false := free_at HR5.out.k 0
                  have HKx := hidK (HR5.out.code c).1
                  have HUx := hidK (HR5.out.code c).2
                  obtain ⟨X5, hX5⟩ : ∃ X5, w5.setCell ⟨U, 0, none⟩ (.int .i64 c) = X5 := ⟨_, rfl⟩
                  rw [hX5] at HKx HUx
                  have t0 : X5.cell? ⟨U, 0, none⟩ = some (.int .i64 c) := cell_at HUx.out 0
                  have t1 : X5.cell? ⟨U, 1, none⟩ = some (.int .i64 m) := cell_at HUx.out 1
                  go_wp2_with fail
                  refine (HVc.out _).mono ?_
                  rintro e w6 ⟨rfl, hb6⟩
                  have HK6 := hidK (HKx.out.more hb6)
                  have HU6 := hidK ((hb6.block U (lt_block HUx.out)).trans HUx.out)
                  clear hb6
                  have s0 : w6.cell? ⟨U, 0, none⟩ = some (.int .i64 c) := cell_at HU6.out 0
                  have s1 : w6.cell? ⟨U, 1, none⟩ = some (.int .i64 m) := cell_at HU6.out 1
                  go_wp2_with fail
                  refine (HNc.out _).mono ?_
                  rintro e w7 ⟨rfl, hb7⟩
                  have HK7 := hidK (HK6.out.more hb7)
                  have HU7 := hidK ((hb7.block U (lt_block HU6.out)).trans HU6.out)
                  clear hb7
                  have r0 : w7.cell? ⟨U, 0, none⟩ = some (.int .i64 c) := cell_at HU7.out 0
                  have r1 : w7.cell? ⟨U, 1, none⟩ = some (.int .i64 m) := cell_at HU7.out 1
                  have z0 := HK7.out.c0
                  have z1 := HK7.out.c1
                  have f0 := HK7.out.f 0
                  have f1 := HK7.out.f 1
                  go_wp2_with fail
                  refine key_end2 rfl HK7.out HZl.out rfl rfl fun X hX => ⟨?_, hX⟩
                  rw [HHi.out]
                  rfl
                · have y1 : (N.toList == T.toList) = false := by rw [← hN, ← HTT.out, str_toList, str_toList]; simpa using hn
                  have HNn := hidK (HNo.out (last_miss hlf2 (hit_n hn)))
                  clear hlf2 hv HNo hRS hN hn
                  go_wp2_with fail
                  refine (HFi.out _).mono ?_
                  rintro e w5 ⟨rfl, hb5⟩
                  have HR5 : Hid (Rd w w5 Z U m) := (by first | exact HRd.out.more hb5 | exact HRe.out.more hb5)
                  clear hb5
                  have u0 : w5.cell? ⟨U, 0, none⟩ = some (.int .i64 0) := cell_at HR5.out.k 0
                  have v0 : w5.frozen? ⟨U, 0, none⟩ = false := free_at HR5.out.k 0
                  have HKx := hidK (HR5.out.code c).1
                  have HUx := hidK (HR5.out.code c).2
                  obtain ⟨X5, hX5⟩ : ∃ X5, w5.setCell ⟨U, 0, none⟩ (.int .i64 c) = X5 := ⟨_, rfl⟩
                  rw [hX5] at HKx HUx
                  have t0 : X5.cell? ⟨U, 0, none⟩ = some (.int .i64 c) := cell_at HUx.out 0
                  have t1 : X5.cell? ⟨U, 1, none⟩ = some (.int .i64 m) := cell_at HUx.out 1
                  go_wp2_with fail
                  refine (HVc.out _).mono ?_
                  rintro e w6 ⟨rfl, hb6⟩
                  have HK6 := hidK (HKx.out.more hb6)
                  have HU6 := hidK ((hb6.block U (lt_block HUx.out)).trans HUx.out)
                  clear hb6
                  have s0 : w6.cell? ⟨U, 0, none⟩ = some (.int .i64 c) := cell_at HU6.out 0
                  have s1 : w6.cell? ⟨U, 1, none⟩ = some (.int .i64 m) := cell_at HU6.out 1
                  go_wp2_with fail
                  refine (HNc.out _).mono ?_
                  rintro e w7 ⟨rfl, hb7⟩
                  have HK7 := hidK (HK6.out.more hb7)
                  clear hb7
                  have z0 := HK7.out.c0
                  have z1 := HK7.out.c1
                  have f0 := HK7.out.f 0
                  have f1 := HK7.out.f 1
                  go_wp2_with fail
                  refine key_end2 rfl HK7.out HZl.out rfl rfl fun X hX => ⟨?_, hX⟩
                  rw [HNn.out]
                  rfl
            · have i5 : ¬ (n : Int) = (Nn : Int) := by omega
              have HNn := hidK (HNo.out (last_far hlf2 hnR))
              clear hlf2 HNo hRS
              go_wp2_with fail
              refine (HFi.out _).mono ?_
              rintro e w5 ⟨rfl, hb5⟩
              have HR5 : Hid (Rd w w5 Z U m) := (by first | exact HRd.out.more hb5 | exact HRe.out.more hb5)
              clear hb5
              have u0 : w5.cell? ⟨U, 0, none⟩ = some (.int .i64 0) := cell_at HR5.out.k 0
              have v0 : w5.frozen? ⟨U, 0, none⟩ = false := free_at HR5.out.k 0
              have HKx := hidK (HR5.out.code c).1
              have HUx := hidK (HR5.out.code c).2
              obtain ⟨X5, hX5⟩ : ∃ X5, w5.setCell ⟨U, 0, none⟩ (.int .i64 c) = X5 := ⟨_, rfl⟩
              rw [hX5] at HKx HUx
              have t0 : X5.cell? ⟨U, 0, none⟩ = some (.int .i64 c) := cell_at HUx.out 0
              have t1 : X5.cell? ⟨U, 1, none⟩ = some (.int .i64 m) := cell_at HUx.out 1
              have z0 := HKx.out.c0
              have z1 := HKx.out.c1
              have f0 := HKx.out.f 0
              have f1 := HKx.out.f 1
              go_wp2_with fail
              refine key_end2 rfl HKx.out HZl.out rfl rfl fun X hX => ⟨?_, hX⟩
              rw [HNn.out]
              rfl
      · have i2 : ¬ (2 : Int) < (Nn : Int) := by omega
        obtain ⟨rest, hrest⟩ : ∃ r, l = r := ⟨_, rfl⟩
        have hre : restF l = (rest, 0) := by unfold restF; rw [if_neg (fun h => by have := h.1; omega), hrest]
        have hRS : str rest = T := by rw [← hrest, HTT.out]
        have hRn : rest.length = Nn := by rw [← hrest, hNn]
        have hrl : rest.length ≤ 140737488355328 := by rw [← hrest]; exact hl
        obtain ⟨m, HRd, hre⟩ : ∃ m : Int, Hid (Rd w (wr.alloc (.cells #[.int .i64 0, .int .i64 0] 115)) Z U m) ∧ restF l = (rest, m) := ⟨0, HRz.out 0, hre⟩
        have HRe := hidK HRd.out
        clear hrest HRz
        have HNo : Hid (lastF l = none → R = .tuple #[.agg #[.int .i64 0, .int .i64 0], .int .i64 210]) := fun h => by rw [← HR.out]; unfold rdV; rw [← HLa.out, h]
        have hlb : rest.length ≤ 140737488355328 := hrl
        obtain ⟨fo, hf⟩ : ∃ fo, firstF rest = fo := ⟨_, rfl⟩
        cases fo with
        | none =>
          have HFi : Hid (∀ X, Calls Tryz.prog 95 #[.string T] X fun r w' => r = .returned (.tuple #[.int .i64 0, .int .i64 0, .bool false]) ∧ Below X.heap.size X w') := fun X => by
            have h := rfirst_any rest hlb X
            rw [hf, hRS] at h
            exact h
          have HNn := hidK (HNo.out (last_none hre hf))
          clear hf hlb HNo hRS hre hrl
          go_wp2_with fail
          refine (HFi.out _).mono ?_
          rintro e w5 ⟨rfl, hb5⟩
          have HR5 : Hid (Rd w w5 Z U m) := (by first | exact HRd.out.more hb5 | exact HRe.out.more hb5)
          clear hb5
          have u0 : w5.cell? ⟨U, 0, none⟩ = some (.int .i64 0) := cell_at HR5.out.k 0
          have v0 : w5.frozen? ⟨U, 0, none⟩ = false := free_at HR5.out.k 0
          have HKx := hidK (HR5.out.code 0).1
          have HUx := hidK (HR5.out.code 0).2
          obtain ⟨X5, hX5⟩ : ∃ X5, w5.setCell ⟨U, 0, none⟩ (.int .i64 0) = X5 := ⟨_, rfl⟩
          rw [hX5] at HKx HUx
          have t0 : X5.cell? ⟨U, 0, none⟩ = some (.int .i64 0) := cell_at HUx.out 0
          have t1 : X5.cell? ⟨U, 1, none⟩ = some (.int .i64 m) := cell_at HUx.out 1
          have z0 := HKx.out.c0
          have z1 := HKx.out.c1
          have f0 := HKx.out.f 0
          have f1 := HKx.out.f 1
          go_wp2_with fail
          refine key_end2 rfl HKx.out HZl.out rfl rfl fun X hX => ⟨?_, hX⟩
          rw [HNn.out]
          rfl
        | some p =>
          obtain ⟨c, n⟩ := p
          have HFi : Hid (∀ X, Calls Tryz.prog 95 #[.string T] X fun r w' => r = .returned (.tuple #[.int .i64 c, .int .i64 n, .bool true]) ∧ Below X.heap.size X w') := fun X => by
            have h := rfirst_any rest hlb X
            rw [hf, hRS] at h
            exact h
          have hlf2 : lastF l = if n = rest.length ∧ hitB l (c, m) = true then some (c, m) else none := last_some hre hf
          rw [hRn] at hlf2
          clear hf hlb hre hrl
          by_cases hnR : n = Nn
          · have i5 : (n : Int) = (Nn : Int) := by omega
            have HVc := hidK (rvalid_any c m)
            obtain ⟨vb, hv⟩ : ∃ vb, validB c m = vb := ⟨_, rfl⟩
            cases vb with
            | false =>
              have HNn := hidK (HNo.out (last_miss hlf2 (hit_v hv)))
              rw [hv] at HVc
              clear hlf2 hv HNo hRS
              go_wp2_with fail
              refine (HFi.out _).mono ?_
              rintro e w5 ⟨rfl, hb5⟩
              have HR5 : Hid (Rd w w5 Z U m) := (by first | exact HRd.out.more hb5 | exact HRe.out.more hb5)
              clear hb5
              have u0 : w5.cell? ⟨U, 0, none⟩ = some (.int .i64 0) := cell_at HR5.out.k 0
              have v0 : w5.frozen? ⟨U, 0, none⟩ = false := free_at HR5.out.k 0
              have HKx := hidK (HR5.out.code c).1
              have HUx := hidK (HR5.out.code c).2
              obtain ⟨X5, hX5⟩ : ∃ X5, w5.setCell ⟨U, 0, none⟩ (.int .i64 c) = X5 := ⟨_, rfl⟩
              rw [hX5] at HKx HUx
              have t0 : X5.cell? ⟨U, 0, none⟩ = some (.int .i64 c) := cell_at HUx.out 0
              have t1 : X5.cell? ⟨U, 1, none⟩ = some (.int .i64 m) := cell_at HUx.out 1
              go_wp2_with fail
              refine (HVc.out _).mono ?_
              rintro e w6 ⟨rfl, hb6⟩
              have HK6 := hidK (HKx.out.more hb6)
              clear hb6
              have z0 := HK6.out.c0
              have z1 := HK6.out.c1
              have f0 := HK6.out.f 0
              have f1 := HK6.out.f 1
              go_wp2_with fail
              refine key_end2 rfl HK6.out HZl.out rfl rfl fun X hX => ⟨?_, hX⟩
              rw [HNn.out]
              rfl
            | true =>
              have HNc := hidK (rname_any c m)
              obtain ⟨N, hN⟩ : ∃ N, str (nameF c m) = N := ⟨_, rfl⟩
              rw [hv] at HVc
              rw [hN] at HNc
              by_cases hn : nameF c m = l
              · have y1 : (N.toList == T.toList) = true := by rw [← hN, hn, HTT.out]; simp
                have HHi : Hid (R = .tuple #[.agg #[.int .i64 c, .int .i64 m], .int .i64 0]) := by
                  show R = _
                  rw [← HR.out]; unfold rdV; rw [← HLa.out, last_hit hlf2 hnR (hit_y hv hn)]
                clear hlf2 hv HNo hRS hN hn
                go_wp2_with fail
                refine (HFi.out _).mono ?_
                rintro e w5 ⟨rfl, hb5⟩
                have HR5 : Hid (Rd w w5 Z U m) := (by first | exact HRd.out.more hb5 | exact HRe.out.more hb5)
                clear hb5
                have u0 : w5.cell? ⟨U, 0, none⟩ = some (.int .i64 0) := cell_at HR5.out.k 0
                have v0 : w5.frozen? ⟨U, 0, none⟩ = false := free_at HR5.out.k 0
                have HKx := hidK (HR5.out.code c).1
                have HUx := hidK (HR5.out.code c).2
                obtain ⟨X5, hX5⟩ : ∃ X5, w5.setCell ⟨U, 0, none⟩ (.int .i64 c) = X5 := ⟨_, rfl⟩
                rw [hX5] at HKx HUx
                have t0 : X5.cell? ⟨U, 0, none⟩ = some (.int .i64 c) := cell_at HUx.out 0
                have t1 : X5.cell? ⟨U, 1, none⟩ = some (.int .i64 m) := cell_at HUx.out 1
                go_wp2_with fail
                refine (HVc.out _).mono ?_
                rintro e w6 ⟨rfl, hb6⟩
                have HK6 := hidK (HKx.out.more hb6)
                have HU6 := hidK ((hb6.block U (lt_block HUx.out)).trans HUx.out)
                clear hb6
                have s0 : w6.cell? ⟨U, 0, none⟩ = some (.int .i64 c) := cell_at HU6.out 0
                have s1 : w6.cell? ⟨U, 1, none⟩ = some (.int .i64 m) := cell_at HU6.out 1
                go_wp2_with fail
                refine (HNc.out _).mono ?_
                rintro e w7 ⟨rfl, hb7⟩
                have HK7 := hidK (HK6.out.more hb7)
                have HU7 := hidK ((hb7.block U (lt_block HU6.out)).trans HU6.out)
                clear hb7
                have r0 : w7.cell? ⟨U, 0, none⟩ = some (.int .i64 c) := cell_at HU7.out 0
                have r1 : w7.cell? ⟨U, 1, none⟩ = some (.int .i64 m) := cell_at HU7.out 1
                have z0 := HK7.out.c0
                have z1 := HK7.out.c1
                have f0 := HK7.out.f 0
                have f1 := HK7.out.f 1
                go_wp2_with fail
                refine key_end2 rfl HK7.out HZl.out rfl rfl fun X hX => ⟨?_, hX⟩
                rw [HHi.out]
                rfl
              · have y1 : (N.toList == T.toList) = false := by rw [← hN, ← HTT.out, str_toList, str_toList]; simpa using hn
                have HNn := hidK (HNo.out (last_miss hlf2 (hit_n hn)))
                clear hlf2 hv HNo hRS hN hn
                go_wp2_with fail
                refine (HFi.out _).mono ?_
                rintro e w5 ⟨rfl, hb5⟩
                have HR5 : Hid (Rd w w5 Z U m) := (by first | exact HRd.out.more hb5 | exact HRe.out.more hb5)
                clear hb5
                have u0 : w5.cell? ⟨U, 0, none⟩ = some (.int .i64 0) := cell_at HR5.out.k 0
                have v0 : w5.frozen? ⟨U, 0, none⟩ = false := free_at HR5.out.k 0
                have HKx := hidK (HR5.out.code c).1
                have HUx := hidK (HR5.out.code c).2
                obtain ⟨X5, hX5⟩ : ∃ X5, w5.setCell ⟨U, 0, none⟩ (.int .i64 c) = X5 := ⟨_, rfl⟩
                rw [hX5] at HKx HUx
                have t0 : X5.cell? ⟨U, 0, none⟩ = some (.int .i64 c) := cell_at HUx.out 0
                have t1 : X5.cell? ⟨U, 1, none⟩ = some (.int .i64 m) := cell_at HUx.out 1
                go_wp2_with fail
                refine (HVc.out _).mono ?_
                rintro e w6 ⟨rfl, hb6⟩
                have HK6 := hidK (HKx.out.more hb6)
                have HU6 := hidK ((hb6.block U (lt_block HUx.out)).trans HUx.out)
                clear hb6
                have s0 : w6.cell? ⟨U, 0, none⟩ = some (.int .i64 c) := cell_at HU6.out 0
                have s1 : w6.cell? ⟨U, 1, none⟩ = some (.int .i64 m) := cell_at HU6.out 1
                go_wp2_with fail
                refine (HNc.out _).mono ?_
                rintro e w7 ⟨rfl, hb7⟩
                have HK7 := hidK (HK6.out.more hb7)
                clear hb7
                have z0 := HK7.out.c0
                have z1 := HK7.out.c1
                have f0 := HK7.out.f 0
                have f1 := HK7.out.f 1
                go_wp2_with fail
                refine key_end2 rfl HK7.out HZl.out rfl rfl fun X hX => ⟨?_, hX⟩
                rw [HNn.out]
                rfl
          · have i5 : ¬ (n : Int) = (Nn : Int) := by omega
            have HNn := hidK (HNo.out (last_far hlf2 hnR))
            clear hlf2 HNo hRS
            go_wp2_with fail
            refine (HFi.out _).mono ?_
            rintro e w5 ⟨rfl, hb5⟩
            have HR5 : Hid (Rd w w5 Z U m) := (by first | exact HRd.out.more hb5 | exact HRe.out.more hb5)
            clear hb5
            have u0 : w5.cell? ⟨U, 0, none⟩ = some (.int .i64 0) := cell_at HR5.out.k 0
            have v0 : w5.frozen? ⟨U, 0, none⟩ = false := free_at HR5.out.k 0
            have HKx := hidK (HR5.out.code c).1
            have HUx := hidK (HR5.out.code c).2
            obtain ⟨X5, hX5⟩ : ∃ X5, w5.setCell ⟨U, 0, none⟩ (.int .i64 c) = X5 := ⟨_, rfl⟩
            rw [hX5] at HKx HUx
            have t0 : X5.cell? ⟨U, 0, none⟩ = some (.int .i64 c) := cell_at HUx.out 0
            have t1 : X5.cell? ⟨U, 1, none⟩ = some (.int .i64 m) := cell_at HUx.out 1
            have z0 := HKx.out.c0
            have z1 := HKx.out.c1
            have f0 := HKx.out.f 0
            have f1 := HKx.out.f 1
            go_wp2_with fail
            refine key_end2 rfl HKx.out HZl.out rfl rfl fun X hX => ⟨?_, hX⟩
            rw [HNn.out]
            rfl
end Go.Proofs.YtgdkpmfdpfjdjaaGreatDoor
