/-
  Keys: a key's name, by the document.
  Keys: a special key's name, by the document.
-/
import Derived.Test.YtbonnjilbocldaaGreatDoorKRefV
import Derived.Test.YtbonnjilbocldaaGreatDoorHD
import Derived.Test.YtbonnjilbocldaaGreatDoorKRefU
import Derived.RegionTactic
import Derived.BigRegion
namespace Go.Proofs.YtbonnjilbocldaaGreatDoor
open Go.RowKit
set_option linter.unusedVariables false
set_option maxRecDepth 100000

def wordsL : List (List UInt8) := [[85, 112], [68, 111, 119, 110], [82, 105, 103, 104, 116], [76, 101, 102, 116], [72, 111, 109, 101], [69, 110, 100], [73, 110, 115, 101, 114, 116], [68, 101, 108, 101, 116, 101], [80, 97, 103, 101, 85, 112], [80, 97, 103, 101, 68, 111, 119, 110], [70, 49], [70, 50], [70, 51], [70, 52], [70, 53], [70, 54], [70, 55], [70, 56], [70, 57], [70, 49, 48], [70, 49, 49], [70, 49, 50], [66, 84, 97, 98]]
theorem words_at : ∀ k : Fin 23, ∃ x, wordsL[k.val]? = some x ∧ x.length ≤ 9 ∧ (#[.string ⟨#[85, 112]⟩, .string ⟨#[68, 111, 119, 110]⟩, .string ⟨#[82, 105, 103, 104, 116]⟩, .string ⟨#[76, 101, 102, 116]⟩, .string ⟨#[72, 111, 109, 101]⟩, .string ⟨#[69, 110, 100]⟩, .string ⟨#[73, 110, 115, 101, 114, 116]⟩, .string ⟨#[68, 101, 108, 101, 116, 101]⟩, .string ⟨#[80, 97, 103, 101, 85, 112]⟩, .string ⟨#[80, 97, 103, 101, 68, 111, 119, 110]⟩, .string ⟨#[70, 49]⟩, .string ⟨#[70, 50]⟩, .string ⟨#[70, 51]⟩, .string ⟨#[70, 52]⟩, .string ⟨#[70, 53]⟩, .string ⟨#[70, 54]⟩, .string ⟨#[70, 55]⟩, .string ⟨#[70, 56]⟩, .string ⟨#[70, 57]⟩, .string ⟨#[70, 49, 48]⟩, .string ⟨#[70, 49, 49]⟩, .string ⟨#[70, 49, 50]⟩, .string ⟨#[66, 84, 97, 98]⟩] : Array Value)[k.val]? = some (.string (str x)) := by
  intro k
  match k with
  | ⟨0, _⟩ => exact ⟨_, rfl, by decide, rfl⟩
  | ⟨1, _⟩ => exact ⟨_, rfl, by decide, rfl⟩
  | ⟨2, _⟩ => exact ⟨_, rfl, by decide, rfl⟩
  | ⟨3, _⟩ => exact ⟨_, rfl, by decide, rfl⟩
  | ⟨4, _⟩ => exact ⟨_, rfl, by decide, rfl⟩
  | ⟨5, _⟩ => exact ⟨_, rfl, by decide, rfl⟩
  | ⟨6, _⟩ => exact ⟨_, rfl, by decide, rfl⟩
  | ⟨7, _⟩ => exact ⟨_, rfl, by decide, rfl⟩
  | ⟨8, _⟩ => exact ⟨_, rfl, by decide, rfl⟩
  | ⟨9, _⟩ => exact ⟨_, rfl, by decide, rfl⟩
  | ⟨10, _⟩ => exact ⟨_, rfl, by decide, rfl⟩
  | ⟨11, _⟩ => exact ⟨_, rfl, by decide, rfl⟩
  | ⟨12, _⟩ => exact ⟨_, rfl, by decide, rfl⟩
  | ⟨13, _⟩ => exact ⟨_, rfl, by decide, rfl⟩
  | ⟨14, _⟩ => exact ⟨_, rfl, by decide, rfl⟩
  | ⟨15, _⟩ => exact ⟨_, rfl, by decide, rfl⟩
  | ⟨16, _⟩ => exact ⟨_, rfl, by decide, rfl⟩
  | ⟨17, _⟩ => exact ⟨_, rfl, by decide, rfl⟩
  | ⟨18, _⟩ => exact ⟨_, rfl, by decide, rfl⟩
  | ⟨19, _⟩ => exact ⟨_, rfl, by decide, rfl⟩
  | ⟨20, _⟩ => exact ⟨_, rfl, by decide, rfl⟩
  | ⟨21, _⟩ => exact ⟨_, rfl, by decide, rfl⟩
  | ⟨22, _⟩ => exact ⟨_, rfl, by decide, rfl⟩
  | ⟨k + 23, h⟩ => exact absurd h (by omega)
theorem words_bare {c : Int} {k : Nat} {x : List UInt8} (hc : c = 16777217 + (k : Int)) (hx : wordsL[k]? = some x) : bareF c = x := by
  have hk : k < 23 := (List.getElem?_eq_some_iff.1 hx).1
  subst hc
  rcases (by omega : k = 0 ∨ k = 1 ∨ k = 2 ∨ k = 3 ∨ k = 4 ∨ k = 5 ∨ k = 6 ∨ k = 7 ∨ k = 8 ∨ k = 9 ∨ k = 10 ∨ k = 11 ∨ k = 12 ∨ k = 13 ∨ k = 14 ∨ k = 15 ∨ k = 16 ∨ k = 17 ∨ k = 18 ∨ k = 19 ∨ k = 20 ∨ k = 21 ∨ k = 22) with h | h | h | h | h | h | h | h | h | h | h | h | h | h | h | h | h | h | h | h | h | h | h <;> subst h <;> (cases hx; rfl)
set_option maxHeartbeats 1000000 in
theorem rwords_any (w : World) : Calls Tryz.prog 99 #[] w fun r w' => r = .returned (.slice (some ⟨w.heap.size, 0, none⟩) 23 23) ∧ w' = w.alloc (.cells #[.string ⟨#[85, 112]⟩, .string ⟨#[68, 111, 119, 110]⟩, .string ⟨#[82, 105, 103, 104, 116]⟩, .string ⟨#[76, 101, 102, 116]⟩, .string ⟨#[72, 111, 109, 101]⟩, .string ⟨#[69, 110, 100]⟩, .string ⟨#[73, 110, 115, 101, 114, 116]⟩, .string ⟨#[68, 101, 108, 101, 116, 101]⟩, .string ⟨#[80, 97, 103, 101, 85, 112]⟩, .string ⟨#[80, 97, 103, 101, 68, 111, 119, 110]⟩, .string ⟨#[70, 49]⟩, .string ⟨#[70, 50]⟩, .string ⟨#[70, 51]⟩, .string ⟨#[70, 52]⟩, .string ⟨#[70, 53]⟩, .string ⟨#[70, 54]⟩, .string ⟨#[70, 55]⟩, .string ⟨#[70, 56]⟩, .string ⟨#[70, 57]⟩, .string ⟨#[70, 49, 48]⟩, .string ⟨#[70, 49, 49]⟩, .string ⟨#[70, 49, 50]⟩, .string ⟨#[66, 84, 97, 98]⟩] 9) := by
  go_enter Tryz.func99, Tryz.ntmps99
  go_wp2_with fail
  go_ret
  exact ⟨rfl, rfl⟩
/-- The k-th word. -/
theorem rwords_at (k : Nat) (hk : k < 23) (x : List UInt8) (hx : wordsL[k]? = some x) (w : World) : Calls Tryz.prog 99 #[] w fun r w' => ∃ g, r = .returned (.slice (some ⟨g, 0, none⟩) 23 23) ∧ Below w.heap.size w w' ∧ w'.cell? ⟨g, k, none⟩ = some (.string (str x)) := by
  refine (rwords_any w).mono ?_
  rintro e w' ⟨rfl, rfl⟩
  refine ⟨_, rfl, (Below.refl _ _).alloc (Nat.le_refl _) _, ?_⟩
  obtain ⟨x', h1, _, h2⟩ := words_at ⟨k, hk⟩
  have : x' = x := Option.some.inj (h1.symm.trans hx)
  subst this
  rw [cell_at (heap_alloc_new w _)]
  exact h2
set_option maxHeartbeats 8000000 in
theorem rname_at (c m : Int) (hv : validB c m = true) (hc : c = 32 ∨ c = 13 ∨ c = 9 ∨ c = 27 ∨ c = 127) (R : ByteArray) (hR : str (modF m ++ bareF c) = R) (w : World) : Calls Tryz.prog 71 #[.agg #[.int .i64 c, .int .i64 m]] w fun r w' => r = .returned (.string R) ∧ Below w.heap.size w w' := by
  obtain ⟨W, hW⟩ : ∃ W, w.alloc (.cells #[.int .i64 c, .int .i64 m] 23) = W := ⟨_, rfl⟩
  obtain ⟨K, hK⟩ : ∃ K, w.heap.size = K := ⟨_, rfl⟩
  have hk : Kb w W K c m := by rw [← hW, ← hK]; exact Kb.new w _ _
  have H := hidK hk
  have HK := hidK hK
  have k0 := hk.c0
  have k1 := hk.c1
  have HV : Hid (∀ X, Calls Tryz.prog 32 #[.agg #[.int .i64 c, .int .i64 m]] X fun r w' => r = .returned (.bool true) ∧ Below X.heap.size X w') := fun X => by rw [← hv]; exact rvalid_any c m X
  clear hk
  have hm : (c = 32 ∧ (m = 0 ∨ m = 2 ∨ m = 4 ∨ m = 6)) ∨ ((c = 13 ∨ c = 9 ∨ c = 27 ∨ c = 127) ∧ (m = 0 ∨ m = 2)) := by
    rcases hc with h | h | h | h | h
    · left
      subst h
      simp [validB, plainM, ctrlM] at hv
      exact ⟨rfl, by omega⟩
    all_goals
      right
      subst h
      simp [validB, oneB, plainM] at hv
      exact ⟨by simp, by omega⟩
  clear hv hc
  rcases hm with ⟨h, h'⟩ | ⟨h, h'⟩
  · subst h
    rcases h' with h | h | h | h
    · subst h
      have HR : Hid ((⟨#[83, 112, 97, 99, 101]⟩ : ByteArray) = R) := hR
      clear hR
      go_enter Tryz.func71, Tryz.ntmps71
      go_wp2_with fail
      refine (HV.out _).mono ?_
      rintro e w1 ⟨rfl, hb1⟩
      have H1 := hidK (H.out.more hb1)
      have a0 := H1.out.c0
      have a1 := H1.out.c1
      clear hb1 k0 k1
      go_wp2_with fail
      go_ret
      exact ⟨by rw [← HR.out]; rfl, by first | exact H1.out.below | (rw [← HK.out]; exact H1.out.below)⟩
    · subst h
      have HR : Hid ((⟨#[77, 45, 83, 112, 97, 99, 101]⟩ : ByteArray) = R) := hR
      clear hR
      go_enter Tryz.func71, Tryz.ntmps71
      go_wp2_with fail
      refine (HV.out _).mono ?_
      rintro e w1 ⟨rfl, hb1⟩
      have H1 := hidK (H.out.more hb1)
      have a0 := H1.out.c0
      have a1 := H1.out.c1
      clear hb1 k0 k1
      go_wp2_with fail
      go_ret
      exact ⟨by rw [← HR.out]; rfl, by first | exact H1.out.below | (rw [← HK.out]; exact H1.out.below)⟩
    · subst h
      have HR : Hid ((⟨#[67, 45, 83, 112, 97, 99, 101]⟩ : ByteArray) = R) := hR
      clear hR
      go_enter Tryz.func71, Tryz.ntmps71
      go_wp2_with fail
      refine (HV.out _).mono ?_
      rintro e w1 ⟨rfl, hb1⟩
      have H1 := hidK (H.out.more hb1)
      have a0 := H1.out.c0
      have a1 := H1.out.c1
      clear hb1 k0 k1
      go_wp2_with fail
      go_ret
      exact ⟨by rw [← HR.out]; rfl, by first | exact H1.out.below | (rw [← HK.out]; exact H1.out.below)⟩
    · subst h
      have HR : Hid ((⟨#[67, 45, 77, 45, 83, 112, 97, 99, 101]⟩ : ByteArray) = R) := hR
      clear hR
      go_enter Tryz.func71, Tryz.ntmps71
      go_wp2_with fail
      refine (HV.out _).mono ?_
      rintro e w1 ⟨rfl, hb1⟩
      have H1 := hidK (H.out.more hb1)
      have a0 := H1.out.c0
      have a1 := H1.out.c1
      clear hb1 k0 k1
      go_wp2_with fail
      go_ret
      exact ⟨by rw [← HR.out]; rfl, by first | exact H1.out.below | (rw [← HK.out]; exact H1.out.below)⟩
  · rcases h with h | h | h | h
    · subst h
      rcases h' with h | h
      · subst h
        have HR : Hid ((⟨#[69, 110, 116, 101, 114]⟩ : ByteArray) = R) := hR
        clear hR
        go_enter Tryz.func71, Tryz.ntmps71
        go_wp2_with fail
        refine (HV.out _).mono ?_
        rintro e w1 ⟨rfl, hb1⟩
        have H1 := hidK (H.out.more hb1)
        have a0 := H1.out.c0
        have a1 := H1.out.c1
        clear hb1 k0 k1
        go_wp2_with fail
        go_ret
        exact ⟨by rw [← HR.out]; rfl, by first | exact H1.out.below | (rw [← HK.out]; exact H1.out.below)⟩
      · subst h
        have HR : Hid ((⟨#[77, 45, 69, 110, 116, 101, 114]⟩ : ByteArray) = R) := hR
        clear hR
        go_enter Tryz.func71, Tryz.ntmps71
        go_wp2_with fail
        refine (HV.out _).mono ?_
        rintro e w1 ⟨rfl, hb1⟩
        have H1 := hidK (H.out.more hb1)
        have a0 := H1.out.c0
        have a1 := H1.out.c1
        clear hb1 k0 k1
        go_wp2_with fail
        go_ret
        exact ⟨by rw [← HR.out]; rfl, by first | exact H1.out.below | (rw [← HK.out]; exact H1.out.below)⟩
    · subst h
      rcases h' with h | h
      · subst h
        have HR : Hid ((⟨#[84, 97, 98]⟩ : ByteArray) = R) := hR
        clear hR
        go_enter Tryz.func71, Tryz.ntmps71
        go_wp2_with fail
        refine (HV.out _).mono ?_
        rintro e w1 ⟨rfl, hb1⟩
        have H1 := hidK (H.out.more hb1)
        have a0 := H1.out.c0
        have a1 := H1.out.c1
        clear hb1 k0 k1
        go_wp2_with fail
        go_ret
        exact ⟨by rw [← HR.out]; rfl, by first | exact H1.out.below | (rw [← HK.out]; exact H1.out.below)⟩
      · subst h
        have HR : Hid ((⟨#[77, 45, 84, 97, 98]⟩ : ByteArray) = R) := hR
        clear hR
        go_enter Tryz.func71, Tryz.ntmps71
        go_wp2_with fail
        refine (HV.out _).mono ?_
        rintro e w1 ⟨rfl, hb1⟩
        have H1 := hidK (H.out.more hb1)
        have a0 := H1.out.c0
        have a1 := H1.out.c1
        clear hb1 k0 k1
        go_wp2_with fail
        go_ret
        exact ⟨by rw [← HR.out]; rfl, by first | exact H1.out.below | (rw [← HK.out]; exact H1.out.below)⟩
    · subst h
      rcases h' with h | h
      · subst h
        have HR : Hid ((⟨#[69, 115, 99, 97, 112, 101]⟩ : ByteArray) = R) := hR
        clear hR
        go_enter Tryz.func71, Tryz.ntmps71
        go_wp2_with fail
        refine (HV.out _).mono ?_
        rintro e w1 ⟨rfl, hb1⟩
        have H1 := hidK (H.out.more hb1)
        have a0 := H1.out.c0
        have a1 := H1.out.c1
        clear hb1 k0 k1
        go_wp2_with fail
        go_ret
        exact ⟨by rw [← HR.out]; rfl, by first | exact H1.out.below | (rw [← HK.out]; exact H1.out.below)⟩
      · subst h
        have HR : Hid ((⟨#[77, 45, 69, 115, 99, 97, 112, 101]⟩ : ByteArray) = R) := hR
        clear hR
        go_enter Tryz.func71, Tryz.ntmps71
        go_wp2_with fail
        refine (HV.out _).mono ?_
        rintro e w1 ⟨rfl, hb1⟩
        have H1 := hidK (H.out.more hb1)
        have a0 := H1.out.c0
        have a1 := H1.out.c1
        clear hb1 k0 k1
        go_wp2_with fail
        go_ret
        exact ⟨by rw [← HR.out]; rfl, by first | exact H1.out.below | (rw [← HK.out]; exact H1.out.below)⟩
    · subst h
      rcases h' with h | h
      · subst h
        have HR : Hid ((⟨#[66, 83, 112, 97, 99, 101]⟩ : ByteArray) = R) := hR
        clear hR
        go_enter Tryz.func71, Tryz.ntmps71
        go_wp2_with fail
        refine (HV.out _).mono ?_
        rintro e w1 ⟨rfl, hb1⟩
        have H1 := hidK (H.out.more hb1)
        have a0 := H1.out.c0
        have a1 := H1.out.c1
        clear hb1 k0 k1
        go_wp2_with fail
        go_ret
        exact ⟨by rw [← HR.out]; rfl, by first | exact H1.out.below | (rw [← HK.out]; exact H1.out.below)⟩
      · subst h
        have HR : Hid ((⟨#[77, 45, 66, 83, 112, 97, 99, 101]⟩ : ByteArray) = R) := hR
        clear hR
        go_enter Tryz.func71, Tryz.ntmps71
        go_wp2_with fail
        refine (HV.out _).mono ?_
        rintro e w1 ⟨rfl, hb1⟩
        have H1 := hidK (H.out.more hb1)
        have a0 := H1.out.c0
        have a1 := H1.out.c1
        clear hb1 k0 k1
        go_wp2_with fail
        go_ret
        exact ⟨by rw [← HR.out]; rfl, by first | exact H1.out.below | (rw [← HK.out]; exact H1.out.below)⟩
set_option maxHeartbeats 8000000 in
theorem rname_chr (c m : Int) (hv : validB c m = true) (h1 : c ≠ 32) (h2 : oneB c = false) (h3 : c ≠ 16777239) (h4 : spcB c = false) (R : ByteArray) (hR : str (modF m ++ bareF c) = R) (w : World) : Calls Tryz.prog 71 #[.agg #[.int .i64 c, .int .i64 m]] w fun r w' => r = .returned (.string R) ∧ Below w.heap.size w w' := by
  obtain ⟨W, hW⟩ : ∃ W, w.alloc (.cells #[.int .i64 c, .int .i64 m] 23) = W := ⟨_, rfl⟩
  obtain ⟨K, hK⟩ : ∃ K, w.heap.size = K := ⟨_, rfl⟩
  have hk : Kb w W K c m := by rw [← hW, ← hK]; exact Kb.new w _ _
  have H := hidK hk
  have HK := hidK hK
  have k0 := hk.c0
  have k1 := hk.c1
  have HV : Hid (∀ X, Calls Tryz.prog 32 #[.agg #[.int .i64 c, .int .i64 m]] X fun r w' => r = .returned (.bool true) ∧ Below X.heap.size X w') := fun X => by rw [← hv]; exact rvalid_any c m X
  clear hk
  have hm : (m = 0 ∨ m = 2 ∨ m = 4 ∨ m = 6) ∧ 33 ≤ c ∧ c ≤ 1114111 ∧ (c < 55296 ∨ 57343 < c) := by
    unfold validB at hv
    rw [if_neg h1, if_neg (by simp [h2]), if_neg h3, if_neg (by simp [h4])] at hv
    simp [plainM, ctrlM, chrB, ctlB] at hv
    omega
  obtain ⟨hm, c0, c1, c2⟩ := hm
  have hnm : nmF c = none := by
    refine nm_no fun j p hp => ?_
    have ho : ¬ (c = 13 ∨ c = 9 ∨ c = 27 ∨ c = 127) := by simpa [oneB] using h2
    have hm : p ∈ nmT := List.mem_of_getElem? hp
    simp only [nmT, List.mem_cons, List.not_mem_nil, or_false] at hm
    rcases hm with e | e | e | e | e | e <;> rw [e] <;> simp only <;> omega
  have hb : bareF c = r8F c := by rw [bare_of h4, hnm, r8_enc (by omega) c1 c2]; rfl
  have HU := hidK (rutf8_any c (by omega) (by omega))
  obtain ⟨U, hU⟩ : ∃ U, str (r8F c) = U := ⟨_, rfl⟩
  rw [hU] at HU
  have hUz : U.size ≤ 4 := by
    rw [← hU, str_size]
    unfold r8F
    split
    · simp
    · split
      · simp
      · split <;> simp
  have ho : ¬ (c = 13 ∨ c = 9 ∨ c = 27 ∨ c = 127) := by simpa [oneB] using h2
  have e1 : (c == 32) = false := by simpa using h1
  have e2 : (c == 13) = false := by simp; omega
  have e3 : (c == 9) = false := by simp; omega
  have e4 : (c == 27) = false := by simp; omega
  have e5 : (c == 127) = false := by simp; omega
  have e6 : ¬ (16777217 : Int) ≤ c := by omega
  have HRR : Hid (∀ l, modF m = l → str l ++ U = R) := fun l hl => by rw [← hR, hb, ← hU, hl, str_catK]
  clear hv h1 h2 h3 h4 hR ho hnm hb hU c0 c1 c2
  rcases hm with h | h | h | h
  · subst h
    have HR : Hid ((⟨#[]⟩ : ByteArray) ++ U = R) := HRR.out [] rfl
    clear HRR
    go_enter Tryz.func71, Tryz.ntmps71
    go_wp2_with fail
    refine (HV.out _).mono ?_
    rintro e w1 ⟨rfl, hb1⟩
    have H1 := hidK (H.out.more hb1)
    have a0 := H1.out.c0
    have a1 := H1.out.c1
    clear hb1 k0 k1
    go_wp2_with (go_at_call 100; refine (HU.out _).mono ?_; rintro e w2 ⟨rfl, hb2⟩)
    go_ret
    exact ⟨by rw [← HR.out]; first | rfl | simp, by first | exact below_step H1.out.below hb2 | (rw [← HK.out]; exact below_step H1.out.below hb2)⟩
  · subst h
    have HR : Hid ((⟨#[77, 45]⟩ : ByteArray) ++ U = R) := HRR.out [77, 45] rfl
    clear HRR
    go_enter Tryz.func71, Tryz.ntmps71
    go_wp2_with fail
    refine (HV.out _).mono ?_
    rintro e w1 ⟨rfl, hb1⟩
    have H1 := hidK (H.out.more hb1)
    have a0 := H1.out.c0
    have a1 := H1.out.c1
    clear hb1 k0 k1
    go_wp2_with (go_at_call 100; refine (HU.out _).mono ?_; rintro e w2 ⟨rfl, hb2⟩)
    go_ret
    exact ⟨by rw [← HR.out]; first | rfl | simp, by first | exact below_step H1.out.below hb2 | (rw [← HK.out]; exact below_step H1.out.below hb2)⟩
  · subst h
    have HR : Hid ((⟨#[67, 45]⟩ : ByteArray) ++ U = R) := HRR.out [67, 45] rfl
    clear HRR
    go_enter Tryz.func71, Tryz.ntmps71
    go_wp2_with fail
    refine (HV.out _).mono ?_
    rintro e w1 ⟨rfl, hb1⟩
    have H1 := hidK (H.out.more hb1)
    have a0 := H1.out.c0
    have a1 := H1.out.c1
    clear hb1 k0 k1
    go_wp2_with (go_at_call 100; refine (HU.out _).mono ?_; rintro e w2 ⟨rfl, hb2⟩)
    go_ret
    exact ⟨by rw [← HR.out]; first | rfl | simp, by first | exact below_step H1.out.below hb2 | (rw [← HK.out]; exact below_step H1.out.below hb2)⟩
  · subst h
    have HR : Hid ((⟨#[67, 45, 77, 45]⟩ : ByteArray) ++ U = R) := HRR.out [67, 45, 77, 45] rfl
    clear HRR
    go_enter Tryz.func71, Tryz.ntmps71
    go_wp2_with fail
    refine (HV.out _).mono ?_
    rintro e w1 ⟨rfl, hb1⟩
    have H1 := hidK (H.out.more hb1)
    have a0 := H1.out.c0
    have a1 := H1.out.c1
    clear hb1 k0 k1
    go_wp2_with (go_at_call 100; refine (HU.out _).mono ?_; rintro e w2 ⟨rfl, hb2⟩)
    go_ret
    exact ⟨by rw [← HR.out]; first | rfl | simp, by first | exact below_step H1.out.below hb2 | (rw [← HK.out]; exact below_step H1.out.below hb2)⟩
end Go.Proofs.YtbonnjilbocldaaGreatDoor

namespace Go.Proofs.YtbonnjilbocldaaGreatDoor
open Go.RowKit
set_option linter.unusedVariables false
set_option maxRecDepth 100000

set_option maxHeartbeats 8000000 in
theorem rname_special (c m : Int) (hv : validB c m = true) (k : Nat) (hk : k < 23) (hc : c = 16777217 + (k : Int)) (R : ByteArray) (hR : str (modF m ++ bareF c) = R) (w : World) : Calls Tryz.prog 71 #[.agg #[.int .i64 c, .int .i64 m]] w fun r w' => r = .returned (.string R) ∧ Below w.heap.size w w' := by
  obtain ⟨W, hW⟩ : ∃ W, w.alloc (.cells #[.int .i64 c, .int .i64 m] 23) = W := ⟨_, rfl⟩
  obtain ⟨K, hK⟩ : ∃ K, w.heap.size = K := ⟨_, rfl⟩
  have hkb : Kb w W K c m := by rw [← hW, ← hK]; exact Kb.new w _ _
  have H := hidK hkb
  have HK := hidK hK
  have k0 := hkb.c0
  have k1 := hkb.c1
  have HV : Hid (∀ X, Calls Tryz.prog 32 #[.agg #[.int .i64 c, .int .i64 m]] X fun r w' => r = .returned (.bool true) ∧ Below X.heap.size X w') := fun X => by rw [← hv]; exact rvalid_any c m X
  clear hkb
  obtain ⟨x, hx, hx9, _⟩ := words_at ⟨k, hk⟩
  have hb : bareF c = x := words_bare hc hx
  have HWo := hidK (rwords_at k hk x hx)
  obtain ⟨U, hU⟩ : ∃ U, str x = U := ⟨_, rfl⟩
  rw [hU] at HWo
  have hUz : U.size ≤ 9 := by rw [← hU]; exact hx9
  have e1 : (c == 32) = false := by simp; omega
  have e2 : (c == 13) = false := by simp; omega
  have e3 : (c == 9) = false := by simp; omega
  have e4 : (c == 27) = false := by simp; omega
  have e5 : (c == 127) = false := by simp; omega
  have e6 : (16777217 : Int) ≤ c := by omega
  have hi : c - 16777217 = (k : Int) := by omega
  have hk2 : (k : Int) < 23 := by omega
  have hwr : IntKind.i64.wrap (k : Int) = (k : Int) := by
    have := IntKind.wrap_i64 (k : Int)
    omega
  have HRR : Hid (∀ l, modF m = l → str l ++ U = R) := fun l hl => by rw [← hR, hb, ← hU, hl, str_catK]
  obtain ⟨_, _, hm0, hm7⟩ := valid_code hv
  have hm : m = 0 ∨ m = 1 ∨ m = 2 ∨ m = 3 ∨ m = 4 ∨ m = 5 ∨ m = 6 ∨ m = 7 := by omega
  clear hv hR hb hU hx hx9 hm0 hm7 hc
  rcases hm with h | h | h | h | h | h | h | h
  · subst h
    have HR : Hid ((⟨#[]⟩ : ByteArray) ++ U = R) := HRR.out [] rfl
    clear HRR
    go_enter Tryz.func71, Tryz.ntmps71
    go_wp2_with fail
    refine (HV.out _).mono ?_
    rintro e w1 ⟨rfl, hb1⟩
    have H1 := hidK (H.out.more hb1)
    have a0 := H1.out.c0
    have a1 := H1.out.c1
    clear hb1 k0 k1
    go_wp2_with fail
    go_region_with (go_at_call 99; refine (HWo.out _).mono ?_; rintro e w2 ⟨g, rfl, hb2, hcell⟩; have a02 : w2.cell? ⟨K, 0, none⟩ = some (.int .i64 c) := (H1.out.more (below_step (by repeat (first | exact Below.refl _ _ | apply Below.drew)) hb2)).c0; have HB2 := hidK hb2; clear hb2)
    all_goals go_wp2_with fail
    all_goals go_ret
    all_goals refine ⟨by rw [← HR.out]; first | rfl | simp, ?_⟩
    all_goals first | rw [← HK.out] | skip
    all_goals exact below_step H1.out.below (below_step (by repeat (first | exact Below.refl _ _ | apply Below.drew)) HB2.out)
  · subst h
    have HR : Hid ((⟨#[83, 45]⟩ : ByteArray) ++ U = R) := HRR.out [83, 45] rfl
    clear HRR
    go_enter Tryz.func71, Tryz.ntmps71
    go_wp2_with fail
    refine (HV.out _).mono ?_
    rintro e w1 ⟨rfl, hb1⟩
    have H1 := hidK (H.out.more hb1)
    have a0 := H1.out.c0
    have a1 := H1.out.c1
    clear hb1 k0 k1
    go_wp2_with fail
    go_region_with (go_at_call 99; refine (HWo.out _).mono ?_; rintro e w2 ⟨g, rfl, hb2, hcell⟩; have a02 : w2.cell? ⟨K, 0, none⟩ = some (.int .i64 c) := (H1.out.more (below_step (by repeat (first | exact Below.refl _ _ | apply Below.drew)) hb2)).c0; have HB2 := hidK hb2; clear hb2)
    all_goals go_wp2_with fail
    all_goals go_ret
    all_goals refine ⟨by rw [← HR.out]; first | rfl | simp, ?_⟩
    all_goals first | rw [← HK.out] | skip
    all_goals exact below_step H1.out.below (below_step (by repeat (first | exact Below.refl _ _ | apply Below.drew)) HB2.out)
  · subst h
    have HR : Hid ((⟨#[77, 45]⟩ : ByteArray) ++ U = R) := HRR.out [77, 45] rfl
    clear HRR
    go_enter Tryz.func71, Tryz.ntmps71
    go_wp2_with fail
    refine (HV.out _).mono ?_
    rintro e w1 ⟨rfl, hb1⟩
    have H1 := hidK (H.out.more hb1)
    have a0 := H1.out.c0
    have a1 := H1.out.c1
    clear hb1 k0 k1
    go_wp2_with fail
    go_region_with (go_at_call 99; refine (HWo.out _).mono ?_; rintro e w2 ⟨g, rfl, hb2, hcell⟩; have a02 : w2.cell? ⟨K, 0, none⟩ = some (.int .i64 c) := (H1.out.more (below_step (by repeat (first | exact Below.refl _ _ | apply Below.drew)) hb2)).c0; have HB2 := hidK hb2; clear hb2)
    all_goals go_wp2_with fail
    all_goals go_ret
    all_goals refine ⟨by rw [← HR.out]; first | rfl | simp, ?_⟩
    all_goals first | rw [← HK.out] | skip
    all_goals exact below_step H1.out.below (below_step (by repeat (first | exact Below.refl _ _ | apply Below.drew)) HB2.out)
  · subst h
    have HR : Hid ((⟨#[77, 45, 83, 45]⟩ : ByteArray) ++ U = R) := HRR.out [77, 45, 83, 45] rfl
    clear HRR
    go_enter Tryz.func71, Tryz.ntmps71
    go_wp2_with fail
    refine (HV.out _).mono ?_
    rintro e w1 ⟨rfl, hb1⟩
    have H1 := hidK (H.out.more hb1)
    have a0 := H1.out.c0
    have a1 := H1.out.c1
    clear hb1 k0 k1
    go_wp2_with fail
    go_region_with (go_at_call 99; refine (HWo.out _).mono ?_; rintro e w2 ⟨g, rfl, hb2, hcell⟩; have a02 : w2.cell? ⟨K, 0, none⟩ = some (.int .i64 c) := (H1.out.more (below_step (by repeat (first | exact Below.refl _ _ | apply Below.drew)) hb2)).c0; have HB2 := hidK hb2; clear hb2)
    all_goals go_wp2_with fail
    all_goals go_ret
    all_goals refine ⟨by rw [← HR.out]; first | rfl | simp, ?_⟩
    all_goals first | rw [← HK.out] | skip
    all_goals exact below_step H1.out.below (below_step (by repeat (first | exact Below.refl _ _ | apply Below.drew)) HB2.out)
  · subst h
    have HR : Hid ((⟨#[67, 45]⟩ : ByteArray) ++ U = R) := HRR.out [67, 45] rfl
    clear HRR
    go_enter Tryz.func71, Tryz.ntmps71
    go_wp2_with fail
    refine (HV.out _).mono ?_
    rintro e w1 ⟨rfl, hb1⟩
    have H1 := hidK (H.out.more hb1)
    have a0 := H1.out.c0
    have a1 := H1.out.c1
    clear hb1 k0 k1
    go_wp2_with fail
    go_region_with (go_at_call 99; refine (HWo.out _).mono ?_; rintro e w2 ⟨g, rfl, hb2, hcell⟩; have a02 : w2.cell? ⟨K, 0, none⟩ = some (.int .i64 c) := (H1.out.more (below_step (by repeat (first | exact Below.refl _ _ | apply Below.drew)) hb2)).c0; have HB2 := hidK hb2; clear hb2)
    all_goals go_wp2_with fail
    all_goals go_ret
    all_goals refine ⟨by rw [← HR.out]; first | rfl | simp, ?_⟩
    all_goals first | rw [← HK.out] | skip
    all_goals exact below_step H1.out.below (below_step (by repeat (first | exact Below.refl _ _ | apply Below.drew)) HB2.out)
  · subst h
    have HR : Hid ((⟨#[67, 45, 83, 45]⟩ : ByteArray) ++ U = R) := HRR.out [67, 45, 83, 45] rfl
    clear HRR
    go_enter Tryz.func71, Tryz.ntmps71
    go_wp2_with fail
    refine (HV.out _).mono ?_
    rintro e w1 ⟨rfl, hb1⟩
    have H1 := hidK (H.out.more hb1)
    have a0 := H1.out.c0
    have a1 := H1.out.c1
    clear hb1 k0 k1
    go_wp2_with fail
    go_region_with (go_at_call 99; refine (HWo.out _).mono ?_; rintro e w2 ⟨g, rfl, hb2, hcell⟩; have a02 : w2.cell? ⟨K, 0, none⟩ = some (.int .i64 c) := (H1.out.more (below_step (by repeat (first | exact Below.refl _ _ | apply Below.drew)) hb2)).c0; have HB2 := hidK hb2; clear hb2)
    all_goals go_wp2_with fail
    all_goals go_ret
    all_goals refine ⟨by rw [← HR.out]; first | rfl | simp, ?_⟩
    all_goals first | rw [← HK.out] | skip
    all_goals exact below_step H1.out.below (below_step (by repeat (first | exact Below.refl _ _ | apply Below.drew)) HB2.out)
  · subst h
    have HR : Hid ((⟨#[67, 45, 77, 45]⟩ : ByteArray) ++ U = R) := HRR.out [67, 45, 77, 45] rfl
    clear HRR
    go_enter Tryz.func71, Tryz.ntmps71
    go_wp2_with fail
    refine (HV.out _).mono ?_
    rintro e w1 ⟨rfl, hb1⟩
    have H1 := hidK (H.out.more hb1)
    have a0 := H1.out.c0
    have a1 := H1.out.c1
    clear hb1 k0 k1
    go_wp2_with fail
    go_region_with (go_at_call 99; refine (HWo.out _).mono ?_; rintro e w2 ⟨g, rfl, hb2, hcell⟩; have a02 : w2.cell? ⟨K, 0, none⟩ = some (.int .i64 c) := (H1.out.more (below_step (by repeat (first | exact Below.refl _ _ | apply Below.drew)) hb2)).c0; have HB2 := hidK hb2; clear hb2)
    all_goals go_wp2_with fail
    all_goals go_ret
    all_goals refine ⟨by rw [← HR.out]; first | rfl | simp, ?_⟩
    all_goals first | rw [← HK.out] | skip
    all_goals exact below_step H1.out.below (below_step (by repeat (first | exact Below.refl _ _ | apply Below.drew)) HB2.out)
  · subst h
    have HR : Hid ((⟨#[67, 45, 77, 45, 83, 45]⟩ : ByteArray) ++ U = R) := HRR.out [67, 45, 77, 45, 83, 45] rfl
    clear HRR
    go_enter Tryz.func71, Tryz.ntmps71
    go_wp2_with fail
    refine (HV.out _).mono ?_
    rintro e w1 ⟨rfl, hb1⟩
    have H1 := hidK (H.out.more hb1)
    have a0 := H1.out.c0
    have a1 := H1.out.c1
    clear hb1 k0 k1
    go_wp2_with fail
    go_region_with (go_at_call 99; refine (HWo.out _).mono ?_; rintro e w2 ⟨g, rfl, hb2, hcell⟩; have a02 : w2.cell? ⟨K, 0, none⟩ = some (.int .i64 c) := (H1.out.more (below_step (by repeat (first | exact Below.refl _ _ | apply Below.drew)) hb2)).c0; have HB2 := hidK hb2; clear hb2)
    all_goals go_wp2_with fail
    all_goals go_ret
    all_goals refine ⟨by rw [← HR.out]; first | rfl | simp, ?_⟩
    all_goals first | rw [← HK.out] | skip
    all_goals exact below_step H1.out.below (below_step (by repeat (first | exact Below.refl _ _ | apply Below.drew)) HB2.out)
theorem rname_no (c m : Int) (hv : validB c m = false) (w : World) : Calls Tryz.prog 71 #[.agg #[.int .i64 c, .int .i64 m]] w fun r w' => r = .returned (.string (str [])) ∧ Below w.heap.size w w' := by
  have HV : Hid (∀ W, Calls Tryz.prog 32 #[.agg #[.int .i64 c, .int .i64 m]] W fun r w' => r = .returned (.bool false) ∧ Below W.heap.size W w') := fun W => by rw [← hv]; exact rvalid_any c m W
  have HFin : Hid (∀ W, Below (w.alloc (.cells #[.int .i64 c, .int .i64 m] 23)).heap.size (w.alloc (.cells #[.int .i64 c, .int .i64 m] 23)) W → Below w.heap.size w W) := fun W h => below_step ((Below.refl _ _).alloc (Nat.le_refl _) _) h
  clear hv
  go_enter Tryz.func71, Tryz.ntmps71
  go_wp2_with fail
  refine (HV.out _).mono ?_
  rintro e w1 ⟨rfl, hb1⟩
  have HB1 := hidK (HFin.out _ hb1)
  clear hb1
  go_wp2_with fail
  go_ret
  exact ⟨rfl, HB1.out⟩
theorem rname_any (c m : Int) (w : World) : Calls Tryz.prog 71 #[.agg #[.int .i64 c, .int .i64 m]] w fun r w' => r = .returned (.string (str (nameF c m))) ∧ Below w.heap.size w w' := by
  unfold nameF
  cases hv : validB c m with
  | false => rw [if_neg (by decide)]; exact rname_no c m hv w
  | true =>
    rw [if_pos rfl]
    by_cases h1 : c = 32
    · exact rname_at c m hv (.inl h1) _ rfl w
    · by_cases h2 : oneB c = true
      · exact rname_at c m hv (.inr (by simpa [oneB] using h2)) _ rfl w
      · by_cases h3 : c = 16777239
        · exact rname_special c m hv 22 (by decide) h3 _ rfl w
        · by_cases h4 : spcB c = true
          · obtain ⟨k, s, e, hk, _, _⟩ := spc_at h4
            exact rname_special c m hv k (by omega) e _ rfl w
          · exact rname_chr c m hv h1 (by simpa using h2) h3 (by simpa using h4) _ rfl w
end Go.Proofs.YtbonnjilbocldaaGreatDoor
