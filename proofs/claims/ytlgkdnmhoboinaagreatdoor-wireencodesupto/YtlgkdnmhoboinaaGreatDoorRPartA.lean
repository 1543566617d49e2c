/-
  The document's plans and counts.
-/
import Derived.Test.YtlgkdnmhoboinaaGreatDoorRTab
import Derived.Test.YtlgkdnmhoboinaaGreatDoorRNum
import Derived.Test.YtlgkdnmhoboinaaGreatDoorRName
import Derived.Test.YtlgkdnmhoboinaaGreatDoorRefV
import Derived.WalkKit
namespace Go.Proofs.YtlgkdnmhoboinaaGreatDoor
open Go.RowKit
set_option linter.unusedVariables false

theorem trim_all : ∀ l : List UInt8, (∀ c ∈ l, c ∈ planSet) → (Lib.trimLeftS l planSet).isEmpty = true
  | [], _ => rfl
  | a :: l, h => by
    have ha : planSet.contains a = true := by simpa using h a (by simp)
    have e : Lib.trimLeftS (a :: l) planSet = Lib.trimLeftS l planSet := List.dropWhile_cons_of_pos (p := fun c => planSet.contains c) ha
    rw [e]
    exact trim_all l fun c hc => h c (List.mem_cons_of_mem _ hc)
theorem planOk_iff (l : List UInt8) : planOk l = true ↔ (1 ≤ l.length ∧ l.length ≤ 2048 ∧ ∀ c ∈ l, c ∈ planSet) := by
  unfold planOk
  simp only [Bool.and_eq_true, Bool.not_eq_true', decide_eq_true_eq]
  constructor
  · rintro ⟨h1, h2, h3⟩
    exact ⟨by cases l with | nil => cases h1 | cons _ _ => simp, h2, trim_nb l h3⟩
  · rintro ⟨h1, h2, h3⟩
    refine ⟨by cases l with | nil => simp at h1 | cons _ _ => rfl, h2, ?_⟩
    exact trim_all l h3

theorem plan_byte : ∀ n : Nat, n < 256 → (UInt8.ofNat n ∈ planSet ↔ (48 ≤ n ∧ n ≤ 57 ∨ 97 ≤ n ∧ n ≤ 102 ∨ n = 120 ∨ n = 44 ∨ n = 123 ∨ n = 125 ∨ n = 91 ∨ n = 93)) := by decide +kernel
theorem plan_byte' (c : UInt8) : c ∈ planSet ↔ (48 ≤ c.toNat ∧ c.toNat ≤ 57 ∨ 97 ≤ c.toNat ∧ c.toNat ≤ 102 ∨ c.toNat = 120 ∨ c.toNat = 44 ∨ c.toNat = 123 ∨ c.toNat = 125 ∨ c.toNat = 91 ∨ c.toNat = 93) := by
  have := plan_byte c.toNat (UInt8.toNat_lt c)
  rwa [UInt8.ofNat_toNat] at this

set_option maxHeartbeats 4000000 in
theorem planText_any (s : ByteArray) (hs : s.size ≤ 140737488355328) (w : World) :
    Calls Tryz.prog 81 #[.string s] w fun e w' => e = .returned (.bool (planOk s.data.toList)) ∧ w = w' := by
  by_cases h0 : s.size < 1
  · have HP : Hid (planOk s.data.toList = false) := by
      show _ = _
      rw [Bool.eq_false_iff]
      intro h
      have := (planOk_iff _).1 h
      rw [size_data] at this
      omega
    rw [HP.out]
    go_enter Tryz.func81, Tryz.ntmps81
    go_wp2
    all_goals go_ret
    all_goals exact ⟨rfl, rfl⟩
  · by_cases h1 : 2048 < s.size
    · have HP : Hid (planOk s.data.toList = false) := by
        show _ = _
        rw [Bool.eq_false_iff]
        intro h
        have := (planOk_iff _).1 h
        rw [size_data] at this
        omega
      rw [HP.out]
      go_enter Tryz.func81, Tryz.ntmps81
      go_wp2
      all_goals go_ret
      all_goals exact ⟨rfl, rfl⟩
    · go_enter Tryz.func81, Tryz.ntmps81
      go_wp2
      go_loop [3] (fun i => ∃ k : Nat, k ≤ s.size ∧ i = .int .i64 k ∧ ∀ j (hj : j < s.size), j < k → s[j] ∈ planSet) (fun i => s.size - (intOf i).toNat)
      case atStart => exact ⟨0, Nat.zero_le _, rfl, fun j _ h => by omega⟩
      case round =>
        obtain ⟨k, hk, rfl, hno⟩ := hrel
        have HN : Hid (∀ j (hj : j < s.size), j < k → s[j] ∈ planSet) := hno
        clear hno
        by_cases hlt : k < s.size
        · by_cases hb : s[k] ∈ planSet
          · have HB : Hid (s[k] ∈ planSet) := hb
            have HQ : Hid _ := (plan_byte' s[k]).1 hb
            clear hb
            go_wp2
            all_goals first
              | (go_round
                 case rel =>
                   refine ⟨k + 1, by omega, by go_num, fun j hj h => ?_⟩
                   by_cases hjk : j = k
                   · subst hjk; exact HB.out
                   · exact HN.out j hj (by omega)
                 case measure => simp [intOf]; omega)
              | (exfalso; have hq := HQ.out; simp only [Bool.not_eq_true', decide_eq_false_iff_not, beq_eq_false_iff_ne, ne_eq] at *; omega)
          · have HQ : Hid (¬ (48 ≤ s[k].toNat ∧ s[k].toNat ≤ 57 ∨ 97 ≤ s[k].toNat ∧ s[k].toNat ≤ 102 ∨ s[k].toNat = 120 ∨ s[k].toNat = 44 ∨ s[k].toNat = 123 ∨ s[k].toNat = 125 ∨ s[k].toNat = 91 ∨ s[k].toNat = 93)) := fun h => hb ((plan_byte' s[k]).2 h)
            have HP : Hid (planOk s.data.toList = false) := by
              show _ = _
              rw [Bool.eq_false_iff]
              intro h
              exact hb (((planOk_iff _).1 h).2.2 _ (byte_mem s k hlt))
            clear hb
            go_wp2
            all_goals first
              | (go_ret; exact ⟨ret_bool HP.out.symm, rfl⟩)
              | (go_ret2; exact ⟨ret_bool HP.out.symm, rfl⟩)
              | (exfalso; have hq := HQ.out; simp only [Bool.not_eq_false', decide_eq_true_eq, beq_iff_eq] at *; omega)
        · have HP : Hid (planOk s.data.toList = true) := by
            show _ = _
            rw [planOk_iff, size_data]
            refine ⟨by omega, by omega, fun c hc => ?_⟩
            obtain ⟨j, hj, rfl⟩ := List.getElem_of_mem hc
            have hj' : j < s.size := by rw [← size_data]; exact hj
            exact HN.out j hj' (by omega)
          go_wp2
          all_goals go_ret
          all_goals exact ⟨ret_bool HP.out.symm, rfl⟩

theorem count_any (n m : Int) (w : World) (h0 : -9223372036854775808 ≤ n) (h1 : n ≤ 9223372036854775807) :
    Calls Tryz.prog 77 #[.int .i64 n, .int .i64 m] w fun e w' => e = .returned (.string (str (if m < n then [] else putL n))) ∧ Below w.heap.size w w' := by
  by_cases h : m < n
  · rw [if_pos h]
    go_enter Tryz.func77, Tryz.ntmps77
    go_wp2
    all_goals go_ret
    all_goals exact ⟨rfl, Below.refl _ _⟩
  · rw [if_neg h]
    go_enter Tryz.func77, Tryz.ntmps77
    go_wp2_with (go_at_call 84; refine (refPutNumber_any n _ h0 h1).mono ?_; rintro e w2 ⟨rfl, hb2⟩)
    all_goals go_ret
    all_goals exact ⟨rfl, hb2⟩

end Go.Proofs.YtlgkdnmhoboinaaGreatDoor
