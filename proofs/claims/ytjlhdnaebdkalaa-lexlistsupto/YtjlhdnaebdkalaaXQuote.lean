/-
  Lines of commands: Quote in the program.
-/
import Derived.Test.YtjlhdnaebdkalaaXStr
import Derived.Test.YtjlhdnaebdkalaaXPure
import Derived.Test.YtjlhdnaebdkalaaShelf
namespace Go.Proofs.Ytjlhdnaebdkalaa
open Go.RowKit
set_option linter.unusedVariables false
set_option maxRecDepth 100000

theorem index_mem (c : UInt8) : ∀ (l : List UInt8), 0 ≤ Lib.indexByte l c ↔ c ∈ l
  | [] => by simp [Lib.indexByte]
  | b :: l => by
    have ih := index_mem c l
    have hge := Lib.indexByte_ge l c
    unfold Lib.indexByte
    by_cases e : b = c
    · simp [e]
    · have e2 : ¬ c = b := fun h => e h.symm
      simp only [beq_iff_eq, e, if_false, List.mem_cons, e2, false_or]
      rw [← ih]
      split <;> omega
theorem u8_back (c : UInt8) : ((c.toNat : Int).toNat).toUInt8 = c := by simp

set_option maxHeartbeats 1000000 in
theorem isPlainByte_any (c : UInt8) (w : World) : Calls Try.prog 25 #[.int .u8 c.toNat] w fun e w' => e = .returned (.bool (plainB c)) ∧ w = w' := by
  have HI : Hid (∀ W, Calls Try.prog 38 #[.string ⟨#[95, 46, 47, 58, 61, 64, 37, 43, 44, 45]⟩, .int .u8 c.toNat] W fun e w' => e = .returned (.int .i64 (Lib.indexByte others c)) ∧ W = w') := fun W => by
    refine (Try.strings_IndexByte _ _ W).mono ?_
    rintro e w' ⟨rfl, rfl⟩
    rw [u8_back]
    exact ⟨rfl, rfl⟩
  have hm := index_mem c others
  obtain ⟨ix, hix⟩ : ∃ x, Lib.indexByte others c = x := ⟨_, rfl⟩
  rw [hix] at HI hm
  have HP : Hid (plainB c = (decide (97 ≤ c.toNat ∧ c.toNat ≤ 122) || decide (65 ≤ c.toNat ∧ c.toNat ≤ 90) || decide (48 ≤ c.toNat ∧ c.toNat ≤ 57) || decide (0 ≤ ix))) := by
    show _ = _
    unfold plainB
    rw [decide_eq_decide.2 hm]
  obtain ⟨n, hn⟩ : ∃ n, c.toNat = n := ⟨_, rfl⟩
  rw [hn] at HI HP ⊢
  clear hm hix hn
  by_cases h1 : 97 ≤ n ∧ n ≤ 122
  · have HT : Hid (plainB c = true) := by show _ = _; rw [HP.out]; simp [h1]
    obtain ⟨a1, a2⟩ := h1
    go_enter Try.func25, Try.ntmps25
    go_wp2
    go_ret
    exact ⟨by first | (rw [HT.out]; rfl) | rw [HT.out], rfl⟩
  · by_cases h2 : 65 ≤ n ∧ n ≤ 90
    · have HT : Hid (plainB c = true) := by show _ = _; rw [HP.out]; simp [h2]
      obtain ⟨a1, a2⟩ := h2
      go_enter Try.func25, Try.ntmps25
      go_wp2
      all_goals go_ret
      all_goals exact ⟨by first | (rw [HT.out]; rfl) | rw [HT.out], rfl⟩
    · by_cases h3 : 48 ≤ n ∧ n ≤ 57
      · have HT : Hid (plainB c = true) := by show _ = _; rw [HP.out]; simp [h3]
        obtain ⟨a1, a2⟩ := h3
        go_enter Try.func25, Try.ntmps25
        go_wp2
        all_goals go_ret
        all_goals exact ⟨by first | (rw [HT.out]; rfl) | rw [HT.out], rfl⟩
      · have HT : Hid (plainB c = decide (0 ≤ ix)) := by show _ = _; rw [HP.out]; simp only [h1, h2, h3, decide_false, Bool.false_or]
        go_enter Try.func25, Try.ntmps25
        go_wp2_with (go_at_call 38; refine (HI.out _).mono ?_; rintro e w' ⟨rfl, rfl⟩)
        all_goals first | (exfalso; omega) | skip
        all_goals go_ret
        all_goals exact ⟨by first | (rw [HT.out]; rfl) | rw [HT.out], rfl⟩

theorem isPlain_any (s : ByteArray) (w : World) (hs : s.size ≤ 140737488355328) : Calls Try.prog 16 #[.string s] w fun e w' => e = .returned (.bool (isPlainF s.data.toList)) ∧ w = w' := by
  have HP : Hid (∀ c W, Calls Try.prog 25 #[.int .u8 (UInt8.toNat c)] W fun e w' => e = .returned (.bool (plainB c)) ∧ W = w') := isPlainByte_any
  go_enter Try.func16, Try.ntmps16
  go_wp2
  go_loopw [3] (fun i wr => ∃ k : Nat, k ≤ s.size ∧ i = .int .i64 k ∧ (s.data.toList.take k).all plainB = true ∧ w = wr) (fun i _ => s.size - (intOf i).toNat)
  case atStart => exact ⟨0, Nat.zero_le _, rfl, by simp, rfl⟩
  case round =>
    obtain ⟨k, hk, rfl, hall, rfl⟩ := hrel
    by_cases hlt : k < s.size
    · have HT : Hid ((s.data.toList.take (k + 1)).all plainB = ((s.data.toList.take k).all plainB && plainB s[k])) := by
        show _ = _
        rw [take_snocX s k hlt, List.all_append]
        simp
      have HA : Hid ((s.data.toList.take k).all plainB = true) := hall
      clear hall
      by_cases hp : plainB s[k] = true
      · have HP1 : Hid (plainB s[k] = true) := hp
        go_wp2_with (go_at_call 25; refine (HP.out _ _).mono ?_; rintro e w' ⟨rfl, rfl⟩)
        go_roundw
        case rel => exact ⟨k + 1, by omega, by go_num, by rw [HT.out, HA.out, HP1.out]; rfl, by first | exact trivial | rfl⟩
        case measure => simp [intOf]; omega
      · have hp' : plainB s[k] = false := by simpa using hp
        have HF : Hid (isPlainF s.data.toList = false) := by
          show _ = _
          unfold isPlainF
          have : s.data.toList.all plainB = false := by
            rw [List.all_eq_false]
            exact ⟨s[k], by simp [ByteArray.getElem_eq_getElem_data] , by simpa using hp'⟩
          rw [this]
          rfl
        clear hp
        go_wp2_with (go_at_call 25; refine (HP.out _ _).mono ?_; rintro e w' ⟨rfl, rfl⟩)
        go_ret
        exact ⟨by first | (rw [HF.out]; rfl) | rw [HF.out], rfl⟩
    · have hke : k = s.size := by omega
      have HF : Hid (isPlainF s.data.toList = !s.toList.isEmpty) := by
        show _ = _
        unfold isPlainF
        rw [hke, take_allX] at hall
        rw [hall, Bool.true_and]
        rw [Lib.toList_data]
      clear hke hall
      go_wp2
      go_ret
      exact ⟨by first | (rw [HF.out]; rfl) | rw [HF.out], rfl⟩

end Go.Proofs.Ytjlhdnaebdkalaa
