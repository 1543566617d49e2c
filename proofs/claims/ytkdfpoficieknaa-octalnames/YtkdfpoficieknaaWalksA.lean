/-
  The walks of octal.inName, mullionref01.holds, strings.IndexByte: what each call answers, for every input.
-/
import Derived.Test.YtkdfpoficieknaaRows
import Derived.Test.YtkdfpoficieknaaPlain
import Derived.WalkKit
namespace Go.Proofs.Ytkdfpoficieknaa
open Go.RowKit

theorem inName_any (c : UInt8) (w : World) :
    Calls Try.prog 8 #[.int .u8 c.toNat] w fun e w' => e = .returned (.bool (nb c)) ∧ w' = w := by
  go_enter Try.func8, Try.ntmps8
  go_wp2
  all_goals go_ret
  all_goals refine ⟨ret_bool ?_, rfl⟩
  all_goals (unfold nb; rw [Bool.eq_iff_iff]; simp; omega)

theorem holds_any (s : ByteArray) (c : UInt8) (w : World) (hs : s.size ≤ maxLen) :
    Calls Try.prog 10 #[.string s, .int .u8 c.toNat] w fun e w' => e = .returned (.bool (has s c)) ∧ w' = w := by
  unfold maxLen at hs
  go_enter Try.func10, Try.ntmps10
  go_wp2
  go_loop [5] (fun i => ∃ k : Nat, k ≤ s.size ∧ i = .int .i64 k ∧ ∀ j (hj : j < s.size), j < k → s[j] ≠ c) (fun i => s.size - (intOf i).toNat)
  case atStart => exact ⟨0, Nat.zero_le _, rfl, fun j _ h => by omega⟩
  case round =>
    obtain ⟨k, hk, rfl, hno⟩ := hrel
    by_cases hlt : k < s.size
    · have HN : Hid (∀ j (hj : j < s.size), j < k → s[j] ≠ c) := hno
      clear hno
      by_cases he : ((s[k].toNat : Int) == (c.toNat : Int)) = true
      · go_wp2
        go_ret
        exact ⟨ret_bool (has_of_lt k hlt (UInt8.toNat_inj.1 (by have := eq_of_beq he; omega))).symm, rfl⟩
      · have he' : ((s[k].toNat : Int) == (c.toNat : Int)) = false := by simpa using he
        clear he
        have HE : Hid (s[k] ≠ c) := fun h => by rw [h] at he'; simp at he'
        go_wp2
        go_round
        case rel =>
          refine ⟨k + 1, by omega, by go_num, fun j hj h => ?_⟩
          by_cases hjk : j = k
          · subst hjk; exact HE.out
          · exact HN.out j hj (by omega)
        case measure => simp [intOf]; omega
    · go_wp2
      go_ret
      exact ⟨ret_bool (has_false fun j hj => hno j hj (by omega)).symm, rfl⟩

theorem indexByte_any (s : ByteArray) (c : UInt8) (w : World) :
    Calls Try.prog 9 #[.string s, .int .u8 c.toNat] w fun e w' => e = .returned (.int .i64 (firstIdx s c)) ∧ w' = w := by
  have ec : ((c.toNat : Int).toNat).toUInt8 = c := by simp
  go_enter Try.func9, Try.ntmps9
  go_wp2
  rw [run_callFunc_extern Try.func12 (by kernel_rfl) (by kernel_rfl) (by kernel_rfl) (e := Extern.BytealgIndexByte.indexByte) (by kernel_rfl), run_indexByte_string]
  simp only [Result.andThen, ec]
  rw [Oper.upon_value]
  go_wp2
  all_goals go_ret
  exact ⟨rfl, rfl⟩
end Go.Proofs.Ytkdfpoficieknaa
