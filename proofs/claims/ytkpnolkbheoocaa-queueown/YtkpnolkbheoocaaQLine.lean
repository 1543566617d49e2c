/-
  The queue: isLine.
-/
import Derived.Test.YtkpnolkbheoocaaQLook
import Derived.Test.YtkpnolkbheoocaaShelf
import Derived.WalkKit
namespace Go.Proofs.Ytkpnolkbheoocaa
open Go.RowKit
set_option linter.unusedVariables false
set_option maxRecDepth 100000

theorem indexB_none : ∀ l : List UInt8, Lib.indexByte l 10 < 0 ↔ ∀ c ∈ l, c ≠ 10
  | [] => by simp [Lib.indexByte]
  | c :: l => by
    have ih := indexB_none l
    have hg := Lib.indexByte_ge l 10
    unfold Lib.indexByte
    by_cases hc : c = 10
    · simp [hc]
    · rw [if_neg (by simpa using hc)]
      simp only [List.mem_cons, forall_eq_or_imp]
      rw [← ih]
      by_cases h1 : Lib.indexByte l 10 = -1
      · simp [h1, hc]
      · rw [if_neg (by simpa using h1)]
        constructor
        · intro h2; omega
        · intro h2; omega
theorem isLine_any (l : List UInt8) (w : World) (hl : l.length ≤ 9223372036854775807) :
    Calls Try.prog 42 #[.string (str l)] w fun x w' => x = .returned (.bool (lineB l)) ∧ Below w.heap.size w w' := by
  have HI : Hid (∀ W, Calls Try.prog 58 #[.string (str l), .int .u8 10] W fun e w' => e = .returned (.int .i64 (Lib.indexByte l 10)) ∧ w' = W) := fun W => Try.strings_IndexByte (str l) 10 W
  obtain ⟨n, hn⟩ : ∃ n, (str l).size = n := ⟨_, rfl⟩
  obtain ⟨z, hz⟩ : ∃ z, Lib.indexByte l 10 = z := ⟨_, rfl⟩
  rw [hz] at HI
  have HL : Hid (lineB l = (decide (n ≤ 8192) && decide (z < 0))) := by
    show _ = _
    unfold lineB
    have h1 := indexB_none l
    rw [hz] at h1
    rw [show l.length = n from hn]
    by_cases h2 : n ≤ 8192 <;> by_cases h3 : z < 0 <;> simp [h2, h3, ← h1]
  rw [HL.out]
  clear hz hl
  by_cases h1 : n ≤ 8192
  · have d1 : (n : Int) ≤ 8192 := by omega
    by_cases h2 : z < 0
    all_goals
      go_enter Try.func42, Try.ntmps42
      go_wp2_with (go_at_call 58; refine (HI.out _).mono ?_; rintro x w1 ⟨rfl, rfl⟩)
      all_goals go_ret
      all_goals exact ⟨by simp [h1, h2], Below.refl _ _⟩
  · have d1 : ¬ (n : Int) ≤ 8192 := by omega
    go_enter Try.func42, Try.ntmps42
    go_wp2_with fail
    all_goals go_ret
    all_goals exact ⟨by simp, Below.refl _ _⟩

end Go.Proofs.Ytkpnolkbheoocaa
