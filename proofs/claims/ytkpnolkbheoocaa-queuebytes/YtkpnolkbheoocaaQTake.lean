/-
  The law's own functions: takes; called as a whole.
-/
import Derived.Test.YtkpnolkbheoocaaQBndP
import Derived.WalkKit
import Derived.Deep.RegionLaw
import Derived.Deep.RegionHeld3
namespace Go.Proofs.Ytkpnolkbheoocaa
open Go.RowKit
set_option linter.unusedVariables false
set_option maxRecDepth 100000

theorem called_any {W : World} {F : List Nat} {b : Nat} {q : Qs} (o : OpD) (h : QAt W F b q) (ho : o.Ok W) :
    Calls Try.prog 8 #[.pointer (some ⟨b, 0, none⟩), .agg o.vals] W fun x w' => x = .returned (.tuple #[.int .i64 (errQ q o), .string (str (drnQ q o))]) ∧ Went W w' F b (stepQ q o) := by
  by_cases h0 : o.k = 0
  · exact called_0 o h ho h0
  by_cases h1 : o.k = 1
  · exact called_1 o h ho h1
  by_cases h2 : o.k = 2
  · exact called_2 o h ho h2
  by_cases h3 : o.k = 3
  · exact called_3 o h ho h3
  exact called_4 o h ho ⟨h0, h1, h2, h3⟩
/-- takes: at any moment, it makes no more than its own list. -/
theorem takes_any {W : World} (o : OpD) (ho : o.Ok W) :
    Calls Try.prog 9 #[.agg o.vals] W fun x w' => ∃ v, x = .returned v ∧ Below W.heap.size W w' ∧ Strs w' v (takesL o) := by
  obtain ⟨k, line, lv, lines, pane, tick, n⟩ := o
  obtain ⟨z, hz⟩ : ∃ z, str line = z := ⟨_, rfl⟩
  have hst := ho.strs
  obtain ⟨al, nl, cl, hlv, hnl, hnl1, -⟩ := ho.strs.shape
  simp only at hlv hnl hst
  subst hlv
  have HB : Hid (Below W.heap.size W (W.alloc (.cells #[.int .i64 k, .string z, .slice al nl cl, .int .i64 pane, .int .i64 tick, .int .i64 n] 35))) := (Below.refl _ _).alloc (Nat.le_refl _) _
  have HS := hidK hst
  have HL := hidK ho.line
  have HZ := hidK hz
  unfold OpD.vals
  simp only
  rw [hz]
  clear hst ho hz
  by_cases h03 : k = 0 ∨ k = 3
  · have e : takesL ⟨k, line, .slice al nl cl, lines, pane, tick, n⟩ = [line] := by unfold takesL; rw [if_pos h03]
    rw [e]
    have HO : Hid (Below W.heap.size W ((W.alloc (.cells #[.int .i64 k, .string z, .slice al nl cl, .int .i64 pane, .int .i64 tick, .int .i64 n] 35)).alloc (.cells #[.string z] 9)) ∧ Strs ((W.alloc (.cells #[.int .i64 k, .string z, .slice al nl cl, .int .i64 pane, .int .i64 tick, .int .i64 n] 35)).alloc (.cells #[.string z] 9)) (.slice (some ⟨W.heap.size + 1, 0, none⟩) 1 1) [line]) := by
      have e9 : (W.alloc (.cells #[.int .i64 k, .string z, .slice al nl cl, .int .i64 pane, .int .i64 tick, .int .i64 n] 35)).heap.size = W.heap.size + 1 := by simp
      have h9 := Strs.one (w := (W.alloc (.cells #[.int .i64 k, .string z, .slice al nl cl, .int .i64 pane, .int .i64 tick, .int .i64 n] 35))) HL.out
      rw [e9, HZ.out] at h9
      exact ⟨HB.out.alloc HB.out.size _, h9⟩
    clear e
    rcases h03 with rfl | rfl
    · go_enter Try.func9, Try.ntmps9
      go_wp2_with fail
      all_goals go_ret
      all_goals exact ⟨_, rfl, HO.out⟩
    · go_enter Try.func9, Try.ntmps9
      go_wp2_with fail
      all_goals go_ret
      all_goals exact ⟨_, rfl, HO.out⟩
  by_cases h12 : k = 1 ∨ k = 2
  · have e : takesL ⟨k, line, .slice al nl cl, lines, pane, tick, n⟩ = lines := by unfold takesL; rw [if_neg h03, if_pos h12]
    rw [e]
    clear e
    rcases h12 with rfl | rfl
    · go_enter Try.func9, Try.ntmps9
      go_wp2_with fail
      all_goals go_ret
      all_goals exact ⟨_, rfl, HB.out, HS.out.below HB.out⟩
    · go_enter Try.func9, Try.ntmps9
      go_wp2_with fail
      all_goals go_ret
      all_goals exact ⟨_, rfl, HB.out, HS.out.below HB.out⟩
  · have e : takesL ⟨k, line, .slice al nl cl, lines, pane, tick, n⟩ = [] := by unfold takesL; rw [if_neg h03, if_neg h12]
    rw [e]
    clear e
    obtain ⟨k0, k3⟩ := not_or.1 h03
    obtain ⟨k1, k2⟩ := not_or.1 h12
    clear h03 h12
    go_enter Try.func9, Try.ntmps9
    go_wp2_with fail
    all_goals go_ret
    all_goals exact ⟨_, rfl, HB.out, ⟨_, _, rfl, by simp, by simp, by simp, fun l hl => by simp at hl, fun h => absurd rfl h⟩⟩

end Go.Proofs.Ytkpnolkbheoocaa
