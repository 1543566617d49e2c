/-
  The law's own functions: step, of every call.
-/
import Derived.Test.YtkpnolkbheoocaaQStep0
import Derived.Test.YtkpnolkbheoocaaQStep1
import Derived.Test.YtkpnolkbheoocaaQStep2
import Derived.Test.YtkpnolkbheoocaaQStep3
import Derived.Test.YtkpnolkbheoocaaQStep4
namespace Go.Proofs.Ytkpnolkbheoocaa
open Go.RowKit
set_option linter.unusedVariables false

theorem step_any {w W : World} {F : List Nat} {b : Nat} {vi : Value} {q : Qs} (o : OpD) (h : Side w W F b vi q) (ho : o.Ok W) (hlow : o.lines ≠ [] → ∀ g, o.lv.ownBlock = some g → g < w.heap.size) :
    Calls Try.prog 26 #[.pointer (some ⟨b, 0, none⟩), refV q vi, .agg o.vals] W fun x w' => Stepped w W w' F b (stepQ q o) x := by
  by_cases h0 : o.k = 0
  · exact step_0 o h ho hlow h0
  · by_cases h1 : o.k = 1
    · exact step_1 o h ho hlow h1
    · by_cases h2 : o.k = 2
      · exact step_2 o h ho hlow h2
      · by_cases h3 : o.k = 3
        · exact step_3 o h ho hlow h3
        · exact step_4 o h ho hlow ⟨h0, h1, h2, h3⟩

/-- A list of calls, as it is handed in. -/
def OpsArg (w : World) (v : Value) (ops : List OpD) : Prop :=
  ∃ ad n cap, v = .slice ad n cap ∧ ops.length = n ∧ n ≤ 8796093022208 ∧ (∀ o ∈ ops, o.Ok w) ∧ (0 < n → ∃ g p, ad = some ⟨g, p, none⟩ ∧ g < w.heap.size ∧ ∀ (i : Nat) (o : OpD), ops[i]? = some o → ∀ j, j < 6 → w.cell? ⟨g, p + i * 6 + j, none⟩ = o.vals[j]?)
theorem OpD.Ok.below {w W : World} {o : OpD} (h : o.Ok w) (hb : Below w.heap.size w W) : o.Ok W := ⟨h.k, h.line, h.strs.below hb, h.pane, h.tick, h.n⟩
theorem Strs.low {w : World} {v : Value} {ls : List (List UInt8)} (h : Strs w v ls) : ls ≠ [] → ∀ g, v.ownBlock = some g → g < w.heap.size := fun hne g hg => by
  obtain ⟨ad, cap, rfl, _, _, _, _, h5⟩ := h
  obtain ⟨g', o, rfl, h6, _⟩ := h5 hne
  cases hg
  exact h6

end Go.Proofs.Ytkpnolkbheoocaa
