/-
  Buffers: the laws that are one play of both sides.
-/
import Derived.Test.YtgbaeajcgiaboaaDoorUPlay
namespace Go.Proofs.YtgbaeajcgiaboaaDoor
open Go.RowKit
set_option linter.unusedVariables false
set_option maxRecDepth 100000

theorem buffersSets_walk {w : World} (hT : Tens w) (v : Value) (l : List Ps) (hv : SeeP w v l) (hl : ∀ s ∈ l, s.wf) :
    Calls Tryd.prog 6 #[v] w fun r w' => r = .returned (.bool true) ∧ Below w.heap.size w w' := by
  have HP := hidK (fun lo hi => play_any hT v l hv hl lo hi)
  obtain ⟨ad, cp, rfl, _⟩ := hv
  clear hT hl
  go_enter Tryd.func6, Tryd.ntmps6
  go_wp2_with fail
  refine (HP.out _ _).mono ?_
  rintro e W2 ⟨rfl, hb2⟩
  have HB2 := hidK hb2
  clear hb2
  go_wp2_with fail
  go_ret
  exact ⟨rfl, HB2.out⟩
theorem buffersAll_walk {w : World} (hT : Tens w) (v : Value) (l : List Ps) (hv : SeeP w v l) (hl : ∀ s ∈ l, s.wf) :
    Calls Tryd.prog 7 #[v] w fun r w' => r = .returned (.bool true) ∧ Below w.heap.size w w' := by
  have HP := hidK (fun lo hi => play_any hT v l hv hl lo hi)
  obtain ⟨ad, cp, rfl, _⟩ := hv
  clear hT hl
  go_enter Tryd.func7, Tryd.ntmps7
  go_wp2_with fail
  refine (HP.out _ _).mono ?_
  rintro e W2 ⟨rfl, hb2⟩
  have HB2 := hidK hb2
  clear hb2
  go_wp2_with fail
  go_ret
  exact ⟨rfl, HB2.out⟩
end Go.Proofs.YtgbaeajcgiaboaaDoor
