/-
  Lines of commands: the law of Quote.
-/
import Derived.Test.YtjlhdnaebdkalaaXQuoteR
namespace Go.Proofs.Ytjlhdnaebdkalaa
open Go.RowKit
set_option linter.unusedVariables false
set_option maxRecDepth 100000

theorem quotes_walk (s : ByteArray) (w : World) (hs : s.size ≤ 1000000000) : Calls Try.prog 3 #[.string s] w fun x w' => x = .returned (.bool true) ∧ Below w.heap.size w w' := by
  obtain ⟨q, hq⟩ : ∃ q, str (quoteF s.data.toList) = q := ⟨_, rfl⟩
  have HP : Hid (Calls Try.prog 9 #[.string s] w fun e w' => e = .returned (.string q) ∧ Below w.heap.size w w') := hq ▸ quote_any s w hs
  have HR : Hid (∀ W, Calls Try.prog 10 #[.string s] W fun e w' => e = .returned (.string q) ∧ Below W.heap.size W w') := fun W => hq ▸ quoteR_any s W hs
  have H0 : Hid (∀ W, Calls Try.prog 9 #[.string ⟨#[]⟩] W fun e w' => e = .returned (.string ⟨#[34, 34]⟩) ∧ Below W.heap.size W w') := fun W => quote_any ⟨#[]⟩ W (by decide)
  clear hq
  go_enter Try.func3, Try.ntmps3
  go_wp2_with fail
  refine HP.out.mono ?_
  rintro e w1 ⟨rfl, hb1⟩
  go_wp2_with fail
  refine (HR.out _).mono ?_
  rintro e w2 ⟨rfl, hb2⟩
  go_wp2_with fail
  refine (H0.out _).mono ?_
  rintro e w3 ⟨rfl, hb3⟩
  have HB : Hid (Below w.heap.size w w3) := (hb1.trans (hb2.mono hb1.size)).trans (hb3.mono (Nat.le_trans hb1.size hb2.size))
  clear hb1 hb2 hb3
  go_wp2
  go_ret
  exact ⟨by first | rfl | simp, HB.out⟩

end Go.Proofs.Ytjlhdnaebdkalaa
