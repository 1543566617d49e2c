/-
  Lines of commands: the law of every Commands.
-/
import Derived.Test.YtjlhdnaebdkalaaXRefD
namespace Go.Proofs.Ytjlhdnaebdkalaa
open Go.RowKit
set_option linter.unusedVariables false
set_option maxRecDepth 100000

theorem cmds_sm (L : List UInt8) : SmallC (cmdsF L).1 := by
  unfold cmdsF
  split
  · exact ⟨by simp, by simp⟩
  · split
    · exact ⟨by simp, by simp⟩
    · rename_i cs hl
      split
      · exact ⟨by simp, by simp⟩
      · rename_i hb
        refine ⟨show cs.length ≤ 1000000 by omega, fun c hc => ?_⟩
        have := wcount_mem cs c hc
        omega

set_option maxHeartbeats 2000000 in
theorem reads_walk (s : ByteArray) (w : World) (hs : s.size ≤ 140737488355328) : Calls Try.prog 8 #[.string s] w fun x w' => x = .returned (.bool true) ∧ Below w.heap.size w w' := by
  have hsm := cmds_sm s.data.toList
  obtain ⟨cs, p, er, hC⟩ : ∃ a b c, cmdsF s.data.toList = (a, b, c) := ⟨_, _, _, rfl⟩
  have HC : Hid (∀ W, Calls Try.prog 11 #[.string s] W fun x w' => ∃ v, x = .returned (.tuple #[v, .int .i64 (p : Int), .int .i64 (er : Int)]) ∧ SeeC w' v cs ∧ Below W.heap.size W w') := fun W => by
    have h1 := commands_any s W hs
    rw [hC] at h1
    exact h1.mono fun x w' ⟨v, e1, e2, e3⟩ => ⟨v, e1, e2.see, e3⟩
  have HR : Hid (∀ W, Calls Try.prog 15 #[.string s] W fun x w' => ∃ v, x = .returned (.tuple #[v, .int .i64 (p : Int), .int .i64 (er : Int)]) ∧ SeeC w' v cs ∧ Below W.heap.size W w') := fun W => by
    have h1 := commandsR_any s W hs
    rw [hC] at h1
    exact h1.mono fun x w' ⟨v, e1, e2, e3⟩ => ⟨v, e1, e2.see, e3⟩
  rw [hC] at hsm
  have HSm : Hid (∀ v u X, SeeC X v cs → SeeC X u cs → Calls Try.prog 13 #[v, u] X fun e w' => e = .returned (.bool true) ∧ Below X.heap.size X w') := fun v u X h1 h2 => same_true v u cs X h1 h2 hsm
  have HSu : Hid (∀ W, Calls Try.prog 12 #[] W fun e w' => e = .returned (.bool true) ∧ Below W.heap.size W w') := sure_true
  clear hC hsm
  go_enter Try.func8, Try.ntmps8
  go_wp2_with fail
  refine (HC.out _).mono ?_
  rintro e w1 ⟨v, rfl, hv, hb1⟩
  have HV : Hid (SeeC w1 v cs) := hv
  have HB1 : Hid (Below w.heap.size w w1) := hb1
  clear hv hb1
  go_wp2_with fail
  refine (HR.out _).mono ?_
  rintro e w2 ⟨u, rfl, hu, hb2⟩
  have HU : Hid (SeeC w2 u cs) := hu
  have HV2 : Hid (SeeC w2 v cs) := HV.out.below hb2
  have HB2 : Hid (Below w.heap.size w w2) := HB1.out.trans (hb2.mono HB1.out.size)
  clear hu hb2
  go_wp2_with fail
  refine (HSm.out _ _ _ HV2.out HU.out).mono ?_
  rintro e w3 ⟨rfl, hb3⟩
  have HB3 : Hid (Below w.heap.size w w3) := HB2.out.trans (hb3.mono HB2.out.size)
  clear hb3
  go_wp2_with fail
  refine (HSu.out _).mono ?_
  rintro e w4 ⟨rfl, hb4⟩
  have HB4 : Hid (Below w.heap.size w w4) := HB3.out.trans (hb4.mono HB3.out.size)
  clear hb4
  go_wp2
  go_ret
  exact ⟨rfl, HB4.out⟩

end Go.Proofs.Ytjlhdnaebdkalaa
