/-
  Formats: Match.
-/
import Derived.Test.YtgoofifbifdgoaaGreatDoorFToks
namespace Go.Proofs.YtgoofifbifdgoaaGreatDoor
open Go.RowKit
set_option linter.unusedVariables false
set_option maxRecDepth 20000

theorem toks_mems : ∀ (f : Nat) (l : List UInt8) (e : Int), ∀ t ∈ toksG f l e, t.mem.length ≤ l.length
  | 0, l, e, t, h => by simp [toksG] at h
  | f + 1, l, e, t, h => by
    unfold toksG at h
    split at h
    · simp at h
    · rcases List.mem_cons.1 h with h | h
      · rw [h]; exact tok_mem
      · have := toks_mems f _ _ t h
        rw [List.length_drop] at this
        omega
theorem match_any (p s : List UInt8) (hp : p.length ≤ 2147483647) (hs : s.length ≤ 4611686018427387904) (w : World) : Calls Tryz.prog 10 #[.string (str p), .string (str s)] w fun e w' => e = .returned (.bool (mat (dtoksF p) s)) ∧ Below w.heap.size w w' := by
  have HT := hidK fun W => tokens_any p hp W
  have HI : Hid (∀ (W W' : World) (v : Value), Tokens W W' v (toksF p) → Calls Tryz.prog 17 #[v, .string (str s)] W' fun e w' => e = .returned (.bool (mat (dtoksF p) s)) ∧ Below W'.heap.size W' w') := by
    intro W W' v h
    obtain ⟨f, hf⟩ := isG_mat (toksF p) s
    rw [← toks_doc]
    refine isOf_any (h.toks (fun t ht => ?_) ?_) s hs f _ hf
    · have := toks_mems _ _ _ t ht
      omega
    · have : (toksF p).length ≤ p.length := toks_few _ _ _
      omega
  obtain ⟨z, hz⟩ : ∃ z, str p = z := ⟨_, rfl⟩
  obtain ⟨y, hy⟩ : ∃ y, str s = y := ⟨_, rfl⟩
  rw [hz] at HT ⊢
  rw [hy] at HI ⊢
  obtain ⟨b, hb⟩ : ∃ b, mat (dtoksF p) s = b := ⟨_, rfl⟩
  rw [hb] at HI ⊢
  clear hb hz hy
  go_enter Tryz.func10, Tryz.ntmps10
  go_wp2_with fail
  refine (HT.out _).mono ?_
  rintro e w1 ⟨v, rfl, h1⟩
  have HI1 := hidK (HI.out _ _ _ h1)
  have HB1 := hidK h1.below
  clear h1
  go_wp2_with fail
  refine HI1.out.mono ?_
  rintro e w2 ⟨rfl, h2⟩
  have HB2 := hidK (HB1.out.trans (h2.mono HB1.out.size))
  clear h2
  go_wp2_with fail
  all_goals go_ret
  all_goals exact ⟨rfl, HB2.out⟩
end Go.Proofs.YtgoofifbifdgoaaGreatDoor
