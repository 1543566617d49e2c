/-
  Many laid variables: their places are apart, told by one number's bits.
-/
import Derived.Test.YtgbaeajcgiaboaaDoorRows
import Derived.LaidLaws
import Derived.KernelRfl
namespace Go.Proofs.YtgbaeajcgiaboaaDoor

def freshB : Nat → List MemPlace → Bool
  | _, [] => true
  | acc, .cell b o :: r => Nat.blt o 1024 && (!acc.testBit (b * 1024 + o) && freshB (acc ||| 2 ^ (b * 1024 + o)) r)
  | _, .map _ :: _ => false

theorem freshB_apart : ∀ (l : List MemPlace) (acc : Nat), freshB acc l = true → l.Nodup ∧ ∀ b o, MemPlace.cell b o ∈ l → acc.testBit (b * 1024 + o) = false
  | [], _, _ => ⟨List.nodup_nil, fun _ _ h => by cases h⟩
  | .map _ :: _, _, h => by cases h
  | .cell b o :: r, acc, h => by
    unfold freshB at h
    rw [Bool.and_eq_true, Bool.and_eq_true, Bool.not_eq_true'] at h
    obtain ⟨_, h1, h2⟩ := h
    obtain ⟨i1, i2⟩ := freshB_apart r _ h2
    have hself : (acc ||| 2 ^ (b * 1024 + o)).testBit (b * 1024 + o) = true := by rw [Nat.testBit_or, Nat.testBit_two_pow_self, Bool.or_true]
    refine ⟨List.nodup_cons.2 ⟨fun hm => ?_, i1⟩, fun b' o' hm => ?_⟩
    · rw [i2 b o hm] at hself
      cases hself
    · rcases List.mem_cons.1 hm with e | hm
      · cases e
        exact h1
      · have := i2 b' o' hm
        rw [Nat.testBit_or, Bool.or_eq_false_iff] at this
        exact this.1

theorem laidMet_of_fresh {P : Program} {w : World} {l : List (String × DataW Unit)} (fuel : Nat) (h : (DataW.laidRun P w fuel (l.map (·.1))).map (·.1) = some l)
    (hr : (DataW.laidRun P w fuel (l.map (·.1))).map (fun x => freshB 0 x.2 && laidRowsB P w x.2) = some true) : laidMet P l w := by
  cases hx : DataW.laidRun P w fuel (l.map (·.1)) with
  | none => simp [hx] at h
  | some x =>
    obtain ⟨l', ps⟩ := x
    simp only [hx, Option.map_some, Option.some.injEq] at h hr
    subst h
    simp only [Bool.and_eq_true] at hr
    exact laidMet_of_run fuel hx (decide_eq_true (freshB_apart _ _ hr.1).1) hr.2

end Go.Proofs.YtgbaeajcgiaboaaDoor
