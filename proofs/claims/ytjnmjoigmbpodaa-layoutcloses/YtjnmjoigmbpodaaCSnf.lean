/-
  Layouts: the document's stretch, of every tree.
-/
import Derived.Test.YtjnmjoigmbpodaaCSna
import Derived.Test.YtjnmjoigmbpodaaCSnb
import Derived.Test.YtjnmjoigmbpodaaCSm
import Derived.Test.YtjnmjoigmbpodaaCSnd
import Derived.Test.YtjnmjoigmbpodaaCSne
namespace Go.Proofs.Ytjnmjoigmbpodaa
open Go.RowKit
set_option linter.unusedVariables false
set_option maxRecDepth 20000

theorem str_goods : ∀ (N : Nat) (t : Tree), t.size ≤ N → StrGood t := by
  intro N
  induction N with
  | zero =>
    intro t ht
    have := t.size_pos
    omega
  | succ N ih =>
    intro t ht j n t' sl fp w hst hIn
    have hok := hst.ok
    have hsd := t.sound_sides hok.sound
    have hn : -1000 ≤ n ∧ n ≤ 1000 := ⟨hok.low, hok.high⟩
    have hdir := hok.dir
    have hsz := hok.size
    by_cases h0 : n = 0
    · subst h0
      have := str_zero _ t (Nat.le_refl _) j t' hst
      subst this
      cases t' with
      | leaf b p =>
        rcases hdir with rfl | rfl
        · have h := strN_early2 1 b.w b.h p [] 0 sl fp w (.inl rfl) hsd.1 hsd.2 hn (by simp) hIn
          rw [Int.add_zero] at h
          exact h
        · have h := strN_early3 1 b.w b.h p [] 0 sl fp w (.inl rfl) hsd.1 hsd.2 hn (by simp) hIn
          rw [Int.add_zero] at h
          exact h
      | split b k ts =>
        change 1 + sizes ts ≤ 900 at hsz
        have hll := length_sizes ts
        have hl : (nodesOf ts).length ≤ 900 := by rw [nodesOf_length]; omega
        rcases hdir with rfl | rfl
        · have h := strN_early2 k b.w b.h 0 (nodesOf ts) 0 sl fp w (.inr rfl) hsd.1 hsd.2 hn hl hIn
          rw [Int.add_zero] at h
          exact h
        · have h := strN_early3 k b.w b.h 0 (nodesOf ts) 0 sl fp w (.inr rfl) hsd.1 hsd.2 hn hl hIn
          rw [Int.add_zero] at h
          exact h
    · cases hst with
      | leaf b p _ _ _ =>
        rcases hdir with rfl | rfl
        · exact strN_early2 1 b.w b.h p [] n sl fp w (.inl rfl) hsd.1 hsd.2 hn (by simp) hIn
        · exact strN_early3 1 b.w b.h p [] n sl fp w (.inl rfl) hsd.1 hsd.2 hn (by simp) hIn
      | across b k ts _ _ rs _ hne hlen heach =>
        have hk : k = 2 ∨ k = 3 := hok.kinds.1
        change 1 + sizes ts ≤ N + 1 at ht
        have IH : ∀ t ∈ ts, StrGood t := fun t htm => by
          obtain ⟨i, hi⟩ := List.getElem?_of_mem htm
          have := sizes_at ts i t hi
          exact ih t (by omega)
        rcases hdir with rfl | rfl
        · have : k = 3 := hk.resolve_left fun e => hne e.symm
          subst this
          exact strN_across2 b ts rs n sl fp w h0 hok hlen heach IH hIn
        · have : k = 2 := hk.resolve_right fun e => hne e.symm
          subst this
          exact strN_across3 b ts rs n sl fp w h0 hok hlen heach IH hIn
      | along b k ts _ m rs _ hd =>
        change 1 + sizes ts ≤ N + 1 at ht
        rcases hdir with rfl | rfl
        · exact strN_along2 b ts rs n m N sl fp w h0 hok hd ih (by omega) hIn
        · exact strN_along3 b ts rs n m N sl fp w h0 hok hd ih (by omega) hIn
theorem str_good (t : Tree) : StrGood t := str_goods t.size t (Nat.le_refl _)

end Go.Proofs.Ytjnmjoigmbpodaa
