/-
  Lines of commands: the law's own functions.
-/
import Derived.Test.YtghkhnnlhkdceaaXCmds
namespace Go.Proofs.Ytghkhnnlhkdceaa
open Go.RowKit
set_option linter.unusedVariables false
set_option maxRecDepth 100000

/-- A list of words, a list of commands, as they can be read. -/
def StrSee (w : World) (v : Value) (c : List (List UInt8)) : Prop := ∃ a cap, v = .slice a c.length cap ∧ (c ≠ [] → ∃ g, a = some ⟨g, 0, none⟩ ∧ g < w.heap.size ∧ ∀ i x, c[i]? = some x → w.cell? ⟨g, i, none⟩ = some (strV x))
def SeeC (w : World) (v : Value) (cs : List (List (List UInt8))) : Prop := ∃ a cap, v = .slice a cs.length cap ∧ (cs ≠ [] → ∃ g, a = some ⟨g, 0, none⟩ ∧ g < w.heap.size ∧ ∀ i c, cs[i]? = some c → ∃ u, w.cell? ⟨g, i, none⟩ = some u ∧ StrSee w u c)
theorem StrSee.below {w w' : World} {v : Value} {c : List (List UInt8)} (h : StrSee w v c) (hb : Below w.heap.size w w') : StrSee w' v c := by
  obtain ⟨a, cap, rfl, h2⟩ := h
  refine ⟨a, cap, rfl, fun hne => ?_⟩
  obtain ⟨g, e, hg, h3⟩ := h2 hne
  exact ⟨g, e, Nat.lt_of_lt_of_le hg hb.size, fun i x hx => (hb.cell (p := ⟨g, i, none⟩) hg).trans (h3 i x hx)⟩
theorem SeeC.below {w w' : World} {v : Value} {cs : List (List (List UInt8))} (h : SeeC w v cs) (hb : Below w.heap.size w w') : SeeC w' v cs := by
  obtain ⟨a, cap, rfl, h2⟩ := h
  refine ⟨a, cap, rfl, fun hne => ?_⟩
  obtain ⟨g, e, hg, h3⟩ := h2 hne
  refine ⟨g, e, Nat.lt_of_lt_of_le hg hb.size, fun i c hc => ?_⟩
  obtain ⟨u, h4, h5⟩ := h3 i c hc
  exact ⟨u, (hb.cell (p := ⟨g, i, none⟩) hg).trans h4, h5.below hb⟩
theorem StrRow.see {w : World} {B : Nat} {v : Value} {c : List (List UInt8)} (h : StrRow w B v c) : StrSee w v c := by
  rcases h.2 with ⟨rfl, h0⟩ | ⟨g, cap, cur, rfl, hb, hg, r⟩
  · exact ⟨none, 0, by rw [h0], fun hne => absurd (List.length_eq_zero_iff.1 h0) hne⟩
  · refine ⟨_, _, rfl, fun hne => ⟨g, rfl, lt_block hg, fun i x hx => ?_⟩⟩
    have hi := (List.getElem?_eq_some_iff.1 hx).1
    have := World.ownsRow.cellAt h i (by simpa using hi)
    rw [this, List.getElem?_map, hx]
    rfl
theorem Rows2.get {w : World} {lo : Nat} {vs : List Value} {cs : List (List (List UInt8))} {hi : Nat} (h : Rows2 w lo vs cs hi) : ∀ (i : Nat) c, cs[i]? = some c → ∃ v, vs[i]? = some v ∧ StrSee w v c := by
  induction h with
  | nil hi h0 => intro i c hc; simp at hc
  | snoc vs cs mid hi v c hr hv hlt hle ih =>
    intro i c' hc
    have hl := hr.length
    by_cases e : i < cs.length
    · rw [List.getElem?_append_left e] at hc
      obtain ⟨v', h1, h2⟩ := ih i c' hc
      exact ⟨v', by rw [List.getElem?_append_left (by omega)]; exact h1, h2⟩
    · have hi' := (List.getElem?_eq_some_iff.1 hc).1
      rw [List.length_append, List.length_singleton] at hi'
      have e2 : i = cs.length := by omega
      subst e2
      have : c = c' := by simpa using hc
      subst this
      exact ⟨v, by rw [← hl]; simp, hv.see⟩
theorem CmdsAt.see {w : World} {B : Nat} {v : Value} {cs : List (List (List UInt8))} (h : CmdsAt w B v cs) : SeeC w v cs := by
  obtain ⟨vs, h1, h2⟩ := h
  rcases h1.2 with ⟨rfl, h0⟩ | ⟨g, cap, cur, rfl, hb, hg, r⟩
  · exact ⟨none, 0, by rw [h0], fun hne => absurd (List.length_eq_zero_iff.1 h0) hne⟩
  · refine ⟨_, _, rfl, fun hne => ⟨g, rfl, lt_block hg, fun i c hc => ?_⟩⟩
    obtain ⟨v, h3, h4⟩ := h2.get i c hc
    have hi := (List.getElem?_eq_some_iff.1 hc).1
    have := World.ownsRow.cellAt h1 i (by simpa using hi)
    rw [this]
    exact ⟨v, h3, h4⟩

def SmallC (cs : List (List (List UInt8))) : Prop := cs.length ≤ 2000000 ∧ ∀ c ∈ cs, c.length ≤ 2000000

set_option maxHeartbeats 4000000 in
theorem same_true (v u : Value) (cs : List (List (List UInt8))) (w : World) (h1 : SeeC w v cs) (h2 : SeeC w u cs) (hs : SmallC cs) : Calls Try.prog 6 #[v, u] w fun e w' => e = .returned (.bool true) ∧ Below w.heap.size w w' := by
  have H1 : Hid (SeeC w v cs) := h1
  have H2 : Hid (SeeC w u cs) := h2
  obtain ⟨a1, k1, e1, f1⟩ := h1
  obtain ⟨a2, k2, e2, f2⟩ := h2
  subst e1 e2
  have HG1 : Hid (cs ≠ [] → ∃ g, a1 = some ⟨g, 0, none⟩ ∧ g < w.heap.size ∧ ∀ i c, cs[i]? = some c → ∃ u, w.cell? ⟨g, i, none⟩ = some u ∧ StrSee w u c) := f1
  have HG2 : Hid (cs ≠ [] → ∃ g, a2 = some ⟨g, 0, none⟩ ∧ g < w.heap.size ∧ ∀ i c, cs[i]? = some c → ∃ u, w.cell? ⟨g, i, none⟩ = some u ∧ StrSee w u c) := f2
  have HS : Hid (∀ c ∈ cs, c.length ≤ 2000000) := hs.2
  have hN9 := hs.1
  obtain ⟨N, hN⟩ : ∃ N, cs.length = N := ⟨_, rfl⟩
  have HN : Hid (cs.length = N) := hN
  rw [hN] at hN9 ⊢
  clear f1 f2 hs hN H1 H2
  go_enter Try.func6, Try.ntmps6
  go_wp2
  go_loopw [5] (fun vi wr => ∃ i : Nat, i ≤ N ∧ vi = .int .i64 i ∧ Hid (Below w.heap.size w wr)) (fun vi _ => N - (intOf vi).toNat)
  case atStart => exact ⟨0, Nat.zero_le _, rfl, Below.refl _ _⟩
  case round =>
    obtain ⟨i, hi, rfl, HB⟩ := hrel
    by_cases hlt : i < N
    · obtain ⟨c, hc⟩ : ∃ c, cs[i]? = some c := ⟨_, List.getElem?_eq_getElem (by rw [HN.out]; exact hlt)⟩
      have hne : cs ≠ [] := fun e => by rw [e] at hc; simp at hc
      obtain ⟨g1, rfl, hg1, c1⟩ := HG1.out hne
      obtain ⟨g2, rfl, hg2, c2⟩ := HG2.out hne
      obtain ⟨v1, d1, s1⟩ := c1 i c hc
      obtain ⟨v2, d2, s2⟩ := c2 i c hc
      obtain ⟨b1, m1, rfl, t1⟩ := s1
      obtain ⟨b2, m2, rfl, t2⟩ := s2
      have hcl := HS.out c (List.mem_of_getElem? hc)
      obtain ⟨M, hM⟩ : ∃ M, c.length = M := ⟨_, rfl⟩
      have HM : Hid (c.length = M) := hM
      rw [hM] at d1 d2 hcl
      have HD : Hid (∀ X, Below w.heap.size w X → X.cell? ⟨g1, i, none⟩ = some (.slice b1 M m1) ∧ X.cell? ⟨g2, i, none⟩ = some (.slice b2 M m2)) := fun X hX => ⟨(hX.cell (p := ⟨g1, i, none⟩) hg1).trans d1, (hX.cell (p := ⟨g2, i, none⟩) hg2).trans d2⟩
      have HT : Hid (c ≠ [] → ∃ h1 h2, b1 = some ⟨h1, 0, none⟩ ∧ b2 = some ⟨h2, 0, none⟩ ∧ ∀ X, Below w.heap.size w X → ∀ k x, c[k]? = some x → X.cell? ⟨h1, k, none⟩ = some (strV x) ∧ X.cell? ⟨h2, k, none⟩ = some (strV x)) := fun hne => by
        obtain ⟨h1, e1, l1, x1⟩ := t1 hne
        obtain ⟨h2, e2, l2, x2⟩ := t2 hne
        exact ⟨h1, h2, e1, e2, fun X hX k x hx => ⟨(hX.cell (p := ⟨h1, k, none⟩) l1).trans (x1 k x hx), (hX.cell (p := ⟨h2, k, none⟩) l2).trans (x2 k x hx)⟩⟩
      have HN2 : Hid (i < N) := hlt
      clear c1 c2 d1 d2 t1 t2 hM hc hne hg1 hg2
      obtain ⟨d1, d2⟩ := HD.out wr HB.out
      go_wp2
      go_quiet (fail)
      go_wp2
      clear d1 d2
      go_loopw [6] (fun vk wx => ∃ k : Nat, k ≤ M ∧ vk = .int .i64 k ∧ Hid (Below w.heap.size w wx)) (fun vk _ => M - (intOf vk).toNat)
      case atStart => exact ⟨0, Nat.zero_le _, rfl, belowN HB.out _⟩
      case round =>
        obtain ⟨k, hk, rfl, HBx⟩ := hrel
        obtain ⟨d1, d2⟩ := HD.out _ HBx.out
        by_cases hkm : k < M
        · obtain ⟨x, hx⟩ : ∃ x, c[k]? = some x := ⟨_, List.getElem?_eq_getElem (by rw [HM.out]; exact hkm)⟩
          have hne : c ≠ [] := fun e => by rw [e] at hx; simp at hx
          obtain ⟨h1, h2, rfl, rfl, hX⟩ := HT.out hne
          obtain ⟨x1, x2⟩ := hX _ HBx.out k x hx
          unfold strV at x1 x2
          clear hX hne hx
          go_wp2
          go_quiet (fail)
          go_wp2
          go_roundw
          case rel => exact ⟨k + 1, by omega, by go_num, belowN HBx.out _⟩
          case measure => simp [intOf]; omega
        · go_wp2
          go_roundw
          case rel => exact ⟨i + 1, by omega, by go_num, HBx⟩
          case measure => simp [intOf]; omega
    · go_wp2
      go_ret
      exact ⟨rfl, HB.out⟩

end Go.Proofs.Ytghkhnnlhkdceaa
