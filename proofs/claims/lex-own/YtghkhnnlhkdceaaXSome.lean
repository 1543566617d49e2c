/-
  Lines of commands: two lists are held against each other, whatever they are.
-/
import Derived.Test.YtghkhnnlhkdceaaXSame
namespace Go.Proofs.Ytghkhnnlhkdceaa
open Go.RowKit
set_option linter.unusedVariables false
set_option maxRecDepth 100000

theorem neq_int {a b : Nat} (h : a ≠ b) : ((a : Int) != (b : Int)) = true := by
  have : (a : Int) ≠ (b : Int) := by omega
  simpa using this

set_option maxHeartbeats 8000000 in
theorem same_some (v u : Value) (cs ds : List (List (List UInt8))) (w : World) (h1 : SeeC w v cs) (h2 : SeeC w u ds) (hs : SmallC cs) (hs2 : SmallC ds) : Calls Try.prog 6 #[v, u] w fun e w' => (∃ b, e = .returned (.bool b)) ∧ Below w.heap.size w w' := by
  obtain ⟨a1, k1, e1, f1⟩ := h1
  obtain ⟨a2, k2, e2, f2⟩ := h2
  subst e1 e2
  have HG1 : Hid (cs ≠ [] → ∃ g, a1 = some ⟨g, 0, none⟩ ∧ g < w.heap.size ∧ ∀ i c, cs[i]? = some c → ∃ u, w.cell? ⟨g, i, none⟩ = some u ∧ StrSee w u c) := f1
  have HG2 : Hid (ds ≠ [] → ∃ g, a2 = some ⟨g, 0, none⟩ ∧ g < w.heap.size ∧ ∀ i c, ds[i]? = some c → ∃ u, w.cell? ⟨g, i, none⟩ = some u ∧ StrSee w u c) := f2
  have HS : Hid (∀ c ∈ cs, c.length ≤ 2000000) := hs.2
  have HS2 : Hid (∀ c ∈ ds, c.length ≤ 2000000) := hs2.2
  have hN9 := hs.1
  have hN92 := hs2.1
  obtain ⟨N, hN⟩ : ∃ N, cs.length = N := ⟨_, rfl⟩
  have HN : Hid (cs.length = N) := hN
  obtain ⟨N', hN'⟩ : ∃ N, ds.length = N := ⟨_, rfl⟩
  have HN' : Hid (ds.length = N') := hN'
  rw [hN] at hN9 ⊢
  rw [hN'] at hN92 ⊢
  clear f1 f2 hs hs2 hN hN'
  by_cases hNN : N = N'
  · subst hNN
    go_enter Try.func6, Try.ntmps6
    go_wp2
    go_loopw [5] (fun vi wr => ∃ i : Nat, i ≤ N ∧ vi = .int .i64 i ∧ Hid (Below w.heap.size w wr)) (fun vi _ => N - (intOf vi).toNat)
    case atStart => exact ⟨0, Nat.zero_le _, rfl, Below.refl _ _⟩
    case round =>
      obtain ⟨i, hi, rfl, HB⟩ := hrel
      by_cases hlt : i < N
      · obtain ⟨c, hc⟩ : ∃ c, cs[i]? = some c := ⟨_, List.getElem?_eq_getElem (by rw [HN.out]; exact hlt)⟩
        obtain ⟨d, hd⟩ : ∃ c, ds[i]? = some c := ⟨_, List.getElem?_eq_getElem (by rw [HN'.out]; exact hlt)⟩
        have hne : cs ≠ [] := fun e => by rw [e] at hc; simp at hc
        have hne2 : ds ≠ [] := fun e => by rw [e] at hd; simp at hd
        obtain ⟨g1, rfl, hg1, c1⟩ := HG1.out hne
        obtain ⟨g2, rfl, hg2, c2⟩ := HG2.out hne2
        obtain ⟨v1, d1, s1⟩ := c1 i c hc
        obtain ⟨v2, d2, s2⟩ := c2 i d hd
        obtain ⟨b1, m1, rfl, t1⟩ := s1
        obtain ⟨b2, m2, rfl, t2⟩ := s2
        have hcl := HS.out c (List.mem_of_getElem? hc)
        have hdl := HS2.out d (List.mem_of_getElem? hd)
        obtain ⟨M, hM⟩ : ∃ M, c.length = M := ⟨_, rfl⟩
        have HM : Hid (c.length = M) := hM
        obtain ⟨M', hM'⟩ : ∃ M, d.length = M := ⟨_, rfl⟩
        have HM' : Hid (d.length = M') := hM'
        rw [hM] at d1 hcl
        rw [hM'] at d2 hdl
        have HD : Hid (∀ X, Below w.heap.size w X → X.cell? ⟨g1, i, none⟩ = some (.slice b1 M m1) ∧ X.cell? ⟨g2, i, none⟩ = some (.slice b2 M' m2)) := fun X hX => ⟨(hX.cell (p := ⟨g1, i, none⟩) hg1).trans d1, (hX.cell (p := ⟨g2, i, none⟩) hg2).trans d2⟩
        have HT : Hid (c ≠ [] → ∃ h1, b1 = some ⟨h1, 0, none⟩ ∧ ∀ X, Below w.heap.size w X → ∀ k x, c[k]? = some x → X.cell? ⟨h1, k, none⟩ = some (strV x)) := fun hne => by
          obtain ⟨h1, e1, l1, x1⟩ := t1 hne
          exact ⟨h1, e1, fun X hX k x hx => (hX.cell (p := ⟨h1, k, none⟩) l1).trans (x1 k x hx)⟩
        have HT2 : Hid (d ≠ [] → ∃ h1, b2 = some ⟨h1, 0, none⟩ ∧ ∀ X, Below w.heap.size w X → ∀ k x, d[k]? = some x → X.cell? ⟨h1, k, none⟩ = some (strV x)) := fun hne => by
          obtain ⟨h1, e1, l1, x1⟩ := t2 hne
          exact ⟨h1, e1, fun X hX k x hx => (hX.cell (p := ⟨h1, k, none⟩) l1).trans (x1 k x hx)⟩
        have HN2 : Hid (i < N) := hlt
        clear c1 c2 d1 d2 t1 t2 hM hM' hc hd hne hne2 hg1 hg2
        obtain ⟨d1, d2⟩ := HD.out wr HB.out
        by_cases hMM : M = M'
        · subst hMM
          go_wp2
          go_quiet (fail)
          go_wp2
          clear d1 d2
          go_loopw [6] (fun vk wx => ∃ k : Nat, k ≤ M ∧ vk = .int .i64 k ∧ Hid (Below w.heap.size w wx)) (fun vk _ => M - (intOf vk).toNat)
          case atStart => exact ⟨0, Nat.zero_le _, rfl, belowN HB.out _⟩
          case round =>
            obtain ⟨k, hk, rfl, HBx⟩ := hrel
            obtain ⟨d1, d2⟩ := HD.out _ HBx.out
            by_cases hkm : k < M
            · obtain ⟨x, hx⟩ : ∃ x, c[k]? = some x := ⟨_, List.getElem?_eq_getElem (by rw [HM.out]; exact hkm)⟩
              obtain ⟨y, hy⟩ : ∃ x, d[k]? = some x := ⟨_, List.getElem?_eq_getElem (by rw [HM'.out]; exact hkm)⟩
              have hne : c ≠ [] := fun e => by rw [e] at hx; simp at hx
              have hne2 : d ≠ [] := fun e => by rw [e] at hy; simp at hy
              obtain ⟨h1, rfl, hX⟩ := HT.out hne
              obtain ⟨h2, rfl, hY⟩ := HT2.out hne2
              have x1 := hX _ HBx.out k x hx
              have x2 := hY _ HBx.out k y hy
              unfold strV at x1 x2
              obtain ⟨X, hXe⟩ : ∃ z, str x = z := ⟨_, rfl⟩
              obtain ⟨Y, hYe⟩ : ∃ z, str y = z := ⟨_, rfl⟩
              rw [hXe] at x1
              rw [hYe] at x2
              clear hX hY hne hne2 hx hy hXe hYe
              go_wp2
              go_quiet (fail)
              go_wp2
              · go_ret
                exact ⟨⟨_, rfl⟩, belowN HBx.out _⟩
              · go_roundw
                case rel => exact ⟨k + 1, by omega, by go_num, belowN HBx.out _⟩
                case measure => simp [intOf]; omega
            · go_wp2
              go_roundw
              case rel => exact ⟨i + 1, by omega, by go_num, HBx⟩
              case measure => simp [intOf]; omega
        · have eM := neq_int hMM
          go_wp2
          go_quiet (fail)
          go_wp2
          go_ret
          exact ⟨⟨_, rfl⟩, belowN HB.out _⟩
      · go_wp2
        go_ret
        exact ⟨⟨_, rfl⟩, HB.out⟩
  · have eN := neq_int hNN
    go_enter Try.func6, Try.ntmps6
    go_wp2
    go_ret
    exact ⟨⟨_, rfl⟩, Below.refl _ _⟩

end Go.Proofs.Ytghkhnnlhkdceaa
