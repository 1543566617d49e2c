/-
  Keys: two lists compared; what must come.
-/
import Derived.Test.YtghepjjfdaecgaaDoorKFlu
namespace Go.Proofs.YtghepjjfdaecgaaDoor
open Go.RowKit
set_option linter.unusedVariables false
set_option maxRecDepth 100000

/-- Keys that can be read. -/
def SeeK (w : World) (v : Value) (ks : List (Int × Int)) : Prop := ∃ ad c, v = .slice ad ks.length c ∧ (ks ≠ [] → ∃ g o, ad = some ⟨g, o, none⟩ ∧ ∀ j (hj : j < ks.length), w.cell? ⟨g, o + j * 2, none⟩ = some (.int .i64 ks[j].1) ∧ w.cell? ⟨g, o + j * 2 + 1, none⟩ = some (.int .i64 ks[j].2))
theorem SeeK.below {w w' : World} {v : Value} {ks : List (Int × Int)} (h : SeeK w v ks) (hb : Below w.heap.size w w') : SeeK w' v ks := by
  obtain ⟨ad, c, rfl, hc⟩ := h
  refine ⟨ad, c, rfl, fun hl => ?_⟩
  obtain ⟨g, o, rfl, hk⟩ := hc hl
  exact ⟨g, o, rfl, fun j hj => ⟨(hb.cell (World.block_lt_of_cell? w _ (hk j hj).1)).trans (hk j hj).1, (hb.cell (World.block_lt_of_cell? w _ (hk j hj).2)).trans (hk j hj).2⟩⟩
theorem flat_at : ∀ (ks : List (Int × Int)) (j : Nat) (hj : j < ks.length), (ks.flatMap keyV)[j * 2]? = some (.int .i64 ks[j].1) ∧ (ks.flatMap keyV)[j * 2 + 1]? = some (.int .i64 ks[j].2)
  | k :: r, 0, _ => ⟨rfl, rfl⟩
  | k :: r, j + 1, hj => by
    have h := flat_at r j (by simpa using hj)
    rw [show (j + 1) * 2 = j * 2 + 2 by omega, List.flatMap_cons]
    simp only [keyV, List.cons_append, List.nil_append, List.getElem?_cons_succ, List.getElem_cons_succ]
    exact h
theorem KeysAt.see {w : World} {B : Nat} {v : Value} {ks : List (Int × Int)} (h : KeysAt w B v ks) : SeeK w v ks := by
  rcases h.2 with ⟨e, h0⟩ | ⟨g, cap, cur, e, hb, hk, h1, h2, h3, h4⟩
  · have : ks = [] := List.length_eq_zero_iff.1 h0
    subst this
    exact ⟨_, _, e, fun h => absurd rfl h⟩
  · subst e
    refine ⟨_, _, rfl, fun _ => ⟨g, 0, rfl, fun j hj => ?_⟩⟩
    obtain ⟨f1, f2⟩ := flat_at ks j hj
    have g1 := World.ownsRow.cells h (g := g) rfl (j * 2) _ f1
    have g2 := World.ownsRow.cells h (g := g) rfl (j * 2 + 1) _ f2
    rw [addr_add] at g1 g2
    exact ⟨g1, g2⟩
theorem SeeK.lit {w : World} {g n : Nat} {T : TypeId} (ks : List (Int × Int)) (hg : w.heap[g]? = some (.cells (ks.flatMap keyV).toArray T (0, 0))) (hn : ks.length = n) (c : Nat) : SeeK w (.slice (some ⟨g, 0, none⟩) n c) ks := by
  subst hn
  refine ⟨_, _, rfl, fun _ => ⟨g, 0, rfl, fun j hj => ?_⟩⟩
  obtain ⟨f1, f2⟩ := flat_at ks j hj
  rw [cell_at hg, cell_at hg, Nat.zero_add]
  exact ⟨by simpa using f1, by simpa using f2⟩
set_option maxHeartbeats 4000000 in
theorem same_any {w : World} {va vb : Value} {a b : List (Int × Int)} (ha : SeeK w va a) (hb : SeeK w vb b) (hl : a.length ≤ 4000000) (hl2 : b.length ≤ 4000000) : Calls Tryd.prog 12 #[va, vb] w fun r w' => r = .returned (.bool (decide (a = b))) ∧ Below w.heap.size w w' := by
  obtain ⟨aa, ca, rfl, ha⟩ := ha
  obtain ⟨ab, cb, rfl, hb⟩ := hb
  obtain ⟨z, hz⟩ : ∃ z, decide (a = b) = z := ⟨_, rfl⟩
  rw [hz]
  obtain ⟨n, hn⟩ : ∃ n, a.length = n := ⟨_, rfl⟩
  obtain ⟨m, hm⟩ : ∃ m, b.length = m := ⟨_, rfl⟩
  have HA := hidK ha
  have HB := hidK hb
  have HZ := hidK hz
  have HL := hidK (And.intro hn hm)
  rw [hn, hm]
  clear ha hb hz
  by_cases hnm : n = m
  · subst hnm
    rw [hn] at hl
    clear hn hm hl2
    go_enter Tryd.func12, Tryd.ntmps12
    go_wp2_with fail
    go_loopw [5] (fun i wr => ∃ k : Nat, k ≤ n ∧ i = .int .i64 k ∧ Hid (Below w.heap.size w wr) ∧ Hid (a.take k = b.take k)) (fun i _ => n - (intOf i).toNat)
    case atStart => exact ⟨0, Nat.zero_le _, rfl, Below.refl _ _, rfl⟩
    case round =>
      obtain ⟨k, hk, rfl, HW, HT⟩ := hrel
      by_cases hlt : k < n
      · have hka : k < a.length := by rw [HL.out.1]; exact hlt
        have hkb : k < b.length := by rw [HL.out.2]; exact hlt
        obtain ⟨g, o, rfl, h1⟩ := HA.out (fun e => by rw [e] at hka; simp at hka)
        obtain ⟨g', o', rfl, h2⟩ := HB.out (fun e => by rw [e] at hkb; simp at hkb)
        obtain ⟨a1, a2⟩ := h1 k hka
        obtain ⟨b1, b2⟩ := h2 k hkb
        obtain ⟨⟨x, y⟩, hxy⟩ : ∃ q, a[k] = q := ⟨_, rfl⟩
        obtain ⟨⟨x', y'⟩, hxy'⟩ : ∃ q, b[k] = q := ⟨_, rfl⟩
        rw [hxy] at a1 a2
        rw [hxy'] at b1 b2
        simp only at a1 a2 b1 b2
        have hi1 : (k : Int) < (n : Int) := by omega
        have HX : Hid (a[k]? = some (x, y) ∧ b[k]? = some (x', y')) := ⟨by rw [List.getElem?_eq_getElem hka, hxy], by rw [List.getElem?_eq_getElem hkb, hxy']⟩
        have e1 : wr.cell? ⟨g, o + k * 2, none⟩ = some (.int .i64 x) := (HW.out.cell (World.block_lt_of_cell? w _ a1)).trans a1
        have e2 : wr.cell? ⟨g, o + k * 2 + 1, none⟩ = some (.int .i64 y) := (HW.out.cell (World.block_lt_of_cell? w _ a2)).trans a2
        have e3 : wr.cell? ⟨g', o' + k * 2, none⟩ = some (.int .i64 x') := (HW.out.cell (World.block_lt_of_cell? w _ b1)).trans b1
        have e4 : wr.cell? ⟨g', o' + k * 2 + 1, none⟩ = some (.int .i64 y') := (HW.out.cell (World.block_lt_of_cell? w _ b2)).trans b2
        clear h1 h2 hxy hxy' hka hkb a1 a2 b1 b2
        by_cases hx : x = x'
        · subst hx
          by_cases hy : y = y'
          · subst hy
            have HT2 : Hid (a.take (k + 1) = b.take (k + 1)) := by
              show _ = _
              rw [List.take_add_one, List.take_add_one, HT.out, HX.out.1, HX.out.2]
            go_wp2_with fail
            go_quiet (fail)
            rename_i nq
            go_wp2_with fail
            go_roundw
            case rel => exact ⟨k + 1, by omega, by first | rfl | go_num, below_step HW.out (below_drewN _ _), HT2⟩
            case measure => simp [intOf]; omega
          · have hy2 : (y == y') = false := by simpa using hy
            have HY := hidK hy
            clear hy
            have HZ2 : Hid (z = false) := by
              show _ = _
              rw [← HZ.out]
              simp only [decide_eq_false_iff_not]
              intro e
              have h1 := HX.out.1
              rw [e, HX.out.2] at h1
              simp only [Option.some.injEq, Prod.mk.injEq] at h1
              exact HY.out h1.2.symm
            go_wp2_with fail
            go_quiet (fail)
            rename_i nq
            go_wp2_with fail
            go_ret
            exact ⟨by rw [HZ2.out]; rfl, below_step HW.out (below_drewN _ _)⟩
        · have hx2 : (x == x') = false := by simpa using hx
          have HY := hidK hx
          clear hx
          have HZ2 : Hid (z = false) := by
            show _ = _
            rw [← HZ.out]
            simp only [decide_eq_false_iff_not]
            intro e
            have h1 := HX.out.1
            rw [e, HX.out.2] at h1
            simp only [Option.some.injEq, Prod.mk.injEq] at h1
            exact HY.out h1.1.symm
          go_wp2_with fail
          go_quiet (fail)
          rename_i nq
          go_wp2_with fail
          go_ret
          exact ⟨by rw [HZ2.out]; rfl, below_step HW.out (below_drewN _ _)⟩
      · obtain rfl : k = n := by omega
        have HZ2 : Hid (z = true) := by
          show _ = _
          have h1 := HT.out
          rw [List.take_of_length_le (by rw [HL.out.1]; exact Nat.le_refl _), List.take_of_length_le (by rw [HL.out.2]; exact Nat.le_refl _)] at h1
          rw [← HZ.out, h1]
          simp
        go_wp2_with fail
        go_ret
        exact ⟨by rw [HZ2.out]; rfl, HW.out⟩
  · have HZ2 : Hid (z = false) := by
      show _ = _
      rw [← HZ.out]
      simp only [decide_eq_false_iff_not]
      intro e
      subst e
      exact hnm (hn.symm.trans hm)
    have i1 : ((n : Int) == (m : Int)) = false := by simp; omega
    have i2 : ¬ (n : Int) = (m : Int) := by omega
    clear hn hm hl hl2 hnm
    go_enter Tryd.func12, Tryd.ntmps12
    go_wp2_with fail
    go_ret
    exact ⟨by rw [HZ2.out]; rfl, Below.refl _ _⟩
end Go.Proofs.YtghepjjfdaecgaaDoor
