/-
  Keys: what is held behind ESC.
-/
import Derived.Test.YtghepjjfdaecgaaDoorKDec
namespace Go.Proofs.YtghepjjfdaecgaaDoor
open Go.RowKit
set_option linter.unusedVariables false
set_option maxRecDepth 100000

theorem addr_add (g o j : Nat) : (⟨g, o, none⟩ : Addr).add j = ⟨g, o + j, none⟩ := by unfold Addr.add; split <;> simp_all
/-- Bytes that can be read. -/
def SeeB (w : World) (v : Value) (l : List UInt8) : Prop := ∃ ad c, v = .slice ad l.length c ∧ l.length ≤ c ∧ (l ≠ [] → ∃ g o, ad = some ⟨g, o, none⟩ ∧ ∀ j (hj : j < l.length), w.cell? ⟨g, o + j, none⟩ = some (bv l[j]))
theorem SeeB.below {w w' : World} {v : Value} {l : List UInt8} (h : SeeB w v l) (hb : Below w.heap.size w w') : SeeB w' v l := by
  obtain ⟨ad, c, rfl, hcc, hc⟩ := h
  refine ⟨ad, c, rfl, hcc, fun hl => ?_⟩
  obtain ⟨g, o, rfl, hk⟩ := hc hl
  exact ⟨g, o, rfl, fun j hj => (hb.cell (World.block_lt_of_cell? w _ (hk j hj))).trans (hk j hj)⟩
theorem Owns.see {w : World} {B : Nat} {v : Value} {l : List UInt8} (h : Owns w B v l) : SeeB w v l := by
  rcases h.2 with ⟨rfl, h0⟩ | ⟨g, cap, cur, rfl, hb, hg, h1, h2, h3, h4⟩
  · have : l = [] := List.length_eq_zero_iff.1 h0
    subst this
    exact ⟨_, _, rfl, Nat.zero_le _, fun h => absurd rfl h⟩
  · refine ⟨_, _, rfl, h1, fun _ => ⟨g, 0, rfl, fun j hj => ?_⟩⟩
    have := World.ownsRow.cells h (g := g) rfl j (bv l[j]) (by rw [List.getElem?_map, List.getElem?_eq_getElem hj]; rfl)
    rwa [addr_add] at this
theorem behind_esc (r : List UInt8) : behindF (27 :: r) = (r, 2) := rfl
theorem behind_not {b : UInt8} (hb : b ≠ 27) (r : List UInt8) : behindF (b :: r) = (b :: r, 0) := by
  unfold behindF
  split
  · rename_i r' e
    exact absurd (List.cons.inj e).1 hb
  · rfl
set_option maxHeartbeats 2000000 in
theorem behind_any {B d : Nat} {w0 w : World} {v : Value} {l : List UInt8} (h : Dc B d w0 w v l) : Calls Tryd.prog 31 #[.pointer (some ⟨d, 0, none⟩)] w fun r w' => (∃ ad n c, r = .returned (.tuple #[.slice ad n c, .int .i64 (behindF l).2]) ∧ SeeB w (.slice ad n c) (behindF l).1) ∧ w = w' := by
  have c0 := h.cell
  have hs := h.own.see
  have ho := h.own
  cases l with
  | nil =>
    have HS := hidK hs
    rcases ho.2 with ⟨rfl, h0⟩ | ⟨g, cap, cur, rfl, hb, hg, h1, h2, h3, h4⟩
    · clear h hs ho h0
      go_enter Tryd.func31, Tryd.ntmps31
      go_wp2_with fail
      go_ret2
      exact ⟨⟨_, _, _, rfl, HS.out⟩, rfl⟩
    · simp only [List.length_nil] at c0
      clear h hs ho hb hg h1 h2 h3 h4
      go_enter Tryd.func31, Tryd.ntmps31
      go_wp2_with fail
      go_ret2
      exact ⟨⟨_, _, _, rfl, HS.out⟩, rfl⟩
  | cons b r =>
    rcases ho.2 with ⟨rfl, h0⟩ | ⟨g, cap, cur, rfl, hb, hg, h1, h2, h3, h4⟩
    · exact absurd h0 (by simp)
    · have hcell : ∀ j (hj : j < (b :: r).length), w.cell? ⟨g, j, none⟩ = some (bv (b :: r)[j]) := fun j hj => by
        have := World.ownsRow.cells ho (g := g) rfl j (bv (b :: r)[j]) (by rw [List.getElem?_map, List.getElem?_eq_getElem hj]; rfl)
        rwa [addr_add, Nat.zero_add] at this
      have g0 : w.cell? ⟨g, 0, none⟩ = some (.int .u8 b.toNat) := hcell 0 (by simp)
      have HC := hidK hcell
      obtain ⟨n, hn⟩ : ∃ n, (b :: r).length = n := ⟨_, rfl⟩
      have hn1 : n = r.length + 1 := by rw [← hn]; simp
      have hp : (0 : Int) < (n : Int) := by omega
      rw [hn] at c0 h1
      by_cases hb27 : b = 27
      · subst hb27
        have e27 : (((27 : UInt8).toNat : Int) == 27) = true := by decide
        have hc27 : ((27 : UInt8).toNat : Int) = 27 := by decide
        rw [hc27] at g0
        by_cases hcap : cap = 1
        · have hr : r = [] := List.length_eq_zero_iff.1 (by omega)
          subst hr
          have hn2 : n = 1 := by simpa using hn1
          subst hn2
          subst hcap
          clear h hs ho hb hg h2 h3 h4 hcell hn hn1 HC h1
          go_enter Tryd.func31, Tryd.ntmps31
          go_wp2_with fail
          go_ret2
          exact ⟨⟨_, _, _, rfl, _, _, rfl, Nat.zero_le _, fun h => absurd rfl h⟩, rfl⟩
        · have hc2 : (1 : Int) < (cap : Int) := by omega
          have hle : (1 : Int) ≤ (n : Int) := by omega
          have hnc : (n : Int) ≤ (cap : Int) := by omega
          have hz : ¬ (cap - 1 = 0) := by omega
          have HSee : Hid (SeeB w (.slice (some ⟨g, 1, none⟩) (n - 1) (cap - 1)) r) := by
            refine ⟨_, _, by rw [show n - 1 = r.length by omega], by omega, fun _ => ⟨g, 1, rfl, fun j hj => ?_⟩⟩
            have := HC.out (j + 1) (by simp; omega)
            simp only [List.getElem_cons_succ] at this
            rw [Nat.add_comm 1 j]
            exact this
          clear h hs ho hb hg h2 h3 h4 hcell hn hn1 HC h1 hcap
          go_enter Tryd.func31, Tryd.ntmps31
          go_wp2_with fail
          go_ret2
          exact ⟨⟨_, _, _, rfl, HSee.out⟩, rfl⟩
      · have e27 : ((b.toNat : Int) == 27) = false := by
          simp only [beq_eq_false_iff_ne, ne_eq]
          intro e
          exact hb27 (UInt8.toNat_inj.1 (by have : (27 : UInt8).toNat = 27 := rfl; omega))
        have HS : Hid (SeeB w (.slice (some ⟨g, 0, none⟩) n cap) (b :: r)) := by rw [← hn]; exact hs
        rw [behind_not hb27]
        clear h hs ho hb hg h2 h3 h4 hcell hn hn1 HC h1 hb27
        go_enter Tryd.func31, Tryd.ntmps31
        go_wp2_with fail
        go_ret2
        exact ⟨⟨_, _, _, rfl, HS.out⟩, rfl⟩
end Go.Proofs.YtghepjjfdaecgaaDoor
