/-
  Layouts: the statement on checks, walked.
  Layouts: the law's own has and without.
-/
import Derived.Test.YtnepemlagnnngaaCNx
import Derived.Test.YtnepemlagnnngaaCWa
import Derived.Test.YtnepemlagnnngaaCRd
namespace Go.Proofs.Ytnepemlagnnngaa
open Go.RowKit
set_option linter.unusedVariables false
set_option maxRecDepth 100000

theorem sameInts_none (w : World) : Calls Try.prog 19 #[.slice none 0 0, .slice none 0 0] w fun e w' => e = .returned (.bool true) ∧ w = w' := by
  go_enter Try.func19, Try.ntmps19
  go_wp2
  go_loopw [5] (fun v wr => v = .int .i64 0 ∧ w = wr) (fun _ _ => 0)
  case atStart => exact ⟨rfl, rfl⟩
  case round =>
    obtain ⟨rfl, rfl⟩ := hrel
    go_wp2
    go_ret
    exact ⟨rfl, rfl⟩
set_option maxHeartbeats 1000000 in
theorem sameInts_some (g1 c1 g2 c2 n : Nat) (zs : List Int) (w : World) (h1 : ∀ (j : Nat) x, zs[j]? = some x → w.cell? ⟨g1, j, none⟩ = some (.int .i64 x)) (h2 : ∀ (j : Nat) x, zs[j]? = some x → w.cell? ⟨g2, j, none⟩ = some (.int .i64 x)) (hn : zs.length = n) (hn1 : n ≤ 1000000) : Calls Try.prog 19 #[.slice (some ⟨g1, 0, none⟩) n c1, .slice (some ⟨g2, 0, none⟩) n c2] w fun e w' => e = .returned (.bool true) ∧ Below w.heap.size w w' := by
  have HC : Hid (∀ X, Below w.heap.size w X → ∀ (j : Nat) x, zs[j]? = some x → X.cell? ⟨g1, j, none⟩ = some (.int .i64 x) ∧ X.cell? ⟨g2, j, none⟩ = some (.int .i64 x)) := fun X hX j x hj => ⟨(hX.cell (p := ⟨g1, j, none⟩) (World.block_lt_of_cell? w _ (h1 j x hj))).trans (h1 j x hj), (hX.cell (p := ⟨g2, j, none⟩) (World.block_lt_of_cell? w _ (h2 j x hj))).trans (h2 j x hj)⟩
  have HN : Hid (zs.length = n) := hn
  clear h1 h2 hn
  go_enter Try.func19, Try.ntmps19
  go_wp2
  go_loopw [5] (fun v wr => ∃ i : Nat, i ≤ n ∧ v = .int .i64 i ∧ Hid (Below w.heap.size w wr)) (fun v _ => n - (intOf v).toNat)
  case atStart => exact ⟨0, Nat.zero_le _, rfl, Below.refl _ _⟩
  case round =>
    obtain ⟨i, hi, rfl, HB⟩ := hrel
    by_cases hlt : i < n
    · obtain ⟨x, hx⟩ : ∃ x, zs[i]? = some x := ⟨_, List.getElem?_eq_getElem (by rw [HN.out]; exact hlt)⟩
      obtain ⟨p1, p2⟩ := HC.out wr HB.out i x hx
      clear hx
      go_wp2
      go_quiet (fail)
      go_wp2
      go_roundw
      case rel => exact ⟨i + 1, by omega, by go_num, below_drewN HB.out _⟩
      case measure => simp [intOf]; omega
    · go_wp2
      go_ret
      exact ⟨rfl, HB.out⟩
theorem sameInts_zero (a : Option Addr) (c : Nat) (a' : Option Addr) (c' : Nat) (w : World) : Calls Try.prog 19 #[.slice a 0 c, .slice a' 0 c'] w fun e w' => e = .returned (.bool true) ∧ Below w.heap.size w w' := by
  go_enter Try.func19, Try.ntmps19
  go_wp2
  go_loopw [5] (fun v wr => v = .int .i64 0 ∧ w = wr) (fun _ _ => 0)
  case atStart => exact ⟨rfl, rfl⟩
  case round =>
    obtain ⟨rfl, rfl⟩ := hrel
    go_wp2
    go_ret
    exact ⟨rfl, Below.refl _ _⟩
theorem sameInts_any (u v : Value) (zs : List Int) (B B' : Nat) (w : World) (h1 : IOwns w B u zs) (h2 : IOwns w B' v zs) (hn : zs.length ≤ 1000000) : Calls Try.prog 19 #[u, v] w fun e w' => e = .returned (.bool true) ∧ Below w.heap.size w w' := by
  rcases h1.at_ with ⟨rfl, hz⟩ | ⟨g1, c1, rfl, k1⟩ <;> rcases h2.at_ with ⟨rfl, hz'⟩ | ⟨g2, c2, rfl, k2⟩
  · exact (sameInts_none w).mono fun e w' h => ⟨h.1, h.2 ▸ Below.refl _ _⟩
  · subst hz
    exact sameInts_zero none 0 (some ⟨g2, 0, none⟩) c2 w
  · subst hz'
    exact sameInts_zero (some ⟨g1, 0, none⟩) c1 none 0 w
  · exact sameInts_some g1 c1 g2 c2 zs.length zs w k1 k2 rfl hn
end Go.Proofs.Ytnepemlagnnngaa

namespace Go.Proofs.Ytnepemlagnnngaa
open Go.RowKit
set_option linter.unusedVariables false
set_option maxRecDepth 100000

theorem hasL_some (g n cap : Nat) (zs : List Int) (x : Int) (w : World) (hc : ∀ (j : Nat) y, zs[j]? = some y → w.cell? ⟨g, j, none⟩ = some (.int .i64 y)) (hn : zs.length = n) (hn2 : n ≤ 1000) : Calls Try.prog 18 #[.slice (some ⟨g, 0, none⟩) n cap, .int .i64 x] w fun e w' => e = .returned (.bool (decide (x ∈ zs))) ∧ w = w' := by
  have HC : Hid (∀ (j : Nat) y, zs[j]? = some y → w.cell? ⟨g, j, none⟩ = some (.int .i64 y)) := hc
  have HN : Hid (zs.length = n) := hn
  obtain ⟨r, hr⟩ : ∃ r, decide (x ∈ zs) = r := ⟨_, rfl⟩
  have HR : Hid (decide (x ∈ zs) = r) := hr
  rw [hr]
  clear hc hn hr
  go_enter Try.func18, Try.ntmps18
  go_wp2
  go_loopw [5] (fun v wr => ∃ j : Nat, j ≤ n ∧ v = .int .i64 j ∧ Hid (∀ (a : Nat) y, a < j → zs[a]? = some y → y ≠ x) ∧ w = wr) (fun v _ => n - (intOf v).toNat)
  case atStart => exact ⟨0, Nat.zero_le _, rfl, fun a y ha => by omega, rfl⟩
  case round =>
    obtain ⟨j, hj, rfl, HJ, rfl⟩ := hrel
    by_cases hlt : j < n
    · obtain ⟨y, hy⟩ : ∃ y, zs[j]? = some y := ⟨_, List.getElem?_eq_getElem (by rw [HN.out]; exact hlt)⟩
      have q := HC.out j y hy
      have HY : Hid (zs[j]? = some y) := hy
      clear hy
      by_cases hxy : y = x
      · have HT : Hid (r = true) := by
          show _ = _
          rw [← HR.out]
          exact decide_eq_true (hxy ▸ List.mem_of_getElem? HY.out)
        have h' : (y == x) = true := by simpa using hxy
        clear hxy
        go_wp2
        go_ret
        exact ⟨by rw [HT.out]; rfl, rfl⟩
      · have h' : (y == x) = false := by simpa using hxy
        have HN1 : Hid (∀ (a : Nat) z, a < j + 1 → zs[a]? = some z → z ≠ x) := fun a z ha hz => by
          by_cases e : a = j
          · subst e; rw [HY.out] at hz; cases hz; exact hxy
          · exact HJ.out a z (by omega) hz
        clear hxy
        go_wp2
        go_roundw
        case rel => exact ⟨j + 1, by omega, by go_num, HN1, trivial⟩
        case measure => simp [intOf]; omega
    · have HF : Hid (r = false) := by
        show _ = _
        rw [← HR.out]
        refine decide_eq_false fun hm => ?_
        obtain ⟨a, ha⟩ := List.getElem?_of_mem hm
        exact HJ.out a x (by have := (List.getElem?_eq_some_iff.1 ha).1; rw [HN.out] at this; omega) ha rfl
      go_wp2
      go_ret
      exact ⟨by rw [HF.out]; rfl, rfl⟩
theorem hasL_any (u : Value) (zs : List Int) (B : Nat) (x : Int) (w : World) (h : IOwns w B u zs) (hn : zs.length ≤ 1000) (hne : zs ≠ []) : Calls Try.prog 18 #[u, .int .i64 x] w fun e w' => e = .returned (.bool (decide (x ∈ zs))) ∧ w = w' := by
  rcases h.at_ with ⟨rfl, e⟩ | ⟨g, cap, rfl, hc⟩
  · exact absurd e hne
  · exact hasL_some g zs.length cap zs x w hc rfl hn


def outF (x : Int) (zs : List Int) : List Int := zs.filter fun y => y != x
theorem outF_take (x : Int) (zs : List Int) (i : Nat) (y : Int) (h : zs[i]? = some y) : outF x (zs.take (i + 1)) = outF x (zs.take i) ++ (if y = x then [] else [y]) := by
  unfold outF
  rw [List.take_add_one, h, List.filter_append]
  congr 1
  by_cases hk : y = x <;> simp [hk]
theorem outF_length (x : Int) (zs : List Int) : (outF x zs).length ≤ zs.length := List.length_filter_le _ _

set_option maxHeartbeats 1000000 in
theorem withoutL_some (g n cap : Nat) (zs : List Int) (x : Int) (w : World) (hc : ∀ (j : Nat) y, zs[j]? = some y → w.cell? ⟨g, j, none⟩ = some (.int .i64 y)) (hn : zs.length = n) (hn2 : n ≤ 1000) : Calls Try.prog 20 #[.slice (some ⟨g, 0, none⟩) n cap, .int .i64 x] w fun e w' => ∃ u, e = .returned u ∧ IOwns w' w.heap.size u (outF x zs) ∧ Below w.heap.size w w' := by
  have HC : Hid (∀ X, Below w.heap.size w X → ∀ (j : Nat) y, zs[j]? = some y → X.cell? ⟨g, j, none⟩ = some (.int .i64 y)) := fun X hX j y hj => (hX.cell (p := ⟨g, j, none⟩) (World.block_lt_of_cell? w _ (hc j y hj))).trans (hc j y hj)
  have HN : Hid (zs.length = n) := hn
  clear hc hn
  go_enter Try.func20, Try.ntmps20
  go_wp2
  go_loopw [5, 6] (fun u v wr => ∃ i : Nat, i ≤ n ∧ v = .int .i64 i ∧ Hid (IOwns wr w.heap.size u (outF x (zs.take i))) ∧ Hid (Below w.heap.size w wr)) (fun _ v _ => n - (intOf v).toNat)
  case atStart => exact ⟨0, Nat.zero_le _, rfl, World.ownsRow_nil _ _ _ _, Below.refl _ _⟩
  case round =>
    obtain ⟨i, hi, rfl, HO, HB⟩ := hrel
    by_cases hlt : i < n
    · obtain ⟨y, hy⟩ : ∃ y, zs[i]? = some y := ⟨_, List.getElem?_eq_getElem (by rw [HN.out]; exact hlt)⟩
      have q := HC.out wr HB.out i y hy
      have HT : Hid (outF x (zs.take (i + 1)) = outF x (zs.take i) ++ (if y = x then [] else [y])) := outF_take x zs i y hy
      clear hy
      have HL : Hid ((outF x (zs.take i)).length ≤ 16777216) := by
        have := outF_length x (zs.take i)
        rw [List.length_take, HN.out] at this
        show _ ≤ _
        omega
      have hsz := HB.out.size
      have HA : Hid (∀ o, Below wr.heap.size wr (wr.alloc o)) := fun o => (Below.refl _ _).alloc (Nat.le_refl _) o
      by_cases hk : y = x
      · have hk' : (y != x) = false := by simpa using hk
        have HO' : Hid (IOwns wr w.heap.size u5 (outF x (zs.take (i + 1)))) := by
          rw [HT.out, if_pos hk, List.append_nil]
          exact HO
        clear hk
        go_wp2
        go_roundw
        case rel => exact ⟨i + 1, by omega, by go_num, HO', HB⟩
        case measure => simp [intOf]; omega
      · have hk' : (y != x) = true := by simpa using hk
        go_wp2_with (refine wpList_append_int wr rfl (.tmp 19) (.tmp 24) rfl w.heap.size _ _ y (by simp [Act.eval]) HO.out (by simp [Act.eval]) HL.out hsz ?x3)
        case x3 =>
          intro v' w' h1 h2
          have HO' : Hid (IOwns w' w.heap.size v' (outF x (zs.take (i + 1)))) := by
            rw [HT.out, if_neg hk]
            exact h1
          have HB' : Hid (Below w.heap.size w w') := IOwns.grown h2 HO.out w HB.out hsz
          clear h1 h2
          go_wp2
          go_roundw
          case rel => exact ⟨i + 1, by omega, by go_num, HO', HB'⟩
          case measure => simp [intOf]; omega
    · go_wp2
      go_ret
      have h : IOwns wr w.heap.size u5 (outF x zs) := by
        have h := HO.out
        rwa [List.take_of_length_le (by rw [HN.out]; omega)] at h
      exact ⟨_, rfl, h, HB.out⟩

theorem withoutL_any (u : Value) (zs : List Int) (B : Nat) (x : Int) (w : World) (h : IOwns w B u zs) (hn : zs.length ≤ 1000) (hne : zs ≠ []) : Calls Try.prog 20 #[u, .int .i64 x] w fun e w' => ∃ u, e = .returned u ∧ IOwns w' w.heap.size u (outF x zs) ∧ Below w.heap.size w w' := by
  rcases h.at_ with ⟨rfl, e⟩ | ⟨g, cap, rfl, hc⟩
  · exact absurd e hne
  · exact withoutL_some g zs.length cap zs x w hc rfl hn

end Go.Proofs.Ytnepemlagnnngaa
