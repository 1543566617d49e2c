/-
  Layouts: the document's sizes of a node, the loop.
-/
import Derived.Test.YtlaelkcmeaiajaaCRi
namespace Go.Proofs.Ytlaelkcmeaiajaa
open Go.RowKit
set_option linter.unusedVariables false
set_option maxRecDepth 100000

set_option maxHeartbeats 4000000 in
theorem sizes_loop (k wd h : Int) (ks : List Node) (hk : k = 2 ∨ k = 3) (hc : cnts ks ≤ 1000) (h2 : 2 ≤ ks.length) (a1 : ¬ wd < 1) (a2 : ¬ h < 1) (hw : wd ≤ 1000) (hh : h ≤ 1000) (IH : ∀ n ∈ ks, SizesGood n) (sl : Value) (fp : List Nat) (w : World) (hIn : (Node.mk k wd h 0 ks).In w sl fp) : Calls Try.prog 47 #[.agg (nodeV (.mk k wd h 0 ks) sl)] w fun e w' => e = .returned (.bool (oksAll ks k wd h && decide (extN ks k = if k = 2 then wd else h))) ∧ Below w.heap.size w w' := by
  obtain ⟨ad, cap, hsl⟩ := hIn.sl
  obtain ⟨m, hm⟩ : ∃ m, ks.length = m := ⟨_, rfl⟩
  change sl = .slice ad ks.length cap at hsl
  have hm2 := cnts_length ks
  have hm3 : m ≤ 1000 := by omega
  have hb0 : ∀ o, Below w.heap.size w (w.alloc o) := fun o => (Below.refl _ _).alloc (Nat.le_refl _) o
  obtain ⟨W, hW⟩ : ∃ W, w.alloc (.cells #[.int .i64 k, .int .i64 wd, .int .i64 h, .int .i64 0, sl] 58) = W := ⟨_, rfl⟩
  have HblkW : W.heap[w.heap.size]? = some (.cells #[.int .i64 k, .int .i64 wd, .int .i64 h, .int .i64 0, sl] 58 (0, 0)) := by rw [← hW]; exact heap_alloc_new _ _
  have HbW : Below w.heap.size w W := by rw [← hW]; exact hb0 _
  have hWs : W.heap.size = w.heap.size + 1 := by rw [← hW]; simp
  have HBlk : Hid (∀ X, Below W.heap.size W X → X.heap[w.heap.size]? = some (.cells #[.int .i64 k, .int .i64 wd, .int .i64 h, .int .i64 0, sl] 58 (0, 0))) := fun X hX => (hX.block _ (by omega)).trans HblkW
  have HB : Hid (∀ X, Below W.heap.size W X → Below w.heap.size w X) := fun X hX => below_step HbW hX
  have HI : Hid ((Node.mk k wd h 0 ks).In W sl fp) := hIn.below HbW
  have HIH : Hid (∀ n ∈ ks, SizesGood n) := IH
  have HM : Hid (ks.length = m) := hm
  have HW : Hid (w.alloc (.cells #[.int .i64 k, .int .i64 wd, .int .i64 h, .int .i64 0, sl] 58) = W) := hW
  have HEx : Hid (∀ X, Calls Try.prog 57 #[.agg #[.int .i64 k, .int .i64 wd, .int .i64 h, .int .i64 0, .slice ad m cap], .int .i64 k] X fun e w' => e = .returned (.int .i64 (if k = 2 then wd else h)) ∧ Below X.heap.size X w') := fun X => ref_extent (.mk k wd h 0 ks) ad m cap k X
  have HBd : Hid (wd ≤ 1000 ∧ h ≤ 1000) := ⟨hw, hh⟩
  obtain ⟨r, hr⟩ : ∃ r, (oksAll ks k wd h && decide (extN ks k = if k = 2 then wd else h)) = r := ⟨_, rfl⟩
  have HNo : Hid (∀ (j : Nat) n, ks[j]? = some n → kidOk n k wd h = false → r = false) := by
    intro j n hj hn
    rw [← hr]
    cases ho : oksAll ks k wd h with
    | false => rfl
    | true =>
      have := oksAll_at ks k wd h j n hj ho
      rw [hn] at this
      cases this
  have HYes : Hid (oksAll ks k wd h = true → r = decide (((m : Int) - 1) + extS ks k = if k = 2 then wd else h)) := by
    intro ho
    rw [← hr, ho, extN_eq, hm]
    rfl
  have hm1 : IntKind.i64.wrap ((m : Int) - 1) = (m : Int) - 1 := by rw [IntKind.wrap_i64]; omega
  have hm0 : ¬ ((m : Int) < 2) := by omega
  rw [hm] at hsl
  subst hsl
  rw [hr]
  clear hm2 hIn IH hm hc hb0 HblkW HbW hWs hW hr h2
  obtain ⟨E, hE⟩ : ∃ E, (if k = 2 then wd else h) = E := ⟨_, rfl⟩
  rw [hE] at HEx HYes
  have kk : (k == 1) = false := by
    have : k ≠ 1 := by omega
    simpa using this
  have k1 : ¬ k < 1 := by omega
  have k3 : ¬ 3 < k := by omega
  have HK : Hid (k = 2 ∨ k = 3) := hk
  clear hE hk hw hh
  show Calls _ _ #[.agg #[.int .i64 k, .int .i64 wd, .int .i64 h, .int .i64 0, .slice ad m cap]] _ _
  go_enter Try.func47, Try.ntmps47
  go_wp2
  rw [HW.out]
  go_loopw [3, 4] (fun u v wr => ∃ j : Nat, j ≤ m ∧ v = .int .i64 j ∧ u = .int .i64 (((m : Int) - 1) + extS (ks.take j) k) ∧ Hid (oksAll (ks.take j) k wd h = true) ∧ Hid (Below W.heap.size W wr)) (fun _ v _ => m - (intOf v).toNat)
  case atStart => exact ⟨0, Nat.zero_le _, rfl, by show _ = Value.int .i64 (_ + 0); rw [Int.add_zero], rfl, Below.refl _ _⟩
  case round =>
    obtain ⟨j, hj, rfl, rfl, HO, HBr⟩ := hrel
    have hbk := HBlk.out wr HBr.out
    have b0 : wr.cell? ⟨w.heap.size, 0, none⟩ = some (.int .i64 k) := cell_atL hbk 0
    have b1 : wr.cell? ⟨w.heap.size, 1, none⟩ = some (.int .i64 wd) := cell_atL hbk 1
    have b2 : wr.cell? ⟨w.heap.size, 2, none⟩ = some (.int .i64 h) := cell_atL hbk 2
    have b3 : wr.cell? ⟨w.heap.size, 3, none⟩ = some (.int .i64 0) := cell_atL hbk 3
    have b4 : wr.cell? ⟨w.heap.size, 4, none⟩ = some (.slice ad m cap) := cell_atL hbk 4
    obtain ⟨S, hS⟩ : ∃ S, extS (ks.take j) k = S := ⟨_, rfl⟩
    rw [hS]
    have HS : Hid (extS (ks.take j) k = S) := hS
    have HSb : Hid (0 ≤ S ∧ S ≤ 1000 * (j : Int)) := by
      have := extS_bound (ks.take j) k wd h HO.out HBd.out.1 HBd.out.2
      rw [hS, List.length_take, HM.out] at this
      show _ ∧ _
      omega
    clear hbk hS
    by_cases hlt : j < m
    · obtain ⟨n, hn⟩ : ∃ n, ks[j]? = some n := ⟨_, List.getElem?_eq_getElem (by rw [HM.out]; exact hlt)⟩
      obtain ⟨g, cap', e1, e2, e3⟩ := (HI.out.below HBr.out).kids (by intro e; rw [e] at hn; simp at hn)
      rw [HM.out] at e1
      cases e1
      obtain ⟨sl', f', e4, q0, q1, q2, q3, q4⟩ := e3 j n hn
      obtain ⟨ad', c', hsl'⟩ := e4.sl
      subst hsl'
      have HNj : Hid (kidOk n k wd h = false → r = false) := HNo.out j n hn
      have HTj : Hid (kidOk n k wd h = true → oksAll (ks.take (j + 1)) k wd h = true) := oksAll_take ks k wd h j n hn HO.out
      have HEj : Hid (extS (ks.take (j + 1)) k = S + n.ext k) := by
        show _ = _
        rw [extS_take ks k j n hn, HS.out]
      have HBA : Hid (∀ o, Below W.heap.size W (wr.alloc o)) := fun o => below_step HBr.out ((Below.refl _ _).alloc (Nat.le_refl _) o)
      have HSz : Hid (n.w ≤ 1000 → n.h ≤ 1000 → ∀ o, Calls Try.prog 47 #[.agg #[.int .i64 n.k, .int .i64 n.w, .int .i64 n.h, .int .i64 n.i, .slice ad' n.ks.length c']] (wr.alloc o) fun e w' => e = .returned (.bool n.ok) ∧ Below (wr.alloc o).heap.size (wr.alloc o) w') := fun hw hh o => HIH.out n (List.mem_of_getElem? hn) _ f' (wr.alloc o) (e4.below ((Below.refl _ _).alloc (Nat.le_refl _) o)) hw hh
      have hN : w.heap.size < wr.heap.size := World.block_lt_of_cell? wr _ b0
      have HAl : Hid (∀ o, Below wr.heap.size wr (wr.alloc o)) := fun o => (Below.refl _ _).alloc (Nat.le_refl _) o
      have c0 : ∀ o, (wr.alloc o).cell? ⟨w.heap.size, 0, none⟩ = some (.int .i64 k) := fun o => ((HAl.out o).cell (p := ⟨w.heap.size, 0, none⟩) hN).trans b0
      have c1 : ∀ o, (wr.alloc o).cell? ⟨w.heap.size, 1, none⟩ = some (.int .i64 wd) := fun o => ((HAl.out o).cell (p := ⟨w.heap.size, 1, none⟩) hN).trans b1
      have c2 : ∀ o, (wr.alloc o).cell? ⟨w.heap.size, 2, none⟩ = some (.int .i64 h) := fun o => ((HAl.out o).cell (p := ⟨w.heap.size, 2, none⟩) hN).trans b2
      have HN : Hid (w.heap.size < wr.heap.size) := hN
      clear e2 e3 e4 hn hN b1 b2 b3
      have HFa : Hid (∀ w', Below W.heap.size W w' → ¬ (n.k ≠ k ∧ n.w ≤ wd ∧ n.h ≤ h ∧ n.ok = true ∧ (k = 2 → n.h = h) ∧ (k = 3 → n.w = wd)) → Ending.returned (.bool false) = .returned (.bool r) ∧ Below w.heap.size w w') := fun w' hb hn => ⟨by rw [HNj.out (kid_no hn HK.out)], HB.out _ hb⟩
      by_cases d1 : n.k = k
      · have d1' : (n.k == k) = true := by simpa using d1
        have HD : Hid (n.k = k) := d1
        clear d1
        go_wp2
        go_ret
        exact HFa.out _ (HBA.out _) fun h => h.1 HD.out
      · have d1' : (n.k == k) = false := by simpa using d1
        have HD1 : Hid (n.k ≠ k) := d1
        clear d1
        by_cases d2 : wd < n.w
        · go_wp2
          go_ret
          exact HFa.out _ (HBA.out _) fun h => by have := h.2.1; omega
        · by_cases d3 : h < n.h
          · go_wp2
            go_ret
            exact HFa.out _ (HBA.out _) fun h => by have := h.2.2.1; omega
          · have HSz2 : Hid (∀ o, Calls Try.prog 47 #[.agg #[.int .i64 n.k, .int .i64 n.w, .int .i64 n.h, .int .i64 n.i, .slice ad' n.ks.length c']] (wr.alloc o) fun e w' => e = .returned (.bool n.ok) ∧ Below (wr.alloc o).heap.size (wr.alloc o) w') := HSz.out (by have := HBd.out; omega) (by have := HBd.out; omega)
            clear HSz
            go_wp2_with fail
            refine (HSz2.out _).mono ?_
            rintro e w2 ⟨rfl, hb2⟩
            have HB2 : Hid (Below W.heap.size W w2) := below_step (HBA.out _) hb2
            have k0 : w2.cell? ⟨w.heap.size, 0, none⟩ = some (.int .i64 k) := (hb2.cell (p := ⟨w.heap.size, 0, none⟩) (by have := HN.out; simp; omega)).trans (c0 _)
            have k1' : w2.cell? ⟨w.heap.size, 1, none⟩ = some (.int .i64 wd) := (hb2.cell (p := ⟨w.heap.size, 1, none⟩) (by have := HN.out; simp; omega)).trans (c1 _)
            have k2 : w2.cell? ⟨w.heap.size, 2, none⟩ = some (.int .i64 h) := (hb2.cell (p := ⟨w.heap.size, 2, none⟩) (by have := HN.out; simp; omega)).trans (c2 _)
            have hnew : (wr.alloc (.cells #[.int .i64 n.k, .int .i64 n.w, .int .i64 n.h, .int .i64 n.i, .slice ad' n.ks.length c'] 58)).heap[wr.heap.size]? = some (.cells #[.int .i64 n.k, .int .i64 n.w, .int .i64 n.h, .int .i64 n.i, .slice ad' n.ks.length c'] 58 (0, 0)) := heap_alloc_new _ _
            have hnew2 := (hb2.block wr.heap.size (by simp)).trans hnew
            have y0 : w2.cell? ⟨wr.heap.size, 0, none⟩ = some (.int .i64 n.k) := cell_atL hnew2 0
            have y1 : w2.cell? ⟨wr.heap.size, 1, none⟩ = some (.int .i64 n.w) := cell_atL hnew2 1
            have y2 : w2.cell? ⟨wr.heap.size, 2, none⟩ = some (.int .i64 n.h) := cell_atL hnew2 2
            have y3 : w2.cell? ⟨wr.heap.size, 3, none⟩ = some (.int .i64 n.i) := cell_atL hnew2 3
            have y4 : w2.cell? ⟨wr.heap.size, 4, none⟩ = some (.slice ad' n.ks.length c') := cell_atL hnew2 4
            obtain ⟨ok, hok⟩ : ∃ ok, n.ok = ok := ⟨_, rfl⟩
            have HOk : Hid (n.ok = ok) := hok
            rw [hok]
            have HEk : Hid (Calls Try.prog 57 #[.agg #[.int .i64 n.k, .int .i64 n.w, .int .i64 n.h, .int .i64 n.i, .slice ad' n.ks.length c'], .int .i64 k] w2 fun e w' => e = .returned (.int .i64 (n.ext k)) ∧ Below w2.heap.size w2 w') := ref_extent n ad' _ c' k w2
            clear hok hnew hnew2 hb2 c0 c1 c2 HSz2 HAl HBA
            cases ok
            · go_wp2
              go_ret
              exact HFa.out _ HB2.out fun h => by have := h.2.2.2.1; rw [HOk.out] at this; cases this
            · by_cases hk2 : k = 2
              · by_cases d4 : n.h = h
                · have HKo : Hid (kidOk n k wd h = true) := kid_yes HD1.out (by omega) (by omega) HOk.out (fun _ => d4) (fun e => absurd hk2 e)
                  have HKs : Hid (1 ≤ n.ext k ∧ n.ext k ≤ 1000) := kid_sides HKo.out HBd.out.1 HBd.out.2
                  have d4' : (n.h != h) = false := by simpa using d4
                  have kk2 : (k == 2) = true := by simpa using hk2
                  have kk3 : (k == 3) = false := by simp; omega
                  obtain ⟨X, hX⟩ : ∃ X, n.ext k = X := ⟨_, rfl⟩
                  rw [hX] at HEk HEj HKs
                  have hwr : IntKind.i64.wrap (((m : Int) - 1) + S + X) = ((m : Int) - 1) + S + X := by
                    have h1 := HKs.out
                    have h2 := HSb.out
                    rw [IntKind.wrap_i64]
                    omega
                  clear d4 hX hk2
                  go_wp2_with fail
                  refine HEk.out.mono ?_
                  rintro e w3 ⟨rfl, hb3⟩
                  have HB3 : Hid (Below W.heap.size W w3) := below_step HB2.out hb3
                  clear hb3 HEk
                  go_wp2
                  go_roundw
                  case rel => exact ⟨j + 1, by omega, by go_num, by rw [HEj.out, Int.add_assoc], HTj.out HKo.out, HB3⟩
                  case measure => simp [intOf]; omega
                · have d4' : (n.h != h) = true := by simpa using d4
                  have kk2 : (k == 2) = true := by simpa using hk2
                  have kk3 : (k == 3) = false := by simp; omega
                  have HD4 : Hid (¬ n.h = h ∧ k = 2) := ⟨d4, hk2⟩
                  clear d4 hk2 HEk
                  go_wp2
                  go_ret
                  exact HFa.out _ HB2.out fun h => HD4.out.1 (h.2.2.2.2.1 HD4.out.2)
              · have hk3 : k = 3 := by have := HK.out; omega
                have kk2 : (k == 2) = false := by simpa using hk2
                have kk3 : (k == 3) = true := by simpa using hk3
                by_cases d4 : n.w = wd
                · have HKo : Hid (kidOk n k wd h = true) := kid_yes HD1.out (by omega) (by omega) HOk.out (fun e => absurd e hk2) (fun _ => d4)
                  have HKs : Hid (1 ≤ n.ext k ∧ n.ext k ≤ 1000) := kid_sides HKo.out HBd.out.1 HBd.out.2
                  have d4' : (n.w != wd) = false := by simpa using d4
                  obtain ⟨X, hX⟩ : ∃ X, n.ext k = X := ⟨_, rfl⟩
                  rw [hX] at HEk HEj HKs
                  have hwr : IntKind.i64.wrap (((m : Int) - 1) + S + X) = ((m : Int) - 1) + S + X := by
                    have h1 := HKs.out
                    have h2 := HSb.out
                    rw [IntKind.wrap_i64]
                    omega
                  clear d4 hX hk2 hk3
                  go_wp2_with fail
                  refine HEk.out.mono ?_
                  rintro e w3 ⟨rfl, hb3⟩
                  have HB3 : Hid (Below W.heap.size W w3) := below_step HB2.out hb3
                  clear hb3 HEk
                  go_wp2
                  go_roundw
                  case rel => exact ⟨j + 1, by omega, by go_num, by rw [HEj.out, Int.add_assoc], HTj.out HKo.out, HB3⟩
                  case measure => simp [intOf]; omega
                · have d4' : (n.w != wd) = true := by simpa using d4
                  have HD4 : Hid (¬ n.w = wd ∧ k = 3) := ⟨d4, hk3⟩
                  clear d4 hk2 hk3 HEk
                  go_wp2
                  go_ret
                  exact HFa.out _ HB2.out fun h => HD4.out.1 (h.2.2.2.2.2 HD4.out.2)
    · have hjm : j = m := by omega
      subst hjm
      have HR : Hid (r = decide (((j : Int) - 1) + S = E)) := by
        have h1 := HYes.out
        rw [List.take_of_length_le (by rw [HM.out]; exact Nat.le_refl _)] at HO HS
        rw [← HS.out]
        exact h1 HO.out
      go_wp2_with fail
      refine (HEx.out _).mono ?_
      rintro e w2 ⟨rfl, hb2⟩
      have HB2 : Hid (Below w.heap.size w w2) := HB.out _ (below_step HBr.out hb2)
      clear hb2
      go_wp2
      go_ret
      refine ⟨?_, HB2.out⟩
      rw [HR.out]
      first | rfl | (simp) | (simp; rfl)

theorem sizes_step (n : Node) (hc : n.cnt ≤ 1000) (IH : ∀ m ∈ n.ks, SizesGood m) : SizesGood n := by
  cases n with
  | mk k wd h i ks =>
    intro sl fp w hIn hw hh
    change wd ≤ 1000 at hw
    change h ≤ 1000 at hh
    unfold Node.cnt at hc
    rw [ok_head]
    obtain ⟨a, c, hsl⟩ := hIn.sl
    change sl = .slice a ks.length c at hsl
    by_cases hb : (1 ≤ wd ∧ 1 ≤ h) ∧ (1 ≤ k ∧ k ≤ 3)
    · have hd : ((decide (1 ≤ wd) && decide (1 ≤ h)) && (decide (1 ≤ k) && decide (k ≤ 3))) = true := by simp [hb]
      rw [hd, Bool.true_and]
      by_cases hk : k = 1
      · rw [if_pos hk]
        subst hk hsl
        exact sizes_pane wd h i a ks.length c w (by omega) (by omega)
      · rw [if_neg hk]
        have hk2 : k = 2 ∨ k = 3 := by omega
        by_cases hf : ks.length < 2 ∨ i ≠ 0
        · have hd2 : (decide (2 ≤ ks.length) && decide (i = 0)) = false := by
            rcases hf with hf | hf
            · rw [decide_eq_false (by omega)]
              rfl
            · rw [decide_eq_false hf, Bool.and_false]
          rw [hd2, Bool.false_and]
          subst hsl
          exact sizes_few k wd h i a ks.length c w (by omega) (by omega) hk2 hf
        · have hi : i = 0 := by omega
          subst hi
          have hd2 : (decide (2 ≤ ks.length) && decide ((0 : Int) = 0)) = true := by
            rw [decide_eq_true (by omega)]
            rfl
          rw [hd2, Bool.true_and]
          exact sizes_loop k wd h ks hk2 (by omega) (by omega) (by omega) (by omega) hw hh IH sl fp w hIn
    · have hd : ((decide (1 ≤ wd) && decide (1 ≤ h)) && (decide (1 ≤ k) && decide (k ≤ 3))) = false := by
        cases hq : ((decide (1 ≤ wd) && decide (1 ≤ h)) && (decide (1 ≤ k) && decide (k ≤ 3))) with
        | false => rfl
        | true => exact absurd (by simpa using hq) hb
      rw [hd, Bool.false_and]
      subst hsl
      exact sizes_head k wd h i ks a ks.length c w hb
mutual
theorem sizes_good : ∀ (n : Node), n.cnt ≤ 1000 → SizesGood n
  | .mk k wd h i ks, hc => sizes_step (.mk k wd h i ks) hc (sizes_goods ks (by unfold Node.cnt at hc; omega))
theorem sizes_goods : ∀ (ks : List Node), cnts ks ≤ 1000 → ∀ n ∈ ks, SizesGood n
  | [], hc => fun n hn => by cases hn
  | a :: ks, hc => fun n hn => by
    unfold cnts at hc
    rcases List.mem_cons.1 hn with e | hn
    · exact e ▸ sizes_good a (by omega)
    · exact sizes_goods ks (by omega) n hn
end

end Go.Proofs.Ytlaelkcmeaiajaa
