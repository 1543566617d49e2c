/-
  The walk of PlanSum.
  Plans: one byte of a layout's text changed: the statement, walked.
-/
import Derived.Test.YtglncninkocgaaaGreatDoorCW
import Derived.Test.YtglncninkocgaaaGreatDoorCZB
import Derived.WalkKit
import Derived.ProofKit
import Derived.Lib.ConvBytes
namespace Go.Proofs.YtglncninkocgaaaGreatDoor
open Go.RowKit
set_option linter.unusedVariables false

/-- A text as bytes of one's own. -/
theorem bytes_made (s : ByteArray) (w : World) : ∃ (W : World) (cap : Nat), (convert 9 31 (.string s)).run Tryz.prog w = .ok (.slice (some ⟨w.heap.size, 0, none⟩) s.size cap) W ∧ Below w.heap.size w W ∧ W.heap.size = w.heap.size + 1 ∧
    (∀ j (hj : j < s.size), W.cell? ⟨w.heap.size, j, none⟩ = some (.int .u8 s[j].toNat)) ∧ ∀ j, j < s.size → W.frozen? ⟨w.heap.size, j, none⟩ = false := by
  refine ⟨Lib.bytesWorld w 5 s, _, Lib.run_convert_string_bytes w 9 31 5 s Tryz.underlying9 Tryz.underlying31 Tryz.underlying5, ?_, Lib.bytesWorld_size w 5 s, fun j hj => ?_, fun j hj => ?_⟩
  · exact ⟨rfl, rfl, rfl, by rw [Lib.bytesWorld_size]; omega, fun k hk => Lib.bytesWorld_at_old w 5 s k hk⟩
  · rw [Lib.bytesWorld_cell w 5 s j hj, List.getD_eq_getElem?_getD, List.getElem?_eq_getElem (by rw [← Lib.size_eq]; exact hj)]; rfl
  · have hz : s.size ≤ (Lib.bytesCells w 5 s).size := by simp [Lib.bytesCells]
    simp only [World.frozen?, Lib.bytesWorld_at_new]
    simp
    omega

theorem bytes_back (s : ByteArray) (k : Nat) (hk : k < s.size) (c : UInt8) (b cap : Nat) (W : World) (hc : ∀ j (hj : j < s.size), W.cell? ⟨b, j, none⟩ = some (.int .u8 s[j].toNat)) :
    (convert 31 9 (.slice (some ⟨b, 0, none⟩) s.size cap)).run Tryz.prog (W.setCell ⟨b, k, none⟩ (.int .u8 c.toNat)) = .ok (.string (str (s.data.toList.set k c))) (W.setCell ⟨b, k, none⟩ (.int .u8 c.toNat)) := by
  have hl : (s.data.toList.set k c).length = s.size := by rw [List.length_set, ← Lib.size_eq]
  have := run_convert_bytes_back (P := Tryz.prog) (W.setCell ⟨b, k, none⟩ (.int .u8 c.toNat)) 31 9 5 ⟨b, 0, none⟩ cap (s.data.toList.set k c) Tryz.underlying31 Tryz.underlying5 Tryz.underlying9 (fun j hj => ?_)
  · rw [hl] at this; exact this
  have hj' : j < s.size := by omega
  rw [show (⟨b, 0, none⟩ : Addr).add j = ⟨b, j, none⟩ by unfold Addr.add; split <;> simp_all]
  by_cases e : j = k
  · subst e
    rw [World.cell?_setCell_same _ _ _ (hc j hj')]
    simp
  · rw [World.cell?_setCell_other]
    · rw [hc j hj', List.getElem_set_ne (by omega)]; rfl
    · simp only [ne_eq, Addr.mk.injEq, not_and]; omega

theorem one_back (c : UInt8) (X : World) : (convert 31 9 (.slice (some ⟨X.heap.size, 0, none⟩) 1 1)).run Tryz.prog (X.alloc (.cells #[.int .u8 c.toNat] 5)) = .ok (.string (str [c])) (X.alloc (.cells #[.int .u8 c.toNat] 5)) :=
  run_convert_bytes_back (P := Tryz.prog) _ 31 9 5 ⟨X.heap.size, 0, none⟩ 1 [c] Tryz.underlying31 Tryz.underlying5 Tryz.underlying9 (one_cell X c 5)

/-- What the last lines of the law ask. -/
theorem sum_more (s : ByteArray) (c : UInt8) (n : Nat) (h : sumS s.data.toList = n) : sumS (s ++ str [c]).data.toList = stepS n c := by
  rw [← h, ← sumS_snoc]
  congr 1

theorem sum_a : sumS (⟨#[97]⟩ : ByteArray).data.toList = 97 := by decide
theorem step_int (n : Nat) (c : UInt8) : ((stepS n c : Nat) : Int) = ((n : Int) / 2 + (n : Int) % 2 * 32768 + (c.toNat : Int)) % 65536 := by unfold stepS; omega

end Go.Proofs.YtglncninkocgaaaGreatDoor

namespace Go.Proofs.YtglncninkocgaaaGreatDoor
open Go.RowKit
set_option linter.unusedVariables false
set_option maxRecDepth 100000

theorem hexB_inj : ∀ a b : Fin 16, hexB a.val = hexB b.val → a = b := by decide +kernel
theorem headL_inj {m n : Nat} (hm : m < 65536) (hn : n < 65536) (h : headL m = headL n) : m = n := by
  unfold headL at h
  simp only [List.cons.injEq, and_true] at h
  obtain ⟨h1, h2, h3, h4⟩ := h
  have k : ∀ x y, hexB (x % 16) = hexB (y % 16) → x % 16 = y % 16 := fun x y h => congrArg Fin.val (hexB_inj ⟨x % 16, Nat.mod_lt _ (by decide)⟩ ⟨y % 16, Nat.mod_lt _ (by decide)⟩ h)
  have k1 := k _ _ h1
  have k2 := k _ _ h2
  have k3 := k _ _ h3
  have k4 := k _ _ h4
  omega

theorem changed_code (t : Tree) (ht : (planT t).length ≤ 2048) (k : Nat) (hk : k < (planT t).length) (c : UInt8) (hc : (planT t)[k] ≠ c) : ∃ n : Int, (n = 50 ∨ n = 51) ∧ ∀ w : World, Calls Tryz.prog 9 #[.string (str ((planT t).set k c))] w fun e w' => e = .returned (.tuple #[.slice none 0 0, .int .i64 n]) ∧ Below w.heap.size w w' := by
  have hs : (str ((planT t).set k c)).size ≤ 2048 := by rw [str_size, List.length_set]; exact ht
  cases hh : headB ((planT t).set k c) with
  | false => exact ⟨50, .inl rfl, fun w => parse_nohead _ w hs hh⟩
  | true =>
    refine ⟨51, .inr rfl, fun w => parse_nosum _ w hs hh ?_⟩
    show ((planT t).set k c).take 5 ≠ headL (sumS (((planT t).set k c).drop 5))
    intro e
    rcases Nat.lt_or_ge k 5 with h5 | h5
    · rw [List.drop_set_of_lt h5, show (planT t).drop 5 = t.text from rfl] at e
      have e2 := congrArg (fun l => l[k]?) e
      rw [List.getElem?_take, if_pos h5, List.getElem?_set_self hk] at e2
      have e3 : (planT t)[k]? = (headL (sumS t.text))[k]? := by
        show (headL (sumS t.text) ++ t.text)[k]? = _
        rw [List.getElem?_append_left h5]
      rw [← e3, List.getElem?_eq_getElem hk] at e2
      exact hc (Option.some.inj e2).symm
    · obtain ⟨j, rfl⟩ : ∃ j, k = j + 5 := ⟨k - 5, by omega⟩
      rw [List.take_set_of_le h5, show (planT t).take 5 = headL (sumS t.text) from rfl, show ((planT t).set (j + 5) c).drop 5 = t.text.set j c from rfl] at e
      have hj : j < t.text.length := by
        have : (planT t).length = 5 + t.text.length := by unfold planT headL; simp; omega
        omega
      exact sumS_set t.text j hj c (fun e2 => hc e2) (headL_inj (sumS_lt _) (sumS_lt _) e).symm

set_option maxHeartbeats 4000000 in
theorem planByte_walk (v : Value) (l : List CellV) (a1 : Int) (c : UInt8) (w : World) (hv : CellsIn w v l) (hN : NumV w) (w1 : (Lit.int .i64 a1).wf = true) : Calls Tryz.prog 4 #[v, .int .i64 a1, .int .u8 c.toNat] w fun e w' => e = .returned (.bool true) ∧ Below w.heap.size w w' := by
  have HT : Hid (Calls Tryz.prog 11 #[v] w fun e w' => e = .returned (.tuple #[.string (str (textF l)), .int .i64 (checkE l)]) ∧ Below w.heap.size w w') := text_any v l w hv hN
  have HS : Hid (∀ X, Below w.heap.size w X → Calls Tryz.prog 10 #[] X fun e w' => e = .returned (.bool true) ∧ Below X.heap.size X w') := fun X hX => sure_true X (hN.below hX)
  cases hr : readF l with
  | none =>
    have hE : checkE l = 40 := by unfold checkE; rw [hr]; rfl
    rw [hE] at HT
    clear hr hE hv hN w1
    go_enter Tryz.func4, Tryz.ntmps4
    go_wp2_with (first | (go_at_call 11; refine HT.out.mono ?_; rintro e w1 ⟨rfl, hb1⟩) | (go_at_call 10; refine (HS.out _ hb1).mono ?_; rintro e w3 ⟨rfl, hb3⟩))
    all_goals go_ret
    exact ⟨rfl, below_step hb1 hb3⟩
  | some t =>
    have hE : checkE l = 0 := by unfold checkE; rw [hr]; rfl
    have hT : textF l = planT t := by unfold textF; rw [hr]
    have hf := lay_fit hr
    have hpl : (planT t).length ≤ 2048 := by unfold planT headL; simp; have := hf.txt; omega
    obtain ⟨s, hs⟩ : ∃ s, str (planT t) = s := ⟨_, rfl⟩
    have hsd : s.data.toList = planT t := by rw [← hs]; rfl
    obtain ⟨N, hNs⟩ : ∃ N, s.size = N := ⟨_, rfl⟩
    have hNl : (planT t).length = N := by rw [← hNs, ← hs]; rfl
    have hz : N ≤ 2048 := by omega
    have HP : Hid (∀ X, Below w.heap.size w X → Calls Tryz.prog 9 #[.string s] X fun e w' => ∃ sl, e = .returned (.tuple #[sl, .int .i64 0]) ∧ CeOwns w' (X.heap.size + 2) sl l ∧ Below X.heap.size X w') := fun X hX => by rw [← hs]; exact parse_lay hr X (hN.below hX)
    have HSa : Hid (∀ u X, Below w.heap.size w X → CellsIn X u l → Calls Tryz.prog 13 #[u, v] X fun e w' => e = .returned (.bool true) ∧ Below X.heap.size X w') := fun u X hX hu => by
      have h := same_any5 u v l l X hu (hv.below hX) (by have := hf.len; omega)
      simpa using h
    rw [hE] at HT
    rw [hT, hs] at HT
    by_cases hyes : ∃ k : Nat, a1 = k ∧ ∃ hk : k < s.size, s[k] ≠ c
    · obtain ⟨k, rfl, hk, hne⟩ := hyes
      have hkz : (k : Int) < (N : Int) := by omega
      have hkz2 : ¬ (N : Int) ≤ (k : Int) := by omega
      obtain ⟨x, hx⟩ : ∃ x, s[k] = x := ⟨_, rfl⟩
      have hpk : (planT t)[k]? = some x := by
        rw [← hsd, ← hx]
        exact data_get s k hk
      obtain ⟨n, hn, hP1⟩ := changed_code t hpl k (by omega) c (fun e => by
        rw [List.getElem?_eq_getElem (by omega), e] at hpk
        exact hne (hx.trans (Option.some.inj hpk).symm))
      have hne2 : ((x.toNat : Int) == (c.toNat : Int)) = false := by
        rw [hx] at hne
        simp only [beq_eq_false_iff_ne, ne_eq, Int.ofNat_inj]
        exact fun h => hne (UInt8.toNat_inj.1 h)
      have hne3 : ¬ (x.toNat : Int) = (c.toNat : Int) := by simpa using hne2
      have HP1 : Hid (∀ X : World, Calls Tryz.prog 9 #[.string (str (s.data.toList.set k c))] X fun e w' => e = .returned (.tuple #[.slice none 0 0, .int .i64 n]) ∧ Below X.heap.size X w') := by rw [hsd]; exact hP1
      have hcl : c.toNat < 256 := c.toNat_lt
      obtain ⟨sc, hsc⟩ : ∃ x, str (s.data.toList.set k c) = x := ⟨_, rfl⟩
      have HMade : Hid (∀ X : World, Below w.heap.size w X → ∃ (W : World) (cap : Nat), (convert 9 31 (.string s)).run Tryz.prog X = .ok (.slice (some ⟨X.heap.size, 0, none⟩) N cap) W ∧ (convert 31 9 (.slice (some ⟨X.heap.size, 0, none⟩) N cap)).run Tryz.prog (W.setCell ⟨X.heap.size, k, none⟩ (.int .u8 c.toNat)) = .ok (.string sc) (W.setCell ⟨X.heap.size, k, none⟩ (.int .u8 c.toNat)) ∧ W.cell? ⟨X.heap.size, k, none⟩ = some (.int .u8 x.toNat) ∧ W.frozen? ⟨X.heap.size, k, none⟩ = false ∧ Hid (Below w.heap.size w (W.setCell ⟨X.heap.size, k, none⟩ (.int .u8 c.toNat)))) := fun X hX => by
        obtain ⟨W, cap, hcv, hb, hsz, hcell, hfr⟩ := bytes_made s X
        have hbk := bytes_back s k hk c X.heap.size cap W hcell
        have hck := hcell k hk
        rw [hx] at hck
        rw [hNs] at hcv hbk
        rw [hsc] at hbk
        exact ⟨W, cap, hcv, hbk, hck, hfr k hk, hX.trans ((Below.setCell hb (Nat.le_refl _) _).mono hX.size)⟩
      rw [hsc] at HP1
      have hn0 : ¬ n = 0 := by omega
      have hnb : (n != 0) = true := by simpa using hn0
      clear hr hE hT hv hN hf hs hP1 hn hpk hsd hsc hne w1 hpl hNl
      go_enter Tryz.func4, Tryz.ntmps4
      go_wp2_with (go_at_call 11; refine HT.out.mono ?_; rintro e w1 ⟨rfl, hb1⟩; obtain ⟨W, cap, hcv, hbk, hck, hfk, HB2⟩ := HMade.out w1 hb1; clear hb1)
      refine (HP1.out _).mono ?_
      rintro e w2 ⟨rfl, hb2⟩
      have HB3 := hidden (below_step HB2.out hb2)
      clear hb2 HB2 HP1
      go_wp2_with (first | (go_at_call 9; refine (HP.out _ HB3.out).mono ?_; rintro e w3 ⟨sl, rfl, ho3, hb3⟩; obtain ⟨sa, sn, scc, rfl⟩ := ce_slice ho3; have H3 := hidden (below_step HB3.out hb3); have HO3 := hidden ho3; clear ho3 hb3) | (go_at_call 13; refine (HSa.out _ _ H3.out HO3.out.cellsIn).mono ?_; rintro e w4 ⟨rfl, hb4⟩; have H4 := hidden (below_step H3.out hb4); clear hb4))
      all_goals go_ret
      exact ⟨rfl, H4.out⟩
    · have hcase : a1 < 0 ∨ (N : Int) ≤ a1 ∨ ∃ k : Nat, a1 = k ∧ ∃ hk : k < s.size, s[k] = c := by
        rcases Int.lt_or_le a1 0 with h | h
        · exact .inl h
        · rcases Int.lt_or_le a1 N with h2 | h2
          · obtain ⟨k, rfl⟩ := Int.eq_ofNat_of_zero_le h
            refine .inr (.inr ⟨k, rfl, by omega, ?_⟩)
            exact Classical.byContradiction fun hc => hyes ⟨k, rfl, by omega, hc⟩
          · exact .inr (.inl h2)
      clear hyes hr hE hT hv hN hf hs hsd w1 hpl hNl
      rcases hcase with h | h | ⟨k, rfl, hk, rfl⟩
      · go_enter Tryz.func4, Tryz.ntmps4
        go_wp2_with (first | (go_at_call 11; refine HT.out.mono ?_; rintro e w1 ⟨rfl, hb1⟩) | (go_at_call 10; refine (HS.out _ hb1).mono ?_; rintro e w3 ⟨rfl, hb3⟩))
        all_goals go_ret
        exact ⟨rfl, below_step hb1 hb3⟩
      · have h0 : ¬ a1 < 0 := by omega
        go_enter Tryz.func4, Tryz.ntmps4
        go_wp2_with (first | (go_at_call 11; refine HT.out.mono ?_; rintro e w1 ⟨rfl, hb1⟩) | (go_at_call 10; refine (HS.out _ hb1).mono ?_; rintro e w3 ⟨rfl, hb3⟩))
        all_goals go_ret
        exact ⟨rfl, below_step hb1 hb3⟩
      · have hkz : (k : Int) < (N : Int) := by omega
        have hkz2 : ¬ (N : Int) ≤ (k : Int) := by omega
        go_enter Tryz.func4, Tryz.ntmps4
        go_wp2_with (first | (go_at_call 11; refine HT.out.mono ?_; rintro e w1 ⟨rfl, hb1⟩) | (go_at_call 10; refine (HS.out _ hb1).mono ?_; rintro e w3 ⟨rfl, hb3⟩))
        all_goals go_ret
        exact ⟨rfl, below_step hb1 hb3⟩
end Go.Proofs.YtglncninkocgaaaGreatDoor
