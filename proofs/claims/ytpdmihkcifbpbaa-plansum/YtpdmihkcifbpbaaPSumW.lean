/-
  The walk of PlanSum.
-/
import Derived.Test.YtpdmihkcifbpbaaPSum
import Derived.WalkKit
import Derived.ProofKit
import Derived.Lib.ConvBytes
namespace Go.Proofs.Ytpdmihkcifbpbaa
open Go.RowKit
set_option linter.unusedVariables false

/-- A text as bytes of one's own. -/
theorem bytes_made (s : ByteArray) (w : World) : ∃ (W : World) (cap : Nat), (convert 9 24 (.string s)).run Try.prog w = .ok (.slice (some ⟨w.heap.size, 0, none⟩) s.size cap) W ∧ Below w.heap.size w W ∧ W.heap.size = w.heap.size + 1 ∧
    (∀ j (hj : j < s.size), W.cell? ⟨w.heap.size, j, none⟩ = some (.int .u8 s[j].toNat)) ∧ ∀ j, j < s.size → W.frozen? ⟨w.heap.size, j, none⟩ = false := by
  refine ⟨Lib.bytesWorld w 5 s, _, Lib.run_convert_string_bytes w 9 24 5 s Try.underlying9 Try.underlying24 Try.underlying5, ?_, Lib.bytesWorld_size w 5 s, fun j hj => ?_, fun j hj => ?_⟩
  · exact ⟨rfl, rfl, rfl, by rw [Lib.bytesWorld_size]; omega, fun k hk => Lib.bytesWorld_at_old w 5 s k hk⟩
  · rw [Lib.bytesWorld_cell w 5 s j hj, List.getD_eq_getElem?_getD, List.getElem?_eq_getElem (by rw [← Lib.size_eq]; exact hj)]; rfl
  · have hz : s.size ≤ (Lib.bytesCells w 5 s).size := by simp [Lib.bytesCells]
    simp only [World.frozen?, Lib.bytesWorld_at_new]
    simp
    omega

theorem bytes_back (s : ByteArray) (k : Nat) (hk : k < s.size) (c : UInt8) (b cap : Nat) (W : World) (hc : ∀ j (hj : j < s.size), W.cell? ⟨b, j, none⟩ = some (.int .u8 s[j].toNat)) :
    (convert 24 9 (.slice (some ⟨b, 0, none⟩) s.size cap)).run Try.prog (W.setCell ⟨b, k, none⟩ (.int .u8 c.toNat)) = .ok (.string (str (s.data.toList.set k c))) (W.setCell ⟨b, k, none⟩ (.int .u8 c.toNat)) := by
  have hl : (s.data.toList.set k c).length = s.size := by rw [List.length_set, ← Lib.size_eq]
  have := run_convert_bytes_back (P := Try.prog) (W.setCell ⟨b, k, none⟩ (.int .u8 c.toNat)) 24 9 5 ⟨b, 0, none⟩ cap (s.data.toList.set k c) Try.underlying24 Try.underlying5 Try.underlying9 (fun j hj => ?_)
  · rw [hl] at this; exact this
  have hj' : j < s.size := by omega
  rw [show (⟨b, 0, none⟩ : Addr).add j = ⟨b, j, none⟩ by unfold Addr.add; split <;> simp_all]
  by_cases e : j = k
  · subst e
    rw [World.cell?_setCell_same _ _ _ (hc j hj')]
    simp
  · rw [World.cell?_setCell_other]
    · rw [hc j hj', List.getElem_set_ne (by omega)]; rfl
    · simp only [ne_eq, Addr.mk.injEq, not_and]; omega

theorem one_back (c : UInt8) (X : World) : (convert 24 9 (.slice (some ⟨X.heap.size, 0, none⟩) 1 1)).run Try.prog (X.alloc (.cells #[.int .u8 c.toNat] 5)) = .ok (.string (str [c])) (X.alloc (.cells #[.int .u8 c.toNat] 5)) :=
  run_convert_bytes_back (P := Try.prog) _ 24 9 5 ⟨X.heap.size, 0, none⟩ 1 [c] Try.underlying24 Try.underlying5 Try.underlying9 (one_cell X c 5)

/-- What the last lines of the law ask. -/
theorem sum_more (s : ByteArray) (c : UInt8) (n : Nat) (h : sumS s.data.toList = n) : sumS (s ++ str [c]).data.toList = stepS n c := by
  rw [← h, ← sumS_snoc]
  congr 1

theorem sum_a : sumS (⟨#[97]⟩ : ByteArray).data.toList = 97 := by decide
theorem step_int (n : Nat) (c : UInt8) : ((stepS n c : Nat) : Int) = ((n : Int) / 2 + (n : Int) % 2 * 32768 + (c.toNat : Int)) % 65536 := by unfold stepS; omega

set_option maxHeartbeats 4000000 in
theorem planSum_walk (a0 : ByteArray) (a1 : Int) (c : UInt8) (w0 : a0.size ≤ 140737488351232) (w1 : (Lit.int .i64 a1).wf = true) (w : World) :
    Calls Try.prog 4 #[.string a0, .int .i64 a1, .int .u8 c.toNat] w fun e w' => e = .returned (.bool true) ∧ Below w.heap.size w w' := by
  have z0 : a0.size ≤ 9223372036854775807 := by omega
  have z1 : (a0 ++ str [c]).size ≤ 9223372036854775807 := by simp [str_size]; omega
  obtain ⟨n, hn⟩ : ∃ n, sumS a0.data.toList = n := ⟨_, rfl⟩
  have hn2 : n < 65536 := hn ▸ sumS_lt _
  have HN : Hid (sumS a0.data.toList = n) := hn
  have HM : Hid (sumS (a0 ++ str [c]).data.toList = stepS n c) := sum_more a0 c n hn
  have hst := step_int n c
  have hcl : c.toNat < 256 := c.toNat_lt
  have hone := one_back c
  have hs1 : (str [c]).size = 1 := rfl
  by_cases hyes : ∃ k : Nat, a1 = k ∧ ∃ hk : k < a0.size, a0[k] ≠ c
  · obtain ⟨k, rfl, hk, hne⟩ := hyes
    have hkz : (k : Int) < (a0.size : Int) := by omega
    obtain ⟨x, hx⟩ : ∃ x, a0[k] = x := ⟨_, rfl⟩
    have hne2 : ((x.toNat : Int) != (c.toNat : Int)) = true := by
      rw [hx] at hne
      simp only [bne_iff_ne, ne_eq, Int.ofNat_inj]
      exact fun h => hne (UInt8.toNat_inj.1 h)
    have HD : Hid (sumS (a0.data.toList.set k c) ≠ n) := by
      show _ ≠ _
      rw [← hn]
      exact sumS_set _ k (by rw [← Lib.size_eq]; exact hk) c hne
    obtain ⟨W, cap, hcv, hb, hsz, hcell, hfr⟩ := bytes_made a0 w
    have hbk := bytes_back a0 k hk c w.heap.size cap W hcell
    have hck := hcell k hk
    have z2 : (str (a0.data.toList.set k c)).size ≤ 9223372036854775807 := by rw [str_size, List.length_set, ← Lib.size_eq]; omega
    have hfk := hfr k hk
    have HG : Hid (Below w.heap.size w ((W.setCell ⟨w.heap.size, k, none⟩ (.int .u8 c.toNat)).alloc (.cells #[.int .u8 c.toNat] 5))) := Below.alloc (Below.setCell hb (Nat.le_refl _) _) (by simp [World.setCell]; omega) _
    have hone2 : (convert 24 9 (.slice (some ⟨w.heap.size + 1, 0, none⟩) 1 1)).run Try.prog ((W.setCell ⟨w.heap.size, k, none⟩ (.int .u8 c.toNat)).alloc (.cells #[.int .u8 c.toNat] 5)) = .ok (.string (str [c])) ((W.setCell ⟨w.heap.size, k, none⟩ (.int .u8 c.toNat)).alloc (.cells #[.int .u8 c.toNat] 5)) := by
      have := one_back c (W.setCell ⟨w.heap.size, k, none⟩ (.int .u8 c.toNat))
      rw [show (W.setCell ⟨w.heap.size, k, none⟩ (.int .u8 c.toNat)).heap.size = w.heap.size + 1 by rw [← hsz]; simp [World.setCell]] at this
      exact this
    clear hcell hfr hb hone
    go_enter Try.func4, Try.ntmps4
    go_wp2_with fail
    refine (sum_any _ _ z0).mono ?_
    rintro e w1 ⟨rfl, rfl⟩
    rw [hn]
    clear hn
    go_wp2_with fail
    refine (sum_any _ _ z2).mono ?_
    rintro e w1 ⟨rfl, rfl⟩
    rw [str_data]
    obtain ⟨m, hm⟩ : ∃ m, sumS (a0.data.toList.set k c) = m := ⟨_, rfl⟩
    rw [hm] at HD ⊢
    have hmn : ¬ m = n := HD.out
    go_wp2_with fail
    refine (sum_any _ _ z1).mono ?_
    rintro e w1 ⟨rfl, rfl⟩
    rw [HM.out, hst]
    go_wp2_with fail
    refine (sum_any _ _ (by decide)).mono ?_
    rintro e w1 ⟨rfl, rfl⟩
    rw [sum_a]
    go_wp2
    go_ret
    exact ⟨rfl, HG.out⟩
  · have hG0 : Below w.heap.size w (w.alloc (.cells #[.int .u8 c.toNat] 5)) := Below.alloc (Below.refl _ _) (Nat.le_refl _) _
    have hone2 := hone w
    have HG : Hid (Below w.heap.size w (w.alloc (.cells #[.int .u8 c.toNat] 5))) := hG0
    clear hone hG0
    have hcase : a1 < 0 ∨ (a0.size : Int) ≤ a1 ∨ ∃ k : Nat, a1 = k ∧ ∃ hk : k < a0.size, a0[k] = c := by
      rcases Int.lt_or_le a1 0 with h | h
      · exact .inl h
      · rcases Int.lt_or_le a1 a0.size with h2 | h2
        · obtain ⟨k, rfl⟩ := Int.eq_ofNat_of_zero_le h
          refine .inr (.inr ⟨k, rfl, by omega, ?_⟩)
          exact Classical.byContradiction fun hc => hyes ⟨k, rfl, by omega, hc⟩
        · exact .inr (.inl h2)
    clear hyes
    rcases hcase with h | h | ⟨k, rfl, hk, rfl⟩
    · go_enter Try.func4, Try.ntmps4
      go_wp2_with fail
      refine (sum_any _ _ z0).mono ?_
      rintro e w1 ⟨rfl, rfl⟩
      rw [hn]
      clear hn
      go_wp2_with fail
      refine (sum_any _ _ z1).mono ?_
      rintro e w1 ⟨rfl, rfl⟩
      rw [HM.out, hst]
      go_wp2_with fail
      refine (sum_any _ _ (by decide)).mono ?_
      rintro e w1 ⟨rfl, rfl⟩
      rw [sum_a]
      go_wp2
      go_ret
      exact ⟨rfl, HG.out⟩
    · have h0 : ¬ a1 < 0 := by omega
      go_enter Try.func4, Try.ntmps4
      go_wp2_with fail
      refine (sum_any _ _ z0).mono ?_
      rintro e w1 ⟨rfl, rfl⟩
      rw [hn]
      clear hn
      go_wp2_with fail
      refine (sum_any _ _ z1).mono ?_
      rintro e w1 ⟨rfl, rfl⟩
      rw [HM.out, hst]
      go_wp2_with fail
      refine (sum_any _ _ (by decide)).mono ?_
      rintro e w1 ⟨rfl, rfl⟩
      rw [sum_a]
      go_wp2
      go_ret
      exact ⟨rfl, HG.out⟩
    · have hkz : (k : Int) < (a0.size : Int) := by omega
      go_enter Try.func4, Try.ntmps4
      go_wp2_with fail
      refine (sum_any _ _ z0).mono ?_
      rintro e w1 ⟨rfl, rfl⟩
      rw [hn]
      clear hn
      go_wp2_with fail
      refine (sum_any _ _ z1).mono ?_
      rintro e w1 ⟨rfl, rfl⟩
      rw [HM.out, hst]
      go_wp2_with fail
      refine (sum_any _ _ (by decide)).mono ?_
      rintro e w1 ⟨rfl, rfl⟩
      rw [sum_a]
      go_wp2
      go_ret
      exact ⟨rfl, HG.out⟩

end Go.Proofs.Ytpdmihkcifbpbaa
