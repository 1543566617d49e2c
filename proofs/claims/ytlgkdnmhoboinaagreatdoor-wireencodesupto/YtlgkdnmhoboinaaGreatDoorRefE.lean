/-
  The walks of the document's Escape and EscapeBody.
-/
import Derived.Test.YtlgkdnmhoboinaaGreatDoorEscA
import Derived.WalkKit
import Derived.RegionTactic
import Derived.Deep.RegionWith
import Derived.Deep.DrawnRows
set_option maxRecDepth 20000
namespace Go.Proofs.YtlgkdnmhoboinaaGreatDoor
open Go.RowKit
set_option linter.unusedVariables false
attribute [local go_sem ↓] Go.wp_at_zero Go.wp_at_succ

theorem must_any (c : UInt8) (w : World) :
    Calls Tryz.prog 76 #[.int .u8 c.toNat] w fun e w' => e = .returned (.bool (mustB c)) ∧ w = w' := by
  go_enter Tryz.func76, Tryz.ntmps76
  go_wp2
  all_goals go_ret
  all_goals refine ⟨ret_bool ?_, rfl⟩
  all_goals (unfold mustB; rw [Bool.eq_iff_iff]; simp; omega)

/-- The row that three makes. -/
def codeRow (b : UInt8) (t : TypeId) : Obj := .cells #[.int .u8 92, .int .u8 (d1 b).toNat, .int .u8 (d2 b).toNat, .int .u8 (d3 b).toNat] t

theorem three_any (b : UInt8) (w : World) :
    Calls Tryz.prog 46 #[.int .u8 b.toNat] w fun e w' => e = .returned (.slice (some ⟨w.heap.size, 0, none⟩) 4 4) ∧ w.alloc (codeRow b 5) = w' := by
  have hb : b.toNat < 256 := UInt8.toNat_lt b
  have E1 : Hid (((d1 b).toNat : Int) = 48 + (b.toNat : Int) / 64) := by show _ = _; rw [d1_nat]; omega
  have E2 : Hid (((d2 b).toNat : Int) = 48 + (b.toNat : Int) / 8 % 8) := by show _ = _; rw [d2_nat]; omega
  have E3 : Hid (((d3 b).toNat : Int) = 48 + (b.toNat : Int) % 8) := by show _ = _; rw [d3_nat]; omega
  unfold codeRow
  rw [E1.out, E2.out, E3.out]
  clear E1 E2 E3
  go_enter Tryz.func46, Tryz.ntmps46
  go_wp2
  go_ret
  exact ⟨rfl, rfl⟩

theorem Owns.code (w : World) (B : Nat) (b : UInt8) (hB : B ≤ w.heap.size) : Owns (w.alloc (codeRow b 5)) B (.slice (some ⟨w.heap.size, 0, none⟩) 4 4) (code b) :=
  Owns.made w B (Go.Proofs.YtlgkdnmhoboinaaGreatDoor.code b) hB (by rw [code_length]; decide)

theorem three_own (b : UInt8) (w : World) :
    Calls Tryz.prog 46 #[.int .u8 b.toNat] w fun e w' => ∃ v, e = .returned v ∧ Owns w' w.heap.size v (code b) ∧ Below w.heap.size w w' :=
  (three_any b w).mono fun _ _ ⟨h1, h2⟩ => ⟨_, h1, h2 ▸ Owns.code w _ b (Nat.le_refl _), h2 ▸ (Below.refl _ _).alloc (Nat.le_refl _) _⟩

set_option maxHeartbeats 1000000 in
theorem refEscape_any (s : ByteArray) (w : World) (hs : s.size ≤ 140737488355328) (hlen : (esc s.data.toList).length ≤ 140737488355328) :
    Calls Tryz.prog 47 #[.string s] w fun e w' => e = .returned (.string (str (esc s.data.toList))) ∧ Below w.heap.size w w' := by
  have HL : Hid ((esc s.data.toList).length ≤ 140737488355328) := hlen
  clear hlen
  go_enter Tryz.func47, Tryz.ntmps47
  go_wp2
  go_loopw [3, 4] (fun u i wr => ∃ k : Nat, k ≤ s.size ∧ i = .int .i64 k ∧ Owns wr w.heap.size u (esc (s.data.toList.take k)) ∧ Below w.heap.size w wr) (fun _ i _ => s.size - (intOf i).toNat)
  case atStart => exact ⟨0, Nat.zero_le _, rfl, by simpa [esc_nil] using Owns.nil _ _, Below.refl _ _⟩
  case round =>
    obtain ⟨k, hk, rfl, hown, hb⟩ := hrel
    have hBr : w.heap.size ≤ wr.heap.size := hb.size
    by_cases hlt : k < s.size
    · have HT : Hid (esc (s.data.toList.take (k + 1)) = esc (s.data.toList.take k) ++ esc1 s[k]) := by
        show _ = _
        rw [take_snoc s k hlt, esc_snoc]
      have HLk : Hid ((esc (s.data.toList.take k)).length + (esc1 s[k]).length ≤ 140737488355328) := by
        have h1 := esc_take s.data.toList (k + 1)
        rw [HT.out, List.length_append] at h1
        have h2 := HL.out
        show _ ≤ _
        omega
      by_cases hm : mustB s[k] = true
      · have hl4 : (esc (s.data.toList.take k)).length + 4 ≤ 140737488355328 := by have := HLk.out; rw [esc1_must hm] at this; exact this
        go_wp2_with (first
          | (go_at_call 76; refine (must_any _ _).mono ?_; rintro e w' ⟨rfl, rfl⟩)
          | (go_at_call 46; refine (three_any _ _).mono ?_; rintro e w' ⟨rfl, rfl⟩)
          | (at_builtin; refine wpList_append_bytes _ rfl (.tmp 15) (.tmp 19) 42 rfl Tryz.underlying42 info5 w.heap.size _ _ rfl (hown.alloc _) ⟨wr.heap.size, 0, none⟩ 4 4 (code s[k]) rfl rfl (code_cells wr s[k] _) hl4 ?_ ?_; (simp; omega); (intro v' w2 hown2 hb2)))
        go_roundw
        case rel => exact ⟨k + 1, by omega, by go_num, by rw [HT.out, esc1_must hm]; exact hown2, (hb.alloc hBr _).trans hb2⟩
        case measure => simp [intOf]; omega
      · have hm' : mustB s[k] = false := by simpa using hm
        clear hm
        have hl1 : (esc (s.data.toList.take k)).length + 1 ≤ 140737488355328 := by have := HLk.out; rw [esc1_not hm'] at this; exact this
        go_wp2_with (first
          | (go_at_call 76; refine (must_any _ _).mono ?_; rintro e w' ⟨rfl, rfl⟩)
          | (at_builtin; refine wpList_append_bytes _ rfl (.tmp 21) (.tmp 25) 42 rfl Tryz.underlying42 info5 w.heap.size _ _ rfl (hown.alloc _) ⟨wr.heap.size, 0, none⟩ 1 1 [s[k]] rfl rfl (one_cell wr s[k] _) hl1 ?_ ?_; (simp; omega); (intro v' w2 hown2 hb2)))
        go_roundw
        case rel => exact ⟨k + 1, by omega, by go_num, by rw [HT.out, esc1_not hm']; exact hown2, (hb.alloc hBr _).trans hb2⟩
        case measure => simp [intOf]; omega
    · have hke : k = s.size := by omega
      have HE : Hid (esc (s.data.toList.take k) = esc s.data.toList) := by show _ = _; rw [hke, take_all]
      have hc := (hown.as HE.out).text (P := Tryz.prog) 42 9 5 Tryz.underlying42 Tryz.underlying5 Tryz.underlying9
      clear hke
      go_wp2
      go_ret
      exact ⟨rfl, hb⟩

set_option maxHeartbeats 1000000 in
theorem refEscapeBody_any (s : ByteArray) (w : World) (hs : s.size ≤ 140737488355328) (hlB : (escB s.data.toList).length ≤ 140737488355328) :
    Calls Tryz.prog 29 #[.string s] w fun e w' => e = .returned (.string (str (escB s.data.toList))) ∧ Below w.heap.size w w' := by
  have HB : Hid ((escB s.data.toList).length ≤ 140737488355328) := hlB
  clear hlB
  by_cases h0 : s.size = 0
  · have he := empty_of s h0
    have HE : Hid (escB s.data.toList = esc s.data.toList) := escB_not (by rw [← Lib.toList_data, he]; simp)
    have hlE : (esc s.data.toList).length ≤ 140737488355328 := by rw [← HE.out]; exact HB.out
    rw [HE.out]
    go_enter Tryz.func29, Tryz.ntmps29
    go_wp2_with (go_at_call 47; refine (refEscape_any _ _ hs hlE).mono ?_; rintro e w1 ⟨rfl, hb⟩)
    all_goals go_ret
    exact ⟨rfl, hb⟩
  · have hp : 0 < s.size := by omega
    by_cases hc : s[0].toNat = 37
    · have HE : Hid (escB s.data.toList = code 37 ++ esc (s.extract 1 s.size).data.toList) := by
        show _ = _
        rw [extract_tail]
        exact escB_pct s[0] _ (head_cons s hp) (UInt8.toNat_inj.1 hc)
      rw [HE.out]
      have h1 : (1 : Int) ≤ (s.size : Int) := by omega
      have hs2 : (s.extract 1 s.size).size ≤ 140737488355328 := by simp; omega
      have hl3 : 4 + (esc (s.extract 1 s.size).data.toList).length ≤ 140737488355328 := by
        have := HB.out
        rw [HE.out, List.length_append] at this
        exact this
      have hl2 : (esc (s.extract 1 s.size).data.toList).length ≤ 140737488355328 := by omega
      obtain ⟨r, HR⟩ := hid_ex (esc (s.extract 1 s.size).data.toList)
      obtain ⟨q, HQ⟩ := hid_ex (code 37)
      have hz : (str q).size = 4 := by rw [← HQ.out]; rfl
      have hz' : (str r).size ≤ 140737488355328 := by rw [← HR.out]; exact hl2
      clear hl3
      go_enter Tryz.func29, Tryz.ntmps29
      go_wp2_with fail
      go_region_with (first | (go_at_call 46; refine (three_own 37 _).mono ?_; rintro e w1 ⟨v1, rfl, hown1, hb1⟩; have hc1 := (hown1.as HQ.out).text (P := Tryz.prog) 42 9 5 Tryz.underlying42 Tryz.underlying5 Tryz.underlying9) | (go_at_call 47; refine (refEscape_any _ _ hs2 hl2).mono ?_; rw [HR.out]; rintro e w2 ⟨rfl, hb2⟩; have hc2 := ((hown1.as HQ.out).below hb2).text (P := Tryz.prog) 42 9 5 Tryz.underlying42 Tryz.underlying5 Tryz.underlying9))
      all_goals go_wp2
      all_goals go_ret
      all_goals exact ⟨ret_str (by rw [HR.out, ← HQ.out]; rfl), (Below.drew (Below.refl _ _)).trans (hb1.trans (hb2.mono hb1.size))⟩
    · have HE : Hid (escB s.data.toList = esc s.data.toList) := escB_not (by rw [head_cons s hp]; intro r e; exact hc (by injection e with e1 _; rw [e1]; rfl))
      have hlE : (esc s.data.toList).length ≤ 140737488355328 := by rw [← HE.out]; exact HB.out
      rw [HE.out]
      have hc' : ((s[0].toNat : Int) == 37) = false := by rw [beq_eq_false_iff_ne]; omega
      go_enter Tryz.func29, Tryz.ntmps29
      go_wp2_with (go_at_call 47; refine (refEscape_any _ _ hs hlE).mono ?_; rintro e w1 ⟨rfl, hb⟩)
      all_goals go_ret
      exact ⟨rfl, hb⟩

theorem refEscape_in {w W : World} (hb : Below w.heap.size w W) (s : ByteArray) (hs : s.size ≤ 140737488355328) (hlen : (esc s.data.toList).length ≤ 140737488355328) :
    Calls Tryz.prog 47 #[.string s] W fun e w' => e = .returned (.string (str (esc s.data.toList))) ∧ Below w.heap.size w w' :=
  (refEscape_any s W hs hlen).mono fun _ _ ⟨h1, h2⟩ => ⟨h1, hb.trans (h2.mono hb.size)⟩
theorem refEscapeBody_in {w W : World} (hb : Below w.heap.size w W) (s : ByteArray) (hs : s.size ≤ 140737488355328) (hlen : (escB s.data.toList).length ≤ 140737488355328) :
    Calls Tryz.prog 29 #[.string s] W fun e w' => e = .returned (.string (str (escB s.data.toList))) ∧ Below w.heap.size w w' :=
  (refEscapeBody_any s W hs hlen).mono fun _ _ ⟨h1, h2⟩ => ⟨h1, hb.trans (h2.mono hb.size)⟩
end Go.Proofs.YtlgkdnmhoboinaaGreatDoor
