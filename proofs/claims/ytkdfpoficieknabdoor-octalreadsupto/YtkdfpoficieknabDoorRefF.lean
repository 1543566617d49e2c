/-
  The walks of the document's Escape and EscapeBody.
-/
import Derived.Test.YtkdfpoficieknabDoorEscA
import Derived.WalkKit
import Derived.RegionTactic
import Derived.Deep.RegionWith
import Derived.Deep.DrawnRows
namespace Go.Proofs.YtkdfpoficieknabDoor
open Go.RowKit
set_option linter.unusedVariables false
attribute [local go_sem ↓] Go.wp_at_zero Go.wp_at_succ

theorem must_any (c : UInt8) (w : World) :
    Calls Tryd.prog 34 #[.int .u8 c.toNat] w fun e w' => e = .returned (.bool (mustB c)) ∧ w = w' := by
  go_enter Tryd.func34, Tryd.ntmps34
  go_wp2
  all_goals go_ret
  all_goals refine ⟨ret_bool ?_, rfl⟩
  all_goals (unfold mustB; rw [Bool.eq_iff_iff]; simp; omega)

/-- The row that three makes. -/
def codeRow (b : UInt8) (t : TypeId) : Obj := .cells #[.int .u8 92, .int .u8 (d1 b).toNat, .int .u8 (d2 b).toNat, .int .u8 (d3 b).toNat] t

theorem three_any (b : UInt8) (w : World) :
    Calls Tryd.prog 29 #[.int .u8 b.toNat] w fun e w' => e = .returned (.slice (some ⟨w.heap.size, 0, none⟩) 4 4) ∧ w.alloc (codeRow b 5) = w' := by
  have hb : b.toNat < 256 := UInt8.toNat_lt b
  have E1 : Hid (((d1 b).toNat : Int) = 48 + (b.toNat : Int) / 64) := by show _ = _; rw [d1_nat]; omega
  have E2 : Hid (((d2 b).toNat : Int) = 48 + (b.toNat : Int) / 8 % 8) := by show _ = _; rw [d2_nat]; omega
  have E3 : Hid (((d3 b).toNat : Int) = 48 + (b.toNat : Int) % 8) := by show _ = _; rw [d3_nat]; omega
  unfold codeRow
  rw [E1.out, E2.out, E3.out]
  clear E1 E2 E3
  go_enter Tryd.func29, Tryd.ntmps29
  go_wp2
  go_ret
  exact ⟨rfl, rfl⟩

theorem Owns.code (w : World) (B : Nat) (b : UInt8) (hB : B ≤ w.heap.size) : Owns (w.alloc (codeRow b 5)) B (.slice (some ⟨w.heap.size, 0, none⟩) 4 4) (code b) :=
  Owns.made w B (Go.Proofs.YtkdfpoficieknabDoor.code b) hB (by rw [code_length]; decide)

theorem three_own (b : UInt8) (w : World) :
    Calls Tryd.prog 29 #[.int .u8 b.toNat] w fun e w' => ∃ v, e = .returned v ∧ Owns w' w.heap.size v (code b) ∧ Below w.heap.size w w' :=
  (three_any b w).mono fun _ _ ⟨h1, h2⟩ => ⟨_, h1, h2 ▸ Owns.code w _ b (Nat.le_refl _), h2 ▸ (Below.refl _ _).alloc (Nat.le_refl _) _⟩

set_option maxHeartbeats 1000000 in
theorem refEscape_any (s : ByteArray) (w : World) (hs : s.size ≤ 140737488355328) (hlen : (esc s.data.toList).length ≤ 140737488355328) :
    Calls Tryd.prog 28 #[.string s] w fun e w' => e = .returned (.string (str (esc s.data.toList))) ∧ Below w.heap.size w w' := by
  have HL : Hid ((esc s.data.toList).length ≤ 140737488355328) := hlen
  clear hlen
  go_enter Tryd.func28, Tryd.ntmps28
  go_wp2
  go_loopw [3, 4] (fun u i wr => ∃ k : Nat, k ≤ s.size ∧ i = .int .i64 k ∧ Owns wr w.heap.size u (esc (s.data.toList.take k)) ∧ Below w.heap.size w wr) (fun _ i _ => s.size - (intOf i).toNat)
  case atStart => exact ⟨0, Nat.zero_le _, rfl, by simpa [esc_nil] using Owns.nil _ _, Below.refl _ _⟩
  case round =>
    obtain ⟨k, hk, rfl, hown, hb⟩ := hrel
    have hBr : w.heap.size ≤ wr.heap.size := hb.size
    by_cases hlt : k < s.size
    · have HT : Hid (esc (s.data.toList.take (k + 1)) = esc (s.data.toList.take k) ++ esc1 s[k]) := by
        show _ = _
        rw [take_snoc s k hlt, esc_snoc]
      have HLk : Hid ((esc (s.data.toList.take k)).length + (esc1 s[k]).length ≤ 140737488355328) := by
        have h1 := esc_take s.data.toList (k + 1)
        rw [HT.out, List.length_append] at h1
        have h2 := HL.out
        show _ ≤ _
        omega
      by_cases hm : mustB s[k] = true
      · have hl4 : (esc (s.data.toList.take k)).length + 4 ≤ 140737488355328 := by have := HLk.out; rw [esc1_must hm] at this; exact this
        go_wp2_with (first
          | (go_at_call 34; refine (must_any _ _).mono ?_; rintro e w' ⟨rfl, rfl⟩)
          | (go_at_call 29; refine (three_any _ _).mono ?_; rintro e w' ⟨rfl, rfl⟩)
          | (at_builtin; refine wpList_append_bytes _ rfl (.tmp 15) (.tmp 19) 35 rfl Tryd.underlying35 info5 w.heap.size _ _ rfl (hown.alloc _) ⟨wr.heap.size, 0, none⟩ 4 4 (code s[k]) rfl rfl (code_cells wr s[k] _) hl4 ?_ ?_; (simp; omega); (intro v' w2 hown2 hb2)))
        go_roundw
        case rel => exact ⟨k + 1, by omega, by go_num, by rw [HT.out, esc1_must hm]; exact hown2, (hb.alloc hBr _).trans hb2⟩
        case measure => simp [intOf]; omega
      · have hm' : mustB s[k] = false := by simpa using hm
        clear hm
        have hl1 : (esc (s.data.toList.take k)).length + 1 ≤ 140737488355328 := by have := HLk.out; rw [esc1_not hm'] at this; exact this
        go_wp2_with (first
          | (go_at_call 34; refine (must_any _ _).mono ?_; rintro e w' ⟨rfl, rfl⟩)
          | (at_builtin; refine wpList_append_bytes _ rfl (.tmp 21) (.tmp 25) 35 rfl Tryd.underlying35 info5 w.heap.size _ _ rfl (hown.alloc _) ⟨wr.heap.size, 0, none⟩ 1 1 [s[k]] rfl rfl (one_cell wr s[k] _) hl1 ?_ ?_; (simp; omega); (intro v' w2 hown2 hb2)))
        go_roundw
        case rel => exact ⟨k + 1, by omega, by go_num, by rw [HT.out, esc1_not hm']; exact hown2, (hb.alloc hBr _).trans hb2⟩
        case measure => simp [intOf]; omega
    · have hke : k = s.size := by omega
      have HE : Hid (esc (s.data.toList.take k) = esc s.data.toList) := by show _ = _; rw [hke, take_all]
      have hc := (hown.as HE.out).text (P := Tryd.prog) 35 9 5 Tryd.underlying35 Tryd.underlying5 Tryd.underlying9
      clear hke
      go_wp2
      go_ret
      exact ⟨rfl, hb⟩

theorem refEscape_in {w W : World} (hb : Below w.heap.size w W) (s : ByteArray) (hs : s.size ≤ 140737488355328) (hlen : (esc s.data.toList).length ≤ 140737488355328) :
    Calls Tryd.prog 28 #[.string s] W fun e w' => e = .returned (.string (str (esc s.data.toList))) ∧ Below w.heap.size w w' :=
  (refEscape_any s W hs hlen).mono fun _ _ ⟨h1, h2⟩ => ⟨h1, hb.trans (h2.mono hb.size)⟩
end Go.Proofs.YtkdfpoficieknabDoor
