/-
  The walks of the document's Escape and EscapeBody.
  The walks of the document's Unescape and UnescapeBody.
  The walk of the document's UnescapeBody.
-/
import Derived.Test.YtlgkdnmhoboinaaGreatDoorEscA
import Derived.Test.YtlgkdnmhoboinaaGreatDoorUnB
import Derived.WalkKit
import Derived.RegionTactic
import Derived.Deep.RegionWith
import Derived.Deep.DrawnRows
import Derived.Deep.QuietTactic
import Derived.BigQuiet
set_option maxRecDepth 20000
namespace Go.Proofs.YtlgkdnmhoboinaaGreatDoor
open Go.RowKit
set_option linter.unusedVariables false
attribute [local go_sem ↓] Go.wp_at_zero Go.wp_at_succ

theorem must_any (c : UInt8) (w : World) :
    Calls Tryz.prog 76 #[.int .u8 c.toNat] w fun e w' => e = .returned (.bool (mustB c)) ∧ w = w' := by
  go_enter Tryz.func76, Tryz.ntmps76
  go_wp2
  all_goals go_ret
  all_goals refine ⟨ret_bool ?_, rfl⟩
  all_goals (unfold mustB; rw [Bool.eq_iff_iff]; simp; omega)

/-- The row that three makes. -/
def codeRow (b : UInt8) (t : TypeId) : Obj := .cells #[.int .u8 92, .int .u8 (d1 b).toNat, .int .u8 (d2 b).toNat, .int .u8 (d3 b).toNat] t

theorem three_any (b : UInt8) (w : World) :
    Calls Tryz.prog 46 #[.int .u8 b.toNat] w fun e w' => e = .returned (.slice (some ⟨w.heap.size, 0, none⟩) 4 4) ∧ w.alloc (codeRow b 5) = w' := by
  have hb : b.toNat < 256 := UInt8.toNat_lt b
  have E1 : Hid (((d1 b).toNat : Int) = 48 + (b.toNat : Int) / 64) := by show _ = _; rw [d1_nat]; omega
  have E2 : Hid (((d2 b).toNat : Int) = 48 + (b.toNat : Int) / 8 % 8) := by show _ = _; rw [d2_nat]; omega
  have E3 : Hid (((d3 b).toNat : Int) = 48 + (b.toNat : Int) % 8) := by show _ = _; rw [d3_nat]; omega
  unfold codeRow
  rw [E1.out, E2.out, E3.out]
  clear E1 E2 E3
  go_enter Tryz.func46, Tryz.ntmps46
  go_wp2
  go_ret
  exact ⟨rfl, rfl⟩

theorem Owns.code (w : World) (B : Nat) (b : UInt8) (hB : B ≤ w.heap.size) : Owns (w.alloc (codeRow b 5)) B (.slice (some ⟨w.heap.size, 0, none⟩) 4 4) (code b) :=
  Owns.made w B (Go.Proofs.YtlgkdnmhoboinaaGreatDoor.code b) hB (by rw [code_length]; decide)

theorem three_own (b : UInt8) (w : World) :
    Calls Tryz.prog 46 #[.int .u8 b.toNat] w fun e w' => ∃ v, e = .returned v ∧ Owns w' w.heap.size v (code b) ∧ Below w.heap.size w w' :=
  (three_any b w).mono fun _ _ ⟨h1, h2⟩ => ⟨_, h1, h2 ▸ Owns.code w _ b (Nat.le_refl _), h2 ▸ (Below.refl _ _).alloc (Nat.le_refl _) _⟩

set_option maxHeartbeats 1000000 in
theorem refEscape_any (s : ByteArray) (w : World) (hs : s.size ≤ 140737488355328) (hlen : (esc s.data.toList).length ≤ 140737488355328) :
    Calls Tryz.prog 47 #[.string s] w fun e w' => e = .returned (.string (str (esc s.data.toList))) ∧ Below w.heap.size w w' := by
  have HL : Hid ((esc s.data.toList).length ≤ 140737488355328) := hlen
  clear hlen
  go_enter Tryz.func47, Tryz.ntmps47
  go_wp2
  go_loopw [3, 4] (fun u i wr => ∃ k : Nat, k ≤ s.size ∧ i = .int .i64 k ∧ Owns wr w.heap.size u (esc (s.data.toList.take k)) ∧ Below w.heap.size w wr) (fun _ i _ => s.size - (intOf i).toNat)
  case atStart => exact ⟨0, Nat.zero_le _, rfl, by simpa [esc_nil] using Owns.nil _ _, Below.refl _ _⟩
  case round =>
    obtain ⟨k, hk, rfl, hown, hb⟩ := hrel
    have hBr : w.heap.size ≤ wr.heap.size := hb.size
    by_cases hlt : k < s.size
    · have HT : Hid (esc (s.data.toList.take (k + 1)) = esc (s.data.toList.take k) ++ esc1 s[k]) := by
        show _ = _
        rw [take_snoc s k hlt, esc_snoc]
      have HLk : Hid ((esc (s.data.toList.take k)).length + (esc1 s[k]).length ≤ 140737488355328) := by
        have h1 := esc_take s.data.toList (k + 1)
        rw [HT.out, List.length_append] at h1
        have h2 := HL.out
        show _ ≤ _
        omega
      by_cases hm : mustB s[k] = true
      · have hl4 : (esc (s.data.toList.take k)).length + 4 ≤ 140737488355328 := by have := HLk.out; rw [esc1_must hm] at this; exact this
        go_wp2_with (first
          | (go_at_call 76; refine (must_any _ _).mono ?_; rintro e w' ⟨rfl, rfl⟩)
          | (go_at_call 46; refine (three_any _ _).mono ?_; rintro e w' ⟨rfl, rfl⟩)
          | (at_builtin; refine wpList_append_bytes _ rfl (.tmp 15) (.tmp 19) 42 rfl Tryz.underlying42 info5 w.heap.size _ _ rfl (hown.alloc _) ⟨wr.heap.size, 0, none⟩ 4 4 (code s[k]) rfl rfl (code_cells wr s[k] _) hl4 ?_ ?_; (simp; omega); (intro v' w2 hown2 hb2)))
        go_roundw
        case rel => exact ⟨k + 1, by omega, by go_num, by rw [HT.out, esc1_must hm]; exact hown2, (hb.alloc hBr _).trans hb2⟩
        case measure => simp [intOf]; omega
      · have hm' : mustB s[k] = false := by simpa using hm
        clear hm
        have hl1 : (esc (s.data.toList.take k)).length + 1 ≤ 140737488355328 := by have := HLk.out; rw [esc1_not hm'] at this; exact this
        go_wp2_with (first
          | (go_at_call 76; refine (must_any _ _).mono ?_; rintro e w' ⟨rfl, rfl⟩)
          | (at_builtin; refine wpList_append_bytes _ rfl (.tmp 21) (.tmp 25) 42 rfl Tryz.underlying42 info5 w.heap.size _ _ rfl (hown.alloc _) ⟨wr.heap.size, 0, none⟩ 1 1 [s[k]] rfl rfl (one_cell wr s[k] _) hl1 ?_ ?_; (simp; omega); (intro v' w2 hown2 hb2)))
        go_roundw
        case rel => exact ⟨k + 1, by omega, by go_num, by rw [HT.out, esc1_not hm']; exact hown2, (hb.alloc hBr _).trans hb2⟩
        case measure => simp [intOf]; omega
    · have hke : k = s.size := by omega
      have HE : Hid (esc (s.data.toList.take k) = esc s.data.toList) := by show _ = _; rw [hke, take_all]
      have hc := (hown.as HE.out).text (P := Tryz.prog) 42 9 5 Tryz.underlying42 Tryz.underlying5 Tryz.underlying9
      clear hke
      go_wp2
      go_ret
      exact ⟨rfl, hb⟩

set_option maxHeartbeats 1000000 in
theorem refEscapeBody_any (s : ByteArray) (w : World) (hs : s.size ≤ 140737488355328) (hlB : (escB s.data.toList).length ≤ 140737488355328) :
    Calls Tryz.prog 29 #[.string s] w fun e w' => e = .returned (.string (str (escB s.data.toList))) ∧ Below w.heap.size w w' := by
  have HB : Hid ((escB s.data.toList).length ≤ 140737488355328) := hlB
  clear hlB
  by_cases h0 : s.size = 0
  · have he := empty_of s h0
    have HE : Hid (escB s.data.toList = esc s.data.toList) := escB_not (by rw [← Lib.toList_data, he]; simp)
    have hlE : (esc s.data.toList).length ≤ 140737488355328 := by rw [← HE.out]; exact HB.out
    rw [HE.out]
    go_enter Tryz.func29, Tryz.ntmps29
    go_wp2_with (go_at_call 47; refine (refEscape_any _ _ hs hlE).mono ?_; rintro e w1 ⟨rfl, hb⟩)
    all_goals go_ret
    exact ⟨rfl, hb⟩
  · have hp : 0 < s.size := by omega
    by_cases hc : s[0].toNat = 37
    · have HE : Hid (escB s.data.toList = code 37 ++ esc (s.extract 1 s.size).data.toList) := by
        show _ = _
        rw [extract_tail]
        exact escB_pct s[0] _ (head_cons s hp) (UInt8.toNat_inj.1 hc)
      rw [HE.out]
      have h1 : (1 : Int) ≤ (s.size : Int) := by omega
      have hs2 : (s.extract 1 s.size).size ≤ 140737488355328 := by simp; omega
      have hl3 : 4 + (esc (s.extract 1 s.size).data.toList).length ≤ 140737488355328 := by
        have := HB.out
        rw [HE.out, List.length_append] at this
        exact this
      have hl2 : (esc (s.extract 1 s.size).data.toList).length ≤ 140737488355328 := by omega
      obtain ⟨r, HR⟩ := hid_ex (esc (s.extract 1 s.size).data.toList)
      obtain ⟨q, HQ⟩ := hid_ex (code 37)
      have hz : (str q).size = 4 := by rw [← HQ.out]; rfl
      have hz' : (str r).size ≤ 140737488355328 := by rw [← HR.out]; exact hl2
      clear hl3
      go_enter Tryz.func29, Tryz.ntmps29
      go_wp2_with fail
      go_region_with (first | (go_at_call 46; refine (three_own 37 _).mono ?_; rintro e w1 ⟨v1, rfl, hown1, hb1⟩; have hc1 := (hown1.as HQ.out).text (P := Tryz.prog) 42 9 5 Tryz.underlying42 Tryz.underlying5 Tryz.underlying9) | (go_at_call 47; refine (refEscape_any _ _ hs2 hl2).mono ?_; rw [HR.out]; rintro e w2 ⟨rfl, hb2⟩; have hc2 := ((hown1.as HQ.out).below hb2).text (P := Tryz.prog) 42 9 5 Tryz.underlying42 Tryz.underlying5 Tryz.underlying9))
      all_goals go_wp2
      all_goals go_ret
      all_goals exact ⟨ret_str (by rw [HR.out, ← HQ.out]; rfl), (Below.drew (Below.refl _ _)).trans (hb1.trans (hb2.mono hb1.size))⟩
    · have HE : Hid (escB s.data.toList = esc s.data.toList) := escB_not (by rw [head_cons s hp]; intro r e; exact hc (by injection e with e1 _; rw [e1]; rfl))
      have hlE : (esc s.data.toList).length ≤ 140737488355328 := by rw [← HE.out]; exact HB.out
      rw [HE.out]
      have hc' : ((s[0].toNat : Int) == 37) = false := by rw [beq_eq_false_iff_ne]; omega
      go_enter Tryz.func29, Tryz.ntmps29
      go_wp2_with (go_at_call 47; refine (refEscape_any _ _ hs hlE).mono ?_; rintro e w1 ⟨rfl, hb⟩)
      all_goals go_ret
      exact ⟨rfl, hb⟩

theorem refEscape_in {w W : World} (hb : Below w.heap.size w W) (s : ByteArray) (hs : s.size ≤ 140737488355328) (hlen : (esc s.data.toList).length ≤ 140737488355328) :
    Calls Tryz.prog 47 #[.string s] W fun e w' => e = .returned (.string (str (esc s.data.toList))) ∧ Below w.heap.size w w' :=
  (refEscape_any s W hs hlen).mono fun _ _ ⟨h1, h2⟩ => ⟨h1, hb.trans (h2.mono hb.size)⟩
theorem refEscapeBody_in {w W : World} (hb : Below w.heap.size w W) (s : ByteArray) (hs : s.size ≤ 140737488355328) (hlen : (escB s.data.toList).length ≤ 140737488355328) :
    Calls Tryz.prog 29 #[.string s] W fun e w' => e = .returned (.string (str (escB s.data.toList))) ∧ Below w.heap.size w w' :=
  (refEscapeBody_any s W hs hlen).mono fun _ _ ⟨h1, h2⟩ => ⟨h1, hb.trans (h2.mono hb.size)⟩
end Go.Proofs.YtlgkdnmhoboinaaGreatDoor

set_option maxRecDepth 20000
namespace Go.Proofs.YtlgkdnmhoboinaaGreatDoor
open Go.RowKit
set_option linter.unusedVariables false
attribute [local go_sem ↓] Go.wp_at_zero Go.wp_at_succ

/-- An octal digit's worth. -/
def digI (c : UInt8) : Int := if 48 ≤ c.toNat ∧ c.toNat ≤ 55 then (c.toNat : Int) - 48 else -1
theorem digI_bd (c : UInt8) : -1 ≤ digI c ∧ digI c ≤ 7 := by unfold digI; split <;> omega
theorem ret_int {a b : Int} (h : a = b) : Ending.returned (.int .i64 a) = .returned (.int .i64 b) := by rw [h]

theorem digit_any (c : UInt8) (w : World) :
    Calls Tryz.prog 83 #[.int .u8 c.toNat] w fun e w' => e = .returned (.int .i64 (digI c)) ∧ w' = w := by
  have hc : c.toNat < 256 := UInt8.toNat_lt c
  by_cases h1 : 48 ≤ (c.toNat : Int)
  · by_cases h2 : (c.toNat : Int) ≤ 55
    · have HE : Hid (digI c = (c.toNat : Int) - 48) := if_pos ⟨by omega, by omega⟩
      rw [HE.out]
      clear HE
      go_enter Tryz.func83, Tryz.ntmps83
      go_wp2
      all_goals go_ret
      all_goals exact ⟨rfl, rfl⟩
    · have HE : Hid (digI c = -1) := if_neg (by omega)
      rw [HE.out]
      clear HE
      go_enter Tryz.func83, Tryz.ntmps83
      go_wp2
      all_goals go_ret
      all_goals exact ⟨rfl, rfl⟩
  · have HE : Hid (digI c = -1) := if_neg (by omega)
    rw [HE.out]
    clear HE
    go_enter Tryz.func83, Tryz.ntmps83
    go_wp2
    all_goals go_ret
    all_goals exact ⟨rfl, rfl⟩

theorem digI_d (b : UInt8) : digI (d1 b) = (b.toNat / 64 : Nat) ∧ digI (d2 b) = (b.toNat / 8 % 8 : Nat) ∧ digI (d3 b) = (b.toNat % 8 : Nat) := by
  have := UInt8.toNat_lt b
  refine ⟨?_, ?_, ?_⟩
  · unfold digI; rw [d1_nat, if_pos (by omega)]; omega
  · unfold digI; rw [d2_nat, if_pos (by omega)]; omega
  · unfold digI; rw [d3_nat, if_pos (by omega)]; omega

/-- What has been read is what any text that is written so begins with. -/
def Reads (s : ByteArray) (k : Nat) (out : List UInt8) : Prop := ∀ t, esc t = s.data.toList → ∃ t', t = out ++ t' ∧ esc t' = s.data.toList.drop k

theorem Reads.start (s : ByteArray) : Reads s 0 [] := fun t h => ⟨t, rfl, h⟩

theorem Reads.plain {s : ByteArray} {k : Nat} {out : List UInt8} (h : Reads s k out) (hk : k < s.size) (hn : ¬ (s[k].toNat = 92 ∧ k + 3 < s.size)) : Reads s (k + 1) (out ++ [s[k]]) := by
  intro t ht
  obtain ⟨t', rfl, e⟩ := h t ht
  rw [drop_cons s k hk] at e
  cases t' with
  | nil => cases e
  | cons c t' =>
    rw [esc_cons] at e
    cases hc : mustB c
    · rw [esc1_not hc] at e
      injection e with e1 e2
      exact ⟨t', by rw [e1]; simp, e2⟩
    · rw [esc1_must hc] at e
      exfalso
      apply hn
      have hl := congrArg List.length e
      rw [List.length_append, code_length, List.length_cons, List.length_drop, size_data] at hl
      injection e with e1 _
      exact ⟨by rw [← e1]; rfl, by omega⟩

theorem four_at (s : ByteArray) (k : Nat) (h : k + 3 < s.size) : s.data.toList.drop k = [s[k], s[k + 1], s[k + 2], s[k + 3]] ++ s.data.toList.drop (k + 4) := by
  rw [drop_cons s k (by omega), drop_cons s (k + 1) (by omega), drop_cons s (k + 2) (by omega), drop_cons s (k + 3) (by omega)]
  rfl

theorem Reads.four {s : ByteArray} {k : Nat} {out : List UInt8} (h : Reads s k out) (hk : k + 3 < s.size) (h92 : s[k].toNat = 92) {t : List UInt8} (ht : esc t = s.data.toList) :
    ∃ c t', t = out ++ [c] ++ t' ∧ s[k + 1] = d1 c ∧ s[k + 2] = d2 c ∧ s[k + 3] = d3 c ∧ esc t' = s.data.toList.drop (k + 4) := by
  obtain ⟨t', rfl, e⟩ := h t ht
  rw [four_at s k hk] at e
  cases t' with
  | nil => cases e
  | cons c t' =>
    rw [esc_cons] at e
    cases hc : mustB c
    · rw [esc1_not hc] at e
      injection e with e1 _
      rw [e1] at hc
      have : s[k] = 92 := UInt8.toNat_inj.1 h92
      rw [this, must92] at hc
      cases hc
    · rw [esc1_must hc] at e
      obtain ⟨e1, e2⟩ := List.append_inj e rfl
      unfold code at e1
      simp only [List.cons.injEq] at e1
      exact ⟨c, t', by simp, e1.2.1.symm, e1.2.2.1.symm, e1.2.2.2.1.symm, e2⟩

theorem Reads.value {s : ByteArray} {k : Nat} {out : List UInt8} (h : Reads s k out) (hk : k + 3 < s.size) (h92 : s[k].toNat = 92) {t : List UInt8} (ht : esc t = s.data.toList) :
    ∃ c t', t = out ++ [c] ++ t' ∧ esc t' = s.data.toList.drop (k + 4) ∧ 0 ≤ digI s[k + 1] ∧ 0 ≤ digI s[k + 2] ∧ 0 ≤ digI s[k + 3] ∧ 64 * digI s[k + 1] + 8 * digI s[k + 2] + digI s[k + 3] = (c.toNat : Int) := by
  obtain ⟨c, t', e, e1, e2, e3, e4⟩ := h.four hk h92 ht
  refine ⟨c, t', e, e4, ?_⟩
  obtain ⟨f1, f2, f3⟩ := digI_d c
  rw [e1, e2, e3, f1, f2, f3]
  have := UInt8.toNat_lt c
  omega

theorem Reads.code {s : ByteArray} {k : Nat} {out : List UInt8} (h : Reads s k out) (hk : k + 3 < s.size) (h92 : s[k].toNat = 92) (b : UInt8) (hb : 64 * digI s[k + 1] + 8 * digI s[k + 2] + digI s[k + 3] = (b.toNat : Int)) : Reads s (k + 4) (out ++ [b]) := by
  intro t ht
  obtain ⟨c, t', e, e4, _, _, _, hv⟩ := h.value hk h92 ht
  have : c = b := UInt8.toNat_inj.1 (by omega)
  exact ⟨t', by rw [e, this], e4⟩

theorem Reads.bad {s : ByteArray} {k : Nat} {out : List UInt8} (h : Reads s k out) (hk : k + 3 < s.size) (h92 : s[k].toNat = 92)
    (hb : digI s[k + 1] < 0 ∨ digI s[k + 2] < 0 ∨ digI s[k + 3] < 0 ∨ 255 < 64 * digI s[k + 1] + 8 * digI s[k + 2] + digI s[k + 3]) (t : List UInt8) : esc t ≠ s.data.toList := by
  intro ht
  obtain ⟨c, t', e, e4, h1, h2, h3, hv⟩ := h.value hk h92 ht
  have := UInt8.toNat_lt c
  omega

theorem Reads.done {s : ByteArray} {out : List UInt8} (h : Reads s s.size out) (hne : esc out ≠ s.data.toList) (t : List UInt8) : esc t ≠ s.data.toList := by
  intro ht
  obtain ⟨t', rfl, e⟩ := h t ht
  rw [List.drop_of_length_le (by simp)] at e
  have := (esc_length t').1
  rw [e] at this
  have h0 : t' = [] := List.length_eq_zero_iff.1 (by simpa using this)
  subst h0
  rw [List.append_nil] at ht
  exact hne ht

theorem index_at (s : ByteArray) (k d : Nat) (h : k + d < s.size) (W : World) : (Instr.index 9 (.string s) (.int .i64 ((k : Int) + (d : Int)))).run Tryz.prog W = .ok (.int .u8 (s[k + d].toNat : Int)) W := by
  rw [run_index_string W 9 s .i64 _ Tryz.underlying9]
  have e : ((k : Int) + (d : Int)).toNat = k + d := by omega
  rw [dif_pos (show 0 ≤ (k : Int) + (d : Int) ∧ (k : Int) + (d : Int) < s.size by omega)]
  simp only [e]

set_option maxHeartbeats 4000000 in
theorem refUnescape_any (s : ByteArray) (w : World) (hs : s.size ≤ 1048576) :
    Calls Tryz.prog 51 #[.string s] w fun e w' =>
      ((∃ t, e = .returned (.tuple #[.string (str t), .int .i64 0]) ∧ esc t = s.data.toList) ∨ (e = .returned (.tuple #[.string ⟨#[]⟩, .int .i64 10]) ∧ ∀ t, esc t ≠ s.data.toList)) ∧ Below w.heap.size w w' := by
  go_enter Tryz.func51, Tryz.ntmps51
  go_wp2
  go_loopw [4, 5] (fun u i wr => ∃ (k : Nat) (out : List UInt8), k ≤ s.size ∧ i = .int .i64 k ∧ Owns wr w.heap.size u out ∧ out.length ≤ k ∧ Reads s k out ∧ Below w.heap.size w wr) (fun _ i _ => s.size - (intOf i).toNat)
  case atStart => exact ⟨0, [], Nat.zero_le _, rfl, Owns.nil _ _, Nat.le_refl _, Reads.start s, Below.refl _ _⟩
  case round =>
    obtain ⟨k, out, hk, rfl, hown, hlo, hrd, hb⟩ := hrel
    have HR : Hid (Reads s k out) := hrd
    clear hrd
    have hBr : w.heap.size ≤ wr.heap.size := hb.size
    have hl1 : out.length + 1 ≤ 140737488355328 := by omega
    by_cases hlt : k < s.size
    · by_cases h92 : s[k].toNat = 92
      · by_cases h3 : k + 3 < s.size
        · have h92' : ((s[k].toNat : Int) != 92) = false := by rw [h92]; rfl
          have j1 : (k : Int) + 1 < (s.size : Int) := by omega
          have j2 : (k : Int) + 2 < (s.size : Int) := by omega
          have j3 : (k : Int) + 3 < (s.size : Int) := by omega
          have k1 : k + 1 < s.size := by omega
          have k2 : k + 2 < s.size := by omega
          have bx := digI_bd s[k + 1]
          have bY := digI_bd s[k + 2]
          have bz := digI_bd s[k + 3]
          have h92n : ¬ ((s[k].toNat : Int) != 92) = true := by rw [h92']; simp
          have i1 : ∀ W, (Instr.index 9 (.string s) (.int .i64 ((k : Int) + 1))).run Tryz.prog W = .ok (.int .u8 (s[k + 1].toNat : Int)) W := index_at s k 1 k1
          have i2 : ∀ W, (Instr.index 9 (.string s) (.int .i64 ((k : Int) + 2))).run Tryz.prog W = .ok (.int .u8 (s[k + 2].toNat : Int)) W := index_at s k 2 k2
          have i3 : ∀ W, (Instr.index 9 (.string s) (.int .i64 ((k : Int) + 3))).run Tryz.prog W = .ok (.int .u8 (s[k + 3].toNat : Int)) W := index_at s k 3 h3
          by_cases hv : 0 ≤ digI s[k + 1] ∧ 0 ≤ digI s[k + 2] ∧ 0 ≤ digI s[k + 3] ∧ 64 * digI s[k + 1] + 8 * digI s[k + 2] + digI s[k + 3] ≤ 255
          · obtain ⟨v1, v2, v3, v4⟩ := hv
            obtain ⟨b, HB⟩ : ∃ b : UInt8, Hid (64 * digI s[k + 1] + 8 * digI s[k + 2] + digI s[k + 3] = (b.toNat : Int)) := by
              refine ⟨UInt8.ofNat (64 * digI s[k + 1] + 8 * digI s[k + 2] + digI s[k + 3]).toNat, ?_⟩
              show _ = _
              rw [UInt8.toNat_ofNat']
              omega
            have HS : Hid (Reads s (k + 4) (out ++ [b])) := HR.out.code h3 h92 b HB.out
            have hbb : b.toNat < 256 := UInt8.toNat_lt b
            have hbv := HB.out
            go_wp2
            go_quiet ((go_at_call 83; exact Calls.quiet_of_same (digit_any _ _)))
            clear i1 i2 i3
            go_wp2_with (at_builtin; refine wpList_append_bytes _ rfl (.tmp 70) (.tmp 73) 42 rfl Tryz.underlying42 info5 w.heap.size _ _ rfl (hown.alloc _) ⟨wr.heap.size, 0, none⟩ 1 1 [b] rfl rfl (one_cell wr b _) hl1 ?_ ?_; (simp; omega); (intro v' w3 hown3 hb3))
            go_roundw
            case rel => exact ⟨k + 4, out ++ [b], by omega, by go_num, hown3, by simp; omega, HS.out, ((hb.trans ⟨rfl, rfl, rfl, Nat.le_refl _, fun _ _ => rfl⟩ : Below w.heap.size w (wr.drewN _)).alloc hBr _).trans hb3⟩
            case measure => simp [intOf]; omega
          · have HN : Hid (∀ t, esc t ≠ s.data.toList) := HR.out.bad h3 h92 (by omega)
            have HV : Hid (digI s[k + 1] < 0 ∨ digI s[k + 2] < 0 ∨ digI s[k + 3] < 0 ∨ 255 < 64 * digI s[k + 1] + 8 * digI s[k + 2] + digI s[k + 3]) := by show _ ∨ _; omega
            clear hv
            go_wp2
            go_quiet ((go_at_call 83; exact Calls.quiet_of_same (digit_any _ _)))
            clear i1 i2 i3
            go_wp2_with (at_builtin; exfalso; have := HV.out; omega)
            all_goals go_ret2
            all_goals exact ⟨.inr ⟨rfl, HN.out⟩, hb.trans ⟨rfl, rfl, rfl, Nat.le_refl _, fun _ _ => rfl⟩⟩
        · have h92' : ((s[k].toNat : Int) != 92) = false := by rw [h92]; rfl
          have h3' : (s.size : Int) ≤ (k : Int) + 3 := by omega
          clear h92
          have HS : Hid (Reads s (k + 1) (out ++ [s[k]])) := HR.out.plain hlt (fun h => h3 h.2)
          go_wp2_with (at_builtin; refine wpList_append_bytes _ rfl (.tmp 28) (.tmp 32) 42 rfl Tryz.underlying42 info5 w.heap.size _ _ rfl (hown.alloc _) ⟨wr.heap.size, 0, none⟩ 1 1 [s[k]] rfl rfl (one_cell wr s[k] _) hl1 ?_ ?_; (simp; omega); (intro v' w3 hown3 hb3))
          go_roundw
          case rel => exact ⟨k + 1, out ++ [s[k]], by omega, by go_num, hown3, by simp; omega, HS.out, (hb.alloc hBr _).trans hb3⟩
          case measure => simp [intOf]; omega
      · have h92' : ((s[k].toNat : Int) != 92) = true := by simp; omega
        have HS : Hid (Reads s (k + 1) (out ++ [s[k]])) := HR.out.plain hlt (fun h => h92 h.1)
        go_wp2_with (at_builtin; refine wpList_append_bytes _ rfl (.tmp 28) (.tmp 32) 42 rfl Tryz.underlying42 info5 w.heap.size _ _ rfl (hown.alloc _) ⟨wr.heap.size, 0, none⟩ 1 1 [s[k]] rfl rfl (one_cell wr s[k] _) hl1 ?_ ?_; (simp; omega); (intro v' w3 hown3 hb3))
        go_roundw
        case rel => exact ⟨k + 1, out ++ [s[k]], by omega, by go_num, hown3, by simp; omega, HS.out, (hb.alloc hBr _).trans hb3⟩
        case measure => simp [intOf]; omega
    · have HE : Hid (Reads s s.size out) := by have := HR.out; rwa [show k = s.size by omega] at this
      have z1 : (str out).size ≤ 140737488355328 := by rw [str_size]; omega
      have z2 : (esc (str out).data.toList).length ≤ 140737488355328 := by have := (esc_length out).2; rw [str_data]; omega
      have hc := hown.text (P := Tryz.prog) 42 9 5 Tryz.underlying42 Tryz.underlying5 Tryz.underlying9
      by_cases he : ((str (esc (str out).data.toList)).toList == s.toList) = true
      · have HT : Hid (esc out = s.data.toList) := by
          have := eq_of_beq he
          rw [str_toList, Lib.toList_data, str_data] at this
          exact this
        go_wp2_with (go_at_call 47; refine (refEscape_any _ _ z1 z2).mono ?_; rintro e w2 ⟨rfl, hb2⟩)
        all_goals go_ret2
        exact ⟨.inl ⟨out, rfl, HT.out⟩, hb.trans (hb2.mono hBr)⟩
      · have he' : ((str (esc (str out).data.toList)).toList == s.toList) = false := by simpa using he
        have HN : Hid (∀ t, esc t ≠ s.data.toList) := HE.out.done (fun h => he (by rw [str_toList, Lib.toList_data, str_data, h]; simp))
        clear he
        go_wp2_with (go_at_call 47; refine (refEscape_any _ _ z1 z2).mono ?_; rintro e w2 ⟨rfl, hb2⟩)
        all_goals go_ret2
        exact ⟨.inr ⟨rfl, HN.out⟩, hb.trans (hb2.mono hBr)⟩
end Go.Proofs.YtlgkdnmhoboinaaGreatDoor

set_option maxRecDepth 20000
namespace Go.Proofs.YtlgkdnmhoboinaaGreatDoor
open Go.RowKit
set_option linter.unusedVariables false

theorem rank0 {l t : List UInt8} (h : esc t = l) : t.length ≤ l.length := by rw [← h]; exact (esc_length t).1
theorem ret_pair {a b : ByteArray} {n : Int} (h : a = b) : Ending.returned (.tuple #[.string a, .int .i64 n]) = .returned (.tuple #[.string b, .int .i64 n]) := by rw [h]

theorem take4 (s : ByteArray) (h : 4 ≤ s.size) (q : List UInt8) (he : ((s.extract 0 4).toList == (str q).toList) = true) (hq : code 37 = q) : s.data.toList = code 37 ++ s.data.toList.drop 4 := by
  have e := eq_of_beq he
  rw [str_toList, Lib.toList_data, Lib.extract_data] at e
  rw [hq, ← e]
  simp
theorem take4' (s : ByteArray) (q : List UInt8) (he : ((s.extract 0 4).toList == (str q).toList) = false) (hq : code 37 = q) (r : List UInt8) : s.data.toList ≠ code 37 ++ r := by
  intro e
  rw [beq_eq_false_iff_ne] at he
  apply he
  rw [str_toList, Lib.toList_data, Lib.extract_data, ← hq, e]
  rfl

set_option maxHeartbeats 4000000 in
theorem refUnescapeBody_any (s : ByteArray) (w : World) (hs : s.size ≤ 1048576) :
    Calls Tryz.prog 33 #[.string s] w fun e w' =>
      ((∃ t, e = .returned (.tuple #[.string (str t), .int .i64 0]) ∧ escB t = s.data.toList) ∨ (e = .returned (.tuple #[.string ⟨#[]⟩, .int .i64 10]) ∧ ∀ t, escB t ≠ s.data.toList)) ∧ Below w.heap.size w w' := by
  obtain ⟨q, HQ⟩ := hid_ex (code 37)
  have hz : (str q).size = 4 := by rw [← HQ.out]; rfl
  by_cases h4 : 4 ≤ s.size
  · by_cases hq : ((s.extract 0 4).toList == (str q).toList) = true
    · have HS : Hid (s.data.toList = code 37 ++ s.data.toList.drop 4) := take4 s h4 q hq HQ.out
      have hx : (s.extract 4 s.size).size ≤ 1048576 := by simp; omega
      have i4 : (4 : Int) ≤ (s.size : Int) := by omega
      go_enter Tryz.func33, Tryz.ntmps33
      go_wp2_with (go_at_call 46; refine (three_own 37 _).mono ?_; rintro e w1 ⟨v1, rfl, hown1, hb1⟩; have hc1 := (hown1.as HQ.out).text (P := Tryz.prog) 42 9 5 Tryz.underlying42 Tryz.underlying5 Tryz.underlying9)
      refine (refUnescape_any _ _ hx).mono ?_
      rw [extract_drop]
      rintro e w2 ⟨h, hb2⟩
      have HB : Hid (Below w.heap.size w w2) := hb1.trans (hb2.mono hb1.size)
      rcases h with ⟨t, rfl, ht⟩ | ⟨rfl, hno⟩
      · have HT : Hid (escB (37 :: t) = s.data.toList) := by
          show code 37 ++ esc t = _
          rw [ht]; exact HS.out.symm
        have hl := rank0 ht
        rw [List.length_drop, size_data] at hl
        have hz2 : (str t).size ≤ 1048576 := by rw [str_size]; omega
        clear ht hl hb2 hb1 hown1 hc1
        go_wp2
        all_goals go_ret2
        exact ⟨.inl ⟨37 :: t, ret_pair rfl, HT.out⟩, HB.out⟩
      · have HN : Hid (∀ t, escB t ≠ s.data.toList) := fun t e => by
          rw [HS.out] at e
          obtain ⟨r, rfl, e2⟩ := escB_code e
          exact hno r e2
        clear hno hb2 hb1 hown1 hc1
        go_wp2
        all_goals go_ret2
        exact ⟨.inr ⟨rfl, HN.out⟩, HB.out⟩
    · have hq' : ((s.extract 0 4).toList == (str q).toList) = false := by simpa using hq
      have HC : Hid (∀ r, s.data.toList ≠ code 37 ++ r) := take4' s q hq' HQ.out
      have i4 : (4 : Int) ≤ (s.size : Int) := by omega
      have hp : 0 < s.size := by omega
      clear hq
      by_cases h37 : s[0].toNat = 37
      · have HN : Hid (∀ t, escB t ≠ s.data.toList) := fun t e => by
          rw [head_cons s hp, UInt8.toNat_inj.1 (show s[0].toNat = (37 : UInt8).toNat from h37)] at e
          exact escB_ne37 _ _ e
        go_enter Tryz.func33, Tryz.ntmps33
        go_wp2_with (go_at_call 46; refine (three_own 37 _).mono ?_; rintro e w1 ⟨v1, rfl, hown1, hb1⟩; have hc1 := (hown1.as HQ.out).text (P := Tryz.prog) 42 9 5 Tryz.underlying42 Tryz.underlying5 Tryz.underlying9)
        all_goals go_ret2
        exact ⟨.inr ⟨rfl, HN.out⟩, hb1⟩
      · have H37 : Hid (∀ r, s.data.toList ≠ 37 :: r) := head_not hp h37
        have h37' : ((s[0].toNat : Int) == 37) = false := by rw [beq_eq_false_iff_ne]; omega
        clear h37
        go_enter Tryz.func33, Tryz.ntmps33
        go_wp2_with (go_at_call 46; refine (three_own 37 _).mono ?_; rintro e w1 ⟨v1, rfl, hown1, hb1⟩; have hc1 := (hown1.as HQ.out).text (P := Tryz.prog) 42 9 5 Tryz.underlying42 Tryz.underlying5 Tryz.underlying9)
        refine (refUnescape_any _ _ hs).mono ?_
        rintro e w2 ⟨h, hb2⟩
        have HB : Hid (Below w.heap.size w w2) := hb1.trans (hb2.mono hb1.size)
        rcases h with ⟨t, rfl, ht⟩ | ⟨rfl, hno⟩
        · have HT : Hid (escB t = s.data.toList) := escB_of H37.out ht
          clear ht hb2 hb1 hown1 hc1
          go_wp2
          go_ret2
          exact ⟨.inl ⟨t, rfl, HT.out⟩, HB.out⟩
        · have HN : Hid (∀ t, escB t ≠ s.data.toList) := fun t e => hno t (esc_of HC.out e)
          clear hno hb2 hb1 hown1 hc1
          go_wp2
          go_ret2
          exact ⟨.inr ⟨rfl, HN.out⟩, HB.out⟩
  · have HC : Hid (∀ r, s.data.toList ≠ code 37 ++ r) := fun r e => by
      have := congrArg List.length e
      rw [List.length_append, size_data, code_length] at this
      omega
    by_cases h0 : s.size = 0
    · have H37 : Hid (∀ r, s.data.toList ≠ 37 :: r) := fun r e => by rw [← Lib.toList_data, empty_of s h0] at e; cases e
      go_enter Tryz.func33, Tryz.ntmps33
      go_wp2_with (go_at_call 46; refine (three_own 37 _).mono ?_; rintro e w1 ⟨v1, rfl, hown1, hb1⟩; have hc1 := (hown1.as HQ.out).text (P := Tryz.prog) 42 9 5 Tryz.underlying42 Tryz.underlying5 Tryz.underlying9)
      refine (refUnescape_any _ _ hs).mono ?_
      rintro e w2 ⟨h, hb2⟩
      have HB : Hid (Below w.heap.size w w2) := hb1.trans (hb2.mono hb1.size)
      rcases h with ⟨t, rfl, ht⟩ | ⟨rfl, hno⟩
      · have HT : Hid (escB t = s.data.toList) := escB_of H37.out ht
        clear ht hb2 hb1 hown1 hc1
        go_wp2
        go_ret2
        exact ⟨.inl ⟨t, rfl, HT.out⟩, HB.out⟩
      · have HN : Hid (∀ t, escB t ≠ s.data.toList) := fun t e => hno t (esc_of HC.out e)
        clear hno hb2 hb1 hown1 hc1
        go_wp2
        go_ret2
        exact ⟨.inr ⟨rfl, HN.out⟩, HB.out⟩
    · have hp : 0 < s.size := by omega
      by_cases h37 : s[0].toNat = 37
      · have HN : Hid (∀ t, escB t ≠ s.data.toList) := fun t e => by
          rw [head_cons s hp, UInt8.toNat_inj.1 (show s[0].toNat = (37 : UInt8).toNat from h37)] at e
          exact escB_ne37 _ _ e
        go_enter Tryz.func33, Tryz.ntmps33
        go_wp2_with (go_at_call 46; refine (three_own 37 _).mono ?_; rintro e w1 ⟨v1, rfl, hown1, hb1⟩; have hc1 := (hown1.as HQ.out).text (P := Tryz.prog) 42 9 5 Tryz.underlying42 Tryz.underlying5 Tryz.underlying9)
        all_goals go_ret2
        exact ⟨.inr ⟨rfl, HN.out⟩, hb1⟩
      · have H37 : Hid (∀ r, s.data.toList ≠ 37 :: r) := head_not hp h37
        have h37' : ((s[0].toNat : Int) == 37) = false := by rw [beq_eq_false_iff_ne]; omega
        clear h37
        go_enter Tryz.func33, Tryz.ntmps33
        go_wp2_with (go_at_call 46; refine (three_own 37 _).mono ?_; rintro e w1 ⟨v1, rfl, hown1, hb1⟩; have hc1 := (hown1.as HQ.out).text (P := Tryz.prog) 42 9 5 Tryz.underlying42 Tryz.underlying5 Tryz.underlying9)
        refine (refUnescape_any _ _ hs).mono ?_
        rintro e w2 ⟨h, hb2⟩
        have HB : Hid (Below w.heap.size w w2) := hb1.trans (hb2.mono hb1.size)
        rcases h with ⟨t, rfl, ht⟩ | ⟨rfl, hno⟩
        · have HT : Hid (escB t = s.data.toList) := escB_of H37.out ht
          clear ht hb2 hb1 hown1 hc1
          go_wp2
          go_ret2
          exact ⟨.inl ⟨t, rfl, HT.out⟩, HB.out⟩
        · have HN : Hid (∀ t, escB t ≠ s.data.toList) := fun t e => hno t (esc_of HC.out e)
          clear hno hb2 hb1 hown1 hc1
          go_wp2
          go_ret2
          exact ⟨.inr ⟨rfl, HN.out⟩, HB.out⟩
end Go.Proofs.YtlgkdnmhoboinaaGreatDoor
