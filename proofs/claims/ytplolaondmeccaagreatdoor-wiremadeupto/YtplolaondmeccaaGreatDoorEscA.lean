/-
  The walks of octal.appendEscaped and octal.Escape.
-/
import Derived.Test.YtplolaondmeccaaGreatDoorCodeA
import Derived.WalkKit
import Derived.RegionTactic
import Derived.Deep.RegionWith
import Derived.Deep.RegionHeld3
import Derived.Deep.DrawnRows
namespace Go.Proofs.YtplolaondmeccaaGreatDoor
open Go.RowKit
set_option linter.unusedVariables false

attribute [local go_sem ↓] Go.wp_at_zero Go.wp_at_succ

set_option maxHeartbeats 1000000 in
theorem appendEscaped_any (B : Nat) (v : Value) (l : List UInt8) (s : ByteArray) (w : World) (hD : Digs w) (h0 : 4 < B) (hB : B ≤ w.heap.size) (hown : Owns w B v l) (hs : s.size ≤ 140737488355328)
    (hlen : l.length + (esc s.data.toList).length ≤ 140737488355328) :
    Calls Tryz.prog 127 #[v, .string s] w fun e w' => ∃ v', e = .returned v' ∧ Owns w' B v' (l ++ esc s.data.toList) ∧ Below B w w' := by
  have HL : Hid (l.length + (esc s.data.toList).length ≤ 140737488355328) := hlen
  clear hlen
  go_enter Tryz.func127, Tryz.ntmps127
  go_wp2
  go_loopw [0, 5] (fun u i wr => ∃ k : Nat, k ≤ s.size ∧ i = .int .i64 k ∧ Owns wr B u (l ++ esc (s.data.toList.take k)) ∧ Below B w wr) (fun _ i _ => s.size - (intOf i).toNat)
  case atStart => exact ⟨0, Nat.zero_le _, rfl, by simpa [esc_nil] using hown, Below.refl _ _⟩
  case round =>
    obtain ⟨k, hk, rfl, hown', hb⟩ := hrel
    have hDr : Digs wr := hD.below hb h0
    have hBr : B ≤ wr.heap.size := Nat.le_trans hB hb.size
    by_cases hlt : k < s.size
    · have HT : Hid (esc (s.data.toList.take (k + 1)) = esc (s.data.toList.take k) ++ esc1 s[k]) := by
        show _ = _
        rw [take_snoc s k hlt, esc_snoc]
      have HLk : Hid ((l ++ esc (s.data.toList.take k)).length + (esc1 s[k]).length ≤ 140737488355328) := by
        have h1 := esc_take s.data.toList (k + 1)
        rw [HT.out, List.length_append] at h1
        have h2 := HL.out
        show _ ≤ _
        rw [List.length_append]; omega
      by_cases hm : mustB s[k] = true
      · have hl4 : (l ++ esc (s.data.toList.take k)).length + 4 ≤ 140737488355328 := by have := HLk.out; rw [esc1_must hm] at this; exact this
        go_wp2_with (first
          | (go_at_call 157; refine (mustEscape_any _ _).mono ?_; rintro e w' ⟨rfl, rfl⟩)
          | (go_at_call 128; refine (appendCode_any B _ _ _ _ hDr hBr hown' hl4).mono ?_; rintro e w' ⟨v', rfl, hown2, hb2⟩))
        go_roundw
        case rel => exact ⟨k + 1, by omega, by go_num, by rw [HT.out, esc1_must hm, ← List.append_assoc]; exact hown2, hb.trans hb2⟩
        case measure => simp [intOf]; omega
      · have hm' : mustB s[k] = false := by simpa using hm
        clear hm
        have hl1 : (l ++ esc (s.data.toList.take k)).length + 1 ≤ 140737488355328 := by have := HLk.out; rw [esc1_not hm'] at this; exact this
        go_wp2_with (first
          | (go_at_call 157; refine (mustEscape_any _ _).mono ?_; rintro e w' ⟨rfl, rfl⟩)
          | (at_builtin; refine wpList_append_bytes _ rfl (.tmp 21) (.tmp 25) 79 rfl Tryz.underlying79 info5 B _ _ rfl (hown'.alloc _) ⟨wr.heap.size, 0, none⟩ 1 1 [s[k]] rfl rfl (one_cell wr s[k] _) hl1 ?_ ?_; (simp; omega); (intro v' w2 hown2 hb2)))
        go_roundw
        case rel => exact ⟨k + 1, by omega, by go_num, by rw [HT.out, esc1_not hm', ← List.append_assoc]; exact hown2, (hb.alloc hBr _).trans hb2⟩
        case measure => simp [intOf]; omega
    · have hke : k = s.size := by omega
      have HE : Hid (esc (s.data.toList.take k) = esc s.data.toList) := by show _ = _; rw [hke, take_all]
      clear hke
      go_wp2
      go_ret
      exact ⟨_, rfl, by rw [← HE.out]; exact hown', hb⟩

theorem escape_any (s : ByteArray) (w : World) (hD : Digs w) (hs : s.size ≤ 140737488355328) (hlen : (esc s.data.toList).length ≤ 140737488355328) :
    Calls Tryz.prog 87 #[.string s] w fun e w' => e = .returned (.string (str (esc s.data.toList))) ∧ Below w.heap.size w w' := by
  have hlen' : ([] : List UInt8).length + (esc s.data.toList).length ≤ 140737488355328 := by simpa using hlen
  clear hlen
  go_enter Tryz.func87, Tryz.ntmps87
  go_wp2_with (go_at_call 127; refine (appendEscaped_any w.heap.size _ [] _ _ hD hD.pos (Nat.le_refl _) (Owns.nil _ _) hs hlen').mono ?_; rintro e w1 ⟨v', rfl, hown, hb⟩; have hc := hown.text (P := Tryz.prog) 79 9 5 Tryz.underlying79 Tryz.underlying5 Tryz.underlying9)
  go_ret
  exact ⟨rfl, hb⟩

/-- A text without its first byte. -/
theorem extract_tail (s : ByteArray) : (s.extract 1 s.size).data.toList = s.data.toList.tail := by
  rw [Lib.extract_data]
  simp only [List.drop_one]
  exact List.take_of_length_le (by simp)

theorem escB_pct {l : List UInt8} (c : UInt8) (r : List UInt8) (h : l = c :: r) (hc : c = 37) : escB l = code 37 ++ esc r := by
  subst h; subst hc; rfl
theorem escB_not {l : List UInt8} (h : ∀ r, l ≠ 37 :: r) : escB l = esc l := by
  cases l with
  | nil => rfl
  | cons c r =>
    show (if c = 37 then _ else _) = _
    rw [if_neg (fun e => h r (by rw [e]))]

theorem head_cons (s : ByteArray) (h : 0 < s.size) : s.data.toList = s[0] :: s.data.toList.tail := by
  obtain ⟨⟨l⟩⟩ := s
  cases l with
  | nil => simp [ByteArray.size] at h
  | cons c r => rfl

theorem empty_of (s : ByteArray) (h : s.size = 0) : s.toList = [] := by
  rw [Lib.toList_data]
  exact List.length_eq_zero_iff.1 (by simpa using h)
theorem toList_ne {s : ByteArray} (h : 0 < s.size) : ¬ s.toList = [] ∧ s.toList.isEmpty = false := by
  have hl : s.toList ≠ [] := by
    rw [Lib.toList_data]
    intro e
    have : s.size = 0 := by rw [← size_data, e]; rfl
    omega
  exact ⟨hl, by simpa using hl⟩

set_option maxHeartbeats 1000000 in
theorem escapeBody_any (s : ByteArray) (w : World) (hD : Digs w) (hs : s.size ≤ 140737488355328) (hlB : (escB s.data.toList).length ≤ 140737488355328) :
    Calls Tryz.prog 81 #[.string s] w fun e w' => e = .returned (.string (str (escB s.data.toList))) ∧ Below w.heap.size w w' := by
  have HB : Hid ((escB s.data.toList).length ≤ 140737488355328) := hlB
  clear hlB
  by_cases h0 : s.size = 0
  · have he := empty_of s h0
    have HE : Hid (escB s.data.toList = esc s.data.toList) := escB_not (by rw [← Lib.toList_data, he]; simp)
    have hlE : (esc s.data.toList).length ≤ 140737488355328 := by rw [← HE.out]; exact HB.out
    rw [HE.out]
    go_enter Tryz.func81, Tryz.ntmps81
    go_wp2_with (go_at_call 87; refine (escape_any _ _ hD hs hlE).mono ?_; rintro e w1 ⟨rfl, hb⟩)
    all_goals go_ret
    exact ⟨rfl, hb⟩
  · have hp : 0 < s.size := by omega
    obtain ⟨hne, hne'⟩ := toList_ne hp
    by_cases hc : s[0].toNat = 37
    · have HE : Hid (escB s.data.toList = code 37 ++ esc (s.extract 1 s.size).data.toList) := by
        show _ = _
        rw [extract_tail]
        exact escB_pct s[0] _ (head_cons s hp) (UInt8.toNat_inj.1 hc)
      rw [HE.out]
      have hc' : ((s[0].toNat : Int) != 37) = false := by rw [hc]; rfl
      have h1 : (1 : Int) ≤ (s.size : Int) := by omega
      have hD2 : Digs w.drew := hD
      obtain ⟨r, HR⟩ := hid_ex ([] ++ code 37 ++ esc (s.extract 1 s.size).data.toList)
      have hs2 : (s.extract 1 s.size).size ≤ 140737488355328 := by simp; omega
      have hl2 : ([] ++ code 37).length + (esc (s.extract 1 s.size).data.toList).length ≤ 140737488355328 := by
        have := HB.out
        rw [HE.out, List.length_append] at this
        exact this
      go_enter Tryz.func81, Tryz.ntmps81
      go_wp2_with fail
      go_region_with (first | (go_at_call 128; refine (appendCode_any w.heap.size _ [] 37 _ hD2 (Nat.le_refl _) (Owns.nil _ _) (by decide)).mono ?_; rintro e w1 ⟨v1, rfl, hown1, hb1⟩) | (go_at_call 127; refine (appendEscaped_any w.heap.size _ _ _ _ (hD2.below hb1 hD.pos) hD.pos hb1.size hown1 hs2 hl2).mono ?_; rintro e w2 ⟨v2, rfl, hown2, hb2⟩; have hc := (hown2.as HR.out).text (P := Tryz.prog) 79 9 5 Tryz.underlying79 Tryz.underlying5 Tryz.underlying9))
      go_wp2
      go_ret
      exact ⟨ret_str (by rw [← HR.out]; rfl), (Below.drew (Below.refl _ _)).trans (hb1.trans hb2)⟩
    · have HE : Hid (escB s.data.toList = esc s.data.toList) := escB_not (by rw [head_cons s hp]; intro r e; exact hc (by injection e with e1 _; rw [e1]; rfl))
      have hlE : (esc s.data.toList).length ≤ 140737488355328 := by rw [← HE.out]; exact HB.out
      rw [HE.out]
      have hc' : ((s[0].toNat : Int) != 37) = true := by simp; omega
      go_enter Tryz.func81, Tryz.ntmps81
      go_wp2_with (go_at_call 87; refine (escape_any _ _ hD hs hlE).mono ?_; rintro e w1 ⟨rfl, hb⟩)
      all_goals go_ret
      exact ⟨rfl, hb⟩

/-- The same, in the midst of a call that began at w. -/
theorem escape_in {w W : World} (hD : Digs w) (hb : Below w.heap.size w W) (s : ByteArray) (hs : s.size ≤ 140737488355328) (hlen : (esc s.data.toList).length ≤ 140737488355328) :
    Calls Tryz.prog 87 #[.string s] W fun e w' => e = .returned (.string (str (esc s.data.toList))) ∧ Below w.heap.size w w' :=
  (escape_any s W (hD.below hb hD.pos) hs hlen).mono fun _ _ ⟨h1, h2⟩ => ⟨h1, hb.trans (h2.mono hb.size)⟩
theorem escapeBody_in {w W : World} (hD : Digs w) (hb : Below w.heap.size w W) (s : ByteArray) (hs : s.size ≤ 140737488355328) (hlen : (escB s.data.toList).length ≤ 140737488355328) :
    Calls Tryz.prog 81 #[.string s] W fun e w' => e = .returned (.string (str (escB s.data.toList))) ∧ Below w.heap.size w w' :=
  (escapeBody_any s W (hD.below hb hD.pos) hs hlen).mono fun _ _ ⟨h1, h2⟩ => ⟨h1, hb.trans (h2.mono hb.size)⟩

theorem cat_toList (x y : ByteArray) : (x ++ y).toList = x.toList ++ y.toList := by
  rw [Lib.toList_data, Lib.toList_data, Lib.toList_data, ByteArray.data_append, Array.toList_append]
theorem cat_data (x y : ByteArray) : (x ++ y).data.toList = x.data.toList ++ y.data.toList := by
  rw [ByteArray.data_append, Array.toList_append]

theorem bd (s : ByteArray) (h : s.size ≤ 33554432) : s.size ≤ 140737488355328 ∧ (esc s.data.toList).length ≤ 140737488355328 ∧ (escB s.data.toList).length ≤ 140737488355328 := by
  have h1 := (esc_length s.data.toList).2
  have h2 := escB_length s.data.toList
  rw [size_data] at h1 h2
  omega
end Go.Proofs.YtplolaondmeccaaGreatDoor
