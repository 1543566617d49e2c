/-
  The document's plans and counts.
  The document's part: one thing of an event, as it is written.
  The document's part: names, plans, the zoom, texts.
-/
import Derived.Test.YtlgkdnmhoboinaaGreatDoorRPure
import Derived.Test.YtlgkdnmhoboinaaGreatDoorRNm
import Derived.Test.YtlgkdnmhoboinaaGreatDoorRRef
import Derived.Test.YtlgkdnmhoboinaaGreatDoorWRowD
import Derived.WalkKit
import Derived.RegionTactic
import Derived.Deep.RegionWith
import Derived.Deep.DrawnRows
import Derived.Deep.QuietTactic
import Derived.BigQuiet
import Derived.Deep.RegionHeld3
namespace Go.Proofs.YtlgkdnmhoboinaaGreatDoor
open Go.RowKit
set_option linter.unusedVariables false

theorem trim_all : ∀ l : List UInt8, (∀ c ∈ l, c ∈ planSet) → (Lib.trimLeftS l planSet).isEmpty = true
  | [], _ => rfl
  | a :: l, h => by
    have ha : planSet.contains a = true := by simpa using h a (by simp)
    have e : Lib.trimLeftS (a :: l) planSet = Lib.trimLeftS l planSet := List.dropWhile_cons_of_pos (p := fun c => planSet.contains c) ha
    rw [e]
    exact trim_all l fun c hc => h c (List.mem_cons_of_mem _ hc)
theorem planOk_iff (l : List UInt8) : planOk l = true ↔ (1 ≤ l.length ∧ l.length ≤ 2048 ∧ ∀ c ∈ l, c ∈ planSet) := by
  unfold planOk
  simp only [Bool.and_eq_true, Bool.not_eq_true', decide_eq_true_eq]
  constructor
  · rintro ⟨h1, h2, h3⟩
    exact ⟨by cases l with | nil => cases h1 | cons _ _ => simp, h2, trim_nb l h3⟩
  · rintro ⟨h1, h2, h3⟩
    refine ⟨by cases l with | nil => simp at h1 | cons _ _ => rfl, h2, ?_⟩
    exact trim_all l h3

theorem plan_byte : ∀ n : Nat, n < 256 → (UInt8.ofNat n ∈ planSet ↔ (48 ≤ n ∧ n ≤ 57 ∨ 97 ≤ n ∧ n ≤ 102 ∨ n = 120 ∨ n = 44 ∨ n = 123 ∨ n = 125 ∨ n = 91 ∨ n = 93)) := by decide +kernel
theorem plan_byte' (c : UInt8) : c ∈ planSet ↔ (48 ≤ c.toNat ∧ c.toNat ≤ 57 ∨ 97 ≤ c.toNat ∧ c.toNat ≤ 102 ∨ c.toNat = 120 ∨ c.toNat = 44 ∨ c.toNat = 123 ∨ c.toNat = 125 ∨ c.toNat = 91 ∨ c.toNat = 93) := by
  have := plan_byte c.toNat (UInt8.toNat_lt c)
  rwa [UInt8.ofNat_toNat] at this

set_option maxHeartbeats 4000000 in
theorem planText_any (s : ByteArray) (hs : s.size ≤ 140737488355328) (w : World) :
    Calls Tryz.prog 81 #[.string s] w fun e w' => e = .returned (.bool (planOk s.data.toList)) ∧ w = w' := by
  by_cases h0 : s.size < 1
  · have HP : Hid (planOk s.data.toList = false) := by
      show _ = _
      rw [Bool.eq_false_iff]
      intro h
      have := (planOk_iff _).1 h
      rw [size_data] at this
      omega
    rw [HP.out]
    go_enter Tryz.func81, Tryz.ntmps81
    go_wp2
    all_goals go_ret
    all_goals exact ⟨rfl, rfl⟩
  · by_cases h1 : 2048 < s.size
    · have HP : Hid (planOk s.data.toList = false) := by
        show _ = _
        rw [Bool.eq_false_iff]
        intro h
        have := (planOk_iff _).1 h
        rw [size_data] at this
        omega
      rw [HP.out]
      go_enter Tryz.func81, Tryz.ntmps81
      go_wp2
      all_goals go_ret
      all_goals exact ⟨rfl, rfl⟩
    · go_enter Tryz.func81, Tryz.ntmps81
      go_wp2
      go_loop [3] (fun i => ∃ k : Nat, k ≤ s.size ∧ i = .int .i64 k ∧ ∀ j (hj : j < s.size), j < k → s[j] ∈ planSet) (fun i => s.size - (intOf i).toNat)
      case atStart => exact ⟨0, Nat.zero_le _, rfl, fun j _ h => by omega⟩
      case round =>
        obtain ⟨k, hk, rfl, hno⟩ := hrel
        have HN : Hid (∀ j (hj : j < s.size), j < k → s[j] ∈ planSet) := hno
        clear hno
        by_cases hlt : k < s.size
        · by_cases hb : s[k] ∈ planSet
          · have HB : Hid (s[k] ∈ planSet) := hb
            have HQ : Hid _ := (plan_byte' s[k]).1 hb
            clear hb
            go_wp2
            all_goals first
              | (go_round
                 case rel =>
                   refine ⟨k + 1, by omega, by go_num, fun j hj h => ?_⟩
                   by_cases hjk : j = k
                   · subst hjk; exact HB.out
                   · exact HN.out j hj (by omega)
                 case measure => simp [intOf]; omega)
              | (exfalso; have hq := HQ.out; simp only [Bool.not_eq_true', decide_eq_false_iff_not, beq_eq_false_iff_ne, ne_eq] at *; omega)
          · have HQ : Hid (¬ (48 ≤ s[k].toNat ∧ s[k].toNat ≤ 57 ∨ 97 ≤ s[k].toNat ∧ s[k].toNat ≤ 102 ∨ s[k].toNat = 120 ∨ s[k].toNat = 44 ∨ s[k].toNat = 123 ∨ s[k].toNat = 125 ∨ s[k].toNat = 91 ∨ s[k].toNat = 93)) := fun h => hb ((plan_byte' s[k]).2 h)
            have HP : Hid (planOk s.data.toList = false) := by
              show _ = _
              rw [Bool.eq_false_iff]
              intro h
              exact hb (((planOk_iff _).1 h).2.2 _ (byte_mem s k hlt))
            clear hb
            go_wp2
            all_goals first
              | (go_ret; exact ⟨ret_bool HP.out.symm, rfl⟩)
              | (go_ret2; exact ⟨ret_bool HP.out.symm, rfl⟩)
              | (exfalso; have hq := HQ.out; simp only [Bool.not_eq_false', decide_eq_true_eq, beq_iff_eq] at *; omega)
        · have HP : Hid (planOk s.data.toList = true) := by
            show _ = _
            rw [planOk_iff, size_data]
            refine ⟨by omega, by omega, fun c hc => ?_⟩
            obtain ⟨j, hj, rfl⟩ := List.getElem_of_mem hc
            have hj' : j < s.size := by rw [← size_data]; exact hj
            exact HN.out j hj' (by omega)
          go_wp2
          all_goals go_ret
          all_goals exact ⟨ret_bool HP.out.symm, rfl⟩

theorem count_any (n m : Int) (w : World) (h0 : -9223372036854775808 ≤ n) (h1 : n ≤ 9223372036854775807) :
    Calls Tryz.prog 77 #[.int .i64 n, .int .i64 m] w fun e w' => e = .returned (.string (str (if m < n then [] else putL n))) ∧ Below w.heap.size w w' := by
  by_cases h : m < n
  · rw [if_pos h]
    go_enter Tryz.func77, Tryz.ntmps77
    go_wp2
    all_goals go_ret
    all_goals exact ⟨rfl, Below.refl _ _⟩
  · rw [if_neg h]
    go_enter Tryz.func77, Tryz.ntmps77
    go_wp2_with (go_at_call 84; refine (refPutNumber_any n _ h0 h1).mono ?_; rintro e w2 ⟨rfl, hb2⟩)
    all_goals go_ret
    all_goals exact ⟨rfl, hb2⟩

end Go.Proofs.YtlgkdnmhoboinaaGreatDoor

namespace Go.Proofs.YtlgkdnmhoboinaaGreatDoor
open Go.RowKit
set_option linter.unusedVariables false
set_option maxRecDepth 20000

def PartPost (o : Option (List UInt8)) (w : World) (e : Ending) (w' : World) : Prop :=
  (match o with
    | some t => e = .returned (.tuple #[.string (str t), .bool true])
    | none => ∃ s, e = .returned (.tuple #[.string s, .bool false])) ∧ Below w.heap.size w w'
theorem putL_full {n : Int} (h : 0 ≤ n ∧ n ≤ 4611686018427387904) : putL n ≠ [] := by
  rw [putL_in h]
  exact dec_ne _
theorem count_in (n m : Int) (h : 0 ≤ n ∧ n ≤ m) (hm : m ≤ 4611686018427387904) (W : World) :
    Calls Tryz.prog 77 #[.int .i64 n, .int .i64 m] W fun e w' => e = .returned (.string (str (putL n))) ∧ Below W.heap.size W w' := by
  have := count_any n m W (by omega) (by omega)
  rwa [if_neg (by omega)] at this
theorem count_out (n m : Int) (h : ¬ (0 ≤ n ∧ n ≤ m)) (h0 : -9223372036854775808 ≤ n) (h1 : n ≤ 9223372036854775807) (W : World) :
    Calls Tryz.prog 77 #[.int .i64 n, .int .i64 m] W fun e w' => e = .returned (.string ⟨#[]⟩) ∧ Below W.heap.size W w' := by
  have := count_any n m W h0 h1
  have e : (if m < n then [] else putL n) = [] := by
    by_cases hm : m < n
    · rw [if_pos hm]
    · rw [if_neg hm]
      exact putL_out (by omega)
  rw [e] at this
  exact this
theorem id_in (c : UInt8) (n : Int) (h : 1 ≤ n ∧ n ≤ 4611686018427387904) (W : World) :
    Calls Tryz.prog 78 #[.int .u8 c.toNat, .int .i64 n] W fun e w' => e = .returned (.string (str (putI c n))) ∧ Below W.heap.size W w' := refPutId_any c n W (by omega) (by omega)
theorem id_out (c : UInt8) (n : Int) (h : ¬ (1 ≤ n ∧ n ≤ 4611686018427387904)) (h0 : -9223372036854775808 ≤ n) (h1 : n ≤ 9223372036854775807) (W : World) :
    Calls Tryz.prog 78 #[.int .u8 c.toNat, .int .i64 n] W fun e w' => e = .returned (.string ⟨#[]⟩) ∧ Below W.heap.size W w' := by
  have := refPutId_any c n W h0 h1
  rw [putI_out h] at this
  exact this

theorem part_t (ev : Ev) (hf : ev.Fits) (w : World) : Calls Tryz.prog 49 #[.agg ev.vals, .int .u8 116] w (PartPost (Ch.T .qt ev) w) := by
  have hr : -9223372036854775808 ≤ ev.tick ∧ ev.tick ≤ 9223372036854775807 := hf.num .tick
  by_cases h : 0 ≤ ev.tick ∧ ev.tick ≤ 4611686018427387904
  · have HT : Ch.T .qt ev = some (putL ev.tick) := if_pos h
    rw [HT]
    have HCn : Hid (∀ W, Calls Tryz.prog 77 #[.int .i64 ev.tick, .int .i64 4611686018427387904] W fun e w' => e = .returned (.string (str (putL ev.tick))) ∧ Below W.heap.size W w') := count_in _ _ h (by decide)
    obtain ⟨z1, z2⟩ := str_ne (putL_full ⟨h.1, by omega⟩)
    clear HT h hr hf
    unfold Ev.vals
    go_enter Tryz.func49, Tryz.ntmps49
    go_wp2_with (go_at_call 77; refine (HCn.out _).mono ?_; rintro e w1 ⟨rfl, hb1⟩; have HB : Hid (Below w.heap.size w w1) := below_step (below1 _ _) hb1; clear hb1)
    all_goals go_ret2
    all_goals exact ⟨rfl, HB.out⟩
  · have HT : Ch.T .qt ev = none := if_neg h
    rw [HT]
    have HCn : Hid (∀ W, Calls Tryz.prog 77 #[.int .i64 ev.tick, .int .i64 4611686018427387904] W fun e w' => e = .returned (.string ⟨#[]⟩) ∧ Below W.heap.size W w') := count_out _ _ h hr.1 hr.2
    clear HT h hr hf
    unfold Ev.vals
    go_enter Tryz.func49, Tryz.ntmps49
    go_wp2_with (go_at_call 77; refine (HCn.out _).mono ?_; rintro e w1 ⟨rfl, hb1⟩; have HB : Hid (Below w.heap.size w w1) := below_step (below1 _ _) hb1; clear hb1)
    all_goals go_ret2
    all_goals exact ⟨⟨_, rfl⟩, HB.out⟩

theorem part_n (ev : Ev) (hf : ev.Fits) (w : World) : Calls Tryz.prog 49 #[.agg ev.vals, .int .u8 110] w (PartPost (Ch.T .qn ev) w) := by
  have hr : -9223372036854775808 ≤ ev.number ∧ ev.number ≤ 9223372036854775807 := hf.num .number
  by_cases h : 0 ≤ ev.number ∧ ev.number ≤ 4611686018427387904
  · have HT : Ch.T .qn ev = some (putL ev.number) := if_pos h
    rw [HT]
    have HCn : Hid (∀ W, Calls Tryz.prog 77 #[.int .i64 ev.number, .int .i64 4611686018427387904] W fun e w' => e = .returned (.string (str (putL ev.number))) ∧ Below W.heap.size W w') := count_in _ _ h (by decide)
    obtain ⟨z1, z2⟩ := str_ne (putL_full ⟨h.1, by omega⟩)
    clear HT h hr hf
    unfold Ev.vals
    go_enter Tryz.func49, Tryz.ntmps49
    go_wp2_with (go_at_call 77; refine (HCn.out _).mono ?_; rintro e w1 ⟨rfl, hb1⟩; have HB : Hid (Below w.heap.size w w1) := below_step (below1 _ _) hb1; clear hb1)
    all_goals go_ret2
    all_goals exact ⟨rfl, HB.out⟩
  · have HT : Ch.T .qn ev = none := if_neg h
    rw [HT]
    have HCn : Hid (∀ W, Calls Tryz.prog 77 #[.int .i64 ev.number, .int .i64 4611686018427387904] W fun e w' => e = .returned (.string ⟨#[]⟩) ∧ Below W.heap.size W w') := count_out _ _ h hr.1 hr.2
    clear HT h hr hf
    unfold Ev.vals
    go_enter Tryz.func49, Tryz.ntmps49
    go_wp2_with (go_at_call 77; refine (HCn.out _).mono ?_; rintro e w1 ⟨rfl, hb1⟩; have HB : Hid (Below w.heap.size w w1) := below_step (below1 _ _) hb1; clear hb1)
    all_goals go_ret2
    all_goals exact ⟨⟨_, rfl⟩, HB.out⟩

theorem part_f (ev : Ev) (hf : ev.Fits) (w : World) : Calls Tryz.prog 49 #[.agg ev.vals, .int .u8 102] w (PartPost (Ch.T .qf ev) w) := by
  have hr : -9223372036854775808 ≤ ev.flag ∧ ev.flag ≤ 9223372036854775807 := hf.num .flag
  by_cases h : 0 ≤ ev.flag ∧ ev.flag ≤ 1
  · have HT : Ch.T .qf ev = some (putL ev.flag) := if_pos h
    rw [HT]
    have HCn : Hid (∀ W, Calls Tryz.prog 77 #[.int .i64 ev.flag, .int .i64 1] W fun e w' => e = .returned (.string (str (putL ev.flag))) ∧ Below W.heap.size W w') := count_in _ _ h (by decide)
    obtain ⟨z1, z2⟩ := str_ne (putL_full ⟨h.1, by omega⟩)
    clear HT h hr hf
    unfold Ev.vals
    go_enter Tryz.func49, Tryz.ntmps49
    go_wp2_with (go_at_call 77; refine (HCn.out _).mono ?_; rintro e w1 ⟨rfl, hb1⟩; have HB : Hid (Below w.heap.size w w1) := below_step (below1 _ _) hb1; clear hb1)
    all_goals go_ret2
    all_goals exact ⟨rfl, HB.out⟩
  · have HT : Ch.T .qf ev = none := if_neg h
    rw [HT]
    have HCn : Hid (∀ W, Calls Tryz.prog 77 #[.int .i64 ev.flag, .int .i64 1] W fun e w' => e = .returned (.string ⟨#[]⟩) ∧ Below W.heap.size W w') := count_out _ _ h hr.1 hr.2
    clear HT h hr hf
    unfold Ev.vals
    go_enter Tryz.func49, Tryz.ntmps49
    go_wp2_with (go_at_call 77; refine (HCn.out _).mono ?_; rintro e w1 ⟨rfl, hb1⟩; have HB : Hid (Below w.heap.size w w1) := below_step (below1 _ _) hb1; clear hb1)
    all_goals go_ret2
    all_goals exact ⟨⟨_, rfl⟩, HB.out⟩

theorem part_o (ev : Ev) (hf : ev.Fits) (w : World) : Calls Tryz.prog 49 #[.agg ev.vals, .int .u8 111] w (PartPost (Ch.T .qo ev) w) := by
  have hr : -9223372036854775808 ≤ ev.offset ∧ ev.offset ≤ 9223372036854775807 := hf.num .offset
  by_cases h : 0 ≤ ev.offset ∧ ev.offset ≤ 4611686018427387904
  · have HT : Ch.T .qo ev = some (putL ev.offset) := if_pos h
    rw [HT]
    have HCn : Hid (∀ W, Calls Tryz.prog 77 #[.int .i64 ev.offset, .int .i64 4611686018427387904] W fun e w' => e = .returned (.string (str (putL ev.offset))) ∧ Below W.heap.size W w') := count_in _ _ h (by decide)
    obtain ⟨z1, z2⟩ := str_ne (putL_full ⟨h.1, by omega⟩)
    clear HT h hr hf
    unfold Ev.vals
    go_enter Tryz.func49, Tryz.ntmps49
    go_wp2_with (go_at_call 77; refine (HCn.out _).mono ?_; rintro e w1 ⟨rfl, hb1⟩; have HB : Hid (Below w.heap.size w w1) := below_step (below1 _ _) hb1; clear hb1)
    all_goals go_ret2
    all_goals exact ⟨rfl, HB.out⟩
  · have HT : Ch.T .qo ev = none := if_neg h
    rw [HT]
    have HCn : Hid (∀ W, Calls Tryz.prog 77 #[.int .i64 ev.offset, .int .i64 4611686018427387904] W fun e w' => e = .returned (.string ⟨#[]⟩) ∧ Below W.heap.size W w') := count_out _ _ h hr.1 hr.2
    clear HT h hr hf
    unfold Ev.vals
    go_enter Tryz.func49, Tryz.ntmps49
    go_wp2_with (go_at_call 77; refine (HCn.out _).mono ?_; rintro e w1 ⟨rfl, hb1⟩; have HB : Hid (Below w.heap.size w w1) := below_step (below1 _ _) hb1; clear hb1)
    all_goals go_ret2
    all_goals exact ⟨⟨_, rfl⟩, HB.out⟩

theorem part_i (ev : Ev) (hf : ev.Fits) (w : World) : Calls Tryz.prog 49 #[.agg ev.vals, .int .u8 105] w (PartPost (Ch.T .qi ev) w) := by
  have hr : -9223372036854775808 ≤ ev.index ∧ ev.index ≤ 9223372036854775807 := hf.num .index
  by_cases h : 0 ≤ ev.index ∧ ev.index ≤ 9999
  · have HT : Ch.T .qi ev = some (putL ev.index) := if_pos h
    rw [HT]
    have HCn : Hid (∀ W, Calls Tryz.prog 77 #[.int .i64 ev.index, .int .i64 9999] W fun e w' => e = .returned (.string (str (putL ev.index))) ∧ Below W.heap.size W w') := count_in _ _ h (by decide)
    obtain ⟨z1, z2⟩ := str_ne (putL_full ⟨h.1, by omega⟩)
    clear HT h hr hf
    unfold Ev.vals
    go_enter Tryz.func49, Tryz.ntmps49
    go_wp2_with (go_at_call 77; refine (HCn.out _).mono ?_; rintro e w1 ⟨rfl, hb1⟩; have HB : Hid (Below w.heap.size w w1) := below_step (below1 _ _) hb1; clear hb1)
    all_goals go_ret2
    all_goals exact ⟨rfl, HB.out⟩
  · have HT : Ch.T .qi ev = none := if_neg h
    rw [HT]
    have HCn : Hid (∀ W, Calls Tryz.prog 77 #[.int .i64 ev.index, .int .i64 9999] W fun e w' => e = .returned (.string ⟨#[]⟩) ∧ Below W.heap.size W w') := count_out _ _ h hr.1 hr.2
    clear HT h hr hf
    unfold Ev.vals
    go_enter Tryz.func49, Tryz.ntmps49
    go_wp2_with (go_at_call 77; refine (HCn.out _).mono ?_; rintro e w1 ⟨rfl, hb1⟩; have HB : Hid (Below w.heap.size w w1) := below_step (below1 _ _) hb1; clear hb1)
    all_goals go_ret2
    all_goals exact ⟨⟨_, rfl⟩, HB.out⟩

theorem part_s (ev : Ev) (hf : ev.Fits) (w : World) : Calls Tryz.prog 49 #[.agg ev.vals, .int .u8 115] w (PartPost (Ch.T .qs ev) w) := by
  have hr : -9223372036854775808 ≤ ev.session ∧ ev.session ≤ 9223372036854775807 := hf.num .session
  by_cases h : 1 ≤ ev.session ∧ ev.session ≤ 4611686018427387904
  · have HT : Ch.T .qs ev = some (putI 36 ev.session) := if_pos h
    rw [HT]
    have HCn : Hid (∀ W, Calls Tryz.prog 78 #[.int .u8 36, .int .i64 ev.session] W fun e w' => e = .returned (.string (str (putI 36 ev.session))) ∧ Below W.heap.size W w') := id_in 36 _ h
    obtain ⟨z1, z2⟩ := str_ne (show putI 36 ev.session ≠ [] by rw [putI_in h]; exact fun h => by cases h)
    clear HT h hr hf
    unfold Ev.vals
    go_enter Tryz.func49, Tryz.ntmps49
    go_wp2_with (go_at_call 78; refine (HCn.out _).mono ?_; rintro e w1 ⟨rfl, hb1⟩; have HB : Hid (Below w.heap.size w w1) := below_step (below1 _ _) hb1; clear hb1)
    all_goals go_ret2
    all_goals exact ⟨rfl, HB.out⟩
  · have HT : Ch.T .qs ev = none := if_neg h
    rw [HT]
    have HCn : Hid (∀ W, Calls Tryz.prog 78 #[.int .u8 36, .int .i64 ev.session] W fun e w' => e = .returned (.string ⟨#[]⟩) ∧ Below W.heap.size W w') := id_out 36 _ h hr.1 hr.2
    clear HT h hr hf
    unfold Ev.vals
    go_enter Tryz.func49, Tryz.ntmps49
    go_wp2_with (go_at_call 78; refine (HCn.out _).mono ?_; rintro e w1 ⟨rfl, hb1⟩; have HB : Hid (Below w.heap.size w w1) := below_step (below1 _ _) hb1; clear hb1)
    all_goals go_ret2
    all_goals exact ⟨⟨_, rfl⟩, HB.out⟩

theorem part_w (ev : Ev) (hf : ev.Fits) (w : World) : Calls Tryz.prog 49 #[.agg ev.vals, .int .u8 119] w (PartPost (Ch.T .qw ev) w) := by
  have hr : -9223372036854775808 ≤ ev.window ∧ ev.window ≤ 9223372036854775807 := hf.num .window
  by_cases h : 1 ≤ ev.window ∧ ev.window ≤ 4611686018427387904
  · have HT : Ch.T .qw ev = some (putI 64 ev.window) := if_pos h
    rw [HT]
    have HCn : Hid (∀ W, Calls Tryz.prog 78 #[.int .u8 64, .int .i64 ev.window] W fun e w' => e = .returned (.string (str (putI 64 ev.window))) ∧ Below W.heap.size W w') := id_in 64 _ h
    obtain ⟨z1, z2⟩ := str_ne (show putI 64 ev.window ≠ [] by rw [putI_in h]; exact fun h => by cases h)
    clear HT h hr hf
    unfold Ev.vals
    go_enter Tryz.func49, Tryz.ntmps49
    go_wp2_with (go_at_call 78; refine (HCn.out _).mono ?_; rintro e w1 ⟨rfl, hb1⟩; have HB : Hid (Below w.heap.size w w1) := below_step (below1 _ _) hb1; clear hb1)
    all_goals go_ret2
    all_goals exact ⟨rfl, HB.out⟩
  · have HT : Ch.T .qw ev = none := if_neg h
    rw [HT]
    have HCn : Hid (∀ W, Calls Tryz.prog 78 #[.int .u8 64, .int .i64 ev.window] W fun e w' => e = .returned (.string ⟨#[]⟩) ∧ Below W.heap.size W w') := id_out 64 _ h hr.1 hr.2
    clear HT h hr hf
    unfold Ev.vals
    go_enter Tryz.func49, Tryz.ntmps49
    go_wp2_with (go_at_call 78; refine (HCn.out _).mono ?_; rintro e w1 ⟨rfl, hb1⟩; have HB : Hid (Below w.heap.size w w1) := below_step (below1 _ _) hb1; clear hb1)
    all_goals go_ret2
    all_goals exact ⟨⟨_, rfl⟩, HB.out⟩

theorem part_p (ev : Ev) (hf : ev.Fits) (w : World) : Calls Tryz.prog 49 #[.agg ev.vals, .int .u8 112] w (PartPost (Ch.T .qp ev) w) := by
  have hr : -9223372036854775808 ≤ ev.pane ∧ ev.pane ≤ 9223372036854775807 := hf.num .pane
  by_cases h : 1 ≤ ev.pane ∧ ev.pane ≤ 4611686018427387904
  · have HT : Ch.T .qp ev = some (putI 37 ev.pane) := if_pos h
    rw [HT]
    have HCn : Hid (∀ W, Calls Tryz.prog 78 #[.int .u8 37, .int .i64 ev.pane] W fun e w' => e = .returned (.string (str (putI 37 ev.pane))) ∧ Below W.heap.size W w') := id_in 37 _ h
    obtain ⟨z1, z2⟩ := str_ne (show putI 37 ev.pane ≠ [] by rw [putI_in h]; exact fun h => by cases h)
    clear HT h hr hf
    unfold Ev.vals
    go_enter Tryz.func49, Tryz.ntmps49
    go_wp2_with (go_at_call 78; refine (HCn.out _).mono ?_; rintro e w1 ⟨rfl, hb1⟩; have HB : Hid (Below w.heap.size w w1) := below_step (below1 _ _) hb1; clear hb1)
    all_goals go_ret2
    all_goals exact ⟨rfl, HB.out⟩
  · have HT : Ch.T .qp ev = none := if_neg h
    rw [HT]
    have HCn : Hid (∀ W, Calls Tryz.prog 78 #[.int .u8 37, .int .i64 ev.pane] W fun e w' => e = .returned (.string ⟨#[]⟩) ∧ Below W.heap.size W w') := id_out 37 _ h hr.1 hr.2
    clear HT h hr hf
    unfold Ev.vals
    go_enter Tryz.func49, Tryz.ntmps49
    go_wp2_with (go_at_call 78; refine (HCn.out _).mono ?_; rintro e w1 ⟨rfl, hb1⟩; have HB : Hid (Below w.heap.size w w1) := below_step (below1 _ _) hb1; clear hb1)
    all_goals go_ret2
    all_goals exact ⟨⟨_, rfl⟩, HB.out⟩

end Go.Proofs.YtlgkdnmhoboinaaGreatDoor

namespace Go.Proofs.YtlgkdnmhoboinaaGreatDoor
open Go.RowKit
set_option linter.unusedVariables false
set_option maxRecDepth 20000

theorem part_yes {t : List UInt8} {w w' : World} (b : Bool) (E : ByteArray) (hE : str t = E) (hb : b = true) (h : Below w.heap.size w w') : PartPost (some t) w (.returned (.tuple #[.string E, .bool b])) w' := ⟨by subst hE hb; rfl, h⟩
theorem part_no {w w' : World} (b : Bool) (E : ByteArray) (hb : b = false) (h : Below w.heap.size w w') : PartPost none w (.returned (.tuple #[.string E, .bool b])) w' := ⟨⟨E, by subst hb; rfl⟩, h⟩
theorem bdN {B : Nat} {a w : World} (h : Below B a w) (n : Nat) : Below B a (w.drewN n) := ⟨h.os, h.tape, h.output, h.size, h.block⟩

theorem part_qN (ev : Ev) (hf : ev.Fits) (w : World) : Calls Tryz.prog 49 #[.agg ev.vals, .int .u8 78] w (PartPost (Ch.T .qN ev) w) := by
  have HCn : Hid (∀ W, Calls Tryz.prog 79 #[.string ev.name] W fun e w' => e = .returned (.bool (nameB ev.name)) ∧ w' = W) := fun W => (refIsName_any _ W (Nat.le_trans hf.name (by decide))).mono fun e w' h => ⟨h.1, h.2.symm⟩
  have HT : Ch.T .qN ev = if nameB ev.name then some ev.name.data.toList else none := rfl
  rw [HT]
  cases h : nameB ev.name
  all_goals
    rw [h] at HCn
    clear HT h hf
    unfold Ev.vals
    go_enter Tryz.func49, Tryz.ntmps49
    go_wp2_with fail
    go_quiet ((go_at_call 79; exact Calls.quiet_of_same (HCn.out _)))
    go_wp2
    all_goals go_ret2
    all_goals first | exact ⟨rfl, bdN (below1 _ _) _⟩ | exact ⟨⟨_, rfl⟩, bdN (below1 _ _) _⟩

theorem part_qW (ev : Ev) (hf : ev.Fits) (w : World) : Calls Tryz.prog 49 #[.agg ev.vals, .int .u8 87] w (PartPost (Ch.T .qW ev) w) := by
  have HCn : Hid (∀ W, Calls Tryz.prog 80 #[.string ev.name] W fun e w' => e = .returned (.bool ((nameB ev.name && !has ev.name 32))) ∧ w' = W) := fun W => (refIsWord_any _ W (Nat.le_trans hf.name (by decide))).mono fun e w' h => ⟨h.1, h.2.symm⟩
  have HT : Ch.T .qW ev = if (nameB ev.name && !has ev.name 32) then some ev.name.data.toList else none := rfl
  rw [HT]
  cases h : (nameB ev.name && !has ev.name 32)
  all_goals
    rw [h] at HCn
    clear HT h hf
    unfold Ev.vals
    go_enter Tryz.func49, Tryz.ntmps49
    go_wp2_with fail
    go_quiet ((go_at_call 80; exact Calls.quiet_of_same (HCn.out _)))
    go_wp2
    all_goals go_ret2
    all_goals first | exact ⟨rfl, bdN (below1 _ _) _⟩ | exact ⟨⟨_, rfl⟩, bdN (below1 _ _) _⟩

theorem part_qP (ev : Ev) (hf : ev.Fits) (w : World) : Calls Tryz.prog 49 #[.agg ev.vals, .int .u8 80] w (PartPost (Ch.T .qP ev) w) := by
  have HCn : Hid (∀ W, Calls Tryz.prog 81 #[.string ev.layout] W fun e w' => e = .returned (.bool (planOk ev.layout.data.toList)) ∧ w' = W) := fun W => (planText_any _ (Nat.le_trans hf.layout (by decide)) W).mono fun e w' h => ⟨h.1, h.2.symm⟩
  have HT : Ch.T .qP ev = if planOk ev.layout.data.toList then some ev.layout.data.toList else none := rfl
  rw [HT]
  cases h : planOk ev.layout.data.toList
  all_goals
    rw [h] at HCn
    clear HT h hf
    unfold Ev.vals
    go_enter Tryz.func49, Tryz.ntmps49
    go_wp2_with fail
    go_quiet ((go_at_call 81; exact Calls.quiet_of_same (HCn.out _)))
    go_wp2
    all_goals go_ret2
    all_goals first | exact ⟨rfl, bdN (below1 _ _) _⟩ | exact ⟨⟨_, rfl⟩, bdN (below1 _ _) _⟩

theorem part_qV (ev : Ev) (hf : ev.Fits) (w : World) : Calls Tryz.prog 49 #[.agg ev.vals, .int .u8 86] w (PartPost (Ch.T .qV ev) w) := by
  have HCn : Hid (∀ W, Calls Tryz.prog 81 #[.string ev.visible] W fun e w' => e = .returned (.bool (planOk ev.visible.data.toList)) ∧ w' = W) := fun W => (planText_any _ (Nat.le_trans hf.visible (by decide)) W).mono fun e w' h => ⟨h.1, h.2.symm⟩
  have HT : Ch.T .qV ev = if planOk ev.visible.data.toList then some ev.visible.data.toList else none := rfl
  rw [HT]
  cases h : planOk ev.visible.data.toList
  all_goals
    rw [h] at HCn
    clear HT h hf
    unfold Ev.vals
    go_enter Tryz.func49, Tryz.ntmps49
    go_wp2_with fail
    go_quiet ((go_at_call 81; exact Calls.quiet_of_same (HCn.out _)))
    go_wp2
    all_goals go_ret2
    all_goals first | exact ⟨rfl, bdN (below1 _ _) _⟩ | exact ⟨⟨_, rfl⟩, bdN (below1 _ _) _⟩

theorem part_qz (ev : Ev) (hf : ev.Fits) (w : World) : Calls Tryz.prog 49 #[.agg ev.vals, .int .u8 122] w (PartPost (Ch.T .qz ev) w) := by
  have HT : Ch.T .qz ev = some (if ev.zoom then [90] else [45]) := rfl
  rw [HT]
  obtain ⟨k, a1, a2, a3, a4, a5, a6, a7, a8, a9, a10, a11, a12, z⟩ := ev
  cases z
  all_goals
    clear HT hf
    unfold Ev.vals
    go_enter Tryz.func49, Tryz.ntmps49
    go_wp2
    all_goals go_ret2
    all_goals exact ⟨rfl, below1 _ _⟩

set_option maxHeartbeats 2000000 in
theorem part_qm (ev : Ev) (hf : ev.Fits) (w : World) : Calls Tryz.prog 49 #[.agg ev.vals, .int .u8 109] w (PartPost (Ch.T .qm ev) w) := by
  have hs := hf.text
  unfold slim at hs
  have hes : (str (esc ev.text.data.toList)).size ≤ 8388608 := by have := (esc_length ev.text.data.toList).2; rw [size_data] at this; rw [str_size]; omega
  have HCn : Hid (∀ W, Calls Tryz.prog 47 #[.string ev.text] W fun e w' => e = .returned (.string (str (esc ev.text.data.toList))) ∧ Below W.heap.size W w') := fun W => refEscape_any _ W (by omega) (by rw [str_size] at hes; omega)
  have HV : Hid (EvAt (w.alloc (.cells ev.vals 28)) w.heap.size ev) := EvAt.new w ev
  obtain ⟨E, hE⟩ : ∃ E, str (esc ev.text.data.toList) = E := ⟨_, rfl⟩
  have HEE : Hid (str (esc ev.text.data.toList) = E) := hE
  rw [hE] at HCn hes
  clear hE
  by_cases h : 0 ≤ ev.text.size ∧ ev.text.size ≤ 1024
  · have HT : Ch.T .qm ev = some (esc ev.text.data.toList) := if_pos h
    rw [HT]
    clear HT hf
    unfold Ev.vals at HV ⊢
    go_enter Tryz.func49, Tryz.ntmps49
    go_wp2_with fail
    go_region_held3 (fun W' => W'.cell? ⟨w.heap.size, 10, none⟩ = some (.string ev.text)) (go_keep) ((go_at_call 47; refine (HCn.out _).mono ?_; rintro e w1 ⟨rfl, hb1⟩; have hq : w1.cell? ⟨w.heap.size, 10, none⟩ = some (.string ev.text) := (HV.out.drew.below hb1 HV.out.lt).cell 10; have HB : Hid (Below w.heap.size w w1) := (below1 _ _).drew.trans (hb1.mono (by simp)); clear hb1))
    all_goals go_wp2
    all_goals go_ret2
    all_goals exact part_yes _ _ HEE.out (by simp; omega) HB.out
  · have HT : Ch.T .qm ev = none := if_neg h
    rw [HT]
    clear HT hf
    unfold Ev.vals at HV ⊢
    go_enter Tryz.func49, Tryz.ntmps49
    go_wp2_with fail
    go_region_held3 (fun W' => W'.cell? ⟨w.heap.size, 10, none⟩ = some (.string ev.text)) (go_keep) ((go_at_call 47; refine (HCn.out _).mono ?_; rintro e w1 ⟨rfl, hb1⟩; have hq : w1.cell? ⟨w.heap.size, 10, none⟩ = some (.string ev.text) := (HV.out.drew.below hb1 HV.out.lt).cell 10; have HB : Hid (Below w.heap.size w w1) := (below1 _ _).drew.trans (hb1.mono (by simp)); clear hb1))
    all_goals go_wp2
    all_goals go_ret2
    all_goals exact part_no _ _ (by simp; omega) HB.out

set_option maxHeartbeats 2000000 in
theorem part_qx (ev : Ev) (hf : ev.Fits) (w : World) : Calls Tryz.prog 49 #[.agg ev.vals, .int .u8 120] w (PartPost (Ch.T .qx ev) w) := by
  have hs := hf.text
  unfold slim at hs
  have hes : (str (esc ev.text.data.toList)).size ≤ 8388608 := by have := (esc_length ev.text.data.toList).2; rw [size_data] at this; rw [str_size]; omega
  have HCn : Hid (∀ W, Calls Tryz.prog 47 #[.string ev.text] W fun e w' => e = .returned (.string (str (esc ev.text.data.toList))) ∧ Below W.heap.size W w') := fun W => refEscape_any _ W (by omega) (by rw [str_size] at hes; omega)
  have HV : Hid (EvAt (w.alloc (.cells ev.vals 28)) w.heap.size ev) := EvAt.new w ev
  obtain ⟨E, hE⟩ : ∃ E, str (esc ev.text.data.toList) = E := ⟨_, rfl⟩
  have HEE : Hid (str (esc ev.text.data.toList) = E) := hE
  rw [hE] at HCn hes
  clear hE
  by_cases h : 0 ≤ ev.text.size ∧ ev.text.size ≤ 1024
  · have HT : Ch.T .qx ev = some (esc ev.text.data.toList) := if_pos h
    rw [HT]
    clear HT hf
    unfold Ev.vals at HV ⊢
    go_enter Tryz.func49, Tryz.ntmps49
    go_wp2_with fail
    go_region_held3 (fun W' => W'.cell? ⟨w.heap.size, 10, none⟩ = some (.string ev.text)) (go_keep) ((go_at_call 47; refine (HCn.out _).mono ?_; rintro e w1 ⟨rfl, hb1⟩; have hq : w1.cell? ⟨w.heap.size, 10, none⟩ = some (.string ev.text) := (HV.out.drew.below hb1 HV.out.lt).cell 10; have HB : Hid (Below w.heap.size w w1) := (below1 _ _).drew.trans (hb1.mono (by simp)); clear hb1))
    all_goals go_wp2
    all_goals go_ret2
    all_goals exact part_yes _ _ HEE.out (by simp; omega) HB.out
  · have HT : Ch.T .qx ev = none := if_neg h
    rw [HT]
    clear HT hf
    unfold Ev.vals at HV ⊢
    go_enter Tryz.func49, Tryz.ntmps49
    go_wp2_with fail
    go_region_held3 (fun W' => W'.cell? ⟨w.heap.size, 10, none⟩ = some (.string ev.text)) (go_keep) ((go_at_call 47; refine (HCn.out _).mono ?_; rintro e w1 ⟨rfl, hb1⟩; have hq : w1.cell? ⟨w.heap.size, 10, none⟩ = some (.string ev.text) := (HV.out.drew.below hb1 HV.out.lt).cell 10; have HB : Hid (Below w.heap.size w w1) := (below1 _ _).drew.trans (hb1.mono (by simp)); clear hb1))
    all_goals go_wp2
    all_goals go_ret2
    all_goals exact part_no _ _ (by simp; omega) HB.out

end Go.Proofs.YtlgkdnmhoboinaaGreatDoor
