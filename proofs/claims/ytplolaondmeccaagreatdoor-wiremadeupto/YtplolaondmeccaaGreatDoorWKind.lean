/-
  The kind of a line by its head.
-/
import Derived.Test.YtplolaondmeccaaGreatDoorWBase
import Derived.WalkKit
import Derived.LoopTactic
import Derived.Deep.MidRow
namespace Go.Proofs.YtplolaondmeccaaGreatDoor
open Go.RowKit
set_option linter.unusedVariables false

theorem hasRow_any (k : Int) (w : World) : Calls Tryz.prog 14 #[.int .i64 k] w fun e w' => e = .returned (.bool (decide (0 < k) && decide (k < 25))) ∧ w = w' := by
  by_cases h : 0 < k
  · rw [decide_eq_true h]
    go_enter Tryz.func14, Tryz.ntmps14
    go_wp2
    go_ret
    exact ⟨rfl, rfl⟩
  · rw [decide_eq_false h]
    go_enter Tryz.func14, Tryz.ntmps14
    go_wp2
    go_ret
    exact ⟨rfl, rfl⟩

theorem info9k : (Tryz.prog.info? 9).map (fun i => (i.zero, i.size, i.bytes)) = some (some (.string ⟨#[]⟩), 1, 16) := by kernel_rfl

/-- What a head tells of a line. -/
def Hits (H : Nat → ByteArray) (s : ByteArray) (j : Nat) : Bool := !(H j).toList.isEmpty && (H j).data.toList.isPrefixOf s.data.toList
theorem Hits.no {H : Nat → ByteArray} {s : ByteArray} {j : Nat} (h : (H j).toList.isEmpty = true ∨ (H j).data.toList.isPrefixOf s.data.toList = false) : Hits H s j = false := by
  unfold Hits
  rcases h with h | h <;> rw [h] <;> simp

/-- What the search finds. -/
def KindIs (H : Nat → ByteArray) (s : ByteArray) (n : Nat) : Prop :=
  (n = 4 ∧ [37].isPrefixOf s.data.toList = false) ∨ ([37].isPrefixOf s.data.toList = true ∧ ((n < 25 ∧ Hits H s n = true ∧ ∀ j, j < n → Hits H s j = false) ∨ (n = 25 ∧ ∀ j, j < 25 → Hits H s j = false)))

theorem run_heads (cs : List Value) (i : Nat) (v : Value) (h : cs[i]? = some v) (hi : i < 25) (w : World) :
    (Instr.index 55 (.agg cs.toArray) (.int .i64 i)).run Tryz.prog w = .ok v w := by
  have hu : Tryz.prog.underlying 55 = some (.array 25 9) := Tryz.underlying55
  have hs : Tryz.prog.underlying 9 = some .string := Tryz.underlying9
  obtain ⟨i9, hi9, hz0, hz1, hz2⟩ := info_parts info9k
  have h1 : (0 : Int) ≤ i ∧ (i : Int) < ((25 : Nat) : Int) := ⟨by omega, by omega⟩
  simp [Instr.index, run_underlying hu, run_underlying hs, asIntOf, part, isAgg, sizeOf, typeInfo, hi9, hz1, hi, h, go_sem]

theorem info_heads : (Tryz.prog.info? 55).map (·.size) = some 25 := by kernel_rfl

set_option maxRecDepth 20000 in
theorem kindOf_walk (H : Nat → ByteArray) (cs : List Value) (s : ByteArray) (w : World) (hlen : cs.length = 25) (hc : w.rangeAt 0 0 cs) (hH : ∀ k, k < 25 → cs[k]? = some (.string (H k))) :
    Calls Tryz.prog 31 #[.string s] w fun e w' => (∃ n : Nat, e = .returned (.int .i64 n) ∧ KindIs H s n) ∧ w = w' := by
  have HP : Hid (∀ p W, Calls Tryz.prog 38 #[.string s, .string p] W fun e w' => e = .returned (.bool (p.data.toList.isPrefixOf s.data.toList)) ∧ W = w') := fun p W => (Tryz.strings_HasPrefix s p W).mono fun _ _ ⟨h1, h2⟩ => ⟨h1, h2.symm⟩
  have hi : (Tryz.prog.info? 55).map (·.size) = some cs.length := by rw [hlen]; exact info_heads
  have HHi : Hid ((Tryz.prog.info? 55).map (·.size) = some cs.length) := hi
  have HH : Hid (∀ k, k < 25 → cs[k]? = some (.string (H k))) := hH
  have HC : Hid (w.rangeAt 0 0 cs) := hc
  clear hi hH hc
  cases h37 : [37].isPrefixOf s.data.toList
  · go_enter Tryz.func31, Tryz.ntmps31
    go_wp2_with (go_at_call 38; refine (HP.out _ _).mono ?_; rintro e w1 ⟨rfl, rfl⟩)
    go_ret
    exact ⟨⟨4, rfl, .inl ⟨rfl, h37⟩⟩, rfl⟩
  · go_enter Tryz.func31, Tryz.ntmps31
    go_wp2_with (first
      | (go_at_call 38; refine (HP.out _ _).mono ?_; rintro e w1 ⟨rfl, rfl⟩)
      | (refine wpList_load_mid rfl 55 (.global 0) rfl 0 0 rfl cs _ HC.out Tryz.underlying55 rfl HHi.out ?_))
    go_loop [9] (fun v => ∃ i : Nat, i ≤ 25 ∧ v = .int .i64 i ∧ ∀ j, j < i → Hits H s j = false) (fun v => 25 - (intOf v).toNat)
    case atStart => exact ⟨0, Nat.zero_le _, rfl, fun j h => absurd h (Nat.not_lt_zero _)⟩
    case round =>
      obtain ⟨i, hi, rfl, hno⟩ := hrel
      have HN : Hid (∀ j, j < i → Hits H s j = false) := hno
      clear hno
      by_cases hlt : i < 25
      · have hx := run_heads cs i _ (HH.out i hlt) hlt w
        have HStep : Hid (Hits H s i = false → ∀ j, j < i + 1 → Hits H s j = false) := fun h j hj => by
          by_cases hji : j = i
          · rw [hji]; exact h
          · exact HN.out j (by omega)
        by_cases he : (H i).toList = []
        · have HF : Hid (Hits H s i = false) := Hits.no (.inl (by rw [he]; rfl))
          go_wp2
          go_round
          case rel => exact ⟨i + 1, by omega, by go_num, HStep.out HF.out⟩
          case measure => simp [intOf]; omega
        · have he' : (H i).toList.isEmpty = false := by cases h : (H i).toList with
            | nil => exact absurd h he
            | cons a l => rfl
          cases hq : (H i).data.toList.isPrefixOf s.data.toList
          · have HF : Hid (Hits H s i = false) := Hits.no (.inr hq)
            have HPi : Hid (∀ W, Calls Tryz.prog 38 #[.string s, .string (H i)] W fun e w' => e = .returned (.bool false) ∧ W = w') := fun W => hq ▸ HP.out (H i) W
            clear hq HP
            go_wp2_with (go_at_call 38; refine (HPi.out _).mono ?_; rintro e w1 ⟨rfl, rfl⟩)
            go_round
            case rel => exact ⟨i + 1, by omega, by go_num, HStep.out HF.out⟩
            case measure => simp [intOf]; omega
          · have HT : Hid (Hits H s i = true) := by show Hits H s i = true; unfold Hits; rw [he', hq]; rfl
            have HPi : Hid (∀ W, Calls Tryz.prog 38 #[.string s, .string (H i)] W fun e w' => e = .returned (.bool true) ∧ W = w') := fun W => hq ▸ HP.out (H i) W
            clear hq HP
            go_wp2_with (go_at_call 38; refine (HPi.out _).mono ?_; rintro e w1 ⟨rfl, rfl⟩)
            go_ret
            exact ⟨⟨i, rfl, .inr ⟨h37, .inl ⟨hlt, HT.out, HN.out⟩⟩⟩, rfl⟩
      · go_wp2
        go_ret
        exact ⟨⟨25, rfl, .inr ⟨h37, .inr ⟨rfl, fun j hj => HN.out j (by omega)⟩⟩⟩, rfl⟩

theorem kindIs_kindS {s : ByteArray} {n : Nat} (h : KindIs (fun k => str (headOf k)) s n) : n = kindS s.data.toList := by
  have hh : ∀ j, Hits (fun k => str (headOf k)) s j = (!(headOf j).isEmpty && (headOf j).isPrefixOf s.data.toList) := fun j => by unfold Hits; rw [str_toList, str_data]
  unfold kindS
  rcases h with ⟨rfl, h⟩ | ⟨h, h2⟩
  · rw [if_neg]
    intro hp
    rw [List.isPrefixOf_iff_prefix.2 hp] at h
    cases h
  · rw [if_pos (List.isPrefixOf_iff_prefix.1 h)]
    rcases h2 with ⟨h3, h4, h5⟩ | ⟨rfl, h5⟩
    · have hf : (List.range 25).find? (fun k => !(headOf k).isEmpty && (headOf k).isPrefixOf s.data.toList) = some n := by
        rw [List.find?_range_eq_some]
        exact ⟨by rw [← hh]; exact h4, by simpa using h3, fun j hj => by have := h5 j hj; rw [hh] at this; rw [this]; rfl⟩
      rw [hf]
      rfl
    · have hf : (List.range 25).find? (fun k => !(headOf k).isEmpty && (headOf k).isPrefixOf s.data.toList) = none := by
        rw [List.find?_eq_none]
        intro j hj
        have := h5 j (List.mem_range.1 hj)
        rw [hh] at this
        rw [this]
        decide
      rw [hf]
      rfl

theorem kindOf_any (s : ByteArray) (w : World) (hE : Env w) : Calls Tryz.prog 31 #[.string s] w fun e w' => e = .returned (.int .i64 (kindS s.data.toList)) ∧ w = w' := by
  refine (kindOf_walk (fun k => str (headOf k)) ((List.range 25).map fun k => .string (str (headOf k))) s w (by simp) ?_ ?_).mono ?_
  · intro j v hv
    rw [List.getElem?_map] at hv
    by_cases hj : j < 25
    · rw [List.getElem?_range hj] at hv
      cases hv
      rw [Nat.zero_add]
      exact hE.heads j hj
    · rw [List.getElem?_eq_none (by simp; omega)] at hv
      cases hv
  · intro j hj
    rw [List.getElem?_map, List.getElem?_range hj]
    rfl
  · rintro e w' ⟨⟨n, rfl, h⟩, rfl⟩
    exact ⟨by rw [kindIs_kindS h], rfl⟩

end Go.Proofs.YtplolaondmeccaaGreatDoor
