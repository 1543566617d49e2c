/-
  Formats: texts cut at each byte of a kind, as strings.Split cuts them; a text cut at its first colon.
-/
import Derived.Test.YtgoofifbifdgoaaGreatDoorFPre
import Derived.Lib.SplitLaws
import Derived.Lib.CountLaws
namespace Go.Proofs.YtgoofifbifdgoaaGreatDoor
open Go.RowKit
set_option linter.unusedVariables false
set_option maxRecDepth 20000

theorem splitG_at (c : UInt8) : ∀ (l cur : List UInt8), (Lib.indexByte l c = -1 → splitG c cur l = [cur ++ l]) ∧ ∀ i : Nat, Lib.indexByte l c = (i : Int) → i < l.length ∧ splitG c cur l = (cur ++ l.take i) :: splitG c [] (l.drop (i + 1))
  | [], cur => ⟨fun _ => by simp [splitG], fun i h => by simp [Lib.indexByte] at h⟩
  | d :: r, cur => by
    have hge := Lib.indexByte_ge r c
    by_cases hd : d = c
    · subst hd
      refine ⟨fun h => by simp [Lib.indexByte] at h, fun i h => ?_⟩
      have : i = 0 := by simp [Lib.indexByte] at h; omega
      subst this
      exact ⟨by simp, by simp [splitG]⟩
    · have e1 : Lib.indexByte (d :: r) c = if Lib.indexByte r c = -1 then -1 else Lib.indexByte r c + 1 := by
        rw [Lib.indexByte]
        simp [hd]
      obtain ⟨h1, h2⟩ := splitG_at c r (cur ++ [d])
      have e2 : splitG c cur (d :: r) = splitG c (cur ++ [d]) r := by simp [splitG, hd]
      rw [e1, e2]
      refine ⟨fun h => ?_, fun i h => ?_⟩
      · have h3 : Lib.indexByte r c = -1 := by
          by_cases h4 : Lib.indexByte r c = -1
          · exact h4
          · rw [if_neg h4] at h; omega
        rw [h1 h3]
        simp
      · have h4 : ¬ Lib.indexByte r c = -1 := fun h4 => by rw [if_pos h4] at h; omega
        rw [if_neg h4] at h
        obtain ⟨j, rfl⟩ : ∃ j, i = j + 1 := ⟨i - 1, by omega⟩
        obtain ⟨h5, h6⟩ := h2 j (by omega)
        exact ⟨by simpa using h5, by rw [h6]; simp⟩
theorem index_byte (l : List UInt8) (c : UInt8) : Lib.indexB (str l) (str [c]) = Lib.indexByte l c := by
  show Lib.index (str l).data.toList (str [c]).data.toList = _
  rw [str_data, str_data, Lib.index_one]
theorem split_text (c : UInt8) : ∀ (n : Nat) (l : List UInt8), l.length ≤ n → Lib.splitB (str [c]) 0 (Lib.countB (str l) (str [c])) (str l) = (splitG c [] l).map str := by
  intro n
  induction n with
  | zero =>
    intro l hl
    have : l = [] := List.eq_nil_of_length_eq_zero (by omega)
    subst this
    have hi := index_byte [] c
    have hm : Lib.indexB (str []) (str [c]) = -1 := hi
    rw [Lib.countB_miss _ _ hm, Lib.splitB_zero]
    rfl
  | succ n ih =>
    intro l hl
    have hi := index_byte l c
    have hge := Lib.indexByte_ge l c
    obtain ⟨g1, g2⟩ := splitG_at c l []
    by_cases h : Lib.indexByte l c = -1
    · rw [h] at hi
      rw [Lib.countB_miss _ _ hi, Lib.splitB_zero, g1 h]
      simp
    · obtain ⟨i, hii⟩ : ∃ i : Nat, Lib.indexByte l c = (i : Int) := ⟨(Lib.indexByte l c).toNat, by omega⟩
      rw [hii] at hi
      obtain ⟨h1, h2⟩ := g2 i hii
      have hs : (str [c]).size = 1 := rfl
      rw [Lib.countB_hit _ _ i (by rw [hs]; exact Nat.le_refl _) hi, Nat.add_comm, Lib.splitB_hit _ _ _ _ i hi, hs, str_dropF, ih _ (by rw [List.length_drop]; omega), h2, Nat.add_zero, str_takeF]
      simp
theorem splitG_short (c : UInt8) : ∀ (l cur : List UInt8) (p : List UInt8), p ∈ splitG c cur l → p.length ≤ cur.length + l.length
  | [], cur, p, h => by simp [splitG] at h; subst h; simp
  | d :: r, cur, p, h => by
    simp only [splitG] at h
    split at h
    · rcases List.mem_cons.1 h with rfl | h
      · simp
      · have := splitG_short c r [] p h
        simp at this ⊢
        omega
    · have := splitG_short c r (cur ++ [d]) p h
      simp at this ⊢
      omega
/-- strings.Split at a byte. -/
theorem split_any (l : List UInt8) (c : UInt8) (hl : l.length ≤ 2147483647) (w : World) (hm : ∃ m, w.cell? ⟨1, 0, none⟩ = some (.int .i64 m)) : Calls Tryz.prog 99 #[.string (str l), .string (str [c])] w fun e w' => e = .returned (.slice (some ⟨w.heap.size, 0, none⟩) (splitG c [] l).length (splitG c [] l).length) ∧ w' = w.alloc (.cells (((splitG c [] l).map str).map Value.string).toArray 9) := by
  obtain ⟨m, hm⟩ := hm
  have h := Tryz.strings_Split (str l) (str [c]) m w (by rw [str_size]; omega) hm (by show 1 ≤ 1; exact Nat.le_refl _)
  have hn := Lib.splitB_all (str [c]) (by show 1 ≤ 1; exact Nat.le_refl _) 0 _ (str l) rfl
  rw [split_text c l.length l (Nat.le_refl _)] at h hn
  rw [List.length_map] at hn
  rw [← hn] at h
  exact h
/-- strings.Cut at a byte. -/
theorem colon_index (l : List UInt8) : (Lib.indexByte l 58 = -1 → colonF l = none) ∧ ∀ i : Nat, Lib.indexByte l 58 = (i : Int) → colonF l = some i := by
  induction l with
  | nil => exact ⟨fun _ => rfl, fun i h => by simp [Lib.indexByte] at h⟩
  | cons d r ih =>
    have hge := Lib.indexByte_ge r 58
    by_cases hd : d = 58
    · subst hd
      refine ⟨fun h => by simp [Lib.indexByte] at h, fun i h => ?_⟩
      have : i = 0 := by simp [Lib.indexByte] at h; omega
      subst this
      rfl
    · have hn : ¬ d.toNat = 58 := fun e => hd (UInt8.toNat_inj.1 e)
      have e1 : Lib.indexByte (d :: r) 58 = if Lib.indexByte r 58 = -1 then -1 else Lib.indexByte r 58 + 1 := by
        rw [Lib.indexByte]
        simp [hd]
      have e2 : colonF (d :: r) = (colonF r).map (· + 1) := by
        unfold colonF
        rw [List.findIdx?_cons]
        simp [hn]
      rw [e1, e2]
      refine ⟨fun h => ?_, fun i h => ?_⟩
      · have h3 : Lib.indexByte r 58 = -1 := by
          by_cases h4 : Lib.indexByte r 58 = -1
          · exact h4
          · rw [if_neg h4] at h; omega
        rw [ih.1 h3]
        rfl
      · have h4 : ¬ Lib.indexByte r 58 = -1 := fun h4 => by rw [if_pos h4] at h; omega
        rw [if_neg h4] at h
        obtain ⟨j, rfl⟩ : ∃ j, i = j + 1 := ⟨i - 1, by omega⟩
        rw [ih.2 j (by omega)]
        rfl
def colonV (l : List UInt8) : List UInt8 × List UInt8 × Bool := match colonF l with
  | some k => (l.take k, l.drop (k + 1), true)
  | none => (l, [], false)
theorem cut_colon (l : List UInt8) : Lib.cut l [58] = colonV l := by
  unfold Lib.cut colonV
  rw [Lib.index_one]
  have hge := Lib.indexByte_ge l 58
  obtain ⟨h1, h2⟩ := colon_index l
  by_cases h : Lib.indexByte l 58 = -1
  · rw [h1 h, h]
    rfl
  · obtain ⟨i, hi⟩ : ∃ i : Nat, Lib.indexByte l 58 = (i : Int) := ⟨(Lib.indexByte l 58).toNat, by omega⟩
    rw [h2 i hi, hi, if_pos (by omega)]
    rfl
theorem cutColon_any (l : List UInt8) (hl : l.length ≤ 2147483647) (w : World) (hm : ∃ m, w.cell? ⟨1, 0, none⟩ = some (.int .i64 m)) : Calls Tryz.prog 133 #[.string (str l), .string (str [58])] w fun e w' => e = .returned (.tuple #[.string (str (colonV l).1), .string (str (colonV l).2.1), .bool (colonV l).2.2]) ∧ ∃ n, w' = w.drewN n := by
  obtain ⟨m, hm⟩ := hm
  have h := Tryz.strings_Cut (str l) (str [58]) m w (by rw [str_size]; omega) hm
  rw [str_data, str_data, cut_colon] at h
  exact h

end Go.Proofs.YtgoofifbifdgoaaGreatDoor
