/-
  A row cuts a text at its blanks.
-/
import Derived.Test.YtplolaondmeccaaGreatDoorWRowB
import Derived.WalkKit
import Derived.Lib.IndexBytes
namespace Go.Proofs.YtplolaondmeccaaGreatDoor
open Go.RowKit
set_option linter.unusedVariables false

theorem idx_cases : ∀ s : List UInt8, (Lib.indexByte s 32 = -1 ∧ ¬ (32 : UInt8) ∈ s) ∨ ∃ i : Nat, Lib.indexByte s 32 = i ∧ (32 : UInt8) ∈ s ∧ s.take i = s.takeWhile (· != 32) ∧ s.drop (i + 1) = (s.dropWhile (· != 32)).drop 1
  | [] => .inl ⟨rfl, by simp⟩
  | c :: s => by
    by_cases hc : c = 32
    · subst hc
      exact .inr ⟨0, by simp [Lib.indexByte], by simp, by simp, by simp⟩
    · rcases idx_cases s with ⟨h1, h2⟩ | ⟨i, h1, h2, h3, h4⟩
      · refine .inl ⟨?_, ?_⟩
        · unfold Lib.indexByte
          rw [if_neg (by simpa using hc), if_pos (by simpa using h1)]
        · intro h
          rcases List.mem_cons.1 h with h | h
          · exact hc h.symm
          · exact h2 h
      · refine .inr ⟨i + 1, ?_, List.mem_cons_of_mem _ h2, ?_, ?_⟩
        · unfold Lib.indexByte
          have hb : ¬ (Lib.indexByte s 32 == -1) = true := fun e => by have := eq_of_beq e; omega
          rw [if_neg (by simpa using hc), if_neg hb, h1]
          rfl
        · rw [List.take_succ_cons, List.takeWhile_cons_of_pos (by simpa using hc), h3]
        · rw [List.drop_succ_cons, List.dropWhile_cons_of_pos (by simpa using hc), h4]

theorem splitK_cutK : ∀ (k : Nat) (s : List UInt8), Lib.splitK [32] 0 k s = cutK k s
  | 0, s => rfl
  | k + 1, s => by
    unfold Lib.splitK cutK
    rw [Lib.index_one]
    rcases idx_cases s with ⟨h1, h2⟩ | ⟨i, h1, h2, h3, h4⟩
    · rw [if_pos (by simpa using h1), if_neg h2]
    · have hb : ¬ (Lib.indexByte s 32 == -1) = true := fun e => by have := eq_of_beq e; omega
      rw [if_neg hb, if_pos h2, h1, splitK_cutK k]
      simp only [Int.toNat_natCast, Nat.add_zero]
      rw [h3]
      show _ :: cutK k (s.drop (i + 1)) = _
      rw [h4]

theorem cutK_big : ∀ (k k' : Nat) (s : List UInt8), s.length ≤ k → s.length ≤ k' → cutK k s = cutK k' s
  | 0, k', s, h, h' => by
    have : s = [] := List.length_eq_zero_iff.1 (by omega)
    subst this
    cases k' <;> simp [cutK]
  | k + 1, 0, s, h, h' => by
    have : s = [] := List.length_eq_zero_iff.1 (by omega)
    subst this
    simp [cutK]
  | k + 1, k' + 1, s, h, h' => by
    unfold cutK
    by_cases hm : (32 : UInt8) ∈ s
    · rw [if_pos hm, if_pos hm]
      have hl : ((s.dropWhile (· != 32)).drop 1).length ≤ s.length - 1 := by
        have : (s.dropWhile (· != 32)).length ≤ s.length := (List.dropWhile_sublist _).length_le
        rw [List.length_drop]
        omega
      have hp : 0 < s.length := List.length_pos_of_mem hm
      rw [cutK_big k k' _ (by omega) (by omega)]
    · rw [if_neg hm, if_neg hm]

theorem cutK_min (n : Nat) (hn : 1 ≤ n) (s : List UInt8) : cutK (min n (s.length + 1) - 1) s = cutK (n - 1) s := by
  by_cases h : n ≤ s.length + 1
  · rw [Nat.min_eq_left h]
  · rw [Nat.min_eq_right (by omega)]
    exact cutK_big _ _ _ (by omega) (by omega)

/-- Pieces of a text that was cut. -/
def Pieces (n : Nat) (s : ByteArray) (l : List ByteArray) : Prop := l.map (·.data.toList) = cutK (n - 1) s.data.toList

theorem cut_any (k : Nat) (h1 : 1 ≤ k) (h2 : k ≤ 24) (s : ByteArray) (hs : s.size < 4294967281) (b : Nat) (w : World) (hE : Env w) :
    Calls Tryz.prog 29 #[rowV k b, .string s] w fun e w' =>
      ∃ l N, e = .returned (.slice (some ⟨w.heap.size + 1, 0, none⟩) l.length N) ∧ l.length ≤ N ∧ TextsAt w' (w.heap.size + 1) l N ∧ Pieces (fieldsOf k).length s l ∧ Below w.heap.size w w' := by
  obtain ⟨n1, n2⟩ := fields_len k h1 h2
  obtain ⟨fs, hfs⟩ : ∃ fs, fieldsOf k = fs := ⟨_, rfl⟩
  obtain ⟨hd, hhd⟩ : ∃ hd, headOf k = hd := ⟨_, rfl⟩
  unfold rowV
  rw [hfs] at n1 n2 ⊢
  rw [hhd]
  obtain ⟨ln, hln⟩ : ∃ ln, fs.length = ln := ⟨_, rfl⟩
  rw [hln] at n1 n2 ⊢
  obtain ⟨m, hm⟩ := hE.most
  have HS : Hid (∀ o, Calls Tryz.prog 61 #[.string s, .string ⟨#[32]⟩, .int .i64 ln] (w.alloc o) fun e w' =>
      ∃ l N, e = .returned (.slice (some ⟨w.heap.size + 1, 0, none⟩) l.length N) ∧ l.length ≤ N ∧ TextsAt w' (w.heap.size + 1) l N ∧ Pieces ln s l ∧ Below w.heap.size w w') := fun o => by
    have h := Tryz.strings_SplitN s ⟨#[32]⟩ ln m (w.alloc o) hs (past_cell hm o) (by decide) n1 (by omega)
    rw [size1] at h
    refine h.mono fun e w' ⟨a1, a2⟩ => ⟨_, _, a1, ?_, ?_, ?_, ?_⟩
    · have := Lib.splitB_length_le ⟨#[32]⟩ 0 (min ln (s.size + 1) - 1) s
      omega
    · rw [a2]
      have := heap_alloc_new (w.alloc o) (.cells (Lib.cellsOf (Lib.splitB ⟨#[32]⟩ 0 (min ln (s.size + 1) - 1) s) (min ln (s.size + 1))) 9)
      rw [size1] at this
      exact this
    · show List.map _ _ = _
      rw [Lib.splitB_data]
      have e : (⟨#[32]⟩ : ByteArray).data.toList = [32] := rfl
      rw [e, splitK_cutK, ← size_data, cutK_min _ n1]
    · rw [a2]
      exact below_new (below1 w o) (Nat.le_refl _) _
  clear hm hE hln
  go_enter Tryz.func29, Tryz.ntmps29
  go_wp2_with (go_at_call 61; refine (HS.out _).mono ?_; rintro e w1 ⟨l, N, rfl, x1, x2, x3, x4⟩; have HX : Hid (l.length ≤ N ∧ TextsAt w1 (w.heap.size + 1) l N ∧ Pieces ln s l ∧ Below w.heap.size w w1) := ⟨x1, x2, x3, x4⟩; clear x1 x2 x3 x4)
  go_ret
  exact ⟨_, _, rfl, HX.out⟩

end Go.Proofs.YtplolaondmeccaaGreatDoor
