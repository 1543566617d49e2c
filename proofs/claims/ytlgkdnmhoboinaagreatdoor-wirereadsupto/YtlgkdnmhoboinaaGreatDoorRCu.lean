/-
  The document's cut; its numbers, ids and texts as they are read.
-/
import Derived.Test.YtlgkdnmhoboinaaGreatDoorRPure
import Derived.Test.YtlgkdnmhoboinaaGreatDoorRNm
import Derived.Test.YtlgkdnmhoboinaaGreatDoorRRef
import Derived.WalkKit
import Derived.OwnWalk
import Derived.RegionTactic
import Derived.Deep.RegionWith
import Derived.Deep.DrawnRows
namespace Go.Proofs.YtlgkdnmhoboinaaGreatDoor
open Go.RowKit
set_option linter.unusedVariables false
set_option maxRecDepth 20000

theorem cut_at (l : List UInt8) (k : Nat) (hk : k < l.length) (hno : ∀ j (hj : j < l.length), j < k → l[j] ≠ 32) (he : l[k] = 32) : before l = l.take k ∧ behind l = l.drop (k + 1) := by
  have hl : l = l.take k ++ 32 :: l.drop (k + 1) := by
    have := List.take_append_drop k l
    rw [List.drop_eq_getElem_cons hk, he] at this
    exact this.symm
  have hn : ¬ (32 : UInt8) ∈ l.take k := fun hm => by
    obtain ⟨j, hj, e⟩ := List.getElem_of_mem hm
    rw [List.length_take] at hj
    rw [List.getElem_take] at e
    exact hno j (by omega) (by omega) e
  have h1 := before_join (l.take k) (l.drop (k + 1)) hn
  have h2 := behind_join (l.take k) (l.drop (k + 1)) hn
  rw [← hl] at h1 h2
  exact ⟨h1, h2⟩

theorem data_at (s : ByteArray) (k : Nat) (h : k < s.size) : s.data.toList[k]'(by rw [size_data]; exact h) = s[k] := rfl

/-- What cut answers. -/
def CutPost (l : List UInt8) (w : World) (e : Ending) (w' : World) : Prop := (∃ b, e = .returned (.tuple #[.string (str (before l)), .string (str (behind l)), .bool b])) ∧ Below w.heap.size w w'

theorem refCut_any (s : ByteArray) (hs : s.size ≤ 140737488355328) (w : World) :
    Calls Tryz.prog 34 #[.string s] w (CutPost s.data.toList w) := by
  go_enter Tryz.func34, Tryz.ntmps34
  go_wp2
  go_loop [5] (fun i => ∃ k : Nat, k ≤ s.size ∧ i = .int .i64 k ∧ Hid (∀ j (hj : j < s.size), j < k → s[j] ≠ 32)) (fun i => s.size - (intOf i).toNat)
  case atStart => exact ⟨0, Nat.zero_le _, rfl, fun j _ h => by omega⟩
  case round =>
    obtain ⟨k, hk, rfl, HN⟩ := hrel
    by_cases hlt : k < s.size
    · by_cases he : ((s[k].toNat : Int) == 32) = true
      · have hb : s[k] = 32 := UInt8.toNat_inj.1 (by have := eq_of_beq he; show s[k].toNat = 32; omega)
        have HC : Hid (before s.data.toList = s.data.toList.take k ∧ behind s.data.toList = s.data.toList.drop (k + 1)) :=
          cut_at s.data.toList k (by rw [size_data]; exact hlt) (fun j hj h => HN.out j (by rw [← size_data]; exact hj) h) hb
        have H1 : Hid (s.extract 0 k = str (before s.data.toList)) := by
          show _ = _
          rw [HC.out.1]
          rw [← strBack (s.extract 0 k), Lib.extract_from_zero]
        have H2 : Hid (s.extract (k + 1) s.size = str (behind s.data.toList)) := by
          show _ = _
          rw [HC.out.2]
          rw [← strBack (s.extract (k + 1) s.size), Lib.extract_to_end]
        have hk1 : ((k : Int) + 1).toNat = k + 1 := by omega
        have hk2 : (k : Int) + 1 ≤ (s.size : Int) := by omega
        clear hb HN HC
        go_wp2_with fail
        go_region
        all_goals go_wp2
        all_goals go_ret3
        all_goals
          refine ⟨⟨true, ?_⟩, (Below.refl _ _).drew⟩
          rw [← H1.out, ← H2.out]
          rfl
      · have he' : ((s[k].toNat : Int) == 32) = false := by simpa using he
        have HE : Hid (s[k] ≠ 32) := fun h => by rw [h] at he'; exact absurd he' (by decide)
        clear he
        go_wp2
        go_round
        case rel =>
          refine ⟨k + 1, by omega, by go_num, fun j hj h => ?_⟩
          by_cases hjk : j = k
          · subst hjk; exact HE.out
          · exact HN.out j hj (by omega)
        case measure => simp [intOf]; omega
    · have hn : ¬ (32 : UInt8) ∈ s.data.toList := fun hm => by
        obtain ⟨j, hj, e⟩ := List.getElem_of_mem hm
        rw [size_data] at hj
        exact HN.out j hj (by omega) e
      have H1 : Hid (s = str (before s.data.toList)) := by
        show _ = _
        rw [before_all _ hn]
        rfl
      have H2 : Hid (behind s.data.toList = []) := behind_all _ hn
      clear hn HN
      go_wp2
      go_ret3
      refine ⟨⟨false, ?_⟩, Below.refl _ _⟩
      rw [← H1.out, H2.out]
      rfl

theorem number_get (s : ByteArray) (hs : s.size ≤ 140737488355328) (w : World) :
    Calls Tryz.prog 52 #[.string s] w fun e w' => (∃ b, e = .returned (.tuple #[.int .i64 ((numOf s.data.toList).getD 0), .bool b])) ∧ Below w.heap.size w w' := by
  refine (refNumber_any s w hs).mono ?_
  rintro e w' ⟨⟨n, rfl, hn⟩ | ⟨rfl, hn⟩, hb⟩
  · exact ⟨⟨true, by rw [numOf_some hn]; rfl⟩, hb⟩
  · exact ⟨⟨false, by rw [numOf_none hn]; rfl⟩, hb⟩
theorem id_get (c : UInt8) (s : ByteArray) (hs : s.size ≤ 140737488355328) (w : World) :
    Calls Tryz.prog 53 #[.int .u8 c.toNat, .string s] w fun e w' => (∃ b, e = .returned (.tuple #[.int .i64 ((idOf c s.data.toList).getD 0), .bool b])) ∧ Below w.heap.size w w' := by
  refine (refId_any c s w hs).mono ?_
  rintro e w' ⟨⟨n, rfl, hn⟩ | ⟨rfl, hn⟩, hb⟩
  · exact ⟨⟨true, by rw [idOf_some hn]; rfl⟩, hb⟩
  · exact ⟨⟨false, by rw [idOf_none hn]; rfl⟩, hb⟩
theorem unesc_get (s : ByteArray) (hs : s.size ≤ 1048576) (w : World) :
    Calls Tryz.prog 51 #[.string s] w fun e w' => (∃ n, e = .returned (.tuple #[.string (str ((unesc s.data.toList).getD [])), .int .i64 n])) ∧ Below w.heap.size w w' := by
  refine (refUnescape_any s w hs).mono ?_
  rintro e w' ⟨⟨t, rfl, ht⟩ | ⟨rfl, ht⟩, hb⟩
  · exact ⟨⟨0, by rw [unesc_some ht]; rfl⟩, hb⟩
  · exact ⟨⟨10, by rw [unesc_none ht]; rfl⟩, hb⟩

end Go.Proofs.YtlgkdnmhoboinaaGreatDoor
