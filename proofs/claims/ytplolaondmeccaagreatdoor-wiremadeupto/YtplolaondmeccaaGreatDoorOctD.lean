/-
  The walks of Id, the program's and the document's.
-/
import Derived.Test.YtplolaondmeccaaGreatDoorOctC
import Derived.WalkKit
namespace Go.Proofs.YtplolaondmeccaaGreatDoor
open Go.RowKit
set_option linter.unusedVariables false

/-- A text is an id's. -/
def IsId (c : UInt8) (l : List UInt8) (n : Int) : Prop := ∃ r, l = c :: r ∧ Num r n ∧ 1 ≤ n

theorem id_none (c : UInt8) (l : List UInt8) (h : ∀ r, l ≠ c :: r) : ∀ n, ¬ IsId c l n := fun n ⟨r, e, _⟩ => h r e
theorem head_cons0 (s : ByteArray) (h : 0 < s.size) : s.data.toList = s[0] :: (s.extract 1 s.size).data.toList := by
  rw [Lib.extract_data]
  obtain ⟨⟨l⟩⟩ := s
  cases l with
  | nil => simp [ByteArray.size] at h
  | cons c r =>
    show c :: r = c :: _
    congr 1
    exact (List.take_of_length_le (by simp [ByteArray.size])).symm
theorem id_tail {c : UInt8} {l r : List UInt8} (h : l = c :: r) {n : Int} (hi : IsId c l n) : Num r n ∧ 1 ≤ n := by
  obtain ⟨q, e, h1, h2⟩ := hi
  rw [h] at e
  injection e with _ e2
  subst e2
  exact ⟨h1, h2⟩

set_option maxHeartbeats 1000000 in
theorem id_any (c : UInt8) (s : ByteArray) (w : World) (hN : NumV w) (hs : s.size ≤ 140737488355328) :
    Calls Tryz.prog 135 #[.int .u8 c.toNat, .string s] w fun e w' =>
      ((∃ n, e = .returned (.tuple #[.int .i64 n, .bool true]) ∧ IsId c s.data.toList n) ∨ (e = .returned (.tuple #[.int .i64 0, .bool false]) ∧ ∀ n, ¬ IsId c s.data.toList n)) ∧ Below w.heap.size w w' := by
  by_cases h0 : s.size = 0
  · have he := empty_of0 s h0
    have HN : Hid (∀ n, ¬ IsId c s.data.toList n) := id_none c _ (by rw [← Lib.toList_data, he]; simp)
    go_enter Tryz.func135, Tryz.ntmps135
    go_wp2
    all_goals go_ret2
    all_goals exact ⟨.inr ⟨rfl, HN.out⟩, Below.refl _ _⟩
  · have hp : 0 < s.size := by omega
    obtain ⟨hne, hne'⟩ := toList_ne0 hp
    have h1 : (1 : Int) ≤ (s.size : Int) := by omega
    by_cases hc : s[0] = c
    · have HT : Hid (s.data.toList = c :: (s.extract 1 s.size).data.toList) := by
        have := head_cons0 s hp
        rw [hc] at this
        exact this
      have hc' : ((s[0].toNat : Int) != (c.toNat : Int)) = false := by rw [hc]; simp
      have hx : (s.extract 1 s.size).size ≤ 140737488355328 := by simp; omega
      clear hc
      go_enter Tryz.func135, Tryz.ntmps135
      go_wp2_with fail
      refine (number_any _ _ hN hx).mono ?_
      obtain ⟨q, hq⟩ := hid_ex (s.extract 1 s.size).data.toList
      rw [hq.out]
      rintro e w1 ⟨h, hb1⟩
      rcases h with ⟨n, rfl, hn⟩ | ⟨rfl, hno⟩
      · have hnb := hn.1
        by_cases hz : n = 0
        · have hz' : (n == 0) = true := by rw [hz]; rfl
          have HN : Hid (∀ m, ¬ IsId c s.data.toList m) := fun m hm => by
            obtain ⟨e1, e2⟩ := id_tail (HT.out.trans (by rw [hq.out])) hm
            have := num_val e1
            have := num_val hn
            omega
          clear hn hz
          go_wp2
          all_goals go_ret2
          all_goals exact ⟨.inr ⟨rfl, HN.out⟩, hb1⟩
        · have hz' : (n == 0) = false := by rw [beq_eq_false_iff_ne]; exact hz
          have HI : Hid (IsId c s.data.toList n) := ⟨_, HT.out.trans (by rw [hq.out]), hn, by omega⟩
          clear hn hz
          go_wp2
          all_goals go_ret2
          all_goals exact ⟨.inl ⟨n, rfl, HI.out⟩, hb1⟩
      · have HN : Hid (∀ m, ¬ IsId c s.data.toList m) := fun m hm => hno m (id_tail (HT.out.trans (by rw [hq.out])) hm).1
        clear hno
        go_wp2
        all_goals go_ret2
        all_goals exact ⟨.inr ⟨rfl, HN.out⟩, hb1⟩
    · have HN : Hid (∀ m, ¬ IsId c s.data.toList m) := id_none c _ (fun r e => by rw [head_cons0 s hp] at e; injection e with e1 _; exact hc e1)
      have hc' : ((s[0].toNat : Int) != (c.toNat : Int)) = true := by
        rw [bne_iff_ne]
        intro e
        exact hc (UInt8.toNat_inj.1 (by omega))
      clear hc
      go_enter Tryz.func135, Tryz.ntmps135
      go_wp2
      all_goals go_ret2
      all_goals exact ⟨.inr ⟨rfl, HN.out⟩, Below.refl _ _⟩

end Go.Proofs.YtplolaondmeccaaGreatDoor
