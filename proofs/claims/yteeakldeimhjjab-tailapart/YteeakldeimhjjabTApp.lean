/-
  The tail: Append.
-/
import Derived.Test.YteeakldeimhjjabTKeep
import Derived.WalkKit
namespace Go.Proofs.Yteeakldeimhjjab
open Go.RowKit Go.Lib
set_option linter.unusedVariables false
set_option maxRecDepth 100000

theorem lastN_last (n : Nat) (a b : List UInt8) : lastN n (a ++ lastN n b) = lastN n (a ++ b) := by
  by_cases h : b.length ≤ n
  · rw [lastN_all h]
  · have h1 : (lastN n b).length = n := by rw [lastN_length]; omega
    unfold lastN at *
    rw [List.length_append, h1, Nat.add_sub_cancel, List.drop_left, List.length_append, List.drop_append, show a.drop (a.length + b.length - n) = [] from List.drop_eq_nil_of_le (by omega), List.nil_append]
    congr 1
    omega

theorem ext_drop (s : ByteArray) (X : Nat) : (s.extract X s.size).data.toList = s.data.toList.drop X := by
  rw [ByteArray.data_extract, Array.toList_extract, List.extract_eq_take_drop]
  exact List.take_of_length_le (by rw [List.length_drop, ← Lib.size_eq]; omega)
theorem ext_size (s : ByteArray) (X : Nat) : (s.extract X s.size).size = s.size - X := by rw [Lib.size_eq, ext_drop, List.length_drop, ← Lib.size_eq]

theorem LogAt.setEnd {w : World} {b : Nat} {v : Value} {lim e : Nat} {l : List UInt8} (h : LogAt w b v lim e l) {e2 : Nat} (he : e2 ≤ 9223372036854775807) : LogAt (w.setCell ⟨b, 1, none⟩ (.int .i64 (e2 : Int))) b v lim e2 l ∧ But (foot b v) w (w.setCell ⟨b, 1, none⟩ (.int .i64 (e2 : Int))) := by
  refine ⟨⟨?_, ?_, h.low, h.high, h.len, he⟩, But.setCell (But.refl _ _) (.inl (by simp [foot])) _⟩
  · rw [heap_setCell_same w b 1 _ _ _ h.cells]
    rfl
  · exact h.bytes.keep fun g hg => Below.heap_setCell _ _ _ _ (fun hh => h.apart (by rw [hg]; simp at hh; rw [hh]))

/-- What an Append that is let in leaves. -/
def Grew (w w' : World) (b : Nat) (v : Value) (lim e : Nat) (l : List UInt8) : Prop :=
  ∃ v', LogAt w' b v' lim e l ∧ But (foot b v) w w' ∧ (v'.ownBlock = v.ownBlock ∨ ∀ k, v'.ownBlock = some k → w.heap.size ≤ k)

set_option maxHeartbeats 2000000 in
theorem append_any {b : Nat} {v : Value} {lim e : Nat} {l : List UInt8} {s : ByteArray} {w : World} (h : LogAt w b v lim e l) (hs : s.size ≤ 9223372036854775807) :
    Calls Try.prog 17 #[.pointer (some ⟨b, 0, none⟩), .string s] w fun x w' =>
      if e + s.size > 4611686018427387904 then x = .returned (.int .i64 2) ∧ w' = w else x = .returned (.int .i64 0) ∧ Grew w w' b v lim (e + s.size) (lastN lim (l ++ s.data.toList)) := by
  have h0 := h.limit
  have h1 := h.ende
  have hf1 := h.free 1
  have hlow := h.low
  have hhigh := h.high
  have hmost := h.most
  by_cases hc : e + s.size > 4611686018427387904
  · have d1 : (4611686018427387904 : Int) - (e : Int) < (s.size : Int) := by omega
    simp only [if_pos hc]
    clear h hc
    go_enter Try.func17, Try.ntmps17
    go_wp2
    all_goals go_ret
    all_goals exact ⟨rfl, rfl⟩
  · simp only [if_neg hc]
    have d1 : ¬ ((4611686018427387904 : Int) - (e : Int) < (s.size : Int)) := by omega
    obtain ⟨e2, he2⟩ : ∃ e2 : Nat, e + s.size = e2 := ⟨_, rfl⟩
    have d2 : (e : Int) + (s.size : Int) = (e2 : Int) := by omega
    have HE2 : Hid (e + s.size = e2) := he2
    have H2 := h.setEnd (e2 := e2) (by omega)
    have HA : Hid (∀ t : ByteArray, t.size ≤ lim → lastN lim (l ++ t.data.toList) = lastN lim (l ++ s.data.toList) → Calls Try.prog 25 #[.pointer (some ⟨b, 0, none⟩), .string t] (w.setCell ⟨b, 1, none⟩ (.int .i64 (e2 : Int))) fun x w' => x = .returned (.tuple #[]) ∧ Grew w w' b v lim e2 (lastN lim (l ++ s.data.toList))) := by
      intro t ht1 ht2
      refine (keep_any H2.1 ht1).mono ?_
      rintro x w' ⟨rfl, v', hl, hb, ho⟩
      rw [ht2] at hl
      refine ⟨rfl, v', hl, H2.2.trans hb, ?_⟩
      rcases ho with ho | ho
      · exact .inl ho
      · exact .inr (fun k hk => by have := ho k hk; simpa [World.setCell] using this)
    rw [he2]
    clear h H2 hc he2
    by_cases hm : s.size ≤ lim
    · have d3 : ¬ ((0 : Int) < (s.size : Int) - (lim : Int)) := by omega
      have d4 : (s.size : Int) - (lim : Int) ≤ 0 := by omega
      go_enter Try.func17, Try.ntmps17
      go_wp2_with (go_at_call 25; refine (HA.out _ hm rfl).mono ?_; rintro x w1 ⟨rfl, hgr⟩; have HGR : Hid (Grew w w1 b v lim e2 (lastN lim (l ++ s.data.toList))) := hgr; clear hgr)
      all_goals go_ret
      all_goals exact ⟨rfl, HGR.out⟩
    · obtain ⟨X, hX⟩ : ∃ X : Nat, s.size - lim = X := ⟨_, rfl⟩
      have d3 : (s.size : Int) - (lim : Int) = (X : Int) := by omega
      have d4 : (0 : Int) < (X : Int) := by omega
      have d5 : (X : Int) ≤ (s.size : Int) := by omega
      have HX1 : Hid ((s.extract X s.size).size ≤ lim) := by show _ ≤ _; rw [ext_size]; omega
      have HX2 : Hid (lastN lim (l ++ (s.extract X s.size).data.toList) = lastN lim (l ++ s.data.toList)) := by
        show _ = _
        rw [ext_drop, ← lastN_last lim l s.data.toList]
        unfold lastN
        rw [← Lib.size_eq, hX]
      clear hX
      go_enter Try.func17, Try.ntmps17
      go_wp2_with (go_at_call 25; refine (HA.out _ HX1.out HX2.out).mono ?_; rintro x w1 ⟨rfl, hgr⟩; have HGR : Hid (Grew w w1 b v lim e2 (lastN lim (l ++ s.data.toList))) := hgr; clear hgr)
      all_goals go_ret
      all_goals exact ⟨rfl, HGR.out⟩

end Go.Proofs.Yteeakldeimhjjab
