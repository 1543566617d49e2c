/-
  The tail: keep.
-/
import Derived.Test.YteeakldeimhjjabTKeepP
import Derived.WalkKit
import Derived.BigQuiet
import Derived.Deep.QuietTactic
import Derived.Deep.DeepCutAuto
namespace Go.Proofs.Yteeakldeimhjjab
open Go.RowKit Go.Lib
set_option linter.unusedVariables false
set_option maxRecDepth 100000

set_option maxHeartbeats 4000000 in
theorem keep_any {b : Nat} {v : Value} {lim e : Nat} {l : List UInt8} {s : ByteArray} {w : World} (h : LogAt w b v lim e l) (hs : s.size ≤ lim) :
    Calls Try.prog 25 #[.pointer (some ⟨b, 0, none⟩), .string s] w fun x w' => x = .returned (.tuple #[]) ∧ ∃ v', LogAt w' b v' lim e (lastN lim (l ++ s.data.toList)) ∧ But (foot b v) w w' ∧ (v'.ownBlock = v.ownBlock ∨ ∀ k, v'.ownBlock = some k → w.heap.size ≤ k) := by
  have h0 := h.limit
  have h2 := h.kept
  have hfr := h.free 2
  have hlow := h.low
  have hhigh := h.high
  have hlen := h.len
  have hlt : b < w.heap.size := h.lt b (by simp [foot])
  have HL : Hid (LogAt w b v lim e l) := h
  have HBY : Hid (Bytes w v l) := h.bytes
  obtain ⟨n, hn⟩ : ∃ n, l.length = n := ⟨_, rfl⟩
  have HN : Hid (l.length = n) := hn
  rw [hn] at hlen
  obtain ⟨X, hX⟩ : ∃ X : Nat, X = n + s.size - lim := ⟨_, rfl⟩
  have hXn : X ≤ n := by omega
  have HX : Hid (X = n + s.size - lim) := hX
  obtain ⟨K, hK⟩ : ∃ K : Nat, n - X = K := ⟨_, rfl⟩
  have HK : Hid (K = n - X) := hK.symm
  have HG : Hid (∀ v (m : Nat), Bytes w v (l.drop X) → Calls Try.prog 28 #[v, .int .i64 s.size] (w.drewN m) fun x w' => ∃ v', x = .returned v' ∧ Below w.heap.size w w' ∧ Hid (v'.ownBlock = v.ownBlock ∨ ∀ k, v'.ownBlock = some k → w.heap.size ≤ k) ∧
      ((v' = .slice none 0 0 ∧ K = 0 ∧ s.size = 0) ∨ ∃ g' o' cap' cur', v' = .slice (some ⟨g', o', none⟩) K cap' ∧ Hid (w'.heap[g']? = some (.cells cur' 5 (0, 0))) ∧ K + s.size ≤ cap' ∧ cap' ≤ 9223372036854775807 ∧ Hid (o' + cap' ≤ cur'.size) ∧ Hid (∀ j (hj : j < (l.drop X).length), cur'[o' + j]? = some (bv (l.drop X)[j])))) := by
    intro v m hv
    refine (grow_any (hv.drewN m) s.size (by rw [List.length_drop]; omega)).mono ?_
    rintro x w' ⟨v', rfl, hr, hbel, hown⟩
    refine ⟨v', rfl, ⟨hbel.os, hbel.tape, hbel.output, hbel.size, hbel.block⟩, hown, ?_⟩
    have hdl : (l.drop X).length = K := by rw [List.length_drop]; have := HK.out; have := HN.out; omega
    rcases hr with ⟨h1, h2, h3⟩ | ⟨g', o', cap', cur', h1, h2, h3, h4, h5, h6⟩
    · exact .inl ⟨h1, by rw [← hdl, h2]; rfl, h3⟩
    · rw [hdl] at h1 h3
      exact .inr ⟨g', o', cap', cur', h1, h2, h3, h4, h5, h6⟩
  clear hX hK hn h
  go_enter Try.func25, Try.ntmps25
  go_wp2
  go_cut [4] (fun s4 wx => ∃ m : Nat, wx = w.drewN m ∧ Hid (Bytes w s4 (l.drop X)) ∧ Hid (s4.ownBlock = v.ownBlock) ∧ ∃ a c, s4 = .slice a K c)
  case first =>
    rcases HBY.out with ⟨rfl, rfl⟩ | ⟨g, o, cap, cur, rfl, hg, hc1, hc2, hc3, hc4⟩
    · have e0 : n = 0 := HN.out.symm
      subst e0
      have eX : X = 0 := by omega
      have eK : K = 0 := by have := HK.out; omega
      subst eX
      subst eK
      have d1 : ¬ (0 : Int) < (s.size : Int) - (lim : Int) := by omega
      have d2 : (s.size : Int) - (lim : Int) ≤ 0 := by omega
      go_quiet (fail)
      go_wp2_with fail
      go_meet
      exact ⟨_, rfl, .inl ⟨rfl, rfl⟩, (rfl : _ = _), _, _, rfl⟩
    · rw [HN.out] at h2 hc1
      by_cases hc : n + s.size ≤ lim
      · have eX : X = 0 := by have := HX.out; omega
        have eK : K = n := by have := HK.out; omega
        subst eX
        subst eK
        have HD : Hid (Bytes w (.slice (some ⟨g, o, none⟩) K cap) (l.drop 0)) := by
          have := HBY.out
          rw [HN.out] at this
          exact this
        have d1 : ¬ (0 : Int) < (K : Int) + (s.size : Int) - (lim : Int) := by omega
        have d2 : (K : Int) + (s.size : Int) - (lim : Int) ≤ 0 := by omega
        clear hg hc4 hc3
        go_quiet (fail)
        go_wp2_with fail
        go_meet
        exact ⟨_, rfl, HD, (rfl : _ = _), _, _, rfl⟩
      · have hK : n - X = K := HK.out.symm
        have HD := HBY.out.drop (j := X) (by rw [HN.out]; exact hXn)
        rw [HN.out, hK] at HD
        have HP : Hid (cap = X → Bytes w (.slice (some ⟨g, o, none⟩) K 0) (l.drop X)) := fun hh => by
          have := HD
          rw [if_pos hh, show cap - X = 0 by omega] at this
          exact this
        have HM : Hid (¬ cap = X → Bytes w (.slice (some ⟨g, o + X, none⟩) K (cap - X)) (l.drop X)) := fun hh => by
          have := HD
          rw [if_neg hh] at this
          exact this
        have d1 : (n : Int) + (s.size : Int) - (lim : Int) = (X : Int) := by have := HX.out; omega
        have d2 : (0 : Int) < (X : Int) := by have := HX.out; omega
        have d3 : (X : Int) ≤ (n : Int) := by omega
        have d4 : (X : Int) ≤ (cap : Int) := by omega
        clear hg hc4 hc3 HD
        go_quiet (fail)
        go_wp2_with fail
        all_goals go_meet
        all_goals exact ⟨_, rfl, by first | exact HP.out ‹_› | exact HM.out ‹_›, (rfl : _ = _), _, _, rfl⟩
  case rest =>
    obtain ⟨m, rfl, hby4, hown4, a4, c4, rfl⟩ := hcut
    go_wp2_with fail
    refine (HG.out _ _ hby4.out).mono ?_
    rintro x w1 ⟨v', rfl, hbel, hown, hroom⟩
    have q2 : w1.cell? ⟨b, 2, none⟩ = some v := (hbel.cell (p := ⟨b, 2, none⟩) hlt).trans h2
    have qf : w1.frozen? ⟨b, 2, none⟩ = false := (hbel.frozen (p := ⟨b, 2, none⟩) hlt).trans hfr
    clear hby4
    rcases hroom with ⟨rfl, hk0, hs0⟩ | ⟨g', o', cap', cur', rfl, hg', hr, hm', hsz, hby⟩
    · subst hk0
      have hs0i : (s.size : Int) = 0 := by omega
      have HZ : Hid (s.size = 0) := hs0
      clear hs0
      have hcp : ∀ d l c W, (Builtin.copy_ #[55, 9] 3 #[.slice d l c, .string s]).run Try.prog W = .ok (goInt 0) W := fun d l c W => run_copy_empty_string W 55 9 3 5 d l c s Try.under58 Try.size5T HZ.out
      go_wp2
      go_end0
      have hC := keep_still (X := X) (v' := .slice none 0 0) HL.out hbel (by rw [HN.out, ← HZ.out]; exact HX.out) (.inl ⟨rfl, List.length_eq_zero_iff.1 (by rw [List.length_drop, HN.out]; exact HK.out.symm)⟩)
      rw [show ([] : List UInt8) = s.data.toList from (List.length_eq_zero_iff.1 (by rw [← Lib.size_eq]; exact HZ.out)).symm] at hC
      exact ⟨rfl, _, hC.1, hC.2, .inr (fun k hk => by cases hk)⟩
    · have d8 : (K : Int) ≤ (cap' : Int) := by omega
      have HR : Hid (K + s.size ≤ cap') := hr
      have HO : Hid (some g' = v.ownBlock ∨ w.heap.size ≤ g') := by
        rcases hown.out with hh | hh
        · exact .inl (hh.trans hown4.out)
        · exact .inr (hh g' rfl)
      have HO2 : Hid (∀ M C, (.slice (some ⟨g', o', none⟩) M C : Value).ownBlock = v.ownBlock ∨ ∀ k, (.slice (some ⟨g', o', none⟩) M C : Value).ownBlock = some k → w.heap.size ≤ k) := by
        intro M C
        rcases HO.out with hh | hh
        · exact .inl hh
        · exact .inr (fun k hk => by cases hk; exact hh)
      have hgb : Hid (g' ≠ b) := by
        intro hh
        have h1 := hg'.out
        subst hh
        have h3 : w1.heap[g']? = some (.cells (logV lim e v) 57 (0, 0)) := (hbel.block g' hlt).trans HL.out.cells
        have := h1.symm.trans h3
        simp at this
      clear hr hown hown4
      by_cases hz : s.size = 0
      · have HZ : Hid (s.size = 0) := hz
        have hzi : (s.size : Int) = 0 := by omega
        have HC := keep_still (X := X) (v' := .slice (some ⟨g', o', none⟩) K cap') HL.out hbel (by rw [HN.out, ← HZ.out]; exact HX.out) (.inr ⟨g', o', cap', cur', slice_ext (by rw [List.length_drop, HN.out]; exact HK.out) rfl, hg'.out, by rw [List.length_drop, HN.out]; have := HK.out; have := HR.out; omega, hm', hsz.out, hby.out⟩)
        rw [show ([] : List UInt8) = s.data.toList from (List.length_eq_zero_iff.1 (by rw [← Lib.size_eq]; exact HZ.out)).symm] at HC
        have HC2 : Hid (LogAt (w1.setCell ⟨b, 2, none⟩ (.slice (some ⟨g', o', none⟩) K cap')) b (.slice (some ⟨g', o', none⟩) K cap') lim e (lastN lim (l ++ s.data.toList)) ∧ But (foot b v) w (w1.setCell ⟨b, 2, none⟩ (.slice (some ⟨g', o', none⟩) K cap'))) := HC
        clear hz HC
        have hcp : ∀ d l c W, (Builtin.copy_ #[55, 9] 3 #[.slice d l c, .string s]).run Try.prog W = .ok (goInt 0) W := fun d l c W => run_copy_empty_string W 55 9 3 5 d l c s Try.under58 Try.size5T HZ.out
        go_wp2
        all_goals go_end0
        all_goals (have hC := HC2.out)
        all_goals first | exact ⟨rfl, _, hC.1, hC.2, HO2.out _ _⟩ | (have hh : cap' = K := by assumption
                                                                     rw [hh] at hC
                                                                     exact ⟨rfl, _, hC.1, hC.2, HO2.out _ _⟩)
      · obtain ⟨M, hM⟩ : ∃ M, K + s.size = M := ⟨_, rfl⟩
        have d5 : (K : Int) + (s.size : Int) = (M : Int) := by omega
        have d6 : (M : Int) ≤ (cap' : Int) := by have := HR.out; omega
        have d7 : (K : Int) ≤ (M : Int) := by omega
        have HM2 : Hid (M = K + s.size) := hM.symm
        have hz2 : ¬ cap' = K := by have := HR.out; omega
        have HZ : Hid (¬ s.size = 0) := hz
        clear hz hM
        have hcp := run_copy_row_string (P := Try.prog) (w1.setCell ⟨b, 2, none⟩ (.slice (some ⟨g', o', none⟩) M cap')) 55 9 3 5 g' (o' + K) (M - K) (cap' - K) s cur' 5 Try.under58 Try.size5T1 (by rw [Below.heap_setCell _ _ _ _ hgb.out]; exact hg'.out) (by have := HM2.out; omega) (by have := HM2.out; have := hsz.out; have := HR.out; omega)
        obtain ⟨W3, hW3⟩ : ∃ W3, W3 = (w1.setCell ⟨b, 2, none⟩ (.slice (some ⟨g', o', none⟩) M cap')).setRow g' (cur'.toList.take (o' + K) ++ Go.Lib.byteCells s.data.toList ++ cur'.toList.drop (o' + K + s.size)).toArray := ⟨_, rfl⟩
        rw [← hW3] at hcp
        have HW : Hid (W3 = (w1.setCell ⟨b, 2, none⟩ (.slice (some ⟨g', o', none⟩) M cap')).setRow g' (cur'.toList.take (o' + K) ++ Go.Lib.byteCells s.data.toList ++ cur'.toList.drop (o' + K + s.size)).toArray) := hW3
        clear hW3
        go_wp2
        go_end0
        have hC := keep_close (t := s.data.toList) (X := X) (K := K) (M := M) (o2 := o' + K) HL.out hbel (by rw [← Lib.size_eq]; exact hs) (by rw [HN.out, ← Lib.size_eq]; exact HX.out) (by rw [HN.out]; exact HK.out) (by rw [← Lib.size_eq]; exact HM2.out) hg'.out (by have := HM2.out; have := HR.out; omega) hm' hsz.out hby.out HO.out rfl
        rw [← Lib.size_eq, ← HW.out] at hC
        exact ⟨rfl, _, hC.1, hC.2, HO2.out _ _⟩

end Go.Proofs.Yteeakldeimhjjab
