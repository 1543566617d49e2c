/-
  The walk of TailPieces.
-/
import Derived.Test.YteeakldeimhjjaaTLaid
import Derived.Test.YteeakldeimhjjaaTWorks
import Derived.Test.YteeakldeimhjjaaTMade
import Derived.WalkKit
import Derived.BigQuiet
import Derived.Deep.QuietTactic
namespace Go.Proofs.Yteeakldeimhjjaa
open Go.RowKit Go.Lib
set_option linter.unusedVariables false
set_option maxRecDepth 100000

theorem loadE_zero (lim : Int) : (loadE lim 0 0 = 0 ∧ 1 ≤ lim ∧ lim ≤ 65536) ∨ (loadE lim 0 0 = 1 ∧ (lim < 1 ∨ lim > 65536)) := by
  unfold loadE
  by_cases c1 : lim < 1 ∨ lim > 65536 ∨ (0 : Int) < 0 ∨ ((0 : Nat) : Int) > lim
  · rw [if_pos c1]
    exact .inr ⟨rfl, by omega⟩
  · rw [if_neg c1, if_neg (by decide)]
    exact .inl ⟨rfl, by omega, by omega⟩

/-- Two Logs, one made behind the other. -/
structure Two (w0 : World) (w : World) (b1 : Nat) (v1 : Value) (b2 : Nat) (v2 : Value) (lim e1 e2 : Nat) (l1 l2 : List UInt8) : Prop where
  one : LogAt w b1 v1 lim e1 l1
  two : LogAt w b2 v2 lim e2 l2
  below : Below w0.heap.size w0 w
  young1 : ∀ k ∈ foot b1 v1, w0.heap.size ≤ k
  young2 : ∀ k ∈ foot b2 v2, w0.heap.size ≤ k
  apart : ∀ k ∈ foot b1 v1, k ∉ foot b2 v2
theorem Two.more {w0 w w' : World} {b1 : Nat} {v1 : Value} {b2 : Nat} {v2 : Value} {lim e1 e2 : Nat} {l1 l2 : List UInt8} (h : Two w0 w b1 v1 b2 v2 lim e1 e2 l1 l2) (hb : Below w.heap.size w w') : Two w0 w' b1 v1 b2 v2 lim e1 e2 l1 l2 :=
  ⟨h.one.below hb, h.two.below hb, h.below.trans (hb.mono h.below.size), h.young1, h.young2, h.apart⟩
/-- The first one is told something. -/
theorem Two.first {w0 w w' : World} {b1 : Nat} {v1 : Value} {b2 : Nat} {v2 : Value} {lim e1 e2 e : Nat} {l1 l2 l : List UInt8} (h : Two w0 w b1 v1 b2 v2 lim e1 e2 l1 l2) (hg : Grew w w' b1 v1 lim e l) : ∃ v, Two w0 w' b1 v b2 v2 lim e e2 l l2 := by
  obtain ⟨v, h1, h2, h3⟩ := hg
  have hf : ∀ k ∈ foot b1 v, k ∈ foot b1 v1 ∨ w.heap.size ≤ k := by
    intro k hk
    rcases List.mem_cons.1 hk with rfl | hk
    · exact .inl (by simp [foot])
    · have hk2 : v.ownBlock = some k := by simpa using hk
      rcases h3 with h3 | h3
      · exact .inl (by simp [foot, ← h3, hk2])
      · exact .inr (h3 k hk2)
  refine ⟨v, h1, h.two.keep fun k hk => h2.block k (h.two.lt k hk) (fun hm => h.apart k hm hk), h2.under h.below h.below.size h.young1, foot_new h.young1 h3 h.below.size, h.young2, fun k hk hk2 => ?_⟩
  rcases hf k hk with hh | hh
  · exact h.apart k hh hk2
  · have := h.two.lt k hk2
    omega
theorem Two.flip {w0 w : World} {b1 : Nat} {v1 : Value} {b2 : Nat} {v2 : Value} {lim e1 e2 : Nat} {l1 l2 : List UInt8} (h : Two w0 w b1 v1 b2 v2 lim e1 e2 l1 l2) : Two w0 w b2 v2 b1 v1 lim e2 e1 l2 l1 :=
  ⟨h.two, h.one, h.below, h.young2, h.young1, fun k hk hk2 => h.apart k hk2 hk⟩
/-- What is older stays as it was while one is told something. -/
theorem Two.old {w0 w W : World} {b1 : Nat} {v1 : Value} {b2 : Nat} {v2 : Value} {lim e1 e2 : Nat} {l1 l2 : List UInt8} (h : Two w0 w b1 v1 b2 v2 lim e1 e2 l1 l2) (hb : But (foot b1 v1) w W) : Below w0.heap.size w0 W := hb.under h.below h.below.size h.young1

/-- A list of numbers, as a walk wants it. -/
def Cuts (w : World) (ao : Option Addr) (n : Nat) (cs : List Int) : Prop := cs.length = n ∧ n ≤ 9223372036854775807 ∧ (∀ c ∈ cs, In64 c) ∧ (0 < n → ∃ sb so, ao = some ⟨sb, so, none⟩ ∧ ∀ W, Below w.heap.size w W → ∀ k (hk : k < cs.length), W.cell? ⟨sb, so + k, none⟩ = some (.int .i64 cs[k]))

theorem laid_two {w0 w : World} {b1 : Nat} {v1 : Value} {b2 : Nat} {v2 : Value} {lim e2 : Nat} {l2 : List UInt8} (h : Two w0 w b1 v1 b2 v2 lim 0 e2 [] l2) (T : ByteArray) (hT : T.size ≤ 140737488355328) {ao : Option Addr} {n cp : Nat} {cs : List Int} (hc : Cuts w0 ao n cs) :
    Calls Try.prog 13 #[.pointer (some ⟨b1, 0, none⟩), .string T, .slice ao n cp] w fun x w' => x = .returned (.bool true) ∧ ∃ v, Two w0 w' b1 v b2 v2 lim T.size e2 (lastN lim T.data.toList) l2 := by
  refine (laid_any h.one T hT ao n cp cs hc.1 hc.2.1 hc.2.2.1 fun hn => ?_).mono fun x w' ⟨e, hg⟩ => ⟨e, h.first hg⟩
  obtain ⟨sb, so, e, hcell⟩ := hc.2.2.2 hn
  exact ⟨sb, so, e, fun W hW k hk => hcell W (h.old hW) k hk⟩

theorem start_last (lim : Nat) (l : List UInt8) : l.length - (lastN lim l).length + (lastN lim l).length = l.length := by rw [lastN_length]; omega

set_option maxHeartbeats 4000000 in
theorem tailPieces_walk (lim : Int) (T : ByteArray) (ao0 : Option Addr) (n0 cp0 : Nat) (cs0 : List Int) (ao1 : Option Addr) (n1 cp1 : Nat) (cs1 : List Int) (w : World) (hl : In64 lim) (hT : T.size ≤ 140737488355328) (hc0 : Cuts w ao0 n0 cs0) (hc1 : Cuts w ao1 n1 cs1) :
    Calls Try.prog 4 #[.int .i64 lim, .string T, .agg #[.slice ao0 n0 cp0, .slice ao1 n1 cp1]] w fun x w' => x = .returned (.bool true) ∧ Below w.heap.size w w' := by
  have HNew : Hid (∀ W, Calls Try.prog 9 #[.int .i64 lim] W fun x w' => Made W w' lim 0 [] x) := fun W => new_any lim W hl.1 hl.2
  have HWorks : Hid (∀ W, Calls Try.prog 10 #[] W fun x w' => x = .returned (.bool true) ∧ Below W.heap.size W w') := works_any
  obtain ⟨W0, hW0⟩ : ∃ W0, W0 = w.alloc (.cells #[.slice ao0 n0 cp0, .slice ao1 n1 cp1] 35) := ⟨_, rfl⟩
  have HW0 : Hid (W0 = w.alloc (.cells #[.slice ao0 n0 cp0, .slice ao1 n1 cp1] 35)) := hW0
  have HB0 : Hid (Below w.heap.size w W0 ∧ W0.heap[w.heap.size]? = some (.cells #[.slice ao0 n0 cp0, .slice ao1 n1 cp1] 35 (0, 0)) ∧ W0.heap.size = w.heap.size + 1) := by
    show _ ∧ _
    rw [hW0]
    exact ⟨(Below.refl _ w).alloc (Nat.le_refl _) _, heap_alloc_new w _, by simp⟩
  have HC0 : Hid (Cuts W0 ao0 n0 cs0) := ⟨hc0.1, hc0.2.1, hc0.2.2.1, fun hn => by
    obtain ⟨sb, so, e, h⟩ := hc0.2.2.2 hn
    exact ⟨sb, so, e, fun W hW k hk => h W (HB0.out.1.trans (hW.mono HB0.out.1.size)) k hk⟩⟩
  have HC1 : Hid (Cuts W0 ao1 n1 cs1) := ⟨hc1.1, hc1.2.1, hc1.2.2.1, fun hn => by
    obtain ⟨sb, so, e, h⟩ := hc1.2.2.2 hn
    exact ⟨sb, so, e, fun W hW k hk => h W (HB0.out.1.trans (hW.mono HB0.out.1.size)) k hk⟩⟩
  have hcase := loadE_zero lim
  obtain ⟨E, hE⟩ : ∃ E, loadE lim 0 0 = E := ⟨_, rfl⟩
  rw [hE] at hcase
  have HE : Hid (loadE lim 0 0 = E) := hE
  clear hE hc0 hc1 hW0
  go_enter Try.func4, Try.ntmps4
  go_wp2_with fail
  rw [← HW0.out]
  refine (HNew.out _).mono ?_
  rintro x w1 ⟨hb1, hm1⟩
  have HM1 : Hid ((E ≠ 0 → x = .returned (.tuple #[.pointer none, .int .i64 E])) ∧ (E = 0 → ∃ b v, x = .returned (.tuple #[.pointer (some ⟨b, 0, none⟩), .int .i64 0]) ∧ LogAt w1 b v lim.toNat 0 [] ∧ ∀ k ∈ foot b v, W0.heap.size ≤ k)) := by
    have h0 : loadE lim 0 ([] : List UInt8).length = E := HE.out
    rcases hm1 with ⟨h, hx⟩ | ⟨h, b, v, hx, hl, hf⟩
    · rw [h0] at h hx
      exact ⟨fun _ => hx, fun h2 => absurd h2 h⟩
    · rw [h0] at h
      exact ⟨fun h2 => absurd h h2, fun _ => ⟨b, v, hx, hl, hf⟩⟩
  have HB1 : Hid (Below W0.heap.size W0 w1) := hb1
  clear hm1 hb1
  rcases hcase with ⟨rfl, hl1, hl2⟩ | ⟨rfl, hl3⟩
  · obtain ⟨b1, v1, rfl, hlog1, hf1⟩ := HM1.out.2 rfl
    have HL1 : Hid (LogAt w1 b1 v1 lim.toNat 0 [] ∧ ∀ k ∈ foot b1 v1, W0.heap.size ≤ k) := ⟨hlog1, hf1⟩
    clear HM1 hlog1 hf1
    go_wp2_with fail
    refine (HNew.out _).mono ?_
    rintro x w2 ⟨hb2, hm2⟩
    have h0 : loadE lim 0 ([] : List UInt8).length = 0 := HE.out
    obtain ⟨b2, v2, rfl, hlog2, hf2⟩ : ∃ b v, x = .returned (.tuple #[.pointer (some ⟨b, 0, none⟩), .int .i64 0]) ∧ LogAt w2 b v lim.toNat 0 [] ∧ ∀ k ∈ foot b v, w1.heap.size ≤ k := by
      rcases hm2 with ⟨h, hx⟩ | ⟨h, b, v, hx, hl, hf⟩
      · exact absurd h0 h
      · exact ⟨b, v, hx, hl, hf⟩
    have HTwo : Hid (Two W0 w2 b1 v1 b2 v2 lim.toNat 0 0 [] []) := ⟨HL1.out.1.below hb2, hlog2, HB1.out.trans (hb2.mono HB1.out.size), HL1.out.2, fun k hk => Nat.le_trans HB1.out.size (hf2 k hk), fun k hk hk2 => by
      have e1 := HL1.out.1.lt k hk
      have e2 := hf2 k hk2
      omega⟩
    clear hb2 hm2 h0 hlog2 hf2 HL1
    go_wp2_with fail
    refine (HWorks.out _).mono ?_
    rintro x w3 ⟨rfl, hb3⟩
    have HT3 : Hid (Two W0 w3 b1 v1 b2 v2 lim.toNat 0 0 [] []) := HTwo.out.more hb3
    have hn3 : w3.heap[w.heap.size]? = some (.cells #[.slice ao0 n0 cp0, .slice ao1 n1 cp1] 35 (0, 0)) := (HT3.out.below.block _ (by have := HB0.out.2.2; omega)).trans HB0.out.2.1
    have c0 : w3.cell? ⟨w.heap.size, 0, none⟩ = some (.slice ao0 n0 cp0) := cell_atT hn3 0
    have c1 : w3.cell? ⟨w.heap.size, 1, none⟩ = some (.slice ao1 n1 cp1) := cell_atT hn3 1
    clear hb3 hn3 HTwo
    go_wp2_with fail
    refine (laid_two HT3.out T hT HC0.out).mono ?_
    rintro x w4 ⟨rfl, v3, ht4⟩
    have HT4 : Hid (Two W0 w4 b1 v3 b2 v2 lim.toNat T.size 0 (lastN lim.toNat T.data.toList) []) := ht4
    have hn4 : w4.heap[w.heap.size]? = some (.cells #[.slice ao0 n0 cp0, .slice ao1 n1 cp1] 35 (0, 0)) := (ht4.below.block _ (by have := HB0.out.2.2; omega)).trans HB0.out.2.1
    have d1 : w4.cell? ⟨w.heap.size, 1, none⟩ = some (.slice ao1 n1 cp1) := cell_atT hn4 1
    clear ht4 hn4 HT3
    go_wp2_with fail
    refine (laid_two HT4.out.flip T hT HC1.out).mono ?_
    rintro x w5 ⟨rfl, v4, ht5⟩
    have HT5 : Hid (Two W0 w5 b2 v4 b1 v3 lim.toNat T.size T.size (lastN lim.toNat T.data.toList) (lastN lim.toNat T.data.toList)) := ht5
    clear ht5 HT4
    obtain ⟨m, rfl⟩ : ∃ m : Nat, lim = (m : Int) := ⟨lim.toNat, by omega⟩
    have hTs : T.data.toList.length = T.size := (Lib.size_eq T).symm
    have hlast := lastN_length m T.data.toList
    rw [hTs] at hlast
    obtain ⟨F, hF⟩ : ∃ F, T.size - m = F := ⟨_, rfl⟩
    obtain ⟨D, hD⟩ : ∃ D, str (lastN m T.data.toList) = D := ⟨_, rfl⟩
    have hsum : F + (lastN m T.data.toList).length = T.size := by rw [hlast]; omega
    have HA1 : Hid (∀ n, Calls Try.prog 14 #[.pointer (some ⟨b1, 0, none⟩)] (w5.drewN n) fun x w' => x = .returned (.string D) ∧ ∃ k, w' = (w5.drewN n).drewN k) := fun n => by
      have h := all_any (HT5.out.two.drewN n) hsum
      have e : lastN ((m : Int)).toNat T.data.toList = lastN m T.data.toList := rfl
      rw [e, hD] at h
      exact h
    have HA2 : Hid (∀ n, Calls Try.prog 14 #[.pointer (some ⟨b2, 0, none⟩)] (w5.drewN n) fun x w' => x = .returned (.string D) ∧ ∃ k, w' = (w5.drewN n).drewN k) := fun n => by
      have h := all_any (HT5.out.one.drewN n) hsum
      have e : lastN ((m : Int)).toNat T.data.toList = lastN m T.data.toList := rfl
      rw [e, hD] at h
      exact h
    have HS1 : Hid (∀ n, Calls Try.prog 15 #[.pointer (some ⟨b1, 0, none⟩)] (w5.drewN n) fun x w' => x = .returned (.int .i64 (F : Int)) ∧ ∃ k, w' = (w5.drewN n).drewN k) := fun n => start_any (HT5.out.two.drewN n) hsum
    have HS2 : Hid (∀ n, Calls Try.prog 15 #[.pointer (some ⟨b2, 0, none⟩)] (w5.drewN n) fun x w' => x = .returned (.int .i64 (F : Int)) ∧ ∃ k, w' = (w5.drewN n).drewN k) := fun n => start_any (HT5.out.one.drewN n) hsum
    have HE1 : Hid (∀ n, Calls Try.prog 16 #[.pointer (some ⟨b1, 0, none⟩)] (w5.drewN n) fun x w' => x = .returned (.int .i64 (T.size : Int)) ∧ w' = w5.drewN n) := fun n => ende_any (HT5.out.two.drewN n)
    have HE2 : Hid (∀ n, Calls Try.prog 16 #[.pointer (some ⟨b2, 0, none⟩)] (w5.drewN n) fun x w' => x = .returned (.int .i64 (T.size : Int)) ∧ w' = w5.drewN n) := fun n => ende_any (HT5.out.one.drewN n)
    have HBF : Hid (Below w.heap.size w w5) := HB0.out.1.trans (HT5.out.below.mono HB0.out.1.size)
    have b0 : (T.size : Int) ≤ 9223372036854775807 := by omega
    by_cases hbig : (m : Int) < (T.size : Int)
    · have e1 : (T.size : Int) - (m : Int) = (F : Int) := by omega
      have e2 : (F : Int) ≤ (T.size : Int) := by omega
      have hcut : T.extract F T.size = D := by
        rw [← hD]
        apply ByteArray.ext
        apply Array.toList_inj.1
        rw [ext_drop]
        show _ = lastN m T.data.toList
        unfold lastN
        rw [hTs, hF]
      clear hsum hlast hD hF hTs HT5
      go_wp2_with fail
      go_quiet (first | (go_at_call 14; first | (with_reducible exact Calls.quiet_of (HA1.out _)) | (with_reducible exact Calls.quiet_of (HA2.out _))) | (go_at_call 15; first | (with_reducible exact Calls.quiet_of (HS1.out _)) | (with_reducible exact Calls.quiet_of (HS2.out _))) | (go_at_call 16; first | (with_reducible exact Calls.quiet_of_same (HE1.out _)) | (with_reducible exact Calls.quiet_of_same (HE2.out _))))
      go_wp2
      all_goals go_ret
      all_goals exact ⟨rfl, below_of_drewN HBF.out _⟩
    · have hF0 : F = 0 := by omega
      subst hF0
      have hDT : D = T := by
        rw [← hD, lastN_all (by omega)]
        rfl
      subst hDT
      clear hsum hlast hD hF hTs HT5
      go_wp2_with fail
      go_quiet (first | (go_at_call 14; first | (with_reducible exact Calls.quiet_of (HA1.out _)) | (with_reducible exact Calls.quiet_of (HA2.out _))) | (go_at_call 15; first | (with_reducible exact Calls.quiet_of (HS1.out _)) | (with_reducible exact Calls.quiet_of (HS2.out _))) | (go_at_call 16; first | (with_reducible exact Calls.quiet_of_same (HE1.out _)) | (with_reducible exact Calls.quiet_of_same (HE2.out _))))
      go_wp2
      all_goals go_ret
      all_goals exact ⟨rfl, below_of_drewN HBF.out _⟩
  · obtain rfl := HM1.out.1 (by decide)
    clear HM1
    go_wp2_with fail
    refine (HNew.out _).mono ?_
    rintro x w2 ⟨hb2, hm2⟩
    have h0 : loadE lim 0 ([] : List UInt8).length = 1 := HE.out
    obtain rfl : x = .returned (.tuple #[.pointer none, .int .i64 1]) := by
      rcases hm2 with ⟨h, hx⟩ | ⟨h, _⟩
      · rw [h0] at hx
        exact hx
      · rw [h0] at h
        cases h
    have HB2 : Hid (Below w.heap.size w w2) := HB0.out.1.trans ((HB1.out.trans (hb2.mono HB1.out.size)).mono HB0.out.1.size)
    clear hb2 hm2 h0
    go_wp2_with fail
    refine (HWorks.out _).mono ?_
    rintro x w3 ⟨rfl, hb3⟩
    have HB3 : Hid (Below w.heap.size w w3) := HB2.out.trans (hb3.mono HB2.out.size)
    clear hb3
    by_cases hs : lim < 1
    · clear hl3
      go_wp2
      all_goals go_ret
      all_goals exact ⟨rfl, HB3.out⟩
    · have hs2 : lim > 65536 := by omega
      clear hl3
      go_wp2
      all_goals go_ret
      all_goals exact ⟨rfl, HB3.out⟩

end Go.Proofs.Yteeakldeimhjjaa
