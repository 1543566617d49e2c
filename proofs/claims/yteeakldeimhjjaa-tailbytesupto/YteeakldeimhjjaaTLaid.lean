/-
  The tail: pos, laid: a text laid in in pieces.
-/
import Derived.Test.YteeakldeimhjjaaTAs
import Derived.Test.YteeakldeimhjjaaTOpenB
import Derived.WalkKit
import Derived.Deep.LoopGhost
namespace Go.Proofs.Yteeakldeimhjjaa
open Go.RowKit Go.Lib
set_option linter.unusedVariables false
set_option maxRecDepth 100000

/-- A list of numbers that came in. -/
def IntsArg (w : World) (v : Value) (l : List Int) : Prop :=
  (∃ a c, v = .slice a 0 c ∧ l = []) ∨ ∃ b off cap, v = .slice (some ⟨b, off, none⟩) l.length cap ∧ b < w.heap.size ∧ l.length ≤ 9223372036854775807 ∧ ∀ i (hi : i < l.length), w.cell? ⟨b, off + i, none⟩ = some (.int .i64 l[i])

theorem pos_any (x : Int) (n : Nat) (w : World) (hx : In64 x) (hn : 0 < n) (hn2 : n ≤ 9223372036854775807) :
    Calls Try.prog 25 #[.int .i64 x, .int .i64 (n : Int)] w fun e w' => (∃ q : Nat, e = .returned (.int .i64 (q : Int)) ∧ q < n) ∧ w' = w := by
  obtain ⟨h1, h2⟩ := hx
  have ht : Int.tmod x n = if 0 ≤ x then x % n else -(-x % n) := by
    by_cases h : 0 ≤ x
    · rw [if_pos h, Int.tmod_eq_emod_of_nonneg h]
    · rw [if_neg h]
      have : Int.tmod x n = -Int.tmod (-x) n := by rw [Int.neg_tmod, Int.neg_neg]
      rw [this, Int.tmod_eq_emod_of_nonneg (by omega)]
  obtain ⟨r, hr⟩ : ∃ r, Int.tmod x n = r := ⟨_, rfl⟩
  have hnn : (n : Int) ≠ 0 := by omega
  have e1 := Int.emod_nonneg x hnn
  have e2 := Int.emod_lt_of_pos x (show (0 : Int) < n by omega)
  have e3 := Int.emod_nonneg (-x) hnn
  have e4 := Int.emod_lt_of_pos (-x) (show (0 : Int) < n by omega)
  have hb : -(n : Int) < r ∧ r < n := by
    rw [← hr, ht]
    by_cases h : 0 ≤ x
    · rw [if_pos h]; omega
    · rw [if_neg h]; omega
  have hn0 : ¬ ((n : Int) = 0) := hnn
  have hn1 : ((n : Int) == 0) = false := by simpa using hnn
  clear ht e1 e2 e3 e4
  by_cases hneg : r < 0
  · obtain ⟨q, hq⟩ : ∃ q : Nat, r + (n : Int) = (q : Int) := ⟨(r + n).toNat, by omega⟩
    have HQ : Hid (q < n) := by show q < n; omega
    obtain ⟨hb1, hb2⟩ := hb
    have b1 : (n : Int) ≤ 9223372036854775807 := by omega
    go_enter Try.func25, Try.ntmps25
    go_wp2
    all_goals go_ret
    all_goals exact ⟨⟨q, rfl, HQ.out⟩, rfl⟩
  · obtain ⟨q, hq⟩ : ∃ q : Nat, r = (q : Int) := ⟨r.toNat, by omega⟩
    subst hq
    have HQ : Hid (q < n) := by show q < n; omega
    obtain ⟨hb1, hb2⟩ := hb
    go_enter Try.func25, Try.ntmps25
    go_wp2
    all_goals go_ret
    all_goals exact ⟨⟨q, rfl, HQ.out⟩, rfl⟩

/-- One Append behind another. -/
theorem Grew.trans {w w1 w2 : World} {b : Nat} {v v1 : Value} {lim e : Nat} {l : List UInt8} (hb : But (foot b v) w w1) (ho : v1.ownBlock = v.ownBlock ∨ ∀ k, v1.ownBlock = some k → w.heap.size ≤ k) (h : Grew w1 w2 b v1 lim e l) : Grew w w2 b v lim e l := by
  obtain ⟨v2, h1, h2, h3⟩ := h
  refine ⟨v2, h1, ⟨h2.os.trans hb.os, h2.tape.trans hb.tape, h2.output.trans hb.output, Nat.le_trans hb.size h2.size, fun k hk hn => ?_⟩, ?_⟩
  · refine (h2.block k (Nat.lt_of_lt_of_le hk hb.size) (fun hm => hn ?_)).trans (hb.block k hk hn)
    rcases List.mem_cons.1 hm with rfl | hm
    · simp [foot]
    · have hm2 : v1.ownBlock = some k := by simpa using hm
      rcases ho with ho | ho
      · simp [foot, ← ho, hm2]
      · have := ho k hm2
        omega
  · rcases h3 with h3 | h3
    · rcases ho with ho | ho
      · exact .inl (h3.trans ho)
      · exact .inr (fun k hk => ho k (h3 ▸ hk))
    · exact .inr (fun k hk => Nat.le_trans hb.size (h3 k hk))

theorem lastN_front (n : Nat) (p c : List UInt8) (h : n ≤ c.length) : lastN n (p ++ c) = lastN n c := by
  unfold lastN
  rw [List.length_append, show p.length + c.length - n = p.length + (c.length - n) by omega, List.drop_append, List.drop_eq_nil_of_le (by omega), Nat.add_sub_cancel_left, List.nil_append]
theorem lastN_lastN (n : Nat) (a b : List UInt8) : lastN n (lastN n a ++ b) = lastN n (a ++ b) := by
  by_cases h : a.length ≤ n
  · rw [lastN_all h]
  · have h1 : a = a.take (a.length - n) ++ lastN n a := (List.take_append_drop _ _).symm
    have h2 : (lastN n a).length = n := by rw [lastN_length]; omega
    have h3 : lastN n (a.take (a.length - n) ++ (lastN n a ++ b)) = lastN n (lastN n a ++ b) := lastN_front n _ _ (by rw [List.length_append]; omega)
    rw [← List.append_assoc, ← h1] at h3
    exact h3.symm
theorem lastN_nil (n : Nat) : lastN n [] = [] := List.drop_nil

/-- A Log that has been told the first bytes of a text. -/
structure Told (w0 w : World) (b : Nat) (v0 : Value) (lim : Nat) (pre : List UInt8) : Prop where
  grew : Grew w0 w b v0 lim pre.length (lastN lim pre)
theorem Told.more {w0 w w' : World} {b : Nat} {v0 v : Value} {lim n : Nat} {pre t : List UInt8} (h2 : But (foot b v0) w0 w) (h3 : v.ownBlock = v0.ownBlock ∨ ∀ k, v.ownBlock = some k → w0.heap.size ≤ k) (hn : n = t.length) (hg : Grew w w' b v lim (pre.length + n) (lastN lim (lastN lim pre ++ t))) : Told w0 w' b v0 lim (pre ++ t) := by
  subst hn
  have hG := Grew.trans h2 h3 hg
  refine ⟨?_⟩
  have e : lastN lim (lastN lim pre ++ t) = lastN lim (pre ++ t) := lastN_lastN lim pre t
  rw [e] at hG
  rw [List.length_append]
  exact hG

theorem ext_take (s : ByteArray) (q : Nat) : (s.extract 0 q).data.toList = s.data.toList.take q := by
  rw [ByteArray.data_extract, Array.toList_extract, List.extract_eq_take_drop]
  rfl

/-- An Append that fits. -/
theorem append_fits {b : Nat} {v : Value} {lim e : Nat} {l : List UInt8} {t : ByteArray} {w : World} (h : LogAt w b v lim e l) (ht : e + t.size ≤ 4611686018427387904) :
    Calls Try.prog 11 #[.pointer (some ⟨b, 0, none⟩), .string t] w fun x w' => x = .returned (.int .i64 0) ∧ Grew w w' b v lim (e + t.size) (lastN lim (l ++ t.data.toList)) := by
  refine (append_any h (by omega)).mono ?_
  intro x w' hx
  rw [if_neg (by omega)] at hx
  exact hx

set_option maxHeartbeats 2000000 in
theorem laid_any {b : Nat} {v : Value} {lim : Nat} {w : World} (h : LogAt w b v lim 0 []) (T : ByteArray) (hT : T.size ≤ 140737488355328) (ao : Option Addr) (n cp : Nat) (cs : List Int) (hn : cs.length = n) (hlen : n ≤ 9223372036854775807) (hok : ∀ c ∈ cs, In64 c)
    (hcell : 0 < n → ∃ sb so, ao = some ⟨sb, so, none⟩ ∧ ∀ W, But (foot b v) w W → ∀ k (hk : k < cs.length), W.cell? ⟨sb, so + k, none⟩ = some (.int .i64 cs[k])) :
    Calls Try.prog 13 #[.pointer (some ⟨b, 0, none⟩), .string T, .slice ao n cp] w fun x w' => x = .returned (.bool true) ∧ Grew w w' b v lim T.size (lastN lim T.data.toList) := by
  have HC : Hid (0 < n → ∃ sb so, ao = some ⟨sb, so, none⟩ ∧ ∀ W, But (foot b v) w W → ∀ k (hk : k < cs.length), W.cell? ⟨sb, so + k, none⟩ = some (.int .i64 cs[k])) := hcell
  have HN : Hid (cs.length = n) := hn
  have HOK : Hid (∀ c ∈ cs, In64 c) := hok
  have H0 : Hid (Told w w b v lim []) := ⟨⟨v, by rw [lastN_nil]; exact h, But.refl _ _, .inl rfl⟩⟩
  have HTs : Hid (T.data.toList.length = T.size) := (Lib.size_eq T).symm
  clear hcell hn hok h
  go_enter Try.func13, Try.ntmps13
  go_wp2
  go_loopg [1, 7] n (fun gh s1 s7 wx => ∃ (k : Nat) (pre : List UInt8) (rest : ByteArray), k ≤ n ∧ n - k = gh ∧ s7 = .int .i64 (k : Int) ∧ s1 = .string rest ∧ Hid (pre ++ rest.data.toList = T.data.toList) ∧ Hid (Told w wx b v lim pre))
  case atStart => exact ⟨0, [], T, Nat.zero_le _, rfl, rfl, rfl, (rfl : _ = _), H0⟩
  case round =>
    obtain ⟨k, pre, rest, hk, rfl, rfl, rfl, hcut, htold⟩ := hrel
    obtain ⟨v1, hl1, hb1, ho1⟩ := htold.out.grew
    have hsum : pre.length + rest.size = T.size := by
      have h1 := congrArg List.length hcut.out
      rw [List.length_append, ← Lib.size_eq, HTs.out] at h1
      exact h1
    by_cases hkn : k < n
    · obtain ⟨sb, so, rfl, hcell⟩ := HC.out (by omega)
      have hko : k < cs.length := by rw [HN.out]; exact hkn
      obtain ⟨c, hc⟩ : ∃ c, cs[k] = c := ⟨_, rfl⟩
      have o0 := hcell wr hb1 k hko
      rw [hc] at o0
      have hco : In64 c := by rw [← hc]; exact HOK.out _ (List.getElem_mem _)
      have HP : Hid (Calls Try.prog 25 #[.int .i64 c, .int .i64 ((rest.size : Int) + 1)] wr fun e w' => (∃ q : Nat, e = .returned (.int .i64 (q : Int)) ∧ q < rest.size + 1) ∧ w' = wr) := by
        have h := pos_any c (rest.size + 1) wr hco (by omega) (by omega)
        exact h
      have hki : (k : Int) < (n : Int) := by omega
      have b1 : (rest.size : Int) + 1 ≤ 9223372036854775807 := by omega
      have HA : Hid (∀ t : ByteArray, t.size ≤ rest.size → Calls Try.prog 11 #[.pointer (some ⟨b, 0, none⟩), .string t] wr fun x w' => x = .returned (.int .i64 0) ∧ Grew wr w' b v1 lim (pre.length + t.size) (lastN lim (lastN lim pre ++ t.data.toList))) := fun t ht => append_fits hl1 (by omega)
      have HL : Hid (LogAt wr b v1 lim pre.length (lastN lim pre) ∧ But (foot b v) w wr ∧ (v1.ownBlock = v.ownBlock ∨ ∀ k, v1.ownBlock = some k → w.heap.size ≤ k)) := ⟨hl1, hb1, ho1⟩
      clear hcell hc hco HC hl1 hb1 ho1 hsum
      go_wp2_with fail
      refine HP.out.mono ?_
      rintro x w1 ⟨⟨q, rfl, hq⟩, rfl⟩
      have b2 : (q : Int) ≤ (rest.size : Int) := by omega
      have b3 : q ≤ rest.size := by omega
      have hes : (rest.extract 0 q).size ≤ rest.size := by rw [Lib.size_eq, ext_take, List.length_take, ← Lib.size_eq]; omega
      have HES : Hid ((rest.extract 0 q).size ≤ rest.size) := hes
      clear hes hq
      go_wp2_with fail
      refine (HA.out _ HES.out).mono ?_
      rintro x w2 ⟨rfl, hgr⟩
      have HG : Hid (Told w w2 b v lim (pre ++ (rest.extract 0 q).data.toList)) := by
        obtain ⟨e1, e2, e3⟩ := HL.out
        exact Told.more e2 e3 (Lib.size_eq _) hgr
      clear hgr
      go_wp2
      go_roundg (n - (k + 1))
      case measure => omega
      case rel => exact ⟨k + 1, _, _, by omega, rfl, by first | rfl | go_num, rfl, by show _ = _; rw [ext_take, ext_drop, List.append_assoc, List.take_append_drop]; exact hcut.out, HG⟩
    · obtain rfl : k = n := by omega
      have HA : Hid (Calls Try.prog 11 #[.pointer (some ⟨b, 0, none⟩), .string rest] wr fun x w' => x = .returned (.int .i64 0) ∧ Grew wr w' b v1 lim (pre.length + rest.size) (lastN lim (lastN lim pre ++ rest.data.toList))) := append_fits hl1 (by omega)
      have HL : Hid (But (foot b v) w wr ∧ (v1.ownBlock = v.ownBlock ∨ ∀ k, v1.ownBlock = some k → w.heap.size ≤ k)) := ⟨hb1, ho1⟩
      clear HC hl1 hb1 ho1 hsum
      go_wp2_with fail
      refine HA.out.mono ?_
      rintro x w2 ⟨rfl, hgr⟩
      have HG : Hid (Grew w w2 b v lim T.size (lastN lim T.data.toList)) := by
        have h := (Told.more HL.out.1 HL.out.2 (Lib.size_eq _) hgr).grew
        rw [hcut.out, HTs.out] at h
        exact h
      clear hgr
      go_wp2
      all_goals go_ret
      all_goals exact ⟨rfl, HG.out⟩

end Go.Proofs.Yteeakldeimhjjaa
