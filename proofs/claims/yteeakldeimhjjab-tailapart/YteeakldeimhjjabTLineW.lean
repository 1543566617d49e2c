/-
  The tail: LastIndexByte, lastLines, Lines.
-/
import Derived.Test.YteeakldeimhjjabTPiece
import Derived.Test.YteeakldeimhjjabTLine
import Derived.WalkKit
import Derived.Deep.LoopGhost
namespace Go.Proofs.Yteeakldeimhjjab
open Go.RowKit
set_option linter.unusedVariables false
set_option maxRecDepth 20000

set_option maxHeartbeats 1000000 in
theorem lastIdx_any {g o cap len : Nat} {l : List UInt8} {w : World} (hlen : l.length = len) (hb : Bytes w (.slice (some ⟨g, o, none⟩) len cap) l) :
    Calls Try.prog 30 #[.slice (some ⟨g, o, none⟩) len cap, .int .u8 10] w fun x w' => x = .returned (.int .i64 ((behindLF l len : Int) - 1)) ∧ w' = w := by
  have hc : ∀ j (hj : j < l.length), w.cell? ⟨g, o + j, none⟩ = some (.int .u8 (l[j].toNat : Int)) := by
    rcases hb with ⟨h, _⟩ | ⟨g', o', cap', cur, h, hg, h1, h2, h3, h4⟩
    · cases h
    · cases h
      intro j hj
      rw [cell_atT hg, h4 j hj]
      rfl
  have hmax : (len : Int) ≤ 9223372036854775807 := by
    rcases hb with ⟨h, _⟩ | ⟨g', o', cap', cur, h, hg, h1, h2, h3, h4⟩
    · cases h
    · omega
  have HC : Hid (∀ j (hj : j < l.length), w.cell? ⟨g, o + j, none⟩ = some (.int .u8 (l[j].toNat : Int))) := hc
  have HN : Hid (l.length = len) := hlen
  clear hb hc hlen
  go_enter Try.func30, Try.ntmps30
  go_wp2
  go_loopg [5] len (fun gh s5 wx => wx = w ∧ ∃ k : Nat, k ≤ len ∧ k = gh ∧ s5 = .int .i64 ((k : Int) - 1) ∧ Hid (behindLF l len = behindLF l k))
  case atStart => exact ⟨rfl, len, Nat.le_refl _, rfl, rfl, (rfl : _ = _)⟩
  case round =>
    obtain ⟨rfl, k, hk, rfl, rfl, hrel⟩ := hrel
    cases k with
    | zero =>
      have e0 : behindLF l len = 0 := hrel.out
      have E0 : Hid (behindLF l len = 0) := e0
      clear hrel e0
      go_wp2
      all_goals go_ret
      all_goals (rw [E0.out]; exact ⟨rfl, rfl⟩)
    | succ k =>
      have hkl : k < l.length := by have := HN.out; omega
      have hcell := HC.out k hkl
      obtain ⟨x, hx⟩ : ∃ x : UInt8, l[k] = x := ⟨_, rfl⟩
      rw [hx] at hcell
      have hp := isLF hkl
      rw [hx] at hp
      have HP : Hid (l[k]? = some 10 ↔ ((x.toNat : Int) = 10)) := hp
      clear hp hx
      have e1 : ((k + 1 : Nat) : Int) - 1 = (k : Int) := by omega
      have b1 : (k : Int) < (len : Int) := by omega
      rw [e1]
      by_cases hx10 : (x.toNat : Int) = 10
      · have e2 : behindLF l len = k + 1 := by rw [hrel.out]; exact behindLF_hit (HP.out.2 hx10)
        have e3 : ((behindLF l len : Nat) : Int) - 1 = (k : Int) := by omega
        have E3 : Hid (((behindLF l len : Nat) : Int) - 1 = (k : Int)) := e3
        clear hrel e2 e3 e1
        go_wp2
        all_goals go_ret
        all_goals (rw [E3.out]; exact ⟨rfl, rfl⟩)
      · have e2 : behindLF l len = behindLF l k := by rw [hrel.out]; exact behindLF_miss (fun h => hx10 (HP.out.1 h))
        have E2 : Hid (behindLF l len = behindLF l k) := e2
        clear hrel e2 e1
        go_wp2
        go_roundg k
        case measure => omega
        case rel => exact ⟨rfl, k, by omega, rfl, by first | rfl | go_num, E2⟩

theorem lastIdx_nil {w : World} :
    Calls Try.prog 30 #[.slice none 0 0, .int .u8 10] w fun x w' => x = .returned (.int .i64 (-1)) ∧ w' = w := by
  go_enter Try.func30, Try.ntmps30
  go_wp2
  refine wp_loop_rounds 1 ?_
  rw [rounds_succ]
  go_wp2
  all_goals go_ret
  all_goals exact ⟨rfl, rfl⟩

theorem idx_any {v : Value} {l : List UInt8} {w : World} (hb : Bytes w v l) :
    Calls Try.prog 29 #[v, .int .u8 10] w fun x w' => x = .returned (.int .i64 ((behindLF l l.length : Int) - 1)) ∧ w' = w := by
  have H : Hid (Calls Try.prog 30 #[v, .int .u8 10] w fun x w' => x = .returned (.int .i64 ((behindLF l l.length : Int) - 1)) ∧ w' = w) := by
    have hb0 := hb
    rcases hb0 with ⟨rfl, rfl⟩ | ⟨g, o, cap, cur, rfl, _⟩
    · exact lastIdx_nil
    · exact lastIdx_any rfl hb
  obtain ⟨r, hr⟩ : ∃ r : Int, (behindLF l l.length : Int) - 1 = r := ⟨_, rfl⟩
  rw [hr] at H ⊢
  clear hr hb
  go_enter Try.func29, Try.ntmps29
  go_wp2_with (go_at_call 30; refine H.out.mono ?_; rintro x w1 ⟨rfl, rfl⟩)
  go_ret
  exact ⟨rfl, rfl⟩

theorem Bytes.take {w : World} {g o n cap : Nat} {l : List UInt8} (h : Bytes w (.slice (some ⟨g, o, none⟩) n cap) l) {j : Nat} (hj : j ≤ l.length) : Bytes w (.slice (some ⟨g, o, none⟩) j cap) (l.take j) := by
  rcases h with ⟨h, _⟩ | ⟨g', o', cap', cur, h, hg, h1, h2, h3, h4⟩
  · cases h
  · cases h
    have hl : (l.take j).length = j := by rw [List.length_take]; omega
    refine .inr ⟨g, o, cap, cur, slice_ext hl.symm rfl, hg, by omega, h2, h3, fun i hi => ?_⟩
    rw [List.getElem_take]
    exact h4 i (by omega)
theorem Bytes.drop {w : World} {g o n cap : Nat} {l : List UInt8} (h : Bytes w (.slice (some ⟨g, o, none⟩) n cap) l) {j : Nat} (hj : j ≤ l.length) :
    Bytes w (.slice (if cap = j then some ⟨g, o, none⟩ else some ⟨g, o + j, none⟩) (n - j) (cap - j)) (l.drop j) := by
  rcases h with ⟨h, _⟩ | ⟨g', o', cap', cur, h, hg, h1, h2, h3, h4⟩
  · cases h
  · cases h
    have hl : (l.drop j).length = l.length - j := by rw [List.length_drop]
    by_cases hc : cap = j
    · rw [if_pos hc]
      refine .inr ⟨g, o, cap - j, cur, slice_ext hl.symm rfl, hg, by omega, by omega, by omega, fun i hi => ?_⟩
      rw [List.length_drop] at hi
      omega
    · rw [if_neg hc]
      refine .inr ⟨g, o + j, cap - j, cur, slice_ext hl.symm rfl, hg, by omega, by omega, by omega, fun i hi => ?_⟩
      rw [List.length_drop] at hi
      rw [List.getElem_drop, Nat.add_assoc]
      exact h4 (j + i) (by omega)

theorem lastLines_nil {n : Int} {w : World} :
    Calls Try.prog 27 #[.slice none 0 0, .int .i64 n] w fun x w' => x = .returned (.slice none 0 0) ∧ w' = w := by
  by_cases hn : 0 < n
  all_goals
    go_enter Try.func27, Try.ntmps27
    go_wp2
    refine wp_loop_rounds 1 ?_
    rw [rounds_succ]
    go_wp2
    all_goals go_ret
    all_goals exact ⟨rfl, rfl⟩

set_option maxHeartbeats 2000000 in
theorem lastLines_some {g o cap len : Nat} {l : List UInt8} {w : World} (hlen : l.length = len) (hb : Bytes w (.slice (some ⟨g, o, none⟩) len cap) l) (n : Int) (hn1 : -9223372036854775808 ≤ n) (hn2 : n ≤ 9223372036854775807) :
    Calls Try.prog 27 #[.slice (some ⟨g, o, none⟩) len cap, .int .i64 n] w fun x w' => (∃ vp, x = .returned vp ∧ Bytes w vp (linesT n l)) ∧ w' = w := by
  have hmax : (cap : Int) ≤ 9223372036854775807 := by
    rcases hb with ⟨h, _⟩ | ⟨g', o', cap', cur, h, hg, h1, h2, h3, h4⟩
    · cases h
    · cases h
      omega
  have hcap : (len : Int) ≤ (cap : Int) := by
    rcases hb with ⟨h, _⟩ | ⟨g', o', cap', cur, h, hg, h1, h2, h3, h4⟩
    · cases h
    · cases h
      omega
  have HB : Hid (Bytes w (.slice (some ⟨g, o, none⟩) len cap) l) := hb
  have HN : Hid (l.length = len) := hlen
  have HI : Hid (∀ j, j ≤ len → Calls Try.prog 29 #[.slice (some ⟨g, o, none⟩) j cap, .int .u8 10] w fun x w' => x = .returned (.int .i64 ((behindLF l j : Int) - 1)) ∧ w' = w) := by
    intro j hj
    have h := idx_any (hb.take (j := j) (by omega))
    rw [show (l.take j).length = j by rw [List.length_take]; omega, behindLF_take l j j (Nat.le_refl _)] at h
    exact h
  clear hb hlen
  go_enter Try.func27, Try.ntmps27
  go_wp2
  go_loopg [1, 5] len (fun gh s1 s5 wx => wx = w ∧ ∃ (k : Nat) (m : Int), k ≤ len ∧ k = gh ∧ s5 = .int .i64 (k : Int) ∧ s1 = .int .i64 m ∧ -9223372036854775808 ≤ m ∧ m ≤ 9223372036854775807 ∧ Hid (lineAt l n.toNat len = lineAt l m.toNat k))
  case atStart => exact ⟨rfl, len, n, Nat.le_refl _, rfl, rfl, rfl, hn1, hn2, (rfl : _ = _)⟩
  case round =>
    obtain ⟨rfl, k, m, hk, rfl, rfl, rfl, hm1, hm2, hrel⟩ := hrel
    by_cases hm : 0 < m
    · cases k with
      | zero =>
        have e0 : linesT n l = l := by unfold linesT; rw [HN.out, hrel.out, lineAt_zero]; rfl
        have E0 : Hid (linesT n l = l) := e0
        clear hrel e0
        go_wp2
        all_goals go_ret
        all_goals exact ⟨⟨_, rfl, by rw [E0.out]; exact HB.out⟩, rfl⟩
      | succ j =>
        have e1 : ((j + 1 : Nat) : Int) - 1 = (j : Int) := by omega
        have b1 : (0 : Int) < ((j + 1 : Nat) : Int) := by omega
        have b2 : ((j + 1 : Nat) : Int) ≤ 9223372036854775807 := by omega
        have hjl : j ≤ len := by omega
        have b3 : (j : Int) ≤ (cap : Int) := by omega
        obtain ⟨q, hq⟩ : ∃ q, behindLF l j = q := ⟨_, rfl⟩
        have hqj := behindLF_le l j
        rw [hq] at hqj
        have HQ : Hid (behindLF l j = q) := hq
        have HC : Hid (Calls Try.prog 29 #[.slice (some ⟨g, o, none⟩) j cap, .int .u8 10] wr fun x w' => x = .returned (.int .i64 ((q : Int) - 1)) ∧ w' = wr) := by
          have h := HI.out j hjl
          rw [hq] at h
          exact h
        obtain ⟨J, hJ⟩ : ∃ J : Int, ((j + 1 : Nat) : Int) = J := ⟨_, rfl⟩
        rw [hJ] at e1 b1 b2 ⊢
        have e3 : (q : Int) - 1 + 1 = (q : Int) := by omega
        clear hq hJ
        go_wp2_with (go_at_call 29; refine HC.out.mono ?_; rintro x w1 ⟨rfl, rfl⟩)
        go_roundg q
        case measure => omega
        case rel =>
          refine ⟨rfl, q, m - 1, by omega, rfl, by first | rfl | go_num, by first | rfl | go_num, by omega, by omega, ?_⟩
          show _ = _
          rw [hrel.out, show m.toNat = (m - 1).toNat + 1 by omega, ← HQ.out]
          rfl
    · have hmz : m.toNat = 0 := by omega
      have e0 : lineAt l n.toNat len = k := by rw [hrel.out, hmz]; rfl
      have E0 : Hid (linesT n l = l.drop k) := by show linesT n l = _; unfold linesT; rw [HN.out, e0]
      have b3 : (k : Int) ≤ (cap : Int) := by omega
      have b4 : (k : Int) ≤ (len : Int) := by omega
      have HD := (HB.out).drop (j := k) (by rw [HN.out]; exact hk)
      have HD2 : Hid (Bytes wr (.slice (if cap = k then some ⟨g, o, none⟩ else some ⟨g, o + k, none⟩) (len - k) (cap - k)) (l.drop k)) := HD
      clear hrel e0 HD hmz
      have HP : Hid (cap = k → Bytes wr (.slice (some ⟨g, o, none⟩) (len - k) 0) (l.drop k)) := fun h => by
        have := HD2.out
        rw [if_pos h, show cap - k = 0 by omega] at this
        exact this
      have HM : Hid (¬ cap = k → Bytes wr (.slice (some ⟨g, o + k, none⟩) (len - k) (cap - k)) (l.drop k)) := fun h => by
        have := HD2.out
        rw [if_neg h] at this
        exact this
      clear HD2
      go_wp2
      all_goals go_ret
      all_goals (refine ⟨⟨_, rfl, ?_⟩, rfl⟩; rw [E0.out])
      all_goals first | exact HP.out ‹_› | exact HM.out ‹_›

theorem lines_any {b : Nat} {v : Value} {lim e s : Nat} {l : List UInt8} {w : World} (h : LogAt w b v lim e l) (hs : s + l.length = e) (n : Int) (hn1 : -9223372036854775808 ≤ n) (hn2 : n ≤ 9223372036854775807) :
    Calls Try.prog 21 #[.pointer (some ⟨b, 0, none⟩), .int .i64 n] w fun x w' => x = .returned (.string (str (linesT n l))) ∧ ∃ m, w' = w.drewN m := by
  obtain ⟨vp, hb, hc⟩ := whole_any h hs
  have H0 : Hid (Calls Try.prog 23 #[.pointer (some ⟨b, 0, none⟩)] w fun x w' => x = .returned vp ∧ ∃ m, w' = w.drewN m) := hc 0
  have HL : Hid (∀ m : Nat, Calls Try.prog 27 #[vp, .int .i64 n] (w.drewN m) fun x w' => (∃ vq, x = .returned vq ∧ Bytes w vq (linesT n l)) ∧ w' = w.drewN m) := by
    intro m
    have hb0 := hb
    rcases hb0 with ⟨rfl, rfl⟩ | ⟨g, o, cap, cur, rfl, _⟩
    · refine lastLines_nil.mono ?_
      rintro x w' ⟨rfl, rfl⟩
      exact ⟨⟨_, rfl, .inl ⟨rfl, by unfold linesT; exact List.drop_nil⟩⟩, rfl⟩
    · refine (lastLines_some rfl (hb.drewN m) n hn1 hn2).mono ?_
      rintro x w' ⟨⟨vq, rfl, hq⟩, rfl⟩
      exact ⟨⟨vq, rfl, hq⟩, rfl⟩
  have ht : Hid (∀ vq m, Bytes w vq (linesT n l) → (convert 55 9 vq).run Try.prog (w.drewN m) = .ok (.string (str (linesT n l))) (w.drewN m)) := fun vq m hq => Bytes.text (hq.drewN m) _ _ 5 (by kernel_rfl) (by kernel_rfl) (by kernel_rfl)
  obtain ⟨r, hr⟩ : ∃ r, linesT n l = r := ⟨_, rfl⟩
  rw [hr] at HL ht ⊢
  clear hc h hs hb hr
  go_enter Try.func21, Try.ntmps21
  go_wp2_with (first | (go_at_call 23; refine H0.out.mono ?_; rintro x w1 ⟨rfl, m, rfl⟩) | (go_at_call 27; refine (HL.out _).mono ?_; rintro x w1 ⟨⟨vq, rfl, hq⟩, rfl⟩; have hcv := ht.out vq m hq))
  go_ret
  exact ⟨rfl, _, rfl⟩

end Go.Proofs.Yteeakldeimhjjab
