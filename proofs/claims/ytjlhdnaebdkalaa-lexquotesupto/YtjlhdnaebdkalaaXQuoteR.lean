/-
  Lines of commands: Quote in the document.
-/
import Derived.Test.YtjlhdnaebdkalaaXQuoteP
namespace Go.Proofs.Ytjlhdnaebdkalaa
open Go.RowKit
set_option linter.unusedVariables false
set_option maxRecDepth 100000

theorem take_notin (s : ByteArray) (k : Nat) (c : UInt8) (hlt : k < s.size) (h : c ∉ s.data.toList.take k) (hc : s[k] ≠ c) : c ∉ s.data.toList.take (k + 1) := by
  rw [take_snocX s k hlt]
  intro hm
  rcases List.mem_append.1 hm with hm | hm
  · exact h hm
  · exact hc (by simpa [eq_comm] using hm)

set_option maxHeartbeats 2000000 in
theorem safe_any (c : UInt8) (w : World) : Calls Try.prog 21 #[.int .u8 c.toNat] w fun e w' => e = .returned (.bool (plainB c)) ∧ w = w' := by
  have HP : Hid (plainB c = (decide (97 ≤ c.toNat ∧ c.toNat ≤ 122) || decide (65 ≤ c.toNat ∧ c.toNat ≤ 90) || decide (48 ≤ c.toNat ∧ c.toNat ≤ 57) || decide (c ∈ others))) := (rfl : plainB c = _)
  obtain ⟨n, hn⟩ : ∃ n, c.toNat = n := ⟨_, rfl⟩
  have HN : Hid (c.toNat = n) := hn
  rw [hn] at HP ⊢
  clear hn
  by_cases h0 : (97 ≤ n ∧ n ≤ 122) ∨ (65 ≤ n ∧ n ≤ 90) ∨ (48 ≤ n ∧ n ≤ 57)
  · have HT : Hid (plainB c = true) := by
      show _ = _
      rw [HP.out]
      rcases h0 with h | h | h <;> simp [h]
    have h0' : (97 ≤ n ∧ n ≤ 122) ∨ (¬ (97 ≤ n ∧ n ≤ 122) ∧ (65 ≤ n ∧ n ≤ 90)) ∨ (¬ (97 ≤ n ∧ n ≤ 122) ∧ ¬ (65 ≤ n ∧ n ≤ 90) ∧ (48 ≤ n ∧ n ≤ 57)) := by omega
    clear h0
    rcases h0' with ⟨a1, a2⟩ | ⟨a0, a1, a2⟩ | ⟨a0, a3, a1, a2⟩
    all_goals (
      go_enter Try.func21, Try.ntmps21
      go_wp2
      all_goals first | (exfalso; omega) | skip
      all_goals go_ret
      all_goals exact ⟨by first | (rw [HT.out]; rfl) | rw [HT.out], rfl⟩)
  · have HT : Hid (plainB c = decide (c ∈ others)) := by
      show _ = _
      rw [HP.out]
      have b1 : ¬ (97 ≤ n ∧ n ≤ 122) := fun h => h0 (.inl h)
      have b2 : ¬ (65 ≤ n ∧ n ≤ 90) := fun h => h0 (.inr (.inl h))
      have b3 : ¬ (48 ≤ n ∧ n ≤ 57) := fun h => h0 (.inr (.inr h))
      simp only [b1, b2, b3, decide_false, Bool.false_or]
    have b1 : ¬ (97 ≤ n ∧ n ≤ 122) := fun h => h0 (.inl h)
    have b2 : ¬ (65 ≤ n ∧ n ≤ 90) := fun h => h0 (.inr (.inl h))
    have b3 : ¬ (48 ≤ n ∧ n ≤ 57) := fun h => h0 (.inr (.inr h))
    clear h0
    go_enter Try.func21, Try.ntmps21
    go_wp2
    all_goals (
      generalize hS : ByteArray.mk #[95, 46, 47, 58, 61, 64, 37, 43, 44, 45] = s
      have hs : s.data.toList = others := by subst hS; rfl
      have hsz : s.size ≤ 1000 := by subst hS; decide
      have HS : Hid (s.data.toList = others) := hs
      clear hS hs
      go_loopw [4] (fun i wr => ∃ k : Nat, k ≤ s.size ∧ i = .int .i64 k ∧ Hid (c ∉ s.data.toList.take k) ∧ w = wr) (fun i _ => s.size - (intOf i).toNat)
      case atStart => exact ⟨0, Nat.zero_le _, rfl, (show c ∉ s.data.toList.take 0 by simp), rfl⟩
      case round =>
        obtain ⟨k, hk, rfl, HK, rfl⟩ := hrel
        by_cases hlt : k < s.size
        · by_cases hc : s[k] = c
          · have HT2 : Hid (plainB c = true) := by
              show _ = _
              rw [HT.out]
              refine decide_eq_true ?_
              rw [← HS.out, ← hc]
              exact List.getElem_mem (l := s.data.toList) (n := k) (by simpa using hlt)
            have hcn : s[k].toNat = n := by rw [hc]; exact HN.out
            clear hc
            go_wp2
            go_ret
            exact ⟨by first | (rw [HT2.out]; rfl) | rw [HT2.out], rfl⟩
          · have hcn : ((n : Int) == (s[k].toNat : Int)) = false := by
              have : (n : Int) ≠ (s[k].toNat : Int) := fun e => hc (UInt8.toNat_inj.1 (by have := HN.out; omega))
              simpa using this
            have HK2 : Hid (c ∉ s.data.toList.take (k + 1)) := take_notin s k c hlt HK.out hc
            clear hc
            go_wp2
            go_roundw
            case rel => exact ⟨k + 1, by omega, by go_num, HK2, by first | exact trivial | rfl⟩
            case measure => simp [intOf]; omega
        · have HT2 : Hid (plainB c = false) := by
            show _ = _
            rw [HT.out]
            refine decide_eq_false ?_
            rw [← HS.out]
            have h := HK.out
            rw [show k = s.size by omega, take_allX] at h
            exact h
          go_wp2
          go_ret
          exact ⟨by first | (rw [HT2.out]; rfl) | rw [HT2.out], rfl⟩)

theorem many_cell (w : World) (l : List UInt8) (cs : Array Value) (h : cs = (l.map bv).toArray) (t : TypeId) : ∀ j (hj : j < l.length), (w.alloc (.cells cs t)).cell? ((⟨w.heap.size, 0, none⟩ : Addr).add j) = some (bv l[j]) := by
  intro j hj
  rw [show (⟨w.heap.size, 0, none⟩ : Addr).add j = ⟨w.heap.size, j, none⟩ by unfold Addr.add; split <;> simp_all, World.cell?_alloc_mark, h]
  simp [hj]

set_option maxHeartbeats 2000000 in
theorem quoteR_any (s : ByteArray) (w : World) (hs : s.size ≤ 1000000000) : Calls Try.prog 10 #[.string s] w fun e w' => e = .returned (.string (str (quoteF s.data.toList))) ∧ Below w.heap.size w w' := by
  have HSa : Hid (∀ (c : UInt8) W, Calls Try.prog 21 #[.int .u8 c.toNat] W fun e w' => e = .returned (.bool (plainB c)) ∧ W = w') := safe_any
  obtain ⟨ne, hne⟩ : ∃ b, (!s.toList.isEmpty) = b := ⟨_, rfl⟩
  have HNe : Hid ((!s.toList.isEmpty) = ne) := hne
  go_enter Try.func10, Try.ntmps10
  go_wp2
  try rw [HNe.out]
  clear hne
  go_loopw [3, 4] (fun p i wr => ∃ k : Nat, k ≤ s.size ∧ i = .int .i64 k ∧ p = .bool (ne && (s.data.toList.take k).all plainB) ∧ w = wr) (fun _ i _ => s.size - (intOf i).toNat)
  case atStart => exact ⟨0, Nat.zero_le _, rfl, by simp, rfl⟩
  case round =>
    obtain ⟨k, hk, rfl, rfl, rfl⟩ := hrel
    by_cases hlt : k < s.size
    · have HT : Hid ((s.data.toList.take (k + 1)).all plainB = ((s.data.toList.take k).all plainB && plainB s[k])) := by
        show _ = _
        rw [take_snocX s k hlt, List.all_append]
        simp
      obtain ⟨p, hp⟩ : ∃ p, (ne && (s.data.toList.take k).all plainB) = p := ⟨_, rfl⟩
      have HPp : Hid ((ne && (s.data.toList.take k).all plainB) = p) := hp
      rw [hp]
      clear hp
      cases p
      · go_wp2
        go_roundw
        case rel => exact ⟨k + 1, by omega, by go_num, by rw [HT.out, ← Bool.and_assoc, HPp.out]; rfl, by first | exact trivial | rfl⟩
        case measure => simp [intOf]; omega
      · go_wp2_with (go_at_call 21; refine (HSa.out _ _).mono ?_; rintro e w' ⟨rfl, rfl⟩)
        go_roundw
        case rel => exact ⟨k + 1, by omega, by go_num, by rw [HT.out, ← Bool.and_assoc, HPp.out]; rfl, by first | exact trivial | rfl⟩
        case measure => simp [intOf]; omega
    · have HE : Hid ((ne && (s.data.toList.take k).all plainB) = isPlainF s.data.toList) := by
        show _ = _
        rw [show k = s.size by omega, take_allX, ← HNe.out, Lib.toList_data, Bool.and_comm]
        rfl
      rw [HE.out]
      cases hp : isPlainF s.data.toList with
      | true =>
        have HQ : Hid (str (quoteF s.data.toList) = s) := by show _ = _; unfold quoteF; rw [if_pos hp]; rfl
        clear hp HE
        go_wp2
        go_ret
        exact ⟨by first | (rw [HQ.out]; rfl) | rw [HQ.out], Below.refl _ _⟩
      | false =>
        have HQ : Hid (quoteF s.data.toList = [34] ++ quotesF s.data.toList ++ [34]) := by show _ = _; unfold quoteF; rw [if_neg (by rw [hp]; decide)]
        have hq := quotes_length s.data.toList
        have hsl : s.data.toList.length = s.size := size_data s
        have HLn : Hid ((quotesF s.data.toList).length ≤ 4 * s.size) := by have := hq.2; show _ ≤ _; omega
        clear hp hq hsl HE
        go_wp2
        go_loopw [5, 6] (fun u i wr => ∃ k : Nat, k ≤ s.size ∧ i = .int .i64 k ∧ Owns wr w.heap.size u ([34] ++ quotesF (s.data.toList.take k)) ∧ Below w.heap.size w wr) (fun _ i _ => s.size - (intOf i).toNat)
        case atStart => exact ⟨0, Nat.zero_le _, rfl, Owns.made w w.heap.size [34] (Nat.le_refl _) (by decide), (Below.refl _ _).alloc (Nat.le_refl _) _⟩
        case round =>
          obtain ⟨k, hk, rfl, hown, hb⟩ := hrel
          have hBr : w.heap.size ≤ wr.heap.size := hb.size
          by_cases hlt : k < s.size
          · have HT : Hid (quotesF (s.data.toList.take (k + 1)) = quotesF (s.data.toList.take k) ++ q1 s[k]) := by
              show _ = _
              rw [take_snocX s k hlt, quotes_snoc]
            have HLk : Hid (([34] ++ quotesF (s.data.toList.take k)).length + 4 ≤ 140737488355328) := by
              have h1 := quotes_take s.data.toList k
              have h2 := HLn.out
              show _ ≤ _
              rw [List.length_append]
              simp
              omega
            obtain ⟨c, hc⟩ : ∃ c, s[k] = c := ⟨_, rfl⟩
            have hlk := HLk.out
            rw [hc] at HT
            by_cases h1 : c.toNat = 34 ∨ c.toNat = 92
            · have HQ1 : Hid (q1 c = [92, c]) := by show _ = _; unfold q1; rw [if_pos h1]
              obtain ⟨n, hn⟩ : ∃ n, c.toNat = n := ⟨_, rfl⟩
              have HN : Hid (c.toNat = n) := hn
              rw [hn] at h1
              have hcn : (s[k].toNat : Int) = (n : Int) := by rw [hc, hn]
              have d1 : ((n : Int) == 34 || (n : Int) == 92) = true := by rcases h1 with h | h <;> simp [h]
              clear hc hn
              rcases h1 with rfl | rfl
              all_goals (
                go_wp2_with (at_builtin; refine wpList_append_bytes _ rfl (.tmp 46) (.tmp 48) 37 rfl Try.underlying37 infoB w.heap.size _ _ rfl (hown.alloc _) ⟨wr.heap.size, 0, none⟩ 2 2 [92, c] rfl rfl (many_cell wr [92, c] _ (by simp [bv, HN.out]) _) ?x1 ?x2 ?_; (case x1 => omega); (case x2 => simp; omega); intro v' w2 hown2 hb2)
                go_roundw
                case rel => exact ⟨k + 1, by omega, by go_num, by rw [HT.out, HQ1.out, ← List.append_assoc]; exact hown2, (hb.alloc hBr _).trans hb2⟩
                case measure => simp [intOf]; omega)
            · by_cases h2 : c.toNat < 32
              · have HQ1 : Hid (q1 c = [92, 48, UInt8.ofNat (48 + c.toNat / 8), UInt8.ofNat (48 + c.toNat % 8)]) := by show _ = _; unfold q1; rw [if_neg h1, if_pos h2]
                have hd := d8 c h2
                obtain ⟨y, hy⟩ : ∃ y, UInt8.ofNat (48 + c.toNat / 8) = y := ⟨_, rfl⟩
                obtain ⟨z, hz⟩ : ∃ z, UInt8.ofNat (48 + c.toNat % 8) = z := ⟨_, rfl⟩
                rw [hy, hz] at HQ1 hd
                obtain ⟨n, hn⟩ : ∃ n, c.toNat = n := ⟨_, rfl⟩
                have HN : Hid (c.toNat = n) := hn
                have hcn : (s[k].toNat : Int) = (n : Int) := by rw [hc, hn]
                rw [hn] at h1 h2
                have n34 : ((n : Int) == 34) = false := by
                  have : (n : Int) ≠ 34 := fun e => h1 (.inl (by omega))
                  simpa using this
                have n92 : ((n : Int) == 92) = false := by
                  have : (n : Int) ≠ 92 := fun e => h1 (.inr (by omega))
                  simpa using this
                rw [hn] at hd
                have d32 : decide ((n : Int) < 32) = true := by
                  have : (n : Int) < 32 := by omega
                  simpa using this
                obtain ⟨x8, hx8⟩ : ∃ x, (n : Int) / 8 = x := ⟨_, rfl⟩
                obtain ⟨z8, hz8⟩ : ∃ x, (n : Int) % 8 = x := ⟨_, rfl⟩
                have ht8 : (n : Int).tdiv 8 = x8 := by rw [Int.tdiv_eq_ediv_of_nonneg (by omega)]; exact hx8
                have hm8 : (n : Int).tmod 8 = z8 := by rw [Int.tmod_eq_emod_of_nonneg (by omega)]; exact hz8
                have e0 : IntKind.u8.wrap x8 = x8 := by rw [IntKind.wrap_u8]; omega
                have e1 : IntKind.u8.wrap (48 + x8) = 48 + x8 := by rw [IntKind.wrap_u8]; omega
                have e2 : IntKind.u8.wrap (48 + z8) = 48 + z8 := by rw [IntKind.wrap_u8]; omega
                have HY : Hid (48 + x8 = (y.toNat : Int)) := by show _ = _; rw [hd.1]; omega
                have HZ : Hid (48 + z8 = (z.toNat : Int)) := by show _ = _; rw [hd.2]; omega
                clear hc hn h1 hy hz hd h2
                go_wp2_with (at_builtin; refine wpList_append_bytes _ rfl (.tmp 53) (.tmp 60) 37 rfl Try.underlying37 infoB w.heap.size _ _ rfl (hown.alloc _) ⟨wr.heap.size, 0, none⟩ 4 4 [92, 48, y, z] rfl rfl (many_cell wr [92, 48, y, z] _ (by simp [bv, ← HY.out, ← HZ.out]) _) ?x1 ?x2 ?_; (case x1 => omega); (case x2 => simp; omega); intro v' w2 hown2 hb2)
                go_roundw
                case rel => exact ⟨k + 1, by omega, by go_num, by rw [HT.out, HQ1.out, ← List.append_assoc]; exact hown2, (hb.alloc hBr _).trans hb2⟩
                case measure => simp [intOf]; omega
              · have HQ1 : Hid (q1 c = [c]) := by show _ = _; unfold q1; rw [if_neg h1, if_neg h2]
                obtain ⟨n, hn⟩ : ∃ n, c.toNat = n := ⟨_, rfl⟩
                have HN : Hid (c.toNat = n) := hn
                have hcn : (s[k].toNat : Int) = (n : Int) := by rw [hc, hn]
                rw [hn] at h1 h2
                have n34 : ((n : Int) == 34) = false := by
                  have : (n : Int) ≠ 34 := fun e => h1 (.inl (by omega))
                  simpa using this
                have n92 : ((n : Int) == 92) = false := by
                  have : (n : Int) ≠ 92 := fun e => h1 (.inr (by omega))
                  simpa using this
                have d32 : decide ((n : Int) < 32) = false := by
                  have : ¬ (n : Int) < 32 := by omega
                  simpa using this
                clear hc hn h1 h2
                go_wp2_with (at_builtin; refine wpList_append_bytes _ rfl (.tmp 35) (.tmp 37) 37 rfl Try.underlying37 infoB w.heap.size _ _ rfl (hown.alloc _) ⟨wr.heap.size, 0, none⟩ 1 1 [c] rfl rfl (many_cell wr [c] _ (by simp [bv, HN.out]) _) ?x1 ?x2 ?_; (case x1 => omega); (case x2 => simp; omega); intro v' w2 hown2 hb2)
                go_roundw
                case rel => exact ⟨k + 1, by omega, by go_num, by rw [HT.out, HQ1.out, ← List.append_assoc]; exact hown2, (hb.alloc hBr _).trans hb2⟩
                case measure => simp [intOf]; omega
          · have hke : k = s.size := by omega
            have H4 : Hid (Owns wr w.heap.size u5 ([34] ++ quotesF s.data.toList)) := by
              have h := hown
              rw [hke, take_allX] at h
              exact h
            have hl4 : ([34] ++ quotesF s.data.toList).length + 1 ≤ 140737488355328 := by
              have h2 := HLn.out
              rw [List.length_append]
              simp
              omega
            clear hke hown
            go_wp2_with (at_builtin; refine wpList_append_bytes _ rfl (.tmp 62) (.tmp 63) 37 rfl Try.underlying37 infoB w.heap.size _ _ rfl (H4.out.alloc _) ⟨wr.heap.size, 0, none⟩ 1 1 [34] rfl rfl (many_cell wr [34] _ rfl _) hl4 ?x2 ?_; (case x2 => simp; omega); intro v' w2 hown2 hb2; have hcv := hown2.text (P := Try.prog) 37 9 5 Try.underlying37 Try.underlying5 Try.underlying9)
            go_ret
            exact ⟨by first | (rw [HQ.out]; rfl) | rw [HQ.out], (hb.alloc hBr _).trans hb2⟩

end Go.Proofs.Ytjlhdnaebdkalaa
