/-
  Lines of commands: the document's single, double.
-/
import Derived.Test.YtghkhnnlhkdceaaXRefA
namespace Go.Proofs.Ytghkhnnlhkdceaa
open Go.RowKit
set_option linter.unusedVariables false
set_option maxRecDepth 100000

/-- What single and double answer. -/
def PieceR (w : World) (s : ByteArray) (p : Nat) (R : Option (List UInt8 × List UInt8)) (e : Ending) (w' : World) : Prop := match R with
  | some (a, u) => ∃ v q, e = .returned (.tuple #[v, .int .i64 ((q : Nat) : Int)]) ∧ Owns w' w.heap.size v a ∧ s.data.toList.drop q = u ∧ q ≤ s.size ∧ p < q ∧ a.length ≤ s.size ∧ Below w.heap.size w w'
  | none => e = .returned (.tuple #[.slice none 0 0, .int .i64 (-1)]) ∧ Below w.heap.size w w'
theorem onto_nil' (o : Option (List UInt8 × List UInt8)) : onto [] o = o := by
  cases o with
  | none => rfl
  | some x => rfl

theorem many1 (w : World) (c : UInt8) (k : Nat) (h : c.toNat = k) (t : TypeId) : ∀ j (hj : j < [c].length), (w.alloc (.cells #[.int .u8 (k : Int)] t)).cell? ((⟨w.heap.size, 0, none⟩ : Addr).add j) = some (bv [c][j]) := by
  subst h
  exact one_cell w c t

set_option maxHeartbeats 2000000 in
theorem singleR_any (s : ByteArray) (p : Nat) (w : World) (hp : p < s.size) (hs : s.size ≤ 8192) (R : Option (List UInt8 × List UInt8)) (hR : singleF (s.data.toList.drop (p + 1)) = R) : Calls Try.prog 11 #[.string s, .int .i64 p] w (PieceR w s p R) := by
  have HR : Hid (onto [] (singleF (s.data.toList.drop (p + 1))) = R) := by rw [onto_nil']; exact hR
  have hw1 : IntKind.i64.wrap ((p : Int) + 1) = ((p + 1 : Nat) : Int) := by rw [IntKind.wrap_i64]; omega
  clear hR
  go_enter Try.func11, Try.ntmps11
  go_wp2
  go_loopw [6, 7] (fun u i wr => ∃ (q : Nat) (a : List UInt8), p < q ∧ q ≤ s.size ∧ a.length ≤ q ∧ i = .int .i64 (q : Int) ∧ Owns wr w.heap.size u a ∧ Hid (onto a (singleF (s.data.toList.drop q)) = R) ∧ Below w.heap.size w wr) (fun _ i _ => s.size - (intOf i).toNat)
  case atStart => exact ⟨p + 1, [], by omega, by omega, by simp, rfl, Owns.nil _ _, HR, Below.refl _ _⟩
  case round =>
    obtain ⟨q, a, hq, hqs, hal, rfl, hown, HI, hb⟩ := hrel
    clear HR
    have hBr : w.heap.size ≤ wr.heap.size := hb.size
    by_cases hlt : q < s.size
    · obtain ⟨c, hc⟩ : ∃ c, s[q] = c := ⟨_, rfl⟩
      obtain ⟨k, hk⟩ : ∃ k, c.toNat = k := ⟨_, rfl⟩
      have hsk : (s[q].toNat : Int) = (k : Int) := by rw [hc, hk]
      have HDr : Hid (s.data.toList.drop q = c :: s.data.toList.drop (q + 1)) := by rw [← hc]; exact drop_at s q hlt
      have HK : Hid (c.toNat = k) := hk
      have hwq : IntKind.i64.wrap ((q : Int) + 1) = ((q + 1 : Nat) : Int) := by rw [IntKind.wrap_i64]; omega
      clear hc hk
      by_cases k39 : k = 39
      · subst k39
        have HF : Hid (R = some (a, s.data.toList.drop (q + 1))) := by
          have h := HI.out
          rw [HDr.out] at h
          unfold singleF at h
          rw [if_pos HK.out, onto_nil] at h
          exact h.symm
        go_wp2
        go_ret2
        rw [HF.out]
        exact ⟨_, q + 1, rfl, hown, rfl, by omega, by omega, by omega, hb⟩
      · have HI2 : Hid (onto (a ++ [c]) (singleF (s.data.toList.drop (q + 1))) = R) := by
          have h := HI.out
          rw [HDr.out] at h
          unfold singleF at h
          rw [if_neg (by rw [HK.out]; exact k39), onto_cons] at h
          exact h
        have e39 : ((k : Int) == 39) = false := by
          have : (k : Int) ≠ 39 := by omega
          simpa using this
        have hl1 : a.length + 1 ≤ 140737488355328 := by omega
        go_wp2_with (at_builtin; refine wpList_append_bytes _ rfl (.tmp 23) (.tmp 27) 36 rfl Try.underlying36 infoB w.heap.size _ _ rfl (hown.alloc _) ⟨wr.heap.size, 0, none⟩ 1 1 [c] rfl rfl (many1 wr c k HK.out _) hl1 ?x2 ?_; (case x2 => simp; omega); intro v' w2 hown2 hb2)
        go_roundw
        case rel => exact ⟨q + 1, a ++ [c], by omega, by omega, by simp; omega, rfl, hown2, HI2, (hb.alloc hBr _).trans hb2⟩
        case measure => simp [intOf]; omega
    · have HF : Hid (R = none) := by
        have h := HI.out
        rw [drop_end s q hlt] at h
        exact h.symm
      go_wp2
      go_ret2
      rw [HF.out]
      exact ⟨rfl, hb⟩

set_option maxHeartbeats 4000000 in
theorem doubleR_any (s : ByteArray) (p : Nat) (w : World) (hp : p < s.size) (hs : s.size ≤ 8192) (R : Option (List UInt8 × List UInt8)) (hR : doubleF (s.data.toList.drop (p + 1)) = R) : Calls Try.prog 12 #[.string s, .int .i64 p] w (PieceR w s p R) := by
  have HR : Hid (onto [] (doubleF (s.data.toList.drop (p + 1))) = R) := by rw [onto_nil']; exact hR
  have hw1 : IntKind.i64.wrap ((p : Int) + 1) = ((p + 1 : Nat) : Int) := by rw [IntKind.wrap_i64]; omega
  clear hR
  go_enter Try.func12, Try.ntmps12
  go_wp2
  go_loopw [6, 7] (fun u i wr => ∃ (q : Nat) (a : List UInt8), p < q ∧ q ≤ s.size ∧ a.length ≤ q ∧ i = .int .i64 (q : Int) ∧ Owns wr w.heap.size u a ∧ Hid (onto a (doubleF (s.data.toList.drop q)) = R) ∧ Below w.heap.size w wr) (fun _ i _ => s.size - (intOf i).toNat)
  case atStart => exact ⟨p + 1, [], by omega, by omega, by simp, rfl, Owns.nil _ _, HR, Below.refl _ _⟩
  case round =>
    obtain ⟨q, a, hq, hqs, hal, rfl, hown, HI, hb⟩ := hrel
    clear HR
    have hBr : w.heap.size ≤ wr.heap.size := hb.size
    by_cases hlt : q < s.size
    · obtain ⟨c, hc⟩ : ∃ c, s[q] = c := ⟨_, rfl⟩
      obtain ⟨k, hk⟩ : ∃ k, c.toNat = k := ⟨_, rfl⟩
      have hsk : (s[q].toNat : Int) = (k : Int) := by rw [hc, hk]
      have HDr : Hid (s.data.toList.drop q = c :: s.data.toList.drop (q + 1)) := by rw [← hc]; exact drop_at s q hlt
      have HK : Hid (c.toNat = k) := hk
      have hwq : IntKind.i64.wrap ((q : Int) + 1) = ((q + 1 : Nat) : Int) := by rw [IntKind.wrap_i64]; omega
      clear hc hk
      have hl1 : a.length + 1 ≤ 140737488355328 := by omega
      by_cases k34 : k = 34
      · subst k34
        have HF : Hid (R = some (a, s.data.toList.drop (q + 1))) := by
          have h := HI.out
          rw [HDr.out, double_quote HK.out, onto_nil] at h
          exact h.symm
        go_wp2
        go_ret2
        rw [HF.out]
        exact ⟨_, q + 1, rfl, hown, rfl, by omega, by omega, by omega, hb⟩
      · have e34 : ((k : Int) == 34) = false := by
          have : (k : Int) ≠ 34 := by omega
          simpa using this
        by_cases k92 : k = 92
        · subst k92
          by_cases hq1 : q + 1 < s.size
          · obtain ⟨v, kk, hE⟩ : ∃ v kk, escF (s.data.toList.drop (q + 1)) = (v, kk) := ⟨_, _, rfl⟩
            have hk1 : 1 ≤ kk ∧ q + 1 + kk ≤ s.size := by
              have h := esc_one s[q + 1] (s.data.toList.drop (q + 1 + 1))
              rw [← drop_at s (q + 1) hq1, hE] at h
              have h2 : (s.data.toList.drop (q + 1)).length = s.size - (q + 1) := by rw [List.length_drop, size_data]
              rw [h2] at h
              simp only [] at h
              omega
            have HI2 : Hid (onto (a ++ [v]) (doubleF (s.data.toList.drop (q + 1 + kk))) = R) := by
              have h := HI.out
              rw [HDr.out, double_back HK.out, drop_at s (q + 1) hq1] at h
              unfold escD at h
              simp only [] at h
              rw [← drop_at s (q + 1) hq1, hE] at h
              simp only [] at h
              rw [onto_cons, List.drop_drop] at h
              exact h
            have HEs : Hid (∀ W, Calls Try.prog 20 #[.string s, .int .i64 ((q + 1 : Nat) : Int)] W fun e w' => e = .returned (.tuple #[.int .u8 (v.toNat : Int), .int .i64 (kk : Int)]) ∧ W = w') := fun W => by
              have h := escapeR_any s (q + 1) W hq1 hs
              rw [hE] at h
              exact h
            have eq1 : (((q + 1 : Nat) : Int) == (s.size : Int)) = false := by
              have : ((q + 1 : Nat) : Int) ≠ (s.size : Int) := by omega
              simpa using this
            have hwk : IntKind.i64.wrap (((q + 1 : Nat) : Int) + (kk : Int)) = ((q + 1 + kk : Nat) : Int) := by rw [IntKind.wrap_i64]; omega
            clear hE
            obtain ⟨Q1, hQ1⟩ : ∃ x, q + 1 = x := ⟨_, rfl⟩
            rw [hQ1] at HEs eq1 hwk hwq HI2 hk1
            have HQ1 : Hid (q + 1 = Q1) := hQ1
            clear hQ1
            go_wp2_with fail
            refine (HEs.out _).mono ?_
            rintro e w1 ⟨rfl, rfl⟩
            go_wp2_with (at_builtin; refine wpList_append_bytes _ rfl (.tmp 47) (.tmp 49) 36 rfl Try.underlying36 infoB w.heap.size _ _ rfl (hown.alloc _) ⟨wr.heap.size, 0, none⟩ 1 1 [v] rfl rfl (one_cell wr v _) hl1 ?x2 ?_; (case x2 => simp; omega); intro v' w2 hown2 hb2)
            go_roundw
            case rel => exact ⟨Q1 + kk, a ++ [v], by have := HQ1.out; omega, by omega, by have := HQ1.out; simp; omega, rfl, hown2, HI2, (hb.alloc hBr _).trans hb2⟩
            case measure => (have := HQ1.out; simp [intOf]; omega)
          · have HF : Hid (R = none) := by
              have h := HI.out
              rw [HDr.out, double_back HK.out, drop_end s (q + 1) hq1] at h
              exact h.symm
            have eq1 : (((q + 1 : Nat) : Int) == (s.size : Int)) = true := by
              have : ((q + 1 : Nat) : Int) = (s.size : Int) := by omega
              rw [this]; exact beq_self_eq_true _
            obtain ⟨Q1, hQ1⟩ : ∃ x, q + 1 = x := ⟨_, rfl⟩
            rw [hQ1] at eq1 hwq
            clear hQ1
            go_wp2
            go_ret2
            rw [HF.out]
            exact ⟨rfl, hb⟩
        · have HI2 : Hid (onto (a ++ [c]) (doubleF (s.data.toList.drop (q + 1))) = R) := by
            have h := HI.out
            rw [HDr.out, double_other (by rw [HK.out]; exact k34) (by rw [HK.out]; exact k92), onto_cons] at h
            exact h
          have e92 : ((k : Int) != 92) = true := by
            have : (k : Int) ≠ 92 := by omega
            simpa using this
          go_wp2_with (at_builtin; refine wpList_append_bytes _ rfl (.tmp 27) (.tmp 31) 36 rfl Try.underlying36 infoB w.heap.size _ _ rfl (hown.alloc _) ⟨wr.heap.size, 0, none⟩ 1 1 [c] rfl rfl (many1 wr c k HK.out _) hl1 ?x2 ?_; (case x2 => simp; omega); intro v' w2 hown2 hb2)
          go_roundw
          case rel => exact ⟨q + 1, a ++ [c], by omega, by omega, by simp; omega, rfl, hown2, HI2, (hb.alloc hBr _).trans hb2⟩
          case measure => simp [intOf]; omega
    · have HF : Hid (R = none) := by
        have h := HI.out
        rw [drop_end s q hlt, double_nil] at h
        exact h.symm
      go_wp2
      go_ret2
      rw [HF.out]
      exact ⟨rfl, hb⟩

end Go.Proofs.Ytghkhnnlhkdceaa
