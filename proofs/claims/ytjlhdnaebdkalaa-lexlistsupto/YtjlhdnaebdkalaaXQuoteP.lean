/-
  Lines of commands: Quote in the program.
-/
import Derived.Test.YtjlhdnaebdkalaaXQuoteW
namespace Go.Proofs.Ytjlhdnaebdkalaa
open Go.RowKit
set_option linter.unusedVariables false
set_option maxRecDepth 100000

theorem clone_any (s : ByteArray) (w : World) (hs : s.size ≤ 281474976710656) : Calls Try.prog 17 #[.string s] w fun e w' => e = .returned (.string s) ∧ Below w.heap.size w w' := by
  have HC : Hid (Calls Try.prog 26 #[.string s] w fun e w' => e = .returned (.string s) ∧ Below w.heap.size w w') := Try.stringslite_Clone s w hs
  go_enter Try.func17, Try.ntmps17
  go_wp2_with fail
  refine HC.out.mono ?_
  rintro e w1 ⟨rfl, hb⟩
  go_wp2
  go_ret
  exact ⟨rfl, hb⟩

set_option maxHeartbeats 1000000 in
theorem quote_any (s : ByteArray) (w : World) (hs : s.size ≤ 1000000000) : Calls Try.prog 9 #[.string s] w fun e w' => e = .returned (.string (str (quoteF s.data.toList))) ∧ Below w.heap.size w w' := by
  have HP : Hid (Calls Try.prog 16 #[.string s] w fun e w' => e = .returned (.bool (isPlainF s.data.toList)) ∧ w = w') := isPlain_any s w (by omega)
  cases hp : isPlainF s.data.toList with
  | true =>
    have HQ : Hid (str (quoteF s.data.toList) = s) := by show _ = _; unfold quoteF; rw [if_pos hp]; rfl
    rw [hp] at HP
    have HC : Hid (Calls Try.prog 17 #[.string s] w fun e w' => e = .returned (.string s) ∧ Below w.heap.size w w') := clone_any s w (by omega)
    rw [HQ.out]
    clear hp
    go_enter Try.func9, Try.ntmps9
    go_wp2_with fail
    refine HP.out.mono ?_
    rintro e w1 ⟨rfl, rfl⟩
    go_wp2_with fail
    refine HC.out.mono ?_
    rintro e w2 ⟨rfl, hb⟩
    go_wp2
    go_ret
    exact ⟨rfl, hb⟩
  | false =>
    have HQ : Hid (quoteF s.data.toList = [34] ++ quotesF s.data.toList ++ [34]) := by show _ = _; unfold quoteF; rw [if_neg (by rw [hp]; decide)]
    rw [hp] at HP
    have hq := quotes_length s.data.toList
    have hsl : s.data.toList.length = s.size := size_data s
    have HLn : Hid ((quotesF s.data.toList).length ≤ 4 * s.size) := by have := hq.2; show _ ≤ _; omega
    have HO : Hid (Out w (w.alloc (.cells #[.pointer none, .slice none 0 0] 39)) w.heap.size w.heap.size []) := Out.new w
    have HWb : Hid (∀ (k : List UInt8) W, Out w W w.heap.size w.heap.size k → k.length ≤ 4 * s.size + 1 → Calls Try.prog 18 #[.pointer (some ⟨w.heap.size, 0, none⟩), .int .u8 34] W fun e w' => e = .returned .nilIface ∧ Out w w' w.heap.size w.heap.size (k ++ [34])) := fun k W hk hl => hk.byte 34 (by omega)
    have HWq : Hid (∀ (c : UInt8) (k : List UInt8) W, Out w W w.heap.size w.heap.size k → k.length ≤ 4 * s.size + 1 → Calls Try.prog 19 #[.pointer (some ⟨w.heap.size, 0, none⟩), .int .u8 c.toNat] W fun e w' => e = .returned (.tuple #[]) ∧ Out w w' w.heap.size w.heap.size (k ++ q1 c)) := fun c k W hk hl => writeQuoted_out c hk (by omega)
    rw [HQ.out]
    clear hp hq hsl HQ
    go_enter Try.func9, Try.ntmps9
    go_wp2_with fail
    refine HP.out.mono ?_
    rintro e w1 ⟨rfl, rfl⟩
    go_wp2_with fail
    refine (HWb.out [] _ HO.out (by simp)).mono ?_
    rintro e w2 ⟨rfl, ho2⟩
    have H2 : Hid (Out w w2 w.heap.size w.heap.size [34]) := ho2
    clear ho2 HO HP
    go_wp2
    go_loopw [4] (fun i wr => ∃ k : Nat, k ≤ s.size ∧ i = .int .i64 k ∧ Hid (Out w wr w.heap.size w.heap.size ([34] ++ quotesF (s.data.toList.take k)))) (fun i _ => s.size - (intOf i).toNat)
    case atStart => exact ⟨0, Nat.zero_le _, rfl, by simpa [quotesF] using H2⟩
    case round =>
      obtain ⟨k, hk, rfl, HR⟩ := hrel
      clear H2
      by_cases hlt : k < s.size
      · have HT : Hid (quotesF (s.data.toList.take (k + 1)) = quotesF (s.data.toList.take k) ++ q1 s[k]) := by
          show _ = _
          rw [take_snocX s k hlt, quotes_snoc]
        have HCa : Hid (Calls Try.prog 19 #[.pointer (some ⟨w.heap.size, 0, none⟩), .int .u8 s[k].toNat] wr fun e w' => e = .returned (.tuple #[]) ∧ Out w w' w.heap.size w.heap.size ([34] ++ quotesF (s.data.toList.take k) ++ q1 s[k])) := HWq.out s[k] _ wr HR.out (by
          have h1 := quotes_take s.data.toList k
          have h2 := HLn.out
          rw [List.length_append]
          simp
          omega)
        go_wp2_with fail
        refine HCa.out.mono ?_
        rintro e w3 ⟨rfl, ho3⟩
        have H3 : Hid (Out w w3 w.heap.size w.heap.size ([34] ++ quotesF (s.data.toList.take (k + 1)))) := by rw [HT.out, ← List.append_assoc]; exact ho3
        clear ho3 HCa
        go_wp2
        go_roundw
        case rel => exact ⟨k + 1, by omega, by go_num, H3⟩
        case measure => simp [intOf]; omega
      · have hke : k = s.size := by omega
        have H4 : Hid (Out w wr w.heap.size w.heap.size ([34] ++ quotesF s.data.toList)) := by
          have h := HR.out
          rw [hke, take_allX] at h
          exact h
        have HC : Hid (Calls Try.prog 18 #[.pointer (some ⟨w.heap.size, 0, none⟩), .int .u8 34] wr fun e w' => e = .returned .nilIface ∧ Out w w' w.heap.size w.heap.size ([34] ++ quotesF s.data.toList ++ [34])) := HWb.out _ wr H4.out (by
          have h2 := HLn.out
          rw [List.length_append]
          simp
          omega)
        clear hke HR H4
        go_wp2_with fail
        refine HC.out.mono ?_
        rintro e w5 ⟨rfl, ho5⟩
        have HS : Hid (Calls Try.prog 20 #[.pointer (some ⟨w.heap.size, 0, none⟩)] w5 fun e w' => e = .returned (.string (str ([34] ++ quotesF s.data.toList ++ [34]))) ∧ Below w.heap.size w w') := ho5.text
        clear ho5 HC
        go_wp2_with fail
        refine HS.out.mono ?_
        rintro e w6 ⟨rfl, hb6⟩
        go_wp2
        go_ret
        exact ⟨rfl, hb6⟩

end Go.Proofs.Ytjlhdnaebdkalaa
