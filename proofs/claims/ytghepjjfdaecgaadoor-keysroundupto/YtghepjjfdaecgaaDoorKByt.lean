/-
  Keys: a key's bytes.
-/
import Derived.Test.YtghepjjfdaecgaaDoorKNm
namespace Go.Proofs.YtghepjjfdaecgaaDoor
open Go.RowKit
set_option linter.unusedVariables false
set_option maxRecDepth 100000

theorem str_catK (a b : List UInt8) : str a ++ str b = str (a ++ b) := by
  apply ByteArray.ext
  rw [ByteArray.data_append]
  simp [str]
theorem ctl_bits {c : Int} (h0 : 0 ≤ c) (h1 : c < 128) : bits .and .i64 c 31 = c % 32 := by
  obtain ⟨n, rfl⟩ := Int.eq_ofNat_of_zero_le h0
  have hn : n < 128 := by omega
  have hall : ∀ n : Fin 128, bits .and .i64 (n.val : Int) 31 = (n.val : Int) % 32 := by decide
  exact hall ⟨n, hn⟩
set_option maxHeartbeats 1000000 in
theorem controlByte_any (c : Int) (h0 : 0 ≤ c) (h1 : c < 128) (w : World) : Calls Tryd.prog 30 #[.int .i64 c] w fun r w' => r = .returned (.int .i64 (c % 32)) ∧ w = w' := by
  have hb := ctl_bits h0 h1
  go_enter Tryd.func30, Tryd.ntmps30
  go_wp2_with fail
  go_ret
  exact ⟨rfl, rfl⟩
theorem enc_digit {m : Int} (h1 : 1 ≤ m) (h7 : m ≤ 7) : Utf8.encode (49 + m) = str [UInt8.ofNat (49 + m.toNat)] := by
  rcases (by omega : m = 1 ∨ m = 2 ∨ m = 3 ∨ m = 4 ∨ m = 5 ∨ m = 6 ∨ m = 7) with e | e | e | e | e | e | e <;> subst e <;> rfl
theorem sp_small : ∀ s ∈ spT, s.name.length ≤ 9 ∧ s.head.length ≤ 9 ∧ s.letter.length ≤ 9 ∧ s.number.length ≤ 9 := by decide
set_option maxHeartbeats 2000000 in
theorem bytes_zero (s : Sp) (hs : s ∈ spT) (app : Bool) (w : World) : Calls Tryd.prog 29 #[.agg #[.string (str s.name), .string (str s.head), .string (str s.letter), .string (str s.number)], .int .i64 0, .bool app] w fun r w' => r = .returned (.string (str (seqF s 0 app))) ∧ Below w.heap.size w w' := by
  obtain ⟨n1, n2, n3, n4⟩ := sp_small s hs
  obtain ⟨N, hN⟩ : ∃ N, str s.name = N := ⟨_, rfl⟩
  obtain ⟨H, hH⟩ : ∃ H, str s.head = H := ⟨_, rfl⟩
  obtain ⟨L, hL⟩ : ∃ L, str s.letter = L := ⟨_, rfl⟩
  obtain ⟨U, hU⟩ : ∃ U, str s.number = U := ⟨_, rfl⟩
  have z2 : H.size ≤ 9 := by rw [← hH]; exact n2
  have z3 : L.size ≤ 9 := by rw [← hL]; exact n3
  have z4 : U.size ≤ 9 := by rw [← hU]; exact n4
  have HFin : Hid (Below w.heap.size w (w.alloc (.cells #[.string N, .string H, .string L, .string U] 58))) := (Below.refl _ _).alloc (Nat.le_refl _) _
  obtain ⟨R, hR⟩ : ∃ R, str (seqF s 0 app) = R := ⟨_, rfl⟩
  rw [hR, hN, hH, hL, hU]
  by_cases hl : s.letter = []
  · have e1 : L = ⟨#[]⟩ := by rw [← hL, hl]; rfl
    subst e1
    have HR : Hid (H ++ U ++ ⟨#[]⟩ ++ ⟨#[126]⟩ = R) := by
      show _ = _
      rw [← hR, ← hH, ← hU]
      unfold seqF
      simp only [if_pos hl]
      show str s.head ++ str s.number ++ str [] ++ str [126] = _
      rw [str_catK, str_catK, str_catK]
      rfl
    clear hN hH hL hU hR n1 n2 n3 n4 hs hl
    go_enter Tryd.func29, Tryd.ntmps29
    go_wp2_with fail
    go_ret
    exact ⟨by rw [← HR.out]; first | rfl | simp, HFin.out⟩
  · have e1 : ¬ L.toList = [] := by rw [← hL, str_toList]; exact hl
    have e2 : L.toList.isEmpty = false := by rw [← hL, str_toList]; simpa using hl
    have e3 : (L.toList == []) = false := by simpa using e1
    cases app with
    | true =>
      have HR : Hid ((⟨#[27, 79]⟩ : ByteArray) ++ L = R) := by
        show _ = _
        rw [← hR, ← hL]
        unfold seqF
        simp only [if_neg hl, Int.lt_irrefl, if_false, if_true]
        show str [27, 79] ++ str s.letter = _
        rw [str_catK]
      clear hN hH hL hU hR n1 n2 n3 n4 hs hl
      go_enter Tryd.func29, Tryd.ntmps29
      go_wp2_with fail
      go_ret
      exact ⟨by rw [← HR.out]; first | rfl | simp, HFin.out⟩
    | false =>
      have HR : Hid (H ++ L = R) := by
        show _ = _
        rw [← hR, ← hL, ← hH]
        unfold seqF
        simp only [if_neg hl, Int.lt_irrefl, if_false]
        rw [str_catK]
        rfl
      clear hN hH hL hU hR n1 n2 n3 n4 hs hl
      go_enter Tryd.func29, Tryd.ntmps29
      go_wp2_with fail
      go_ret
      exact ⟨by rw [← HR.out]; first | rfl | simp, HFin.out⟩
set_option maxHeartbeats 2000000 in
theorem bytes_mods (s : Sp) (hs : s ∈ spT) (m : Int) (h1 : 1 ≤ m) (h7 : m ≤ 7) (app : Bool) (w : World) : Calls Tryd.prog 29 #[.agg #[.string (str s.name), .string (str s.head), .string (str s.letter), .string (str s.number)], .int .i64 m, .bool app] w fun r w' => r = .returned (.string (str (seqF s m app))) ∧ Below w.heap.size w w' := by
  obtain ⟨n1, n2, n3, n4⟩ := sp_small s hs
  obtain ⟨N, hN⟩ : ∃ N, str s.name = N := ⟨_, rfl⟩
  obtain ⟨H, hH⟩ : ∃ H, str s.head = H := ⟨_, rfl⟩
  obtain ⟨L, hL⟩ : ∃ L, str s.letter = L := ⟨_, rfl⟩
  obtain ⟨U, hU⟩ : ∃ U, str s.number = U := ⟨_, rfl⟩
  obtain ⟨D, hD⟩ : ∃ D, str [UInt8.ofNat (49 + m.toNat)] = D := ⟨_, rfl⟩
  have z2 : H.size ≤ 9 := by rw [← hH]; exact n2
  have z3 : L.size ≤ 9 := by rw [← hL]; exact n3
  have z4 : U.size ≤ 9 := by rw [← hU]; exact n4
  have z5 : D.size = 1 := by rw [← hD]; rfl
  have hE : Utf8.encode (49 + m) = D := by rw [← hD]; exact enc_digit h1 h7
  have hw : IntKind.i32.wrap (49 + m) = 49 + m := by
    have := IntKind.wrap_i32 (49 + m)
    omega
  have hm : 0 < m := by omega
  have HFin : Hid (Below w.heap.size w (w.alloc (.cells #[.string N, .string H, .string L, .string U] 58))) := (Below.refl _ _).alloc (Nat.le_refl _) _
  obtain ⟨R, hR⟩ : ∃ R, str (seqF s m app) = R := ⟨_, rfl⟩
  rw [hR, hN, hH, hL, hU]
  by_cases hl : s.letter = []
  · have e1 : L = ⟨#[]⟩ := by rw [← hL, hl]; rfl
    subst e1
    have HR : Hid (H ++ U ++ (⟨#[59]⟩ ++ D) ++ ⟨#[126]⟩ = R) := by
      show _ = _
      rw [← hR, ← hH, ← hU, ← hD]
      unfold seqF
      simp only [if_pos hl, if_pos hm]
      show str s.head ++ str s.number ++ (str [59] ++ str _) ++ str [126] = _
      rw [str_catK, str_catK, str_catK, str_catK]
      rfl
    clear hN hH hL hU hR n1 n2 n3 n4 hs hl hD
    go_enter Tryd.func29, Tryd.ntmps29
    go_wp2_with fail
    go_ret
    exact ⟨by rw [← HR.out]; first | rfl | simp, HFin.out⟩
  · have e1 : ¬ L.toList = [] := by rw [← hL, str_toList]; exact hl
    have e2 : L.toList.isEmpty = false := by rw [← hL, str_toList]; simpa using hl
    have e3 : (L.toList == []) = false := by simpa using e1
    have HR : Hid ((⟨#[27, 91, 49]⟩ : ByteArray) ++ (⟨#[59]⟩ ++ D) ++ L = R) := by
      show _ = _
      rw [← hR, ← hL, ← hD]
      unfold seqF
      simp only [if_neg hl, if_pos hm]
      show str [27, 91, 49] ++ (str [59] ++ str _) ++ str s.letter = _
      rw [str_catK, str_catK, str_catK]
      rfl
    clear hN hH hL hU hR n1 n2 n3 n4 hs hl hD
    go_enter Tryd.func29, Tryd.ntmps29
    go_wp2_with fail
    go_ret
    exact ⟨by rw [← HR.out]; first | rfl | simp, HFin.out⟩
end Go.Proofs.YtghepjjfdaecgaaDoor
