/-
  Sums: plan.Sum and the document's, for every text.
-/
import Derived.Test.YtpdmihkcifbpbaaRows
import Derived.Test.YtpdmihkcifbpbaaPlainN
import Derived.WalkKit
import Derived.Laws.BitsAll
import Derived.Deep.LoopGhost
namespace Go.Proofs.Ytpdmihkcifbpbaa
open Go.RowKit
set_option linter.unusedVariables false

/-- One step of a sum; the sum of a text. -/
def stepS (n : Nat) (c : UInt8) : Nat := (n / 2 + n % 2 * 32768 + c.toNat) % 65536
def sumS (l : List UInt8) : Nat := l.foldl stepS 0
theorem stepS_lt (n : Nat) (c : UInt8) : stepS n c < 65536 := Nat.mod_lt _ (by decide)
theorem fold_lt (l : List UInt8) : ∀ n, n < 65536 → l.foldl stepS n < 65536 := by
  induction l with
  | nil => exact fun n h => h
  | cons c r ih => exact fun n _ => ih _ (stepS_lt n c)
theorem sumS_lt (l : List UInt8) : sumS l < 65536 := fold_lt l 0 (by decide)
theorem sumS_snoc (l : List UInt8) (c : UInt8) : sumS (l ++ [c]) = stepS (sumS l) c := by unfold sumS; rw [List.foldl_append]; rfl
/-- The turn by one bit. -/
theorem turn_or (n : Nat) (h : n < 65536) : n / 2 ||| n % 2 * 32768 = n / 2 + n % 2 * 32768 := by
  have h1 : n / 2 < 2 ^ 15 := by omega
  rw [Nat.or_comm, Nat.mul_comm, show (32768 : Nat) = 2 ^ 15 from rfl, ← Nat.two_pow_add_eq_or_of_lt h1]
  omega

theorem turn_bits (n : Nat) (h : n < 65536) (x : Int) (hx : x = (n : Int) * 32768 % 65536) : bits .or .u16 ((n : Int) / 2) x = ((n / 2 + n % 2 * 32768 : Nat) : Int) := by
  have e : x = ((n % 2 * 32768 : Nat) : Int) := by omega
  rw [e, show (n : Int) / 2 = ((n / 2 : Nat) : Int) from rfl, u16_or_nat _ _ (by omega) (by omega), turn_or n h]

theorem step_val (n : Nat) (h : n < 65536) (c : UInt8) : IntKind.u16.wrap (bits .or .u16 ((n : Int) / 2) (IntKind.u16.wrap ((n : Int) * 32768)) + IntKind.u16.wrap (c.toNat : Int)) = ((stepS n c : Nat) : Int) := by
  have hc : c.toNat < 256 := c.toNat_lt
  rw [IntKind.wrap_u16, IntKind.wrap_u16, IntKind.wrap_u16, turn_bits n h _ rfl]
  unfold stepS
  omega

set_option maxHeartbeats 4000000 in
theorem sum_any (s : ByteArray) (w : World) (hs : s.size ≤ 9223372036854775807) :
    Calls Try.prog 5 #[.string s] w fun e w' => e = .returned (.int .i64 (sumS s.data.toList)) ∧ w = w' := by
  go_enter Try.func5, Try.ntmps5
  go_wp2
  go_loopg [3, 4] s.size (fun g s3 s4 wx => w = wx ∧ ∃ k n : Nat, k ≤ s.size ∧ g = s.size - k ∧ s4 = .int .i64 k ∧ s3 = .int .u16 n ∧ n < 65536 ∧ Hid (n = sumS (s.data.toList.take k)))
  case atStart => exact ⟨rfl, 0, 0, Nat.zero_le _, rfl, rfl, rfl, by decide, rfl⟩
  case round =>
    obtain ⟨rfl, k, n, hk, rfl, rfl, rfl, hn, hsum⟩ := hrel
    by_cases hkn : k < s.size
    · have hkz : (k : Int) < (s.size : Int) := by omega
      obtain ⟨x, hx⟩ : ∃ x : UInt8, s[k] = x := ⟨_, rfl⟩
      have HX : Hid (s[k] = x) := hx
      have hv := step_val n hn x
      go_wp2
      go_roundg (s.size - (k + 1))
      case measure => omega
      case rel => exact ⟨rfl, k + 1, stepS n x, by omega, rfl, by first | rfl | go_num, by rw [← hv], stepS_lt _ _, by show _ = _; rw [take_snoc s k hkn, HX.out, sumS_snoc, ← hsum.out]⟩
    · obtain rfl : k = s.size := by omega
      have hkz : ¬ ((s.size : Int) < (s.size : Int)) := by omega
      have hn2 : n = sumS s.data.toList := by rw [hsum.out, List.take_of_length_le (by rw [← Lib.size_eq]; exact Nat.le_refl _)]
      clear hsum
      subst hn2
      go_wp2
      go_ret
      exact ⟨rfl, rfl⟩

set_option maxHeartbeats 4000000 in
theorem refSum_any (s : ByteArray) (w : World) (hs : s.size ≤ 9223372036854775807) :
    Calls Try.prog 6 #[.string s] w fun e w' => e = .returned (.int .i64 (sumS s.data.toList)) ∧ w = w' := by
  go_enter Try.func6, Try.ntmps6
  go_wp2
  go_loopg [3, 4] s.size (fun g s3 s4 wx => w = wx ∧ ∃ k n : Nat, k ≤ s.size ∧ g = s.size - k ∧ s4 = .int .i64 k ∧ s3 = .int .i64 n ∧ n < 65536 ∧ Hid (n = sumS (s.data.toList.take k)))
  case atStart => exact ⟨rfl, 0, 0, Nat.zero_le _, rfl, rfl, rfl, by decide, rfl⟩
  case round =>
    obtain ⟨rfl, k, n, hk, rfl, rfl, rfl, hn, hsum⟩ := hrel
    by_cases hkn : k < s.size
    · have hkz : (k : Int) < (s.size : Int) := by omega
      obtain ⟨x, hx⟩ : ∃ x : UInt8, s[k] = x := ⟨_, rfl⟩
      have HX : Hid (s[k] = x) := hx
      have hx2 : x.toNat < 256 := x.toNat_lt
      go_wp2
      go_roundg (s.size - (k + 1))
      case measure => omega
      case rel =>
        refine ⟨rfl, k + 1, stepS n x, by omega, rfl, by first | rfl | go_num, ?_, stepS_lt _ _, by show _ = _; rw [take_snoc s k hkn, HX.out, sumS_snoc, ← hsum.out]⟩
        have e : ((n : Int) / 2 + 32768 * ((n : Int) % 2) + (x.toNat : Int)) % 65536 = ((stepS n x : Nat) : Int) := by unfold stepS; omega
        rw [e]
    · obtain rfl : k = s.size := by omega
      have hkz : ¬ ((s.size : Int) < (s.size : Int)) := by omega
      have hn2 : n = sumS s.data.toList := by rw [hsum.out, List.take_of_length_le (by rw [← Lib.size_eq]; exact Nat.le_refl _)]
      clear hsum
      subst hn2
      go_wp2
      go_ret
      exact ⟨rfl, rfl⟩

/-! Two sums. -/
theorem stepS_inj {m n : Nat} (hm : m < 65536) (hn : n < 65536) (c : UInt8) (h : stepS m c = stepS n c) : m = n := by
  unfold stepS at h
  have hc := c.toNat_lt
  obtain ⟨a, ha⟩ : ∃ a, m / 2 + m % 2 * 32768 = a := ⟨_, rfl⟩
  obtain ⟨b, hb⟩ : ∃ b, n / 2 + n % 2 * 32768 = b := ⟨_, rfl⟩
  rw [ha, hb] at h
  have h1 : a < 65536 := by omega
  have h2 : b < 65536 := by omega
  have h3 : a = b := by omega
  rcases Nat.mod_two_eq_zero_or_one m with p | p <;> rcases Nat.mod_two_eq_zero_or_one n with q | q <;> rw [p] at ha <;> rw [q] at hb <;> omega
theorem stepS_byte {n : Nat} {c d : UInt8} (h : stepS n c = stepS n d) : c = d := by
  unfold stepS at h
  have h1 := c.toNat_lt
  have h2 := d.toNat_lt
  exact UInt8.toNat_inj.1 (by omega)
theorem fold_inj (l : List UInt8) : ∀ m n, m < 65536 → n < 65536 → l.foldl stepS m = l.foldl stepS n → m = n := by
  induction l with
  | nil => exact fun m n _ _ h => h
  | cons c r ih => exact fun m n hm hn h => stepS_inj hm hn c (ih _ _ (stepS_lt _ _) (stepS_lt _ _) h)
/-- One byte changed. -/
theorem sumS_set (l : List UInt8) (k : Nat) (hk : k < l.length) (c : UInt8) (hc : l[k] ≠ c) : sumS (l.set k c) ≠ sumS l := by
  intro h
  have e1 : l.set k c = l.take k ++ c :: l.drop (k + 1) := by rw [List.set_eq_take_append_cons_drop, if_pos hk]
  have e2 : l = l.take k ++ l[k] :: l.drop (k + 1) := by rw [List.getElem_cons_drop, List.take_append_drop]
  rw [e1] at h
  have h' : sumS (l.take k ++ c :: l.drop (k + 1)) = sumS (l.take k ++ l[k] :: l.drop (k + 1)) := by rw [← e2]; exact h
  unfold sumS at h'
  rw [List.foldl_append, List.foldl_append, List.foldl_cons, List.foldl_cons] at h'
  exact hc (stepS_byte (fold_inj _ _ _ (stepS_lt _ _) (stepS_lt _ _) h')).symm

end Go.Proofs.Ytpdmihkcifbpbaa
