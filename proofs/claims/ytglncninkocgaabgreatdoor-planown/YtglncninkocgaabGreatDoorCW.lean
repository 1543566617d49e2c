/-
  Sums: plan.Sum and the document's, for every text.
  Plans: a text's head.
-/
import Derived.Test.YtglncninkocgaabGreatDoorRows
import Derived.Test.YtglncninkocgaabGreatDoorCQ
import Derived.Test.YtglncninkocgaabGreatDoorCC
import Derived.WalkKit
import Derived.Laws.BitsAll
import Derived.Deep.LoopGhost
import Derived.Deep.DeepCutAuto
import Derived.BigQuiet
import Derived.MapKept
namespace Go.Proofs.YtglncninkocgaabGreatDoor
open Go.RowKit
set_option linter.unusedVariables false

/-- One step of a sum; the sum of a text. -/
def stepS (n : Nat) (c : UInt8) : Nat := (n / 2 + n % 2 * 32768 + c.toNat) % 65536
def sumS (l : List UInt8) : Nat := l.foldl stepS 0
theorem stepS_lt (n : Nat) (c : UInt8) : stepS n c < 65536 := Nat.mod_lt _ (by decide)
theorem fold_lt (l : List UInt8) : ∀ n, n < 65536 → l.foldl stepS n < 65536 := by
  induction l with
  | nil => exact fun n h => h
  | cons c r ih => exact fun n _ => ih _ (stepS_lt n c)
theorem sumS_lt (l : List UInt8) : sumS l < 65536 := fold_lt l 0 (by decide)
theorem sumS_snoc (l : List UInt8) (c : UInt8) : sumS (l ++ [c]) = stepS (sumS l) c := by unfold sumS; rw [List.foldl_append]; rfl
/-- The turn by one bit. -/
theorem turn_or (n : Nat) (h : n < 65536) : n / 2 ||| n % 2 * 32768 = n / 2 + n % 2 * 32768 := by
  have h1 : n / 2 < 2 ^ 15 := by omega
  rw [Nat.or_comm, Nat.mul_comm, show (32768 : Nat) = 2 ^ 15 from rfl, ← Nat.two_pow_add_eq_or_of_lt h1]
  omega

theorem turn_bits (n : Nat) (h : n < 65536) (x : Int) (hx : x = (n : Int) * 32768 % 65536) : bits .or .u16 ((n : Int) / 2) x = ((n / 2 + n % 2 * 32768 : Nat) : Int) := by
  have e : x = ((n % 2 * 32768 : Nat) : Int) := by omega
  rw [e, show (n : Int) / 2 = ((n / 2 : Nat) : Int) from rfl, u16_or_nat _ _ (by omega) (by omega), turn_or n h]

theorem step_val (n : Nat) (h : n < 65536) (c : UInt8) : IntKind.u16.wrap (bits .or .u16 ((n : Int) / 2) (IntKind.u16.wrap ((n : Int) * 32768)) + IntKind.u16.wrap (c.toNat : Int)) = ((stepS n c : Nat) : Int) := by
  have hc : c.toNat < 256 := c.toNat_lt
  rw [IntKind.wrap_u16, IntKind.wrap_u16, IntKind.wrap_u16, turn_bits n h _ rfl]
  unfold stepS
  omega

set_option maxHeartbeats 4000000 in
theorem sum_any (s : ByteArray) (w : World) (hs : s.size ≤ 9223372036854775807) :
    Calls Tryz.prog 34 #[.string s] w fun e w' => e = .returned (.int .i64 (sumS s.data.toList)) ∧ w = w' := by
  go_enter Tryz.func34, Tryz.ntmps34
  go_wp2
  go_loopg [3, 4] s.size (fun g s3 s4 wx => w = wx ∧ ∃ k n : Nat, k ≤ s.size ∧ g = s.size - k ∧ s4 = .int .i64 k ∧ s3 = .int .u16 n ∧ n < 65536 ∧ Hid (n = sumS (s.data.toList.take k)))
  case atStart => exact ⟨rfl, 0, 0, Nat.zero_le _, rfl, rfl, rfl, by decide, rfl⟩
  case round =>
    obtain ⟨rfl, k, n, hk, rfl, rfl, rfl, hn, hsum⟩ := hrel
    by_cases hkn : k < s.size
    · have hkz : (k : Int) < (s.size : Int) := by omega
      obtain ⟨x, hx⟩ : ∃ x : UInt8, s[k] = x := ⟨_, rfl⟩
      have HX : Hid (s[k] = x) := hx
      have hv := step_val n hn x
      go_wp2
      go_roundg (s.size - (k + 1))
      case measure => omega
      case rel => exact ⟨rfl, k + 1, stepS n x, by omega, rfl, by first | rfl | go_num, by rw [← hv], stepS_lt _ _, by show _ = _; rw [take_snoc s k hkn, HX.out, sumS_snoc, ← hsum.out]⟩
    · obtain rfl : k = s.size := by omega
      have hkz : ¬ ((s.size : Int) < (s.size : Int)) := by omega
      have hn2 : n = sumS s.data.toList := by rw [hsum.out, List.take_of_length_le (by rw [← Lib.size_eq]; exact Nat.le_refl _)]
      clear hsum
      subst hn2
      go_wp2
      go_ret
      exact ⟨rfl, rfl⟩

set_option maxHeartbeats 4000000 in
theorem refSum_any (s : ByteArray) (w : World) (hs : s.size ≤ 9223372036854775807) :
    Calls Tryz.prog 14 #[.string s] w fun e w' => e = .returned (.int .i64 (sumS s.data.toList)) ∧ w = w' := by
  go_enter Tryz.func14, Tryz.ntmps14
  go_wp2
  go_loopg [3, 4] s.size (fun g s3 s4 wx => w = wx ∧ ∃ k n : Nat, k ≤ s.size ∧ g = s.size - k ∧ s4 = .int .i64 k ∧ s3 = .int .i64 n ∧ n < 65536 ∧ Hid (n = sumS (s.data.toList.take k)))
  case atStart => exact ⟨rfl, 0, 0, Nat.zero_le _, rfl, rfl, rfl, by decide, rfl⟩
  case round =>
    obtain ⟨rfl, k, n, hk, rfl, rfl, rfl, hn, hsum⟩ := hrel
    by_cases hkn : k < s.size
    · have hkz : (k : Int) < (s.size : Int) := by omega
      obtain ⟨x, hx⟩ : ∃ x : UInt8, s[k] = x := ⟨_, rfl⟩
      have HX : Hid (s[k] = x) := hx
      have hx2 : x.toNat < 256 := x.toNat_lt
      go_wp2
      go_roundg (s.size - (k + 1))
      case measure => omega
      case rel =>
        refine ⟨rfl, k + 1, stepS n x, by omega, rfl, by first | rfl | go_num, ?_, stepS_lt _ _, by show _ = _; rw [take_snoc s k hkn, HX.out, sumS_snoc, ← hsum.out]⟩
        have e : ((n : Int) / 2 + 32768 * ((n : Int) % 2) + (x.toNat : Int)) % 65536 = ((stepS n x : Nat) : Int) := by unfold stepS; omega
        rw [e]
    · obtain rfl : k = s.size := by omega
      have hkz : ¬ ((s.size : Int) < (s.size : Int)) := by omega
      have hn2 : n = sumS s.data.toList := by rw [hsum.out, List.take_of_length_le (by rw [← Lib.size_eq]; exact Nat.le_refl _)]
      clear hsum
      subst hn2
      go_wp2
      go_ret
      exact ⟨rfl, rfl⟩

/-! Two sums. -/
theorem stepS_inj {m n : Nat} (hm : m < 65536) (hn : n < 65536) (c : UInt8) (h : stepS m c = stepS n c) : m = n := by
  unfold stepS at h
  have hc := c.toNat_lt
  obtain ⟨a, ha⟩ : ∃ a, m / 2 + m % 2 * 32768 = a := ⟨_, rfl⟩
  obtain ⟨b, hb⟩ : ∃ b, n / 2 + n % 2 * 32768 = b := ⟨_, rfl⟩
  rw [ha, hb] at h
  have h1 : a < 65536 := by omega
  have h2 : b < 65536 := by omega
  have h3 : a = b := by omega
  rcases Nat.mod_two_eq_zero_or_one m with p | p <;> rcases Nat.mod_two_eq_zero_or_one n with q | q <;> rw [p] at ha <;> rw [q] at hb <;> omega
theorem stepS_byte {n : Nat} {c d : UInt8} (h : stepS n c = stepS n d) : c = d := by
  unfold stepS at h
  have h1 := c.toNat_lt
  have h2 := d.toNat_lt
  exact UInt8.toNat_inj.1 (by omega)
theorem fold_inj (l : List UInt8) : ∀ m n, m < 65536 → n < 65536 → l.foldl stepS m = l.foldl stepS n → m = n := by
  induction l with
  | nil => exact fun m n _ _ h => h
  | cons c r ih => exact fun m n hm hn h => stepS_inj hm hn c (ih _ _ (stepS_lt _ _) (stepS_lt _ _) h)
/-- One byte changed. -/
theorem sumS_set (l : List UInt8) (k : Nat) (hk : k < l.length) (c : UInt8) (hc : l[k] ≠ c) : sumS (l.set k c) ≠ sumS l := by
  intro h
  have e1 : l.set k c = l.take k ++ c :: l.drop (k + 1) := by rw [List.set_eq_take_append_cons_drop, if_pos hk]
  have e2 : l = l.take k ++ l[k] :: l.drop (k + 1) := by rw [List.getElem_cons_drop, List.take_append_drop]
  rw [e1] at h
  have h' : sumS (l.take k ++ c :: l.drop (k + 1)) = sumS (l.take k ++ l[k] :: l.drop (k + 1)) := by rw [← e2]; exact h
  unfold sumS at h'
  rw [List.foldl_append, List.foldl_append, List.foldl_cons, List.foldl_cons] at h'
  exact hc (stepS_byte (fold_inj _ _ _ (stepS_lt _ _) (stepS_lt _ _) h')).symm

end Go.Proofs.YtglncninkocgaabGreatDoor

namespace Go.Proofs.YtglncninkocgaabGreatDoor
open Go.RowKit
set_option linter.unusedVariables false
set_option maxRecDepth 20000

def hexB (n : Nat) : UInt8 := if n < 10 then UInt8.ofNat (48 + n) else UInt8.ofNat (87 + n)
def hexS : ByteArray := ⟨#[48, 49, 50, 51, 52, 53, 54, 55, 56, 57, 97, 98, 99, 100, 101, 102]⟩
theorem hex_at : ∀ n : Fin 16, hexS.data.toList[n.val]? = some (hexB n.val) := by decide +kernel
def headL (n : Nat) : List UInt8 := [hexB (n / 4096 % 16), hexB (n / 256 % 16), hexB (n / 16 % 16), hexB (n % 16), 44]

theorem tmod_nat (a b c d : Nat) (hb : b = 16) (h1 : a / 16 = c) (h2 : a % 16 = d) : (a : Int).tmod 16 = (d : Int) ∧ (a : Int).tdiv 16 = (c : Int) := by
  rw [Int.tmod_eq_emod_of_nonneg (by omega), Int.tdiv_eq_ediv_of_nonneg (by omega)]
  omega
theorem hex_get (k : Nat) (h : k < 16) (h' : k < hexS.size) : hexS[k] = hexB k := by
  have := hex_at ⟨k, h⟩
  simp only at this
  have e : hexS.data.toList[k]? = some hexS[k] := by
    have h2 : k < hexS.data.size := h'
    have h3 : hexS.data[k]? = some hexS.data[k] := Array.getElem?_eq_getElem h2
    rw [Array.getElem?_toList]
    exact h3
  rw [e] at this
  exact Option.some.inj this

def HeadAt (w0 W : World) (a b c d : Int) : Prop := W.heap[w0.heap.size]? = some (.cells #[.int .u8 a, .int .u8 b, .int .u8 c, .int .u8 d, .int .u8 44] 5 (0, 0)) ∧ Below w0.heap.size w0 W
theorem HeadAt.set {w0 W : World} {a b c d a' b' c' d' : Int} (h : HeadAt w0 W a b c d) (o : Nat) (v : Value) (hv : (#[.int .u8 a, .int .u8 b, .int .u8 c, .int .u8 d, .int .u8 44] : Array Value).setIfInBounds o v = #[.int .u8 a', .int .u8 b', .int .u8 c', .int .u8 d', .int .u8 44]) : HeadAt w0 (W.setCell ⟨w0.heap.size, o, none⟩ v) a' b' c' d' := by
  have hlt : w0.heap.size < W.heap.size := by
    rcases Nat.lt_or_ge w0.heap.size W.heap.size with h1 | h1
    · exact h1
    · have := h.1; rw [Array.getElem?_eq_none h1] at this; cases this
  have h' : W.heap[w0.heap.size] = .cells #[.int .u8 a, .int .u8 b, .int .u8 c, .int .u8 d, .int .u8 44] 5 (0, 0) := by have := h.1; simpa [Array.getElem?_eq_getElem hlt] using this
  refine ⟨?_, ⟨h.2.os, h.2.tape, h.2.output, by simpa [World.setCell] using h.2.size, fun k hk => ?_⟩⟩
  · show (W.heap.modify w0.heap.size _)[w0.heap.size]? = _
    rw [Array.getElem?_eq_getElem (by simpa using hlt), Array.getElem_modify_self, h', ← hv]
    rfl
  · exact (Below.heap_setCell _ _ _ _ (fun e => by simp only at e; omega)).trans (h.2.block k hk)
theorem HeadAt.cell {w0 W : World} {a b c d : Int} (h : HeadAt w0 W a b c d) (o : Nat) : W.cell? ⟨w0.heap.size, o, none⟩ = (#[.int .u8 a, .int .u8 b, .int .u8 c, .int .u8 d, .int .u8 44] : Array Value)[o]? ∧ W.frozen? ⟨w0.heap.size, o, none⟩ = false := by
  have h1 := h.1
  exact ⟨by simp [World.cell?, h1], by simp [World.frozen?, h1]⟩

set_option maxHeartbeats 4000000 in
theorem headOf_any (s : ByteArray) (w : World) (hs : s.size ≤ 9223372036854775807) : Calls Tryz.prog 20 #[.string s] w fun e w' => e = .returned (.string (str (headL (sumS s.data.toList)))) ∧ Below w.heap.size w w' := by
  obtain ⟨n, hn⟩ : ∃ n, sumS s.data.toList = n := ⟨_, rfl⟩
  have hlt : n < 65536 := by rw [← hn]; exact sumS_lt _
  have HS : Hid (∀ X, Calls Tryz.prog 34 #[.string s] X fun e w' => e = .returned (.int .i64 n) ∧ X = w') := fun X => by rw [← hn]; exact sum_any s X hs
  rw [hn]
  have H0 : Hid (HeadAt w (w.alloc (.cells #[.int .u8 0, .int .u8 0, .int .u8 0, .int .u8 0, .int .u8 44] 5)) 0 0 0 0) := ⟨(MapKept.heap_alloc w _).1, (Below.refl _ _).alloc (Nat.le_refl _) _⟩
  have HX : Hid (∀ k (h : k < 16) (h' : k < hexS.size), hexS[k] = hexB k) := hex_get
  clear hn hs
  go_enter Tryz.func20, Tryz.ntmps20
  go_wp2_with (go_at_call 34; refine (HS.out _).mono ?_; rintro e w1 ⟨rfl, rfl⟩)
  obtain ⟨n1, m0, e1, e2, e3⟩ : ∃ n1 m0 : Nat, n / 16 = n1 ∧ n % 16 = m0 ∧ m0 < 16 := ⟨_, _, rfl, rfl, by omega⟩
  obtain ⟨n2, m1, e4, e5, e6⟩ : ∃ n1 m0 : Nat, n / 256 = n1 ∧ n / 16 % 16 = m0 ∧ m0 < 16 := ⟨_, _, rfl, rfl, by omega⟩
  obtain ⟨n3, m2, e7, e8, e9⟩ : ∃ n1 m0 : Nat, n / 4096 = n1 ∧ n / 256 % 16 = m0 ∧ m0 < 16 := ⟨_, _, rfl, rfl, by omega⟩
  obtain ⟨m3, e10, e11⟩ : ∃ m0 : Nat, n / 4096 % 16 = m0 ∧ m0 < 16 := ⟨_, rfl, by omega⟩
  have HL : Hid (headL n = [hexB m3, hexB m2, hexB m1, hexB m0, 44]) := by show _ = _; unfold headL; rw [e10, e8, e5, e2]
  have t1 : (n : Int).tmod 16 = (m0 : Int) ∧ (n : Int).tdiv 16 = (n1 : Int) := tmod_nat n 16 n1 m0 rfl e1 e2
  have t2 : (n1 : Int).tmod 16 = (m1 : Int) ∧ (n1 : Int).tdiv 16 = (n2 : Int) := tmod_nat n1 16 n2 m1 rfl (by omega) (by omega)
  have t3 : (n2 : Int).tmod 16 = (m2 : Int) ∧ (n2 : Int).tdiv 16 = (n3 : Int) := tmod_nat n2 16 n3 m2 rfl (by omega) (by omega)
  have t4 : (n3 : Int).tmod 16 = (m3 : Int) ∧ (n3 : Int).tdiv 16 = ((0 : Nat) : Int) := tmod_nat n3 16 0 m3 rfl (by omega) (by omega)
  have hbn : n1 < 65536 ∧ n2 < 65536 ∧ n3 < 65536 := by omega
  clear e1 e2 e4 e5 e7 e8 e10
  go_loopw [3, 5] (fun v3 v5 wr => (v5 = .int .i64 3 ∧ v3 = .int .i64 (n : Nat) ∧ Hid (HeadAt w wr 0 0 0 0)) ∨ (v5 = .int .i64 2 ∧ v3 = .int .i64 (n1 : Nat) ∧ Hid (HeadAt w wr 0 0 0 (hexB m0).toNat)) ∨ (v5 = .int .i64 1 ∧ v3 = .int .i64 (n2 : Nat) ∧ Hid (HeadAt w wr 0 0 (hexB m1).toNat (hexB m0).toNat)) ∨ (v5 = .int .i64 0 ∧ v3 = .int .i64 (n3 : Nat) ∧ Hid (HeadAt w wr 0 (hexB m2).toNat (hexB m1).toNat (hexB m0).toNat)) ∨ (v5 = .int .i64 (-1) ∧ v3 = .int .i64 0 ∧ Hid (HeadAt w wr (hexB m3).toNat (hexB m2).toNat (hexB m1).toNat (hexB m0).toNat))) (fun _ v _ => (intOf v + 1).toNat)
  case atStart => exact .inl ⟨rfl, rfl, H0⟩
  case round =>
    clear H0
    rcases hrel with ⟨rfl, rfl, H⟩ | ⟨rfl, rfl, H⟩ | ⟨rfl, rfl, H⟩ | ⟨rfl, rfl, H⟩ | ⟨rfl, rfl, H⟩
    · obtain ⟨d1, d2⟩ := t1
      have y := HX.out m0 e3 e3
      obtain ⟨x, hx⟩ : ∃ x, hexB m0 = x := ⟨_, rfl⟩
      rw [hx] at y
      have HXx : Hid (hexB m0 = x) := hx
      unfold hexS at y
      have hz : (m0 : Int) < 16 := by omega
      obtain ⟨q, f⟩ := H.out.cell 3
      simp only [List.getElem?_toArray, List.getElem?_cons_succ, List.getElem?_cons_zero] at q
      clear t2 t3 t4 hx
      go_wp2
      refine ⟨.inr (.inl ⟨rfl, by go_num, by rw [HXx.out]; exact H.out.set 3 (.int .u8 x.toNat) rfl⟩), by decide⟩
    · obtain ⟨d1, d2⟩ := t2
      have y := HX.out m1 e6 e6
      obtain ⟨x, hx⟩ : ∃ x, hexB m1 = x := ⟨_, rfl⟩
      rw [hx] at y
      have HXx : Hid (hexB m1 = x) := hx
      unfold hexS at y
      have hz : (m1 : Int) < 16 := by omega
      obtain ⟨q, f⟩ := H.out.cell 2
      simp only [List.getElem?_toArray, List.getElem?_cons_succ, List.getElem?_cons_zero] at q
      clear t1 t3 t4 hx
      go_wp2
      refine ⟨.inr (.inr (.inl ⟨rfl, by go_num, by rw [HXx.out]; exact H.out.set 2 (.int .u8 x.toNat) rfl⟩)), by decide⟩
    · obtain ⟨d1, d2⟩ := t3
      have y := HX.out m2 e9 e9
      obtain ⟨x, hx⟩ : ∃ x, hexB m2 = x := ⟨_, rfl⟩
      rw [hx] at y
      have HXx : Hid (hexB m2 = x) := hx
      unfold hexS at y
      have hz : (m2 : Int) < 16 := by omega
      obtain ⟨q, f⟩ := H.out.cell 1
      simp only [List.getElem?_toArray, List.getElem?_cons_succ, List.getElem?_cons_zero] at q
      clear t1 t2 t4 hx
      go_wp2
      refine ⟨.inr (.inr (.inr (.inl ⟨rfl, by go_num, by rw [HXx.out]; exact H.out.set 1 (.int .u8 x.toNat) rfl⟩))), by decide⟩
    · obtain ⟨d1, d2⟩ := t4
      have y := HX.out m3 e11 e11
      obtain ⟨x, hx⟩ : ∃ x, hexB m3 = x := ⟨_, rfl⟩
      rw [hx] at y
      have HXx : Hid (hexB m3 = x) := hx
      unfold hexS at y
      have hz : (m3 : Int) < 16 := by omega
      obtain ⟨q, f⟩ := H.out.cell 0
      simp only [List.getElem?_toArray, List.getElem?_cons_zero] at q
      clear t1 t2 t3 hx
      go_wp2
      refine ⟨.inr (.inr (.inr (.inr ⟨rfl, by go_num, by rw [HXx.out]; exact H.out.set 0 (.int .u8 x.toNat) rfl⟩))), by decide⟩
    · have HO : Hid (Owns wr w.heap.size (.slice (some ⟨w.heap.size, 0, none⟩) 5 5) [hexB m3, hexB m2, hexB m1, hexB m0, 44]) := ⟨rfl, .inr ⟨w.heap.size, 5, _, rfl, Nat.le_refl _, H.out.1, Nat.le_refl _, by decide, rfl, rfl⟩⟩
      have hcv := HO.out.text (P := Tryz.prog) 67 9 5 Tryz.underlying67 Tryz.underlying5 Tryz.underlying9
      clear t1 t2 t3 t4
      go_wp2
      go_ret
      exact ⟨ret_str (by rw [HL.out]), H.out.2⟩
end Go.Proofs.YtglncninkocgaabGreatDoor
