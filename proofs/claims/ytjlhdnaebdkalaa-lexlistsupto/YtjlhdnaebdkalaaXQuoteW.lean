/-
  Lines of commands: Quote in the program, walked.
-/
import Derived.Test.YtjlhdnaebdkalaaXQuote
import Derived.RegionTactic
import Derived.Deep.DrawnRows
import Derived.Laws.Shifts
import Derived.Laws.ShiftsVar
import Derived.Laws.ShiftsVarLaws
namespace Go.Proofs.Ytjlhdnaebdkalaa
open Go.RowKit
set_option linter.unusedVariables false
set_option maxRecDepth 100000

/-- A Builder of one's own, in its own block. -/
def Out (w0 w : World) (B b : Nat) (l : List UInt8) : Prop := (∃ cs v, BuilderIn w B b 0 39 cs v l ∧ (l = [] → v = .slice none 0 0)) ∧ B ≤ b ∧ Below B w0 w ∧ B ≤ w.heap.size
theorem Out.byte {w0 w : World} {B b : Nat} {l : List UInt8} (c : UInt8) (h : Out w0 w B b l) (hlen : l.length + 1 ≤ 140737488355328) : Calls Try.prog 18 #[.pointer (some ⟨b, 0, none⟩), .int .u8 c.toNat] w fun e w' => e = .returned .nilIface ∧ Out w0 w' B b (l ++ [c]) := by
  obtain ⟨⟨cs, v, h1, _⟩, h2, h3, h4⟩ := h
  refine (writeByte_in c h1 h4 hlen).mono ?_
  rintro e w' ⟨rfl, v', h5, h6⟩
  refine ⟨rfl, ⟨_, v', h5, fun e => by simp at e⟩, h2, h6.under h3 h4 fun k hk => ?_, Nat.le_trans h4 h6.size⟩
  rcases List.mem_cons.1 hk with e | e
  · rw [e]; exact h2
  · exact h1.own.base k (by simpa using e)
theorem Out.string {w0 w : World} {B b : Nat} {l : List UInt8} (t : ByteArray) (h : Out w0 w B b l) (hlen : l.length + t.size ≤ 140737488355328) (ht : t.data.toList ≠ []) : Calls Try.prog 28 #[.pointer (some ⟨b, 0, none⟩), .string t] w fun e w' => (∃ r, e = .returned r) ∧ Out w0 w' B b (l ++ t.data.toList) := by
  obtain ⟨⟨cs, v, h1, _⟩, h2, h3, h4⟩ := h
  refine (writeString_in t h1 h4 hlen).mono ?_
  rintro e w' ⟨hr, v', h5, h6⟩
  refine ⟨hr, ⟨_, v', h5, fun e => absurd (List.append_eq_nil_iff.1 e).2 ht⟩, h2, h6.under h3 h4 fun k hk => ?_, Nat.le_trans h4 h6.size⟩
  rcases List.mem_cons.1 hk with e | e
  · rw [e]; exact h2
  · exact h1.own.base k (by simpa using e)
theorem Out.text {w0 w : World} {B b : Nat} {l : List UInt8} (h : Out w0 w B b l) : Calls Try.prog 20 #[.pointer (some ⟨b, 0, none⟩)] w fun e w' => e = .returned (.string (str l)) ∧ Below B w0 w' := by
  obtain ⟨⟨cs, v, h1, h0⟩, h2, h3, h4⟩ := h
  refine (string_in h1 h0).mono ?_
  rintro e w' ⟨rfl, h5, h6⟩
  exact ⟨rfl, h6.under h3 h4 fun k hk => h1.own.base k (by simpa using hk)⟩
theorem liesB : liesAt Try.prog Try.prog.depth 39 (2 / Try.prog.cellsOf 39) 0 39 1 = true := by kernel_rfl
theorem Out.new (w : World) : Out w (w.alloc (.cells #[.pointer none, .slice none 0 0] 39)) w.heap.size w.heap.size [] :=
  ⟨⟨_, .slice none 0 0, ⟨new_at w _, .inl rfl, rfl, Owns.nil _ _, by decide, liesB⟩, fun _ => rfl⟩, Nat.le_refl _, (Below.refl _ _).alloc (Nat.le_refl _) _, by simp⟩

theorem shr3 : ∀ n : Fin 256, (n.val : Int) / 8 = ((n.val / 8 : Nat) : Int) := by intro n; omega
theorem and7 : ∀ n : Fin 256, bits BinOp.and IntKind.u8 (n.val : Int) 7 = ((n.val % 8 : Nat) : Int) := by decide +kernel
theorem d8 (c : UInt8) (h : c.toNat < 32) : (UInt8.ofNat (48 + c.toNat / 8)).toNat = 48 + c.toNat / 8 ∧ (UInt8.ofNat (48 + c.toNat % 8)).toNat = 48 + c.toNat % 8 := by
  constructor <;> rw [UInt8.toNat_ofNat'] <;> omega

set_option maxHeartbeats 1000000 in
theorem writeQuoted_out {w0 w : World} {B b : Nat} {l : List UInt8} (c : UInt8) (h : Out w0 w B b l) (hlen : l.length + 4 ≤ 140737488355328) : Calls Try.prog 19 #[.pointer (some ⟨b, 0, none⟩), .int .u8 c.toNat] w fun e w' => e = .returned (.tuple #[]) ∧ Out w0 w' B b (l ++ q1 c) := by
  have HO : Hid (Out w0 w B b l) := h
  have HW : Hid (∀ (d : UInt8) (k : List UInt8) W, Out w0 W B b k → k.length ≤ l.length + 3 → Calls Try.prog 18 #[.pointer (some ⟨b, 0, none⟩), .int .u8 d.toNat] W fun e w' => e = .returned .nilIface ∧ Out w0 w' B b (k ++ [d])) := fun d k W hk hl => hk.byte d (by omega)
  by_cases h1 : c.toNat = 34 ∨ c.toNat = 92
  · have HQ : Hid (q1 c = [92, c]) := by show _ = _; unfold q1; rw [if_pos h1]
    have HC : Hid (Calls Try.prog 18 #[.pointer (some ⟨b, 0, none⟩), .int .u8 92] w fun e w' => e = .returned .nilIface ∧ Out w0 w' B b (l ++ [92])) := HW.out 92 l w HO.out (by omega)
    obtain ⟨n, hn⟩ : ∃ n, c.toNat = n := ⟨_, rfl⟩
    have HN : Hid (c.toNat = n) := hn
    rw [hn] at h1 ⊢
    clear h hn
    rcases h1 with rfl | rfl
    all_goals (
      go_enter Try.func19, Try.ntmps19
      go_wp2_with fail
      refine HC.out.mono ?_
      rintro e w1 ⟨rfl, ho1⟩
      have HC2 := HW.out c _ w1 ho1 (by simp)
      rw [HN.out] at HC2
      have HC3 : Hid (Calls Try.prog 18 _ w1 _) := HC2
      clear HC2 ho1
      go_wp2_with fail
      refine HC3.out.mono ?_
      rintro e w2 ⟨rfl, ho2⟩
      have H2 : Hid (Out w0 w2 B b (l ++ [92] ++ [c])) := ho2
      clear ho2
      go_wp2
      go_end0
      exact ⟨rfl, by rw [HQ.out]; simpa using H2.out⟩)
  · by_cases h2 : c.toNat < 32
    · have HQ : Hid (q1 c = [92, 48, UInt8.ofNat (48 + c.toNat / 8), UInt8.ofNat (48 + c.toNat % 8)]) := by show _ = _; unfold q1; rw [if_neg h1, if_pos h2]
      have hd := d8 c h2
      obtain ⟨y, hy⟩ : ∃ y, UInt8.ofNat (48 + c.toNat / 8) = y := ⟨_, rfl⟩
      obtain ⟨z, hz⟩ : ∃ z, UInt8.ofNat (48 + c.toNat % 8) = z := ⟨_, rfl⟩
      rw [hy, hz] at HQ hd
      have a7 := and7 ⟨c.toNat, UInt8.toNat_lt c⟩
      simp only [] at a7
      obtain ⟨n, hn⟩ : ∃ n, c.toNat = n := ⟨_, rfl⟩
      rw [hn] at hd a7 h1 h2 ⊢
      obtain ⟨x8, hx8⟩ : ∃ x, (n : Int) / 8 = x := ⟨_, rfl⟩
      obtain ⟨z8, hz8⟩ : ∃ z, bits BinOp.and IntKind.u8 (n : Int) 7 = z := ⟨_, rfl⟩
      have ez : z8 = ((n % 8 : Nat) : Int) := hz8.symm.trans a7
      have bx : 0 ≤ x8 ∧ x8 < 8 := by omega
      have bz : 0 ≤ z8 ∧ z8 < 8 := by omega
      have n34 : ((n : Int) == 34) = false := by
        have : (n : Int) ≠ 34 := fun e => h1 (.inl (by omega))
        simpa using this
      have n92 : ((n : Int) == 92) = false := by
        have : (n : Int) ≠ 92 := fun e => h1 (.inr (by omega))
        simpa using this
      have d32 : decide ((n : Int) < 32) = true := by
        have : (n : Int) < 32 := by omega
        simpa using this
      have HY : Hid (48 + x8 = (y.toNat : Int)) := by show _ = _; rw [hd.1]; omega
      have HZ : Hid (48 + z8 = (z.toNat : Int)) := by show _ = _; rw [hd.2]; omega
      clear ez a7
      have HS : Hid (Calls Try.prog 28 #[.pointer (some ⟨b, 0, none⟩), .string ⟨#[92, 48]⟩] w fun e w' => (∃ r, e = .returned r) ∧ Out w0 w' B b (l ++ [92, 48])) := HO.out.string ⟨#[92, 48]⟩ (by show l.length + 2 ≤ _; omega) (by simp)
      clear h h1 hd hy hz hn
      go_enter Try.func19, Try.ntmps19
      go_wp2_with fail
      refine HS.out.mono ?_
      rintro e w1 ⟨⟨r, rfl⟩, ho1⟩
      have HC2 : Hid (Calls Try.prog 18 #[.pointer (some ⟨b, 0, none⟩), .int .u8 (48 + x8)] w1 fun e w' => e = .returned .nilIface ∧ Out w0 w' B b (l ++ [92, 48] ++ [y])) := by
        have h := HW.out y _ w1 ho1 (by simp)
        rw [← HY.out] at h
        exact h
      clear ho1 HS
      have e1 : IntKind.u8.wrap (48 + x8) = 48 + x8 := by rw [IntKind.wrap_u8]; omega
      have e2 : IntKind.u8.wrap (48 + z8) = 48 + z8 := by rw [IntKind.wrap_u8]; omega
      go_wp2_with fail
      refine HC2.out.mono ?_
      rintro e w2 ⟨rfl, ho2⟩
      have HC3 : Hid (Calls Try.prog 18 #[.pointer (some ⟨b, 0, none⟩), .int .u8 (48 + z8)] w2 fun e w' => e = .returned .nilIface ∧ Out w0 w' B b (l ++ [92, 48] ++ [y] ++ [z])) := by
        have h := HW.out z _ w2 ho2 (by simp)
        rw [← HZ.out] at h
        exact h
      clear ho2 HC2
      go_wp2_with fail
      refine HC3.out.mono ?_
      rintro e w3 ⟨rfl, ho3⟩
      have H3 : Hid (Out w0 w3 B b (l ++ [92, 48] ++ [y] ++ [z])) := ho3
      clear ho3
      go_wp2
      go_end0
      exact ⟨rfl, by rw [HQ.out]; simpa using H3.out⟩
    · have HQ : Hid (q1 c = [c]) := by show _ = _; unfold q1; rw [if_neg h1, if_neg h2]
      have HC := HW.out c l w HO.out (by omega)
      obtain ⟨n, hn⟩ : ∃ n, c.toNat = n := ⟨_, rfl⟩
      rw [hn] at HC h1 h2 ⊢
      have HC1 : Hid (Calls Try.prog 18 #[.pointer (some ⟨b, 0, none⟩), .int .u8 n] w fun e w' => e = .returned .nilIface ∧ Out w0 w' B b (l ++ [c])) := HC
      have n34 : ((n : Int) == 34) = false := by
        have : (n : Int) ≠ 34 := fun e => h1 (.inl (by omega))
        simpa using this
      have n92 : ((n : Int) == 92) = false := by
        have : (n : Int) ≠ 92 := fun e => h1 (.inr (by omega))
        simpa using this
      have d32 : decide ((n : Int) < 32) = false := by
        have : ¬ (n : Int) < 32 := by omega
        simpa using this
      clear h h1 h2 hn HC
      go_enter Try.func19, Try.ntmps19
      go_wp2_with fail
      refine HC1.out.mono ?_
      rintro e w2 ⟨rfl, ho2⟩
      have H2 : Hid (Out w0 w2 B b (l ++ [c])) := ho2
      clear ho2
      go_wp2
      go_end0
      exact ⟨rfl, by rw [HQ.out]; exact H2.out⟩

end Go.Proofs.Ytjlhdnaebdkalaa
