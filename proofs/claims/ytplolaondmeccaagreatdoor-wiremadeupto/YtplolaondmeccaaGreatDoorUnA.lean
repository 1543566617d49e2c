/-
  The walks of octal.byteOf, octal.firstCode, octal.firstEscaped.
-/
import Derived.Test.YtplolaondmeccaaGreatDoorEscA
import Derived.WalkKit
import Derived.OpenShut
import Derived.Laws.StructEq
import Derived.Laws.Tables
import Derived.RegionTactic
import Derived.Deep.RegionWith
import Derived.Deep.DrawnRows
namespace Go.Proofs.YtplolaondmeccaaGreatDoor
open Go.RowKit
set_option linter.unusedVariables false
attribute [local go_sem ↓] Go.wp_at_zero Go.wp_at_succ

theorem joined (c1 c2 c3 : UInt8) : ∃ b : UInt8, bits BinOp.or IntKind.u8 (bits BinOp.or IntKind.u8 (bits BinOp.and IntKind.u8 (c1.toNat : Int) 7 * 64 % 256) (bits BinOp.and IntKind.u8 (c2.toNat : Int) 7 * 8 % 256)) (bits BinOp.and IntKind.u8 (c3.toNat : Int) 7) = (b.toNat : Int) := by
  have h := wf_bits BinOp.or IntKind.u8 (bits BinOp.or IntKind.u8 (bits BinOp.and IntKind.u8 (c1.toNat : Int) 7 * 64 % 256) (bits BinOp.and IntKind.u8 (c2.toNat : Int) 7 * 8 % 256)) (bits BinOp.and IntKind.u8 (c3.toNat : Int) 7)
  have hb := bounds_u8 h
  refine ⟨UInt8.ofNat (bits BinOp.or IntKind.u8 (bits BinOp.or IntKind.u8 (bits BinOp.and IntKind.u8 (c1.toNat : Int) 7 * 64 % 256) (bits BinOp.and IntKind.u8 (c2.toNat : Int) 7 * 8 % 256)) (bits BinOp.and IntKind.u8 (c3.toNat : Int) 7)).toNat, ?_⟩
  rw [UInt8.toNat_ofNat']
  omega

theorem joined_code : ∀ n : Fin 256, bits BinOp.or IntKind.u8 (bits BinOp.or IntKind.u8 (bits BinOp.and IntKind.u8 ((48 + n.val / 64 : Nat) : Int) 7 * 64 % 256) (bits BinOp.and IntKind.u8 ((48 + n.val / 8 % 8 : Nat) : Int) 7 * 8 % 256)) (bits BinOp.and IntKind.u8 ((48 + n.val % 8 : Nat) : Int) 7) = ((n.val : Nat) : Int) := by decide +kernel
theorem joined_of {c0 c1 c2 c3 x b : UInt8} (h : code x = [c0, c1, c2, c3]) (hb : bits BinOp.or IntKind.u8 (bits BinOp.or IntKind.u8 (bits BinOp.and IntKind.u8 (c1.toNat : Int) 7 * 64 % 256) (bits BinOp.and IntKind.u8 (c2.toNat : Int) 7 * 8 % 256)) (bits BinOp.and IntKind.u8 (c3.toNat : Int) 7) = (b.toNat : Int)) : x = b := by
  unfold code at h
  simp only [List.cons.injEq] at h
  obtain ⟨_, rfl, rfl, rfl, _⟩ := h
  rw [d1_nat, d2_nat, d3_nat] at hb
  have := joined_code ⟨x.toNat, UInt8.toNat_lt x⟩
  have e : (x.toNat : Int) = (b.toNat : Int) := this.symm.trans hb
  exact UInt8.toNat_inj.1 (by omega)

/-- Four numbers against four. -/
def eqB (a0 a1 a2 a3 b0 b1 b2 b3 : Int) : Bool := decide (a0 = b0 ∧ a1 = b1 ∧ a2 = b2 ∧ a3 = b3)

theorem eqCode (a0 a1 a2 a3 b0 b1 b2 b3 : Int) (w : World) : (Op.equalIn 10000 124 (.agg #[.int .u8 a0, .int .u8 a1, .int .u8 a2, .int .u8 a3]) (.agg #[.int .u8 b0, .int .u8 b1, .int .u8 b2, .int .u8 b3])).run Tryz.prog w = .ok (eqB a0 a1 a2 a3 b0 b1 b2 b3) w := by
  have u5 := Tryz.underlying5
  have a5 := Tryz.isAgg5
  have z5 := Tryz.sizeOf5
  rw [show (10000 : Nat) = 9999 + 1 from rfl, Op.equalIn]
  simp only [Sem.run_bind, run_underlying Tryz.underlying124, Result.andThen_ok]
  simp only [Std.Legacy.Range.forIn_eq_forIn_range', Std.Legacy.Range.size, Nat.sub_zero, Nat.add_sub_cancel, Nat.div_one, List.range'_succ, List.range'_zero, List.forIn_cons, List.forIn_nil]
  unfold eqB
  go_simp
  by_cases h0 : a0 = b0 <;> by_cases h1 : a1 = b1 <;> by_cases h2 : a2 = b2 <;> by_cases h3 : a3 = b3 <;> simp [h0, h1, h2, h3]

theorem eqB_code {b c0 c1 c2 c3 : UInt8} : eqB 92 ((d1 b).toNat : Int) ((d2 b).toNat : Int) ((d3 b).toNat : Int) (c0.toNat : Int) (c1.toNat : Int) (c2.toNat : Int) (c3.toNat : Int) = true ↔ code b = [c0, c1, c2, c3] := by
  unfold eqB code
  rw [decide_eq_true_iff]
  simp only [List.cons.injEq, and_true]
  constructor
  · rintro ⟨h0, h1, h2, h3⟩
    refine ⟨UInt8.toNat_inj.1 ?_, UInt8.toNat_inj.1 (by omega), UInt8.toNat_inj.1 (by omega), UInt8.toNat_inj.1 (by omega)⟩
    have : (92 : UInt8).toNat = 92 := rfl
    omega
  · rintro ⟨rfl, rfl, rfl, rfl⟩
    exact ⟨rfl, rfl, rfl, rfl⟩

set_option maxHeartbeats 1000000 in
/-- The byte that four bytes write, or none. -/
theorem byteOf_any (c0 c1 c2 c3 : UInt8) (w : World) (hD : Digs w) :
    Calls Tryz.prog 173 #[.agg #[.int .u8 c0.toNat, .int .u8 c1.toNat, .int .u8 c2.toNat, .int .u8 c3.toNat]] w fun e w' =>
      ((∃ b : UInt8, e = .returned (.tuple #[.int .u8 b.toNat, .bool true]) ∧ code b = [c0, c1, c2, c3]) ∨ (e = .returned (.tuple #[.int .u8 0, .bool false]) ∧ ∀ b, code b ≠ [c0, c1, c2, c3])) ∧ Below w.heap.size w w' := by
  obtain ⟨b, hb⟩ := joined c1 c2 c3
  have HJ : Hid (∀ x, code x = [c0, c1, c2, c3] → x = b) := fun x hx => joined_of hx hb
  have hD2 : Digs (w.alloc (.cells #[.int .u8 c0.toNat, .int .u8 c1.toNat, .int .u8 c2.toNat, .int .u8 c3.toNat] 124)).drew := hD.below ((Below.refl _ _).alloc (Nat.le_refl _) _).drew hD.pos
  have heq := eqCode 92 ((d1 b).toNat : Int) ((d2 b).toNat : Int) ((d3 b).toNat : Int) (c0.toNat : Int) (c1.toNat : Int) (c2.toNat : Int) (c3.toNat : Int)
  have HB : Hid (Below w.heap.size w (w.alloc (.cells #[.int .u8 c0.toNat, .int .u8 c1.toNat, .int .u8 c2.toNat, .int .u8 c3.toNat] 124)).drew) := ((Below.refl _ _).alloc (Nat.le_refl _) _).drew
  by_cases hq : eqB 92 ((d1 b).toNat : Int) ((d2 b).toNat : Int) ((d3 b).toNat : Int) (c0.toNat : Int) (c1.toNat : Int) (c2.toNat : Int) (c3.toNat : Int) = true
  · go_enter Tryz.func173, Tryz.ntmps173
    go_wp2
    go_region_with (go_at_call 130; refine (codeOf_any b _ hD2).mono ?_; rintro e w1 ⟨rfl, hb1⟩; obtain ⟨hc1, hf1⟩ := bcell hb1)
    all_goals go_wp2
    all_goals go_ret2
    all_goals exact ⟨.inl ⟨b, rfl, eqB_code.1 hq⟩, HB.out.trans (hb1.mono (by simp))⟩
  · have hq' : eqB 92 ((d1 b).toNat : Int) ((d2 b).toNat : Int) ((d3 b).toNat : Int) (c0.toNat : Int) (c1.toNat : Int) (c2.toNat : Int) (c3.toNat : Int) = false := by simpa using hq
    have HN : Hid (∀ x, code x ≠ [c0, c1, c2, c3]) := fun x hx => hq (eqB_code.2 (HJ.out x hx ▸ hx))
    clear hq
    go_enter Tryz.func173, Tryz.ntmps173
    go_wp2
    go_region_with (go_at_call 130; refine (codeOf_any b _ hD2).mono ?_; rintro e w1 ⟨rfl, hb1⟩; obtain ⟨hc1, hf1⟩ := bcell hb1)
    all_goals go_wp2
    all_goals go_ret2
    all_goals exact ⟨.inr ⟨rfl, HN.out⟩, HB.out.trans (hb1.mono (by simp))⟩

set_option maxHeartbeats 1000000 in
theorem firstCode_no (s : ByteArray) (w : World) (h : s.size < 4) :
    Calls Tryz.prog 129 #[.string s] w fun e w' => e = .returned (.tuple #[.agg #[.int .u8 0, .int .u8 0, .int .u8 0, .int .u8 0], .bool false]) ∧ Below w.heap.size w w' := by
  go_enter Tryz.func129, Tryz.ntmps129
  go_wp2
  exact bodyPost_ret (v := .tuple #[.agg #[.int .u8 0, .int .u8 0, .int .u8 0, .int .u8 0], .bool false]) (by simp [results, Tryz.results129, go_sem]) rfl ⟨rfl, ((Below.refl _ _).alloc (Nat.le_refl _) _)⟩

set_option maxHeartbeats 1000000 in
theorem firstCode_yes (s : ByteArray) (w : World) (h : 4 ≤ s.size) (hm : s.size ≤ 140737488355328) :
    Calls Tryz.prog 129 #[.string s] w fun e w' => e = .returned (.tuple #[.agg #[.int .u8 s[0].toNat, .int .u8 s[1].toNat, .int .u8 s[2].toNat, .int .u8 s[3].toNat], .bool true]) ∧ Below w.heap.size w w' := by
  have j0 : 0 < s.size := by omega
  have j1 : 1 < s.size := by omega
  have j2 : 2 < s.size := by omega
  have j3 : 3 < s.size := by omega
  have i0 : (0 : Int) < (s.size : Int) := by omega
  have i1 : (1 : Int) < (s.size : Int) := by omega
  have i2 : (2 : Int) < (s.size : Int) := by omega
  have i3 : (3 : Int) < (s.size : Int) := by omega
  go_enter Tryz.func129, Tryz.ntmps129
  go_wp2
  go_region
  go_wp2
  exact bodyPost_ret (v := .tuple #[.agg #[.int .u8 s[0].toNat, .int .u8 s[1].toNat, .int .u8 s[2].toNat, .int .u8 s[3].toNat], .bool true]) (by simp [results, Tryz.results129, go_sem]) rfl ⟨rfl, ((Below.refl _ _).alloc (Nat.le_refl _) _).drew⟩

theorem four (s : ByteArray) (h : 4 ≤ s.size) : s.data.toList = [s[0], s[1], s[2], s[3]] ++ s.data.toList.drop 4 := by
  obtain ⟨⟨l⟩⟩ := s
  match l, h with
  | a :: b :: c :: d :: r, _ => rfl

theorem four_code {s : ByteArray} (h : 4 ≤ s.size) {b : UInt8} {r : List UInt8} (e : s.data.toList = code b ++ r) : code b = [s[0], s[1], s[2], s[3]] := by
  rw [four s h] at e
  exact (List.append_inj e rfl).1.symm

set_option maxHeartbeats 2000000 in
theorem firstEscaped_any (s : ByteArray) (w : World) (hD : Digs w) (hm : s.size ≤ 140737488355328) :
    Calls Tryz.prog 158 #[.string s] w fun e w' =>
      ((∃ (b : UInt8) (r : List UInt8), e = .returned (.tuple #[.int .u8 b.toNat, .bool true]) ∧ mustB b = true ∧ s.data.toList = code b ++ r) ∨ (e = .returned (.tuple #[.int .u8 0, .bool false]) ∧ ∀ b r, mustB b = true → s.data.toList ≠ code b ++ r)) ∧ Below w.heap.size w w' := by
  by_cases h4 : s.size < 4
  · have HN : Hid (∀ b r, mustB b = true → s.data.toList ≠ code b ++ r) := fun b r _ e => by
      have := congrArg List.length e
      rw [List.length_append, size_data, code_length] at this
      omega
    go_enter Tryz.func158, Tryz.ntmps158
    go_wp2_with (go_at_call 129; refine (firstCode_no _ _ h4).mono ?_; rintro e w1 ⟨rfl, hb1⟩)
    all_goals go_ret2
    exact ⟨.inr ⟨rfl, HN.out⟩, hb1.alloc hb1.size _⟩
  · have h4' : 4 ≤ s.size := by omega
    clear h4
    go_enter Tryz.func158, Tryz.ntmps158
    go_wp2_with (go_at_call 129; refine (firstCode_yes _ _ h4' hm).mono ?_; rintro e w1 ⟨rfl, hb1⟩)
    have hB : Below w.heap.size w (w1.alloc (.cells #[.int .u8 s[0].toNat, .int .u8 s[1].toNat, .int .u8 s[2].toNat, .int .u8 s[3].toNat] 124)) := hb1.alloc hb1.size _
    refine (byteOf_any _ _ _ _ _ (hD.below hB hD.pos)).mono ?_
    rintro e w2 ⟨h, hb2⟩
    have hB2 : Below w.heap.size w w2 := hB.trans (hb2.mono hB.size)
    rcases h with ⟨b, rfl, hcode⟩ | ⟨rfl, hno⟩
    · have HC : Hid (code b = [s[0], s[1], s[2], s[3]]) := hcode
      clear hcode hB hb2 hb1
      by_cases hmb : mustB b = true
      · go_wp2_with (go_at_call 157; refine (mustEscape_any _ _).mono ?_; rintro e w' ⟨rfl, rfl⟩)
        all_goals go_ret2
        exact ⟨.inl ⟨b, s.data.toList.drop 4, rfl, hmb, by rw [HC.out]; exact four s h4'⟩, hB2⟩
      · have hmb' : mustB b = false := by simpa using hmb
        clear hmb
        go_wp2_with (go_at_call 157; refine (mustEscape_any _ _).mono ?_; rintro e w' ⟨rfl, rfl⟩)
        all_goals go_ret2
        refine ⟨.inr ⟨rfl, fun x r hx e => ?_⟩, hB2⟩
        have := code_inj ((four_code h4' e).trans HC.out.symm)
        rw [this, hmb'] at hx
        cases hx
    · have HN : Hid (∀ x, code x ≠ [s[0], s[1], s[2], s[3]]) := hno
      clear hno hB hb2 hb1
      go_wp2
      all_goals go_ret2
      exact ⟨.inr ⟨rfl, fun x r hx e => HN.out x (four_code h4' e)⟩, hB2⟩
end Go.Proofs.YtplolaondmeccaaGreatDoor
