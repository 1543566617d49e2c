/-
  Formats: what the heads of numbers and of truths are made of.
  Formats: what the heads of texts are made of.
  Formats: a head and its rest; a place's inside.
-/
import Derived.Test.YtlfcjcaofhcfnaaGreatDoorGN
import Derived.Test.YtlfcjcaofhcfnaaGreatDoorGK
import Derived.Test.YtlfcjcaofhcfnaaGreatDoorGI
import Derived.Laws.Cover1
namespace Go.Proofs.YtlfcjcaofhcfnaaGreatDoor
open Go.RowKit
set_option linter.unusedVariables false
set_option maxRecDepth 100000

theorem far_not {n : Int} (h : NumIn n) : farB n = false := by unfold farB; rw [decide_eq_false_iff_not]; obtain ⟨h1, h2⟩ := h; omega
theorem sum_of (w : World) : OfOk 55 #[] (fun a b => nearF (a + b)) w := by
  intro W hW a b ha hb
  refine (sum_any a b ha hb W).mono ?_
  rintro e w' ⟨n, rfl, rfl, h⟩
  obtain ⟨h1, h2⟩ := ha
  obtain ⟨h3, h4⟩ := hb
  refine ⟨n, true, rfl, Below.refl _ _, by omega, by omega, ?_⟩
  rcases h with ⟨rfl, -⟩ | ⟨h5, rfl⟩
  · simp [nearF]
  · rw [if_neg (by rintro ⟨-, h⟩; revert h; decide)]
    show nearF (a + b) = none
    rw [h5]
    rfl
theorem difference_of (w : World) : OfOk 56 #[] (fun a b => nearF (a - b)) w := by
  intro W hW a b ha hb
  refine (difference_any a b ha hb W).mono ?_
  rintro e w' ⟨n, rfl, rfl, h⟩
  obtain ⟨h1, h2⟩ := ha
  obtain ⟨h3, h4⟩ := hb
  refine ⟨n, true, rfl, Below.refl _ _, by omega, by omega, ?_⟩
  rcases h with ⟨rfl, -⟩ | ⟨h5, rfl⟩
  · simp [nearF]
  · rw [if_neg (by rintro ⟨-, h⟩; revert h; decide)]
    show nearF (a - b) = none
    rw [h5]
    rfl
theorem product_of (w : World) : OfOk 57 #[] (fun a b => nearF (a * b)) w := by
  intro W hW a b ha hb
  refine (product_any a b ha hb W).mono ?_
  rintro e w' ⟨rfl, rfl⟩
  cases hf : farB (a * b) with
  | true => exact ⟨0, false, rfl, Below.refl _ _, by omega, by omega, by simp [nearF, hf]⟩
  | false =>
    have h := hf
    unfold farB at h
    rw [decide_eq_false_iff_not] at h
    exact ⟨a * b, true, rfl, Below.refl _ _, by omega, by omega, by simp [nearF, hf]⟩
theorem tdiv_in {a b : Int} (ha : NumIn a) : NumIn (a.tdiv b) := by
  have hq : (a.tdiv b).natAbs ≤ a.natAbs := by rw [Int.natAbs_tdiv]; exact Nat.div_le_self _ _
  obtain ⟨h1, h2⟩ := ha
  unfold NumIn
  omega
theorem tmod_in {a b : Int} (ha : NumIn a) : NumIn (a.tmod b) := by
  have hq : (a.tmod b).natAbs ≤ a.natAbs := by rw [Int.natAbs_tmod]; exact Nat.mod_le _ _
  obtain ⟨h1, h2⟩ := ha
  unfold NumIn
  omega
theorem quotient_of (w : World) : OfOk 58 #[] (fun a b => if b = 0 then none else some (a.tdiv b)) w := by
  intro W hW a b ha hb
  refine (quotient_any a b ha hb W).mono ?_
  rintro e w' ⟨rfl, rfl⟩
  by_cases h0 : b = 0
  · rw [if_pos h0]
    exact ⟨0, false, rfl, Below.refl _ _, by omega, by omega, by simp [h0]⟩
  · rw [if_neg h0]
    have hi := tdiv_in (b := b) ha
    have hf := far_not hi
    obtain ⟨h1, h2⟩ := hi
    exact ⟨a.tdiv b, true, rfl, Below.refl _ _, by omega, by omega, by simp [h0, hf]⟩
theorem remainder_of (w : World) : OfOk 59 #[] (fun a b => if b = 0 then none else some (a.tmod b)) w := by
  intro W hW a b ha hb
  refine (remainder_any a b ha hb W).mono ?_
  rintro e w' ⟨rfl, rfl⟩
  by_cases h0 : b = 0
  · rw [if_pos h0]
    exact ⟨0, false, rfl, Below.refl _ _, by omega, by omega, by simp [h0]⟩
  · rw [if_neg h0]
    have hi := tmod_in (b := b) ha
    have hf := far_not hi
    obtain ⟨h1, h2⟩ := hi
    exact ⟨a.tmod b, true, rfl, Below.refl _ _, by omega, by omega, by simp [h0, hf]⟩
/-- A comparison of numbers. -/
def CmpOk (g : Nat) (q : Int → Int → Bool) : Prop := ∀ a b W, Calls Tryz.prog g #[.int .i64 a, .int .i64 b] W fun e w' => e = .returned (.bool (q a b)) ∧ W = w'
theorem cmp_eq : CmpOk 61 (fun a b => decide (a = b)) := by
  intro a b w
  by_cases h : a = b
  · subst h
    go_enter Tryz.func61, Tryz.ntmps61
    go_wp2_with fail
    all_goals go_ret
    all_goals exact ⟨by simp, rfl⟩
  · have h2 : (a == b) = false := by simpa using h
    go_enter Tryz.func61, Tryz.ntmps61
    go_wp2_with fail
    all_goals go_ret
    all_goals exact ⟨by simp [h], rfl⟩
theorem cmp_lt : CmpOk 62 (fun a b => decide (a < b)) := by
  intro a b w
  go_enter Tryz.func62, Tryz.ntmps62
  go_wp2_with fail
  all_goals go_ret
  all_goals exact ⟨by simp, rfl⟩
theorem cmp_gt : CmpOk 63 (fun a b => decide (b < a)) := by
  intro a b w
  go_enter Tryz.func63, Tryz.ntmps63
  go_wp2_with fail
  all_goals go_ret
  all_goals exact ⟨by simp, rfl⟩
set_option maxHeartbeats 1000000 in
theorem whether_of {g : Nat} (hg : Enters g) {q : Int → Int → Bool} (hc : CmpOk g q) {w : World} {ic : Nat} (h1 : w.cell? ⟨ic, 0, none⟩ = some (.func (.func g) #[] #[])) : OfOk 107 #[.pointer (some ⟨ic, 0, none⟩)] (fun a b => some (unitF (q a b))) w := by
  intro W hW a b ha hb
  unfold Enters at hg
  have hq := cell_later hW h1
  have HC := hidK (hc a b W)
  show Calls Tryz.prog 107 #[.int .i64 a, .int .i64 b, .pointer (some ⟨ic, 0, none⟩)] W _
  obtain ⟨Q, hQ⟩ : ∃ Q, q a b = Q := ⟨_, rfl⟩
  simp only [hQ] at HC ⊢
  clear hQ hc ha hb h1 hW
  cases Q with
  | true =>
    go_enter Tryz.func107, Tryz.ntmps107
    go_wp2_with (go_at_fn g; refine HC.out.mono ?_; rintro x w2 ⟨rfl, rfl⟩)
    all_goals go_ret2
    all_goals exact ⟨1, true, rfl, Below.refl _ _, by omega, by omega, rfl⟩
  | false =>
    go_enter Tryz.func107, Tryz.ntmps107
    go_wp2_with (go_at_fn g; refine HC.out.mono ?_; rintro x w2 ⟨rfl, rfl⟩)
    all_goals go_ret2
    all_goals exact ⟨0, true, rfl, Below.refl _ _, by omega, by omega, rfl⟩
theorem or_is (w : World) : IsBOk 52 #[] (fun a b => a || b) w := by
  intro W hW a b
  show Calls Tryz.prog 52 #[.bool a, .bool b] W _
  cases a <;> cases b <;>
  · go_enter Tryz.func52, Tryz.ntmps52
    go_wp2_with fail
    all_goals go_ret
    all_goals exact ⟨rfl, Below.refl _ _⟩
theorem and_is (w : World) : IsBOk 53 #[] (fun a b => a && b) w := by
  intro W hW a b
  show Calls Tryz.prog 53 #[.bool a, .bool b] W _
  cases a <;> cases b <;>
  · go_enter Tryz.func53, Tryz.ntmps53
    go_wp2_with fail
    all_goals go_ret
    all_goals exact ⟨rfl, Below.refl _ _⟩
end Go.Proofs.YtlfcjcaofhcfnaaGreatDoor

namespace Go.Proofs.YtlfcjcaofhcfnaaGreatDoor
open Go.RowKit
set_option linter.unusedVariables false
set_option maxRecDepth 100000

theorem eq_is (w : World) : IsOk 45 #[] (fun a b => a == b) w := by
  intro W hW a b ha hb
  show Calls Tryz.prog 45 #[.string (str a), .string (str b)] W _
  have hq1 := str_toList a
  have hq2 := str_toList b
  obtain ⟨x, hx⟩ : ∃ x, str a = x := ⟨_, rfl⟩
  obtain ⟨y, hy⟩ : ∃ y, str b = y := ⟨_, rfl⟩
  rw [hx] at hq1
  rw [hy] at hq2
  rw [hx, hy]
  have HA := hidK hq1
  have HB := hidK hq2
  clear hx hy hq1 hq2
  go_enter Tryz.func45, Tryz.ntmps45
  go_wp2_with fail
  all_goals go_ret
  all_goals exact ⟨by rw [← HA.out, ← HB.out]; rfl, Below.refl _ _⟩
theorem ne_is (w : World) : IsOk 46 #[] (fun a b => a != b) w := by
  intro W hW a b ha hb
  show Calls Tryz.prog 46 #[.string (str a), .string (str b)] W _
  have hq1 := str_toList a
  have hq2 := str_toList b
  obtain ⟨x, hx⟩ : ∃ x, str a = x := ⟨_, rfl⟩
  obtain ⟨y, hy⟩ : ∃ y, str b = y := ⟨_, rfl⟩
  rw [hx] at hq1
  rw [hy] at hq2
  rw [hx, hy]
  have HA := hidK hq1
  have HB := hidK hq2
  clear hx hy hq1 hq2
  go_enter Tryz.func46, Tryz.ntmps46
  go_wp2_with fail
  all_goals go_ret
  all_goals exact ⟨by rw [← HA.out, ← HB.out]; rfl, Below.refl _ _⟩
theorem lt_is (w : World) : IsOk 47 #[] (fun a b => Op.bytesLess a b) w := by
  intro W hW a b ha hb
  show Calls Tryz.prog 47 #[.string (str a), .string (str b)] W _
  have hq1 := str_toList a
  have hq2 := str_toList b
  obtain ⟨x, hx⟩ : ∃ x, str a = x := ⟨_, rfl⟩
  obtain ⟨y, hy⟩ : ∃ y, str b = y := ⟨_, rfl⟩
  rw [hx] at hq1
  rw [hy] at hq2
  rw [hx, hy]
  have HA := hidK hq1
  have HB := hidK hq2
  clear hx hy hq1 hq2
  go_enter Tryz.func47, Tryz.ntmps47
  go_wp2_with fail
  all_goals go_ret
  all_goals exact ⟨by rw [← HA.out, ← HB.out]; rfl, Below.refl _ _⟩
theorem gt_is (w : World) : IsOk 48 #[] (fun a b => !Op.bytesLess a b && !(a == b)) w := by
  intro W hW a b ha hb
  show Calls Tryz.prog 48 #[.string (str a), .string (str b)] W _
  have hq1 := str_toList a
  have hq2 := str_toList b
  obtain ⟨x, hx⟩ : ∃ x, str a = x := ⟨_, rfl⟩
  obtain ⟨y, hy⟩ : ∃ y, str b = y := ⟨_, rfl⟩
  rw [hx] at hq1
  rw [hy] at hq2
  rw [hx, hy]
  have HA := hidK hq1
  have HB := hidK hq2
  clear hx hy hq1 hq2
  go_enter Tryz.func48, Tryz.ntmps48
  go_wp2_with fail
  all_goals go_ret
  all_goals exact ⟨by rw [← HA.out, ← HB.out]; rfl, Below.refl _ _⟩
theorem le_is (w : World) : IsOk 49 #[] (fun a b => Op.bytesLess a b || a == b) w := by
  intro W hW a b ha hb
  show Calls Tryz.prog 49 #[.string (str a), .string (str b)] W _
  have hq1 := str_toList a
  have hq2 := str_toList b
  obtain ⟨x, hx⟩ : ∃ x, str a = x := ⟨_, rfl⟩
  obtain ⟨y, hy⟩ : ∃ y, str b = y := ⟨_, rfl⟩
  rw [hx] at hq1
  rw [hy] at hq2
  rw [hx, hy]
  have HA := hidK hq1
  have HB := hidK hq2
  clear hx hy hq1 hq2
  go_enter Tryz.func49, Tryz.ntmps49
  go_wp2_with fail
  all_goals go_ret
  all_goals exact ⟨by rw [← HA.out, ← HB.out]; rfl, Below.refl _ _⟩
theorem ge_is (w : World) : IsOk 50 #[] (fun a b => !Op.bytesLess a b) w := by
  intro W hW a b ha hb
  show Calls Tryz.prog 50 #[.string (str a), .string (str b)] W _
  have hq1 := str_toList a
  have hq2 := str_toList b
  obtain ⟨x, hx⟩ : ∃ x, str a = x := ⟨_, rfl⟩
  obtain ⟨y, hy⟩ : ∃ y, str b = y := ⟨_, rfl⟩
  rw [hx] at hq1
  rw [hy] at hq2
  rw [hx, hy]
  have HA := hidK hq1
  have HB := hidK hq2
  clear hx hy hq1 hq2
  go_enter Tryz.func50, Tryz.ntmps50
  go_wp2_with fail
  all_goals go_ret
  all_goals exact ⟨by rw [← HA.out, ← HB.out]; rfl, Below.refl _ _⟩
theorem match_is (w : World) : IsOk 13 #[] (fun a b => mat (dtoksF a) b) w := by
  intro W hW a b ha hb
  exact match_any a b ha (by omega) W
theorem loop_short (pl : List UInt8 → Res) (vs : Vars) : ∀ (f : Nat) (l said s : List UInt8), loopF pl vs f l said = some (.ok s) → said.length ≤ 1024 → s.length ≤ 1024
  | 0, l, said, s, h, hs => by
    simp only [loopF, Option.some.injEq, Except.ok.injEq] at h
    subst h
    exact hs
  | f + 1, l, said, s, h, hs => by
    unfold loopF at h
    split at h
    · simp only [Option.some.injEq, Except.ok.injEq] at h
      subst h
      exact hs
    · split at h
      · cases h
      · cases h
      · split at h
        · cases h
        · exact loop_short pl vs f _ _ s h (by rw [List.length_append]; omega)
theorem say_short {vs : Vars} {r : Nat} {l s : List UInt8} (h : sayF vs r l = some (.ok s)) : s.length ≤ 1024 := by
  cases r with
  | zero => exact loop_short _ _ _ _ _ s h (by simp)
  | succ r => exact loop_short _ _ _ _ _ s h (by simp)
theorem operand_short {vs : Vars} {r : Nat} (hv : ∀ p ∈ vs, p.2.length ≤ 2147483647) {p s : List UInt8} (h : operandF (sayF vs r) vs p = some (.ok s)) : s.length ≤ 2147483647 := by
  unfold operandF at h
  split at h
  · simp only [Option.some.injEq, Except.ok.injEq] at h
    subst h
    exact val_short hv p
  · have := say_short h
    omega

/-- What the parts mean, told by what a part says. -/
theorem mean_say {r : Nat} (hS : SayOk r) {w : World} {xb : Nat} {vs : Vars} (hX : XE w xb vs) : MeanOk 10 (sayF vs r) w xb ((16 : Int) - (r : Int)) := fun W hW q hq res h => hS W xb vs (hX.below hW) q hq res h
theorem mean_operand {r : Nat} (hS : SayOk r) (hr : r ≤ 16) {w : World} {xb : Nat} {vs : Vars} (hX : XE w xb vs) : MeanOk 100 (operandF (sayF vs r) vs) w xb ((16 : Int) - (r : Int)) := fun W hW q hq res h => operand_any hS hr (hX.below hW) q hq res h
theorem say_short' {vs : Vars} {r : Nat} (q s : List UInt8) (h : sayF vs r q = some (.ok s)) : s.length ≤ 2147483647 := by
  have := say_short h
  omega
theorem operand_short' {vs : Vars} {r : Nat} (hv : ∀ p ∈ vs, p.2.length ≤ 2147483647) (q s : List UInt8) (h : operandF (sayF vs r) vs q = some (.ok s)) : s.length ≤ 2147483647 := operand_short hv h
end Go.Proofs.YtlfcjcaofhcfnaaGreatDoor

namespace Go.Proofs.YtlfcjcaofhcfnaaGreatDoor
open Go.RowKit
set_option linter.unusedVariables false
set_option maxRecDepth 100000

theorem zeroHead (w : World) : (zeroValue 92).run Tryz.prog w = .ok .nilFunc w := by kernel_rfl
theorem XE.turnX {w : World} {xb : Nat} {vs : Vars} (h : XE w xb vs) : ∃ mt w0, TurnX w xb mt w0 := by
  obtain ⟨mh, mt, w0, h1, h2, h3⟩ := h.all.at_
  obtain ⟨sv, mf, m, k1, _⟩ := h1.blk
  exact ⟨mt, w0, cell_atT k1 3, h3, h.env⟩
theorem XE.heads {w : World} {xb : Nat} {vs : Vars} (h : XE w xb vs) : ∃ mh m, w.cell? ⟨xb, 2, none⟩ = some (.map (some mh)) ∧ MapAt w mh m ∧ m.map (·.1) = headNames ∧ HdsOk w xb (mh + 1) m := by
  obtain ⟨mh, mt, w0, h1, ⟨m, h2, h3, h4⟩, _⟩ := h.all.at_
  obtain ⟨sv, mf, m', k1, _⟩ := h1.blk
  exact ⟨mh, m, cell_atT k1 2, h2, h3, h4⟩
/-- What a head's value does. -/
def HeadDoes (w : World) (xb : Nat) (v : Value) (p : List UInt8) (d : Int) (res : Except Int (List UInt8)) : Prop := ∃ g, Enters g ∧ ((∃ lb, v = .func (.func g) #[] lb ∧ Calls Tryz.prog g (#[.string (str p), .int .i64 d] ++ lb) w fun e w' => Out res e ∧ Below w.heap.size w w') ∨ (v = .func (.func g) #[.pointer (some ⟨xb, 0, none⟩)] #[] ∧ Calls Tryz.prog g #[.pointer (some ⟨xb, 0, none⟩), .string (str p), .int .i64 d] w fun e w' => Out res e ∧ Below w.heap.size w w'))
theorem does_texts {r : Nat} (hS : SayOk r) {w : World} {xb B : Nat} {vs : Vars} (hX : XE w xb vs) {g : Nat} (hg : Enters g) {q : List UInt8 → List UInt8 → Bool} (hq : IsOk g #[] q w) {v : Value} (hv : Texs w xb B g v) (p : List UInt8) (hp : p.length ≤ 2147483647) (res : Except Int (List UInt8)) (h : textsF q (bothF (sayF vs r) p) = some res) : HeadDoes w xb v p ((16 : Int) - (r : Int)) res := by
  obtain ⟨xc, oc, rfl, h2, h3, _⟩ := hv
  exact ⟨_, enters_of Tryz.func96 (by kernel_rfl) rfl, .inl ⟨_, rfl, texts_head hg hq (mean_say hS hX) say_short' h2 h3 p hp res h⟩⟩
theorem does_truths {r : Nat} (hS : SayOk r) (hr : r ≤ 16) {w : World} {xb B : Nat} {vs : Vars} (hX : XE w xb vs) {g : Nat} (hg : Enters g) {q : Bool → Bool → Bool} (hq : IsBOk g #[] q w) {v : Value} (hv : Trus w xb B g v) (p : List UInt8) (hp : p.length ≤ 2147483647) (res : Except Int (List UInt8)) (h : textsF (fun a b => q (truthF a) (truthF b)) (bothF (operandF (sayF vs r) vs) p) = some res) : HeadDoes w xb v p ((16 : Int) - (r : Int)) res := by
  obtain ⟨xc, oc, rfl, h2, h3, _⟩ := hv
  exact ⟨_, enters_of Tryz.func99 (by kernel_rfl) rfl, .inl ⟨_, rfl, truths_head hg hq (mean_operand hS hr hX) (operand_short' hX.short) h2 h3 p hp res h⟩⟩
theorem does_numbers {r : Nat} (hS : SayOk r) (hr : r ≤ 16) {w : World} {xb B : Nat} {vs : Vars} (hX : XE w xb vs) {g : Nat} (hg : Enters g) {lb : Array Value} {op : Int → Int → Option Int} (hq : OfOk g lb op w) {v : Value} (hv : Boxed w xb B 102 g lb v) (p : List UInt8) (hp : p.length ≤ 2147483647) (res : Except Int (List UInt8)) (h : numbersF op (bothF (operandF (sayF vs r) vs) p) = some res) : HeadDoes w xb v p ((16 : Int) - (r : Int)) res := by
  obtain ⟨xc, oc, rfl, h2, h3, _⟩ := hv
  exact ⟨_, enters_of Tryz.func102 (by kernel_rfl) rfl, .inl ⟨_, rfl, numbers_head hg hX.env hq (mean_operand hS hr hX) (operand_short' hX.short) h2 h3 p hp res h⟩⟩
theorem ent (g : Nat) {fn : Func} {c : Code} (hf : Tryz.prog.funcs[g]? = some fn) (hn : (fn.name == "runtime.NumGoroutine") = false) (hb : fn.body = some c) : Enters g := enters_of hf hn hb
theorem does_cmps {r : Nat} (hS : SayOk r) (hr : r ≤ 16) {w : World} {xb B : Nat} {vs : Vars} (hX : XE w xb vs) {g : Nat} (hg : Enters g) {q : Int → Int → Bool} (hq : CmpOk g q) {v : Value} (hv : Cmps w xb B g v) (p : List UInt8) (hp : p.length ≤ 2147483647) (res : Except Int (List UInt8)) (h : numbersF (fun a b => some (unitF (q a b))) (bothF (operandF (sayF vs r) vs) p) = some res) : HeadDoes w xb v p ((16 : Int) - (r : Int)) res := by
  obtain ⟨ic, h1, h2, _⟩ := hv
  exact does_numbers hS hr hX (enters_of Tryz.func107 (by kernel_rfl) rfl) (whether_of hg hq h2) h1 p hp res h
theorem head_does {r : Nat} (hS : SayOk r) (hr : r ≤ 16) {w : World} {xb B : Nat} {vs : Vars} (hX : XE w xb vs) (hd : Hd) {v : Value} (hv : HdAt w xb B hd v) (p : List UInt8) (hp : p.length ≤ 2147483647) (res : Except Int (List UInt8)) (h : hd.run (sayF vs r) vs p = some res) : HeadDoes w xb v p ((16 : Int) - (r : Int)) res := by
  cases hd with
  | eq => exact does_texts hS hX (enters_of Tryz.func45 (by kernel_rfl) rfl) (eq_is w) hv p hp res h
  | ne => exact does_texts hS hX (enters_of Tryz.func46 (by kernel_rfl) rfl) (ne_is w) hv p hp res h
  | lt => exact does_texts hS hX (enters_of Tryz.func47 (by kernel_rfl) rfl) (lt_is w) hv p hp res h
  | gt => exact does_texts hS hX (enters_of Tryz.func48 (by kernel_rfl) rfl) (gt_is w) hv p hp res h
  | le => exact does_texts hS hX (enters_of Tryz.func49 (by kernel_rfl) rfl) (le_is w) hv p hp res h
  | ge => exact does_texts hS hX (enters_of Tryz.func50 (by kernel_rfl) rfl) (ge_is w) hv p hp res h
  | mt => exact does_texts hS hX (enters_of Tryz.func13 (by kernel_rfl) rfl) (match_is w) hv p hp res h
  | or => exact does_truths hS hr hX (enters_of Tryz.func52 (by kernel_rfl) rfl) (or_is w) hv p hp res h
  | an => exact does_truths hS hr hX (enters_of Tryz.func53 (by kernel_rfl) rfl) (and_is w) hv p hp res h
  | sm => exact does_numbers hS hr hX (enters_of Tryz.func55 (by kernel_rfl) rfl) (sum_of w) hv p hp res h
  | df => exact does_numbers hS hr hX (enters_of Tryz.func56 (by kernel_rfl) rfl) (difference_of w) hv p hp res h
  | pr => exact does_numbers hS hr hX (enters_of Tryz.func57 (by kernel_rfl) rfl) (product_of w) hv p hp res h
  | qt => exact does_numbers hS hr hX (enters_of Tryz.func58 (by kernel_rfl) rfl) (quotient_of w) hv p hp res h
  | rm => exact does_numbers hS hr hX (enters_of Tryz.func59 (by kernel_rfl) rfl) (remainder_of w) hv p hp res h
  | eqn => exact does_cmps hS hr hX (enters_of Tryz.func61 (by kernel_rfl) rfl) cmp_eq hv p hp res h
  | ltn => exact does_cmps hS hr hX (enters_of Tryz.func62 (by kernel_rfl) rfl) cmp_lt hv p hp res h
  | gtn => exact does_cmps hS hr hX (enters_of Tryz.func63 (by kernel_rfl) rfl) cmp_gt hv p hp res h
  | neg =>
    exact ⟨_, enters_of Tryz.func64 (by kernel_rfl) rfl, .inr ⟨hv, not_head (mean_operand hS hr hX) p hp res h⟩⟩
  | lit =>
    have e : res = .ok p := (Option.some.inj h).symm
    subst e
    exact ⟨_, enters_of Tryz.func65 (by kernel_rfl) rfl, .inl ⟨#[], hv, left_head p _ w⟩⟩
set_option maxHeartbeats 2000000 in
theorem headed_by {w : World} {xb mh : Nat} {m : Ents} (name rest : List UInt8) (d : Int) (res : Except Int (List UInt8)) {v : Value} (c2 : w.cell? ⟨xb, 2, none⟩ = some (.map (some mh))) (hm : MapAt w mh m) (hl : lookT m name = some v) (hD : ∀ W, Below w.heap.size w W → HeadDoes W xb v rest d res) :
    Calls Tryz.prog 138 #[.pointer (some ⟨xb, 0, none⟩), .string (str name), .string (str rest), .int .i64 d] w fun e w' => Out res e ∧ Below w.heap.size w w' := by
  have l0 := look_some hm underHeads Tryz.underlying9 hl
  have l1 := look_some (w := w.drew) hm underHeads Tryz.underlying9 hl
  obtain ⟨g, eg, hc⟩ := hD w (Below.refl _ _)
  have HD : Hid (∀ W, Below w.heap.size w W → (∃ lb, v = .func (.func g) #[] lb ∧ Calls Tryz.prog g (#[.string (str rest), .int .i64 d] ++ lb) W fun e w' => Out res e ∧ Below W.heap.size W w') ∨ (v = .func (.func g) #[.pointer (some ⟨xb, 0, none⟩)] #[] ∧ Calls Tryz.prog g #[.pointer (some ⟨xb, 0, none⟩), .string (str rest), .int .i64 d] W fun e w' => Out res e ∧ Below W.heap.size W w')) := fun W hW => by
    obtain ⟨g', _, hc'⟩ := hD W hW
    have e : g' = g := by
      rcases hc with ⟨lb, h1, _⟩ | ⟨h1, _⟩ <;> rcases hc' with ⟨lb', h2, _⟩ | ⟨h2, _⟩ <;> (rw [h1] at h2; cases h2 <;> rfl)
    rw [← e]
    exact hc'
  unfold Enters at eg
  obtain ⟨zn, hzn⟩ : ∃ zn, str name = zn := ⟨_, rfl⟩
  obtain ⟨zr, hzr⟩ : ∃ zr, str rest = zr := ⟨_, rfl⟩
  rw [hzn] at l0 l1 ⊢
  rw [hzr] at HD ⊢
  rcases hc with ⟨lb, rfl, _⟩ | ⟨rfl, _⟩
  · have HC : Hid (∀ W, Below w.heap.size w W → Calls Tryz.prog g (#[.string zr, .int .i64 d] ++ lb) W fun e w' => Out res e ∧ Below W.heap.size W w') := fun W hW => by
      rcases HD.out W hW with ⟨lb', h1, h2⟩ | ⟨h1, _⟩
      · cases h1; exact h2
      · cases h1
    clear HD hD hzn hzr hm hl
    cases res with
    | ok s =>
      go_enter Tryz.func138, Tryz.ntmps138
      go_wp2_with (go_at_fn g; refine (HC.out _ (by repeat (first | exact Below.refl _ _ | apply Below.drew))).mono ?_; rintro e w2 ⟨ho, hb2⟩; (have ho' : e = .returned (.tuple #[.string (str s), .nilIface]) := ho); subst ho'; clear ho)
      all_goals go_ret2
      all_goals exact ⟨rfl, by first | assumption | exact (Below.refl _ _).drew.trans hb2⟩
    | error k =>
      go_enter Tryz.func138, Tryz.ntmps138
      go_wp2_with (go_at_fn g; refine (HC.out _ (by repeat (first | exact Below.refl _ _ | apply Below.drew))).mono ?_; rintro e w2 ⟨⟨ev, rfl, hev⟩, hb2⟩)
      all_goals go_ret2
      all_goals exact ⟨⟨_, rfl, by assumption⟩, by first | assumption | exact (Below.refl _ _).drew.trans hb2⟩
  · have HC : Hid (∀ W, Below w.heap.size w W → Calls Tryz.prog g #[.pointer (some ⟨xb, 0, none⟩), .string zr, .int .i64 d] W fun e w' => Out res e ∧ Below W.heap.size W w') := fun W hW => by
      rcases HD.out W hW with ⟨lb', h1, h2⟩ | ⟨_, h1⟩
      · cases h1
      · exact h1
    clear HD hD hzn hzr hm hl
    cases res with
    | ok s =>
      go_enter Tryz.func138, Tryz.ntmps138
      go_wp2_with (go_at_fn g; refine (HC.out _ (by repeat (first | exact Below.refl _ _ | apply Below.drew))).mono ?_; rintro e w2 ⟨ho, hb2⟩; (have ho' : e = .returned (.tuple #[.string (str s), .nilIface]) := ho); subst ho'; clear ho)
      all_goals go_ret2
      all_goals exact ⟨rfl, by first | assumption | exact (Below.refl _ _).drew.trans hb2⟩
    | error k =>
      go_enter Tryz.func138, Tryz.ntmps138
      go_wp2_with (go_at_fn g; refine (HC.out _ (by repeat (first | exact Below.refl _ _ | apply Below.drew))).mono ?_; rintro e w2 ⟨⟨ev, rfl, hev⟩, hb2⟩)
      all_goals go_ret2
      all_goals exact ⟨⟨_, rfl, by assumption⟩, by first | assumption | exact (Below.refl _ _).drew.trans hb2⟩

set_option maxHeartbeats 4000000 in
theorem headed_any {r : Nat} (hS : SayOk r) (hr : r ≤ 16) {w : World} {xb : Nat} {vs : Vars} (hX : XE w xb vs) (name rest : List UInt8) (hnm : name.length ≤ 2147483647) (hp : rest.length ≤ 2147483647) (res : Except Int (List UInt8)) (h : headedF (sayF vs r) vs name rest = some res) :
    Calls Tryz.prog 138 #[.pointer (some ⟨xb, 0, none⟩), .string (str name), .string (str rest), .int .i64 ((16 : Int) - (r : Int))] w fun e w' => Out res e ∧ Below w.heap.size w w' := by
  unfold headedF at h
  cases hho : hdOf name with
  | some hd =>
    rw [hho] at h
    obtain ⟨mh, m, c2, hm, hk, hok⟩ := hX.heads
    obtain ⟨v, hv, hmem⟩ := mem_lookT (m := m) (k := name) (by rw [hk]; exact hd_some hho)
    obtain ⟨hd', k1, k2⟩ := hok _ hmem
    have e : some hd = some hd' := hho.symm.trans k1
    cases e
    exact headed_by name rest _ res c2 hm hv fun W hW => head_does hS hr (hX.below hW) hd (k2.since (.of_below hW)) rest hp res h
  | none =>
  rw [hho] at h
  simp only at h
  have hin := hd_none hho
  clear hho
  obtain ⟨mh, m, c2, hm, hk, _⟩ := hX.heads
  have hlk := look_keys hk name hin
  have l0 := look_none hm underHeads Tryz.underlying9 (zeroHead w) hlk
  have l1 := look_none (w := w.drew) hm underHeads Tryz.underlying9 (zeroHead w.drew) hlk
  obtain ⟨mt, w0, hTx⟩ := hX.turnX
  have HOp := hidK (fun W (hW : Below w.heap.size w W) res' h' => operand_any hS hr (hX.below hW) rest hp res' h')
  have hvs := hX.short
  cases htf : turnsF name with
  | none =>
    rw [htf] at h
    cases h
  | some R =>
    rw [htf] at h
    have HTo := hidK (fun W (hW : Below w.heap.size w W) => turnsOf_any (hTx.below hW) name hnm R htf)
    obtain ⟨d, hd⟩ : ∃ d : Int, (16 : Int) - (r : Int) = d := ⟨_, rfl⟩
    rw [hd] at HOp ⊢
    obtain ⟨zn, hzn⟩ : ∃ zn, str name = zn := ⟨_, rfl⟩
    obtain ⟨zr, hzr⟩ : ∃ zr, str rest = zr := ⟨_, rfl⟩
    rw [hzn] at l0 l1 HTo ⊢
    rw [hzr] at HOp ⊢
    have HH := hidK h
    have HVs := hidK hvs
    have HEn := hidK hX.env
    clear h hin hm hk hlk hTx hd hzn hzr hX htf hvs
    go_enter Tryz.func138, Tryz.ntmps138
    go_wp2_with fail
    refine (HTo.out _ (by repeat (first | exact Below.refl _ _ | apply Below.drew))).mono ?_
    rintro x w1 ⟨hb1, sv, ok, rfl, hres⟩
    rcases hres with ⟨ts, rfl, rfl, htl⟩ | ⟨rfl, rfl⟩
    · obtain ⟨ad, cap, rfl, -⟩ := htl.at
      have HB1 : Hid (Below w.heap.size w w1) := by first | exact hb1 | exact ((Below.refl _ _).drew : Below w.heap.size w w.drew).trans hb1
      have HTl := hidK htl
      cases hoa : operandF (sayF vs r) vs rest with
      | none =>
        have := HH.out
        rw [hoa] at this
        cases this
      | some ra =>
        have HO := hidK (HOp.out w1 HB1.out ra hoa)
        have HSa : Hid (∀ sa, ra = .ok sa → sa.length ≤ 2147483647) := fun sa e => operand_short HVs.out (by rw [hoa, e])
        rw [hoa] at HH
        clear hoa HOp htl hb1 HTo l0 l1 c2
        go_wp2_with fail
        refine HO.out.mono ?_
        rintro x w2 ⟨ho, hb2⟩
        cases ra with
        | error k =>
          obtain ⟨v, rfl, hv⟩ := ho
          obtain ⟨t, y, rfl⟩ := hv.iface
          have HRs : Hid (res = .error k) := (Option.some.inj HH.out).symm
          have HV := hidK hv
          have HB2 := hidK (HB1.out.trans (hb2.mono HB1.out.size))
          clear hv hb2 HH
          go_wp2_with fail
          all_goals go_ret2
          all_goals exact ⟨by rw [HRs.out]; exact ⟨_, rfl, HV.out⟩, HB2.out⟩
        | ok sa =>
          have ho' : x = .returned (.tuple #[.string (str sa), .nilIface]) := ho
          subst ho'
          have hh : turnedF ts sa = some res := HH.out
          have HB2 := hidK (HB1.out.trans (hb2.mono HB1.out.size))
          have HTd := hidK (Out.more HB2.out (turned_any (HEn.out.below HB2.out) (HTl.out.below hb2) sa (HSa.out sa rfl) res hh))
          clear ho hb2 HH hh HTl HSa
          go_wp2_with fail
          refine HTd.out.mono ?_
          rintro x w3 ⟨ho3, hb3⟩
          cases res with
          | ok s3 =>
            have ho' : x = .returned (.tuple #[.string (str s3), .nilIface]) := ho3
            subst ho'
            clear ho3
            go_wp2_with fail
            all_goals go_ret2
            all_goals exact ⟨rfl, hb3⟩
          | error k3 =>
            obtain ⟨v3, rfl, hv3⟩ := ho3
            go_wp2_with fail
            all_goals go_ret2
            all_goals exact ⟨⟨_, rfl, hv3⟩, hb3⟩
    · have HRs : Hid (res = .error 100) := (Option.some.inj HH.out).symm
      have HB1 : Hid (Below w.heap.size w w1) := by first | exact hb1 | exact ((Below.refl _ _).drew : Below w.heap.size w w.drew).trans hb1
      clear hb1 HH HOp HTo l0 l1 c2
      go_wp2_with fail
      all_goals go_ret2
      all_goals exact ⟨by rw [HRs.out]; exact ⟨_, rfl, .fault 100⟩, HB1.out⟩

theorem place_no (sub : List UInt8 → Res) (vs : Vars) (p : List UInt8) (h : ∀ rest, p ≠ 63 :: rest) : placeF sub vs p = (match colonF p with | some k => headedF sub vs (p.take k) (p.drop (k + 1)) | none => if identF p then some (.ok (valF vs p)) else some (.error 100)) := by
  unfold placeF
  split
  · exact absurd rfl (h _)
  · rfl

set_option maxHeartbeats 4000000 in
theorem inside_any {r : Nat} (hS : SayOk r) (hr : r ≤ 16) {w : World} {xb : Nat} {vs : Vars} (hX : XE w xb vs) (p : List UInt8) (hp : p.length ≤ 2147483647) (res : Except Int (List UInt8)) (h : placeF (sayF vs r) vs p = some res) :
    Calls Tryz.prog 110 #[.pointer (some ⟨xb, 0, none⟩), .string (str p), .int .i64 ((16 : Int) - (r : Int))] w fun e w' => Out res e ∧ Below w.heap.size w w' := by
  have HC := hidK (cutPrefix_any p 63 hp w)
  have e63 : str [63] = (⟨#[63]⟩ : ByteArray) := rfl
  have e58 : str [58] = (⟨#[58]⟩ : ByteArray) := rfl
  rw [e63] at HC
  obtain ⟨d, hd⟩ : ∃ d : Int, (16 : Int) - (r : Int) = d := ⟨_, rfl⟩
  obtain ⟨z, hz⟩ : ∃ z, str p = z := ⟨_, rfl⟩
  cases hq : (headF 63 p).2 with
  | true =>
    obtain ⟨rest, rfl⟩ : ∃ rest, p = 63 :: rest := by
      cases p with
      | nil => cases hq
      | cons c r =>
        simp only [headF] at hq
        split at hq
        · rename_i e
          exact ⟨r, by rw [e]⟩
        · cases hq
    have hh : choiceF (sayF vs r) vs rest = some res := h
    have e : headF 63 (63 :: rest) = (rest, true) := by simp [headF]
    have HCh := hidK (choice_any hS hr hX rest (by simp at hp; omega) res hh)
    rw [e] at HC
    rw [hd] at HCh ⊢
    rw [hz] at HC ⊢
    obtain ⟨zr, hzr⟩ : ∃ zr, str rest = zr := ⟨_, rfl⟩
    simp only [hzr] at HC HCh
    clear h hh e hq hd hz hzr hS hX e63 e58
    go_enter Tryz.func110, Tryz.ntmps110
    go_wp2_with (go_at_call 83; refine HC.out.mono ?_; rintro x w1 ⟨rfl, rfl⟩)
    refine HCh.out.mono ?_
    rintro x w3 ⟨ho3, hb3⟩
    cases res with
    | ok s3 =>
      have ho' : x = .returned (.tuple #[.string (str s3), .nilIface]) := ho3
      subst ho'
      clear ho3
      go_wp2_with fail
      all_goals go_ret2
      all_goals exact ⟨rfl, hb3⟩
    | error k3 =>
      obtain ⟨v3, rfl, hv3⟩ := ho3
      go_wp2_with fail
      all_goals go_ret2
      all_goals exact ⟨⟨_, rfl, hv3⟩, hb3⟩
  | false =>
    have hn := head_no hq
    have hh : (match colonF p with | some k => headedF (sayF vs r) vs (p.take k) (p.drop (k + 1)) | none => if identF p then some (.ok (valF vs p)) else some (.error 100)) = some res := by
      rw [← h]
      exact (place_no _ _ _ fun rest e => by rw [e] at hq; simp [headF] at hq).symm
    have HCo := hidK (cutColon_any p hp w hX.max)
    rw [e58] at HCo
    rw [hq, hn] at HC
    unfold colonV at HCo
    cases hco : colonF p with
    | some k =>
      rw [hco] at HCo hh
      simp only at HCo hh
      have HHd := hidK (fun n => Out.more (below_drewN w n) (headed_any hS hr (hX.below (below_drewN w n)) (p.take k) (p.drop (k + 1)) (by rw [List.length_take]; omega) (by rw [List.length_drop]; omega) res hh))
      rw [hd] at HHd ⊢
      rw [hz] at HC HCo ⊢
      obtain ⟨za, hza⟩ : ∃ za, str (p.take k) = za := ⟨_, rfl⟩
      obtain ⟨zb, hzb⟩ : ∃ zb, str (p.drop (k + 1)) = zb := ⟨_, rfl⟩
      rw [hza, hzb] at HCo HHd
      clear h hh hq hd hz hza hzb hS hX e63 e58 hn hco
      go_enter Tryz.func110, Tryz.ntmps110
      go_wp2_with (first | (go_at_call 83; refine HC.out.mono ?_; rintro x w1 ⟨rfl, rfl⟩) | (go_at_call 137; refine HCo.out.mono ?_; rintro x w1 ⟨rfl, n, rfl⟩))
      refine (HHd.out _).mono ?_
      rintro x w3 ⟨ho3, hb3⟩
      cases res with
      | ok s3 =>
        have ho' : x = .returned (.tuple #[.string (str s3), .nilIface]) := ho3
        subst ho'
        clear ho3
        go_wp2_with fail
        all_goals go_ret2
        all_goals exact ⟨rfl, hb3⟩
      | error k3 =>
        obtain ⟨v3, rfl, hv3⟩ := ho3
        go_wp2_with fail
        all_goals go_ret2
        all_goals exact ⟨⟨_, rfl, hv3⟩, hb3⟩
    | none =>
      rw [hco] at HCo hh
      simp only at HCo hh
      have HI := hidK (fun W => ident_any p hp W)
      have HV := hidK (fun n => (hX.below (below_drewN w n)).val p)
      rw [hd]
      rw [hz] at HC HCo HI HV ⊢
      cases hid : identF p with
      | true =>
        rw [hid] at HI hh
        have HRs : Hid (res = .ok (valF vs p)) := (Option.some.inj hh).symm
        clear h hh hq hd hz hS hX e63 e58 hn hco hid
        go_enter Tryz.func110, Tryz.ntmps110
        go_wp2_with (first | (go_at_call 83; refine HC.out.mono ?_; rintro x w1 ⟨rfl, rfl⟩) | (go_at_call 137; refine HCo.out.mono ?_; rintro x w1 ⟨rfl, n, rfl⟩) | (go_at_call 132; refine (HI.out _).mono ?_; rintro x w2 ⟨rfl, rfl⟩))
        refine (HV.out _).mono ?_
        rintro x w3 ⟨rfl, hb3⟩
        go_wp2_with fail
        all_goals go_ret2
        all_goals exact ⟨by rw [HRs.out]; rfl, (below_drewN w _).trans (hb3.mono (below_drewN w _).size)⟩
      | false =>
        rw [hid] at HI hh
        have HRs : Hid (res = .error 100) := (Option.some.inj hh).symm
        clear h hh hq hd hz hS hX e63 e58 hn hco hid HV
        go_enter Tryz.func110, Tryz.ntmps110
        go_wp2_with (first | (go_at_call 83; refine HC.out.mono ?_; rintro x w1 ⟨rfl, rfl⟩) | (go_at_call 137; refine HCo.out.mono ?_; rintro x w1 ⟨rfl, n, rfl⟩) | (go_at_call 132; refine (HI.out _).mono ?_; rintro x w2 ⟨rfl, rfl⟩))
        all_goals go_ret2
        all_goals exact ⟨by rw [HRs.out]; exact ⟨_, rfl, .fault 100⟩, below_drewN w _⟩

end Go.Proofs.YtlfcjcaofhcfnaaGreatDoor
