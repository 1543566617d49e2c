/-
  Formats: the document's two texts under a head.
-/
import Derived.Test.YtlfcjcaofhcfnaaGreatDoorID
import Derived.Test.YtlfcjcaofhcfnaaGreatDoorIJ
namespace Go.Proofs.YtlfcjcaofhcfnaaGreatDoor
open Go.RowKit
set_option linter.unusedVariables false
set_option maxRecDepth 100000

def numR (op : Int → Int → Option Int) (a b : List UInt8) : Except Int (List UInt8) := match wholeF a with
  | none => .error 100
  | some x => match wholeF b with
    | none => .error 100
    | some y => opR (op x y)
theorem ansF_two (r : Except Int (List UInt8)) : ∃ s k, ansF r = .returned (.tuple #[.string s, .int .i64 k]) := by cases r <;> exact ⟨_, _, rfl⟩
/-- What a head makes of two texts. -/
def bothR (hd : Hd) (a b : List UInt8) : Except Int (List UInt8) := match hd with
  | .eq => .ok (yesF (a == b))
  | .ne => .ok (yesF (a != b))
  | .lt => .ok (yesF (Op.bytesLess a b))
  | .gt => .ok (yesF (!Op.bytesLess a b && !(a == b)))
  | .le => .ok (yesF (Op.bytesLess a b || a == b))
  | .ge => .ok (yesF (!Op.bytesLess a b))
  | .mt => .ok (yesF (mat (dtoksF a) b))
  | .or => .ok (yesF (truthF a || truthF b))
  | .an => .ok (yesF (truthF a && truthF b))
  | .sm => numR (fun x y => nearF (x + y)) a b
  | .df => numR (fun x y => nearF (x - y)) a b
  | .pr => numR (fun x y => nearF (x * y)) a b
  | .qt => numR (fun x y => if y = 0 then none else some (x.tdiv y)) a b
  | .rm => numR (fun x y => if y = 0 then none else some (x.tmod y)) a b
  | .eqn => numR (fun x y => some (unitF (decide (x = y)))) a b
  | .ltn => numR (fun x y => some (unitF (decide (x < y)))) a b
  | .gtn => numR (fun x y => some (unitF (decide (y < x)))) a b
  | _ => .error 0
set_option maxHeartbeats 2000000 in
theorem bothR_eq (a b : List UInt8) (w : World) : Calls Tryz.prog 118 #[.string ⟨#[61, 61]⟩, .string (str a), .string (str b)] w fun e w' => e = ansF (bothR .eq a b) ∧ Below w.heap.size w w' := by
  have HY := hidK fun q W => yesR_any q W
  have hq1 := str_toList a
  have hq2 := str_toList b
  obtain ⟨x, hx⟩ : ∃ x, str a = x := ⟨_, rfl⟩
  obtain ⟨y, hy⟩ : ∃ y, str b = y := ⟨_, rfl⟩
  rw [hx] at hq1
  rw [hy] at hq2
  rw [hx, hy]
  have HA := hidK hq1
  have HB := hidK hq2
  clear hx hy hq1 hq2
  go_enter Tryz.func118, Tryz.ntmps118
  go_wp2_with fail
  refine (HY.out _ _).mono ?_
  rintro e w2 ⟨rfl, rfl⟩
  go_wp2_with fail
  all_goals go_ret2
  all_goals exact ⟨by rw [← HA.out, ← HB.out]; rfl, Below.refl _ _⟩
set_option maxHeartbeats 2000000 in
theorem bothR_ne (a b : List UInt8) (w : World) : Calls Tryz.prog 118 #[.string ⟨#[33, 61]⟩, .string (str a), .string (str b)] w fun e w' => e = ansF (bothR .ne a b) ∧ Below w.heap.size w w' := by
  have HY := hidK fun q W => yesR_any q W
  have hq1 := str_toList a
  have hq2 := str_toList b
  obtain ⟨x, hx⟩ : ∃ x, str a = x := ⟨_, rfl⟩
  obtain ⟨y, hy⟩ : ∃ y, str b = y := ⟨_, rfl⟩
  rw [hx] at hq1
  rw [hy] at hq2
  rw [hx, hy]
  have HA := hidK hq1
  have HB := hidK hq2
  clear hx hy hq1 hq2
  go_enter Tryz.func118, Tryz.ntmps118
  go_wp2_with fail
  refine (HY.out _ _).mono ?_
  rintro e w2 ⟨rfl, rfl⟩
  go_wp2_with fail
  all_goals go_ret2
  all_goals exact ⟨by rw [← HA.out, ← HB.out]; rfl, Below.refl _ _⟩
set_option maxHeartbeats 2000000 in
theorem bothR_lt (a b : List UInt8) (w : World) : Calls Tryz.prog 118 #[.string ⟨#[60]⟩, .string (str a), .string (str b)] w fun e w' => e = ansF (bothR .lt a b) ∧ Below w.heap.size w w' := by
  have HY := hidK fun q W => yesR_any q W
  have hq1 := str_toList a
  have hq2 := str_toList b
  obtain ⟨x, hx⟩ : ∃ x, str a = x := ⟨_, rfl⟩
  obtain ⟨y, hy⟩ : ∃ y, str b = y := ⟨_, rfl⟩
  rw [hx] at hq1
  rw [hy] at hq2
  rw [hx, hy]
  have HA := hidK hq1
  have HB := hidK hq2
  clear hx hy hq1 hq2
  go_enter Tryz.func118, Tryz.ntmps118
  go_wp2_with fail
  refine (HY.out _ _).mono ?_
  rintro e w2 ⟨rfl, rfl⟩
  go_wp2_with fail
  all_goals go_ret2
  all_goals exact ⟨by rw [← HA.out, ← HB.out]; rfl, Below.refl _ _⟩
set_option maxHeartbeats 2000000 in
theorem bothR_gt (a b : List UInt8) (w : World) : Calls Tryz.prog 118 #[.string ⟨#[62]⟩, .string (str a), .string (str b)] w fun e w' => e = ansF (bothR .gt a b) ∧ Below w.heap.size w w' := by
  have HY := hidK fun q W => yesR_any q W
  have hq1 := str_toList a
  have hq2 := str_toList b
  obtain ⟨x, hx⟩ : ∃ x, str a = x := ⟨_, rfl⟩
  obtain ⟨y, hy⟩ : ∃ y, str b = y := ⟨_, rfl⟩
  rw [hx] at hq1
  rw [hy] at hq2
  rw [hx, hy]
  have HA := hidK hq1
  have HB := hidK hq2
  clear hx hy hq1 hq2
  go_enter Tryz.func118, Tryz.ntmps118
  go_wp2_with fail
  refine (HY.out _ _).mono ?_
  rintro e w2 ⟨rfl, rfl⟩
  go_wp2_with fail
  all_goals go_ret2
  all_goals exact ⟨by rw [← HA.out, ← HB.out]; rfl, Below.refl _ _⟩
set_option maxHeartbeats 2000000 in
theorem bothR_le (a b : List UInt8) (w : World) : Calls Tryz.prog 118 #[.string ⟨#[60, 61]⟩, .string (str a), .string (str b)] w fun e w' => e = ansF (bothR .le a b) ∧ Below w.heap.size w w' := by
  have HY := hidK fun q W => yesR_any q W
  have hq1 := str_toList a
  have hq2 := str_toList b
  obtain ⟨x, hx⟩ : ∃ x, str a = x := ⟨_, rfl⟩
  obtain ⟨y, hy⟩ : ∃ y, str b = y := ⟨_, rfl⟩
  rw [hx] at hq1
  rw [hy] at hq2
  rw [hx, hy]
  have HA := hidK hq1
  have HB := hidK hq2
  clear hx hy hq1 hq2
  go_enter Tryz.func118, Tryz.ntmps118
  go_wp2_with fail
  refine (HY.out _ _).mono ?_
  rintro e w2 ⟨rfl, rfl⟩
  go_wp2_with fail
  all_goals go_ret2
  all_goals exact ⟨by rw [← HA.out, ← HB.out]; rfl, Below.refl _ _⟩
set_option maxHeartbeats 2000000 in
theorem bothR_ge (a b : List UInt8) (w : World) : Calls Tryz.prog 118 #[.string ⟨#[62, 61]⟩, .string (str a), .string (str b)] w fun e w' => e = ansF (bothR .ge a b) ∧ Below w.heap.size w w' := by
  have HY := hidK fun q W => yesR_any q W
  have hq1 := str_toList a
  have hq2 := str_toList b
  obtain ⟨x, hx⟩ : ∃ x, str a = x := ⟨_, rfl⟩
  obtain ⟨y, hy⟩ : ∃ y, str b = y := ⟨_, rfl⟩
  rw [hx] at hq1
  rw [hy] at hq2
  rw [hx, hy]
  have HA := hidK hq1
  have HB := hidK hq2
  clear hx hy hq1 hq2
  go_enter Tryz.func118, Tryz.ntmps118
  go_wp2_with fail
  refine (HY.out _ _).mono ?_
  rintro e w2 ⟨rfl, rfl⟩
  go_wp2_with fail
  all_goals go_ret2
  all_goals exact ⟨by rw [← HA.out, ← HB.out]; rfl, Below.refl _ _⟩
set_option maxHeartbeats 2000000 in
theorem bothR_or (a b : List UInt8) (w : World) : Calls Tryz.prog 118 #[.string ⟨#[124, 124]⟩, .string (str a), .string (str b)] w fun e w' => e = ansF (bothR .or a b) ∧ Below w.heap.size w w' := by
  have HY := hidK fun q W => yesR_any q W
  have HT1 := hidK fun W => truthR_any a W
  have HT2 := hidK fun W => truthR_any b W
  obtain ⟨x, hx⟩ : ∃ x, str a = x := ⟨_, rfl⟩
  obtain ⟨y, hy⟩ : ∃ y, str b = y := ⟨_, rfl⟩
  obtain ⟨p, hp⟩ : ∃ p, truthF a = p := ⟨_, rfl⟩
  obtain ⟨q, hq⟩ : ∃ p, truthF b = p := ⟨_, rfl⟩
  have HR : Hid (ansF (bothR .or a b) = .returned (.tuple #[.string (str (yesF (p || q))), .int .i64 0])) := by rw [← hp, ← hq]; rfl
  rw [hx, hp] at HT1
  rw [hy, hq] at HT2
  rw [hx, hy]
  clear hx hy hp hq
  cases p with
  | true =>
    go_enter Tryz.func118, Tryz.ntmps118
    go_wp2_with fail
    refine (HT1.out _).mono ?_
    rintro e w2 ⟨rfl, rfl⟩
    go_wp2_with fail
    refine (HY.out _ _).mono ?_
    rintro e w2 ⟨rfl, rfl⟩
    go_wp2_with fail
    skip
    skip
    skip
    all_goals go_ret2
    all_goals exact ⟨by rw [HR.out]; rfl, Below.refl _ _⟩
  | false =>
    go_enter Tryz.func118, Tryz.ntmps118
    go_wp2_with fail
    refine (HT1.out _).mono ?_
    rintro e w2 ⟨rfl, rfl⟩
    go_wp2_with fail
    refine (HT2.out _).mono ?_
    rintro e w2 ⟨rfl, rfl⟩
    go_wp2_with fail
    refine (HY.out _ _).mono ?_
    rintro e w2 ⟨rfl, rfl⟩
    go_wp2_with fail
    all_goals go_ret2
    all_goals exact ⟨by rw [HR.out]; rfl, Below.refl _ _⟩
set_option maxHeartbeats 2000000 in
theorem bothR_an (a b : List UInt8) (w : World) : Calls Tryz.prog 118 #[.string ⟨#[38, 38]⟩, .string (str a), .string (str b)] w fun e w' => e = ansF (bothR .an a b) ∧ Below w.heap.size w w' := by
  have HY := hidK fun q W => yesR_any q W
  have HT1 := hidK fun W => truthR_any a W
  have HT2 := hidK fun W => truthR_any b W
  obtain ⟨x, hx⟩ : ∃ x, str a = x := ⟨_, rfl⟩
  obtain ⟨y, hy⟩ : ∃ y, str b = y := ⟨_, rfl⟩
  obtain ⟨p, hp⟩ : ∃ p, truthF a = p := ⟨_, rfl⟩
  obtain ⟨q, hq⟩ : ∃ p, truthF b = p := ⟨_, rfl⟩
  have HR : Hid (ansF (bothR .an a b) = .returned (.tuple #[.string (str (yesF (p && q))), .int .i64 0])) := by rw [← hp, ← hq]; rfl
  rw [hx, hp] at HT1
  rw [hy, hq] at HT2
  rw [hx, hy]
  clear hx hy hp hq
  cases p with
  | true =>
    go_enter Tryz.func118, Tryz.ntmps118
    go_wp2_with fail
    refine (HT1.out _).mono ?_
    rintro e w2 ⟨rfl, rfl⟩
    go_wp2_with fail
    refine (HT2.out _).mono ?_
    rintro e w2 ⟨rfl, rfl⟩
    go_wp2_with fail
    refine (HY.out _ _).mono ?_
    rintro e w2 ⟨rfl, rfl⟩
    go_wp2_with fail
    all_goals go_ret2
    all_goals exact ⟨by rw [HR.out]; rfl, Below.refl _ _⟩
  | false =>
    go_enter Tryz.func118, Tryz.ntmps118
    go_wp2_with fail
    refine (HT1.out _).mono ?_
    rintro e w2 ⟨rfl, rfl⟩
    go_wp2_with fail
    refine (HY.out _ _).mono ?_
    rintro e w2 ⟨rfl, rfl⟩
    go_wp2_with fail
    skip
    skip
    skip
    all_goals go_ret2
    all_goals exact ⟨by rw [HR.out]; rfl, Below.refl _ _⟩
set_option maxHeartbeats 2000000 in
theorem bothR_mt (a b : List UInt8) (ha : a.length ≤ 2147483647) (hb : b.length ≤ 2147483647) (w : World) : Calls Tryz.prog 118 #[.string ⟨#[109]⟩, .string (str a), .string (str b)] w fun e w' => e = ansF (bothR .mt a b) ∧ Below w.heap.size w w' := by
  have HY := hidK fun q W => yesR_any q W
  have HM := hidK (matchR_any a b ha hb w)
  have HR : Hid (ansF (bothR .mt a b) = .returned (.tuple #[.string (str (yesF (mat (dtoksF a) b))), .int .i64 0])) := rfl
  obtain ⟨m, hm⟩ : ∃ m, mat (dtoksF a) b = m := ⟨_, rfl⟩
  obtain ⟨x, hx⟩ : ∃ x, str a = x := ⟨_, rfl⟩
  obtain ⟨y, hy⟩ : ∃ y, str b = y := ⟨_, rfl⟩
  rw [hm] at HM HR
  rw [hx, hy] at HM
  rw [hx, hy]
  clear hm hx hy
  go_enter Tryz.func118, Tryz.ntmps118
  go_wp2_with fail
  refine HM.out.mono ?_
  rintro e w2 ⟨rfl, hb2⟩
  have HB2 := hidK hb2
  clear hb2
  go_wp2_with fail
  refine (HY.out _ _).mono ?_
  rintro e w3 ⟨rfl, rfl⟩
  go_wp2_with fail
  all_goals go_ret2
  all_goals exact ⟨by rw [HR.out]; rfl, HB2.out⟩
set_option maxHeartbeats 2000000 in
theorem bothR_sm (a b : List UInt8) (ha : a.length ≤ 2147483647) (hb : b.length ≤ 2147483647) (w : World) (hE : NEnv w) : Calls Tryz.prog 118 #[.string ⟨#[101, 124, 43, 124]⟩, .string (str a), .string (str b)] w fun e w' => e = ansF (bothR .sm a b) ∧ Below w.heap.size w w' := by
  have HW1 := hidK (wholeR_any a ha w)
  have HW2 := hidK (wholeR_any b hb w)
  obtain ⟨R, hR⟩ : ∃ R, ansF (bothR .sm a b) = R := ⟨_, rfl⟩
  rw [hR]
  unfold bothR numR at hR
  cases h1 : wholeF a with
  | none =>
    rw [h1] at HW1 hR
    subst hR
    cases h2 : wholeF b with
    | none =>
      rw [h2] at HW2
      simp only [intV] at HW1 HW2
      obtain ⟨x, hx⟩ : ∃ x, str a = x := ⟨_, rfl⟩
      obtain ⟨y, hy⟩ : ∃ y, str b = y := ⟨_, rfl⟩
      rw [hx] at HW1 ⊢
      rw [hy] at HW2 ⊢
      clear hx hy hE h1 h2
      go_enter Tryz.func118, Tryz.ntmps118
      go_wp2_with fail
      refine HW1.out.mono ?_
      rintro e w2 ⟨rfl, rfl⟩
      go_wp2_with fail
      refine HW2.out.mono ?_
      rintro e w2 ⟨rfl, rfl⟩
      go_wp2_with fail
      all_goals go_ret2
      all_goals exact ⟨rfl, Below.refl _ _⟩
    | some v =>
      rw [h2] at HW2
      simp only [intV] at HW1 HW2
      obtain ⟨x, hx⟩ : ∃ x, str a = x := ⟨_, rfl⟩
      obtain ⟨y, hy⟩ : ∃ y, str b = y := ⟨_, rfl⟩
      rw [hx] at HW1 ⊢
      rw [hy] at HW2 ⊢
      clear hx hy hE h1 h2
      go_enter Tryz.func118, Tryz.ntmps118
      go_wp2_with fail
      refine HW1.out.mono ?_
      rintro e w2 ⟨rfl, rfl⟩
      go_wp2_with fail
      refine HW2.out.mono ?_
      rintro e w2 ⟨rfl, rfl⟩
      go_wp2_with fail
      all_goals go_ret2
      all_goals exact ⟨rfl, Below.refl _ _⟩
  | some x =>
    rw [h1] at HW1 hR
    cases h2 : wholeF b with
    | none =>
      rw [h2] at HW2 hR
      subst hR
      simp only [intV] at HW1 HW2
      obtain ⟨zx, hx⟩ : ∃ x, str a = x := ⟨_, rfl⟩
      obtain ⟨zy, hy⟩ : ∃ y, str b = y := ⟨_, rfl⟩
      rw [hx] at HW1 ⊢
      rw [hy] at HW2 ⊢
      clear hx hy hE h1 h2
      go_enter Tryz.func118, Tryz.ntmps118
      go_wp2_with fail
      refine HW1.out.mono ?_
      rintro e w2 ⟨rfl, rfl⟩
      go_wp2_with fail
      refine HW2.out.mono ?_
      rintro e w2 ⟨rfl, rfl⟩
      go_wp2_with fail
      all_goals go_ret2
      all_goals exact ⟨rfl, Below.refl _ _⟩
    | some y =>
      have hx := whole_near h1
      have hy := whole_near h2
      rw [h2] at HW2 hR
      have hR2 : ansF (opR (nearF (x + y))) = R := hR
      have HS := hidK (sumR_add x y hx hy w hE)
      rw [hR2] at HS
      simp only [intV] at HW1 HW2
      obtain ⟨zx, hzx⟩ : ∃ x, str a = x := ⟨_, rfl⟩
      obtain ⟨zy, hzy⟩ : ∃ y, str b = y := ⟨_, rfl⟩
      rw [hzx] at HW1 ⊢
      rw [hzy] at HW2 ⊢
      have HV : Hid (∃ s k, R = .returned (.tuple #[.string s, .int .i64 k])) := by rw [← hR2]; exact ansF_two _
      obtain ⟨qs, qk, rfl⟩ := HV.out
      clear hzx hzy hE h1 h2 hx hy hR hR2 HV
      go_enter Tryz.func118, Tryz.ntmps118
      go_wp2_with fail
      refine HW1.out.mono ?_
      rintro e w2 ⟨rfl, rfl⟩
      go_wp2_with fail
      refine HW2.out.mono ?_
      rintro e w2 ⟨rfl, rfl⟩
      go_wp2_with fail
      refine HS.out.mono ?_
      rintro e w3 ⟨rfl, hb3⟩
      go_wp2_with fail
      all_goals go_ret2
      all_goals exact ⟨rfl, hb3⟩
set_option maxHeartbeats 2000000 in
theorem bothR_df (a b : List UInt8) (ha : a.length ≤ 2147483647) (hb : b.length ≤ 2147483647) (w : World) (hE : NEnv w) : Calls Tryz.prog 118 #[.string ⟨#[101, 124, 45, 124]⟩, .string (str a), .string (str b)] w fun e w' => e = ansF (bothR .df a b) ∧ Below w.heap.size w w' := by
  have HW1 := hidK (wholeR_any a ha w)
  have HW2 := hidK (wholeR_any b hb w)
  obtain ⟨R, hR⟩ : ∃ R, ansF (bothR .df a b) = R := ⟨_, rfl⟩
  rw [hR]
  unfold bothR numR at hR
  cases h1 : wholeF a with
  | none =>
    rw [h1] at HW1 hR
    subst hR
    cases h2 : wholeF b with
    | none =>
      rw [h2] at HW2
      simp only [intV] at HW1 HW2
      obtain ⟨x, hx⟩ : ∃ x, str a = x := ⟨_, rfl⟩
      obtain ⟨y, hy⟩ : ∃ y, str b = y := ⟨_, rfl⟩
      rw [hx] at HW1 ⊢
      rw [hy] at HW2 ⊢
      clear hx hy hE h1 h2
      go_enter Tryz.func118, Tryz.ntmps118
      go_wp2_with fail
      refine HW1.out.mono ?_
      rintro e w2 ⟨rfl, rfl⟩
      go_wp2_with fail
      refine HW2.out.mono ?_
      rintro e w2 ⟨rfl, rfl⟩
      go_wp2_with fail
      all_goals go_ret2
      all_goals exact ⟨rfl, Below.refl _ _⟩
    | some v =>
      rw [h2] at HW2
      simp only [intV] at HW1 HW2
      obtain ⟨x, hx⟩ : ∃ x, str a = x := ⟨_, rfl⟩
      obtain ⟨y, hy⟩ : ∃ y, str b = y := ⟨_, rfl⟩
      rw [hx] at HW1 ⊢
      rw [hy] at HW2 ⊢
      clear hx hy hE h1 h2
      go_enter Tryz.func118, Tryz.ntmps118
      go_wp2_with fail
      refine HW1.out.mono ?_
      rintro e w2 ⟨rfl, rfl⟩
      go_wp2_with fail
      refine HW2.out.mono ?_
      rintro e w2 ⟨rfl, rfl⟩
      go_wp2_with fail
      all_goals go_ret2
      all_goals exact ⟨rfl, Below.refl _ _⟩
  | some x =>
    rw [h1] at HW1 hR
    cases h2 : wholeF b with
    | none =>
      rw [h2] at HW2 hR
      subst hR
      simp only [intV] at HW1 HW2
      obtain ⟨zx, hx⟩ : ∃ x, str a = x := ⟨_, rfl⟩
      obtain ⟨zy, hy⟩ : ∃ y, str b = y := ⟨_, rfl⟩
      rw [hx] at HW1 ⊢
      rw [hy] at HW2 ⊢
      clear hx hy hE h1 h2
      go_enter Tryz.func118, Tryz.ntmps118
      go_wp2_with fail
      refine HW1.out.mono ?_
      rintro e w2 ⟨rfl, rfl⟩
      go_wp2_with fail
      refine HW2.out.mono ?_
      rintro e w2 ⟨rfl, rfl⟩
      go_wp2_with fail
      all_goals go_ret2
      all_goals exact ⟨rfl, Below.refl _ _⟩
    | some y =>
      have hx := whole_near h1
      have hy := whole_near h2
      rw [h2] at HW2 hR
      have hR2 : ansF (opR (nearF (x - y))) = R := hR
      have HS := hidK (sumR_sub x y hx hy w hE)
      rw [hR2] at HS
      simp only [intV] at HW1 HW2
      obtain ⟨zx, hzx⟩ : ∃ x, str a = x := ⟨_, rfl⟩
      obtain ⟨zy, hzy⟩ : ∃ y, str b = y := ⟨_, rfl⟩
      rw [hzx] at HW1 ⊢
      rw [hzy] at HW2 ⊢
      have HV : Hid (∃ s k, R = .returned (.tuple #[.string s, .int .i64 k])) := by rw [← hR2]; exact ansF_two _
      obtain ⟨qs, qk, rfl⟩ := HV.out
      clear hzx hzy hE h1 h2 hx hy hR hR2 HV
      go_enter Tryz.func118, Tryz.ntmps118
      go_wp2_with fail
      refine HW1.out.mono ?_
      rintro e w2 ⟨rfl, rfl⟩
      go_wp2_with fail
      refine HW2.out.mono ?_
      rintro e w2 ⟨rfl, rfl⟩
      go_wp2_with fail
      refine HS.out.mono ?_
      rintro e w3 ⟨rfl, hb3⟩
      go_wp2_with fail
      all_goals go_ret2
      all_goals exact ⟨rfl, hb3⟩
set_option maxHeartbeats 2000000 in
theorem bothR_pr (a b : List UInt8) (ha : a.length ≤ 2147483647) (hb : b.length ≤ 2147483647) (w : World) (hE : NEnv w) : Calls Tryz.prog 118 #[.string ⟨#[101, 124, 42, 124]⟩, .string (str a), .string (str b)] w fun e w' => e = ansF (bothR .pr a b) ∧ Below w.heap.size w w' := by
  have HW1 := hidK (wholeR_any a ha w)
  have HW2 := hidK (wholeR_any b hb w)
  obtain ⟨R, hR⟩ : ∃ R, ansF (bothR .pr a b) = R := ⟨_, rfl⟩
  rw [hR]
  unfold bothR numR at hR
  cases h1 : wholeF a with
  | none =>
    rw [h1] at HW1 hR
    subst hR
    cases h2 : wholeF b with
    | none =>
      rw [h2] at HW2
      simp only [intV] at HW1 HW2
      obtain ⟨x, hx⟩ : ∃ x, str a = x := ⟨_, rfl⟩
      obtain ⟨y, hy⟩ : ∃ y, str b = y := ⟨_, rfl⟩
      rw [hx] at HW1 ⊢
      rw [hy] at HW2 ⊢
      clear hx hy hE h1 h2
      go_enter Tryz.func118, Tryz.ntmps118
      go_wp2_with fail
      refine HW1.out.mono ?_
      rintro e w2 ⟨rfl, rfl⟩
      go_wp2_with fail
      refine HW2.out.mono ?_
      rintro e w2 ⟨rfl, rfl⟩
      go_wp2_with fail
      all_goals go_ret2
      all_goals exact ⟨rfl, Below.refl _ _⟩
    | some v =>
      rw [h2] at HW2
      simp only [intV] at HW1 HW2
      obtain ⟨x, hx⟩ : ∃ x, str a = x := ⟨_, rfl⟩
      obtain ⟨y, hy⟩ : ∃ y, str b = y := ⟨_, rfl⟩
      rw [hx] at HW1 ⊢
      rw [hy] at HW2 ⊢
      clear hx hy hE h1 h2
      go_enter Tryz.func118, Tryz.ntmps118
      go_wp2_with fail
      refine HW1.out.mono ?_
      rintro e w2 ⟨rfl, rfl⟩
      go_wp2_with fail
      refine HW2.out.mono ?_
      rintro e w2 ⟨rfl, rfl⟩
      go_wp2_with fail
      all_goals go_ret2
      all_goals exact ⟨rfl, Below.refl _ _⟩
  | some x =>
    rw [h1] at HW1 hR
    cases h2 : wholeF b with
    | none =>
      rw [h2] at HW2 hR
      subst hR
      simp only [intV] at HW1 HW2
      obtain ⟨zx, hx⟩ : ∃ x, str a = x := ⟨_, rfl⟩
      obtain ⟨zy, hy⟩ : ∃ y, str b = y := ⟨_, rfl⟩
      rw [hx] at HW1 ⊢
      rw [hy] at HW2 ⊢
      clear hx hy hE h1 h2
      go_enter Tryz.func118, Tryz.ntmps118
      go_wp2_with fail
      refine HW1.out.mono ?_
      rintro e w2 ⟨rfl, rfl⟩
      go_wp2_with fail
      refine HW2.out.mono ?_
      rintro e w2 ⟨rfl, rfl⟩
      go_wp2_with fail
      all_goals go_ret2
      all_goals exact ⟨rfl, Below.refl _ _⟩
    | some y =>
      have hx := whole_near h1
      have hy := whole_near h2
      rw [h2] at HW2 hR
      have hR2 : ansF (opR (nearF (x * y))) = R := hR
      have HS := hidK (sumR_mul x y hx hy w hE)
      rw [hR2] at HS
      simp only [intV] at HW1 HW2
      obtain ⟨zx, hzx⟩ : ∃ x, str a = x := ⟨_, rfl⟩
      obtain ⟨zy, hzy⟩ : ∃ y, str b = y := ⟨_, rfl⟩
      rw [hzx] at HW1 ⊢
      rw [hzy] at HW2 ⊢
      have HV : Hid (∃ s k, R = .returned (.tuple #[.string s, .int .i64 k])) := by rw [← hR2]; exact ansF_two _
      obtain ⟨qs, qk, rfl⟩ := HV.out
      clear hzx hzy hE h1 h2 hx hy hR hR2 HV
      go_enter Tryz.func118, Tryz.ntmps118
      go_wp2_with fail
      refine HW1.out.mono ?_
      rintro e w2 ⟨rfl, rfl⟩
      go_wp2_with fail
      refine HW2.out.mono ?_
      rintro e w2 ⟨rfl, rfl⟩
      go_wp2_with fail
      refine HS.out.mono ?_
      rintro e w3 ⟨rfl, hb3⟩
      go_wp2_with fail
      all_goals go_ret2
      all_goals exact ⟨rfl, hb3⟩
set_option maxHeartbeats 2000000 in
theorem bothR_qt (a b : List UInt8) (ha : a.length ≤ 2147483647) (hb : b.length ≤ 2147483647) (w : World) (hE : NEnv w) : Calls Tryz.prog 118 #[.string ⟨#[101, 124, 47, 124]⟩, .string (str a), .string (str b)] w fun e w' => e = ansF (bothR .qt a b) ∧ Below w.heap.size w w' := by
  have HW1 := hidK (wholeR_any a ha w)
  have HW2 := hidK (wholeR_any b hb w)
  obtain ⟨R, hR⟩ : ∃ R, ansF (bothR .qt a b) = R := ⟨_, rfl⟩
  rw [hR]
  unfold bothR numR at hR
  cases h1 : wholeF a with
  | none =>
    rw [h1] at HW1 hR
    subst hR
    cases h2 : wholeF b with
    | none =>
      rw [h2] at HW2
      simp only [intV] at HW1 HW2
      obtain ⟨x, hx⟩ : ∃ x, str a = x := ⟨_, rfl⟩
      obtain ⟨y, hy⟩ : ∃ y, str b = y := ⟨_, rfl⟩
      rw [hx] at HW1 ⊢
      rw [hy] at HW2 ⊢
      clear hx hy hE h1 h2
      go_enter Tryz.func118, Tryz.ntmps118
      go_wp2_with fail
      refine HW1.out.mono ?_
      rintro e w2 ⟨rfl, rfl⟩
      go_wp2_with fail
      refine HW2.out.mono ?_
      rintro e w2 ⟨rfl, rfl⟩
      go_wp2_with fail
      all_goals go_ret2
      all_goals exact ⟨rfl, Below.refl _ _⟩
    | some v =>
      rw [h2] at HW2
      simp only [intV] at HW1 HW2
      obtain ⟨x, hx⟩ : ∃ x, str a = x := ⟨_, rfl⟩
      obtain ⟨y, hy⟩ : ∃ y, str b = y := ⟨_, rfl⟩
      rw [hx] at HW1 ⊢
      rw [hy] at HW2 ⊢
      clear hx hy hE h1 h2
      go_enter Tryz.func118, Tryz.ntmps118
      go_wp2_with fail
      refine HW1.out.mono ?_
      rintro e w2 ⟨rfl, rfl⟩
      go_wp2_with fail
      refine HW2.out.mono ?_
      rintro e w2 ⟨rfl, rfl⟩
      go_wp2_with fail
      all_goals go_ret2
      all_goals exact ⟨rfl, Below.refl _ _⟩
  | some x =>
    rw [h1] at HW1 hR
    cases h2 : wholeF b with
    | none =>
      rw [h2] at HW2 hR
      subst hR
      simp only [intV] at HW1 HW2
      obtain ⟨zx, hx⟩ : ∃ x, str a = x := ⟨_, rfl⟩
      obtain ⟨zy, hy⟩ : ∃ y, str b = y := ⟨_, rfl⟩
      rw [hx] at HW1 ⊢
      rw [hy] at HW2 ⊢
      clear hx hy hE h1 h2
      go_enter Tryz.func118, Tryz.ntmps118
      go_wp2_with fail
      refine HW1.out.mono ?_
      rintro e w2 ⟨rfl, rfl⟩
      go_wp2_with fail
      refine HW2.out.mono ?_
      rintro e w2 ⟨rfl, rfl⟩
      go_wp2_with fail
      all_goals go_ret2
      all_goals exact ⟨rfl, Below.refl _ _⟩
    | some y =>
      have hx := whole_near h1
      have hy := whole_near h2
      rw [h2] at HW2 hR
      have hR2 : ansF (opR (if y = 0 then none else some (x.tdiv y))) = R := hR
      have HS := hidK (sumR_div x y hx hy w hE)
      rw [hR2] at HS
      simp only [intV] at HW1 HW2
      obtain ⟨zx, hzx⟩ : ∃ x, str a = x := ⟨_, rfl⟩
      obtain ⟨zy, hzy⟩ : ∃ y, str b = y := ⟨_, rfl⟩
      rw [hzx] at HW1 ⊢
      rw [hzy] at HW2 ⊢
      have HV : Hid (∃ s k, R = .returned (.tuple #[.string s, .int .i64 k])) := by rw [← hR2]; exact ansF_two _
      obtain ⟨qs, qk, rfl⟩ := HV.out
      clear hzx hzy hE h1 h2 hx hy hR hR2 HV
      go_enter Tryz.func118, Tryz.ntmps118
      go_wp2_with fail
      refine HW1.out.mono ?_
      rintro e w2 ⟨rfl, rfl⟩
      go_wp2_with fail
      refine HW2.out.mono ?_
      rintro e w2 ⟨rfl, rfl⟩
      go_wp2_with fail
      refine HS.out.mono ?_
      rintro e w3 ⟨rfl, hb3⟩
      go_wp2_with fail
      all_goals go_ret2
      all_goals exact ⟨rfl, hb3⟩
set_option maxHeartbeats 2000000 in
theorem bothR_rm (a b : List UInt8) (ha : a.length ≤ 2147483647) (hb : b.length ≤ 2147483647) (w : World) (hE : NEnv w) : Calls Tryz.prog 118 #[.string ⟨#[101, 124, 109, 124]⟩, .string (str a), .string (str b)] w fun e w' => e = ansF (bothR .rm a b) ∧ Below w.heap.size w w' := by
  have HW1 := hidK (wholeR_any a ha w)
  have HW2 := hidK (wholeR_any b hb w)
  obtain ⟨R, hR⟩ : ∃ R, ansF (bothR .rm a b) = R := ⟨_, rfl⟩
  rw [hR]
  unfold bothR numR at hR
  cases h1 : wholeF a with
  | none =>
    rw [h1] at HW1 hR
    subst hR
    cases h2 : wholeF b with
    | none =>
      rw [h2] at HW2
      simp only [intV] at HW1 HW2
      obtain ⟨x, hx⟩ : ∃ x, str a = x := ⟨_, rfl⟩
      obtain ⟨y, hy⟩ : ∃ y, str b = y := ⟨_, rfl⟩
      rw [hx] at HW1 ⊢
      rw [hy] at HW2 ⊢
      clear hx hy hE h1 h2
      go_enter Tryz.func118, Tryz.ntmps118
      go_wp2_with fail
      refine HW1.out.mono ?_
      rintro e w2 ⟨rfl, rfl⟩
      go_wp2_with fail
      refine HW2.out.mono ?_
      rintro e w2 ⟨rfl, rfl⟩
      go_wp2_with fail
      all_goals go_ret2
      all_goals exact ⟨rfl, Below.refl _ _⟩
    | some v =>
      rw [h2] at HW2
      simp only [intV] at HW1 HW2
      obtain ⟨x, hx⟩ : ∃ x, str a = x := ⟨_, rfl⟩
      obtain ⟨y, hy⟩ : ∃ y, str b = y := ⟨_, rfl⟩
      rw [hx] at HW1 ⊢
      rw [hy] at HW2 ⊢
      clear hx hy hE h1 h2
      go_enter Tryz.func118, Tryz.ntmps118
      go_wp2_with fail
      refine HW1.out.mono ?_
      rintro e w2 ⟨rfl, rfl⟩
      go_wp2_with fail
      refine HW2.out.mono ?_
      rintro e w2 ⟨rfl, rfl⟩
      go_wp2_with fail
      all_goals go_ret2
      all_goals exact ⟨rfl, Below.refl _ _⟩
  | some x =>
    rw [h1] at HW1 hR
    cases h2 : wholeF b with
    | none =>
      rw [h2] at HW2 hR
      subst hR
      simp only [intV] at HW1 HW2
      obtain ⟨zx, hx⟩ : ∃ x, str a = x := ⟨_, rfl⟩
      obtain ⟨zy, hy⟩ : ∃ y, str b = y := ⟨_, rfl⟩
      rw [hx] at HW1 ⊢
      rw [hy] at HW2 ⊢
      clear hx hy hE h1 h2
      go_enter Tryz.func118, Tryz.ntmps118
      go_wp2_with fail
      refine HW1.out.mono ?_
      rintro e w2 ⟨rfl, rfl⟩
      go_wp2_with fail
      refine HW2.out.mono ?_
      rintro e w2 ⟨rfl, rfl⟩
      go_wp2_with fail
      all_goals go_ret2
      all_goals exact ⟨rfl, Below.refl _ _⟩
    | some y =>
      have hx := whole_near h1
      have hy := whole_near h2
      rw [h2] at HW2 hR
      have hR2 : ansF (opR (if y = 0 then none else some (x.tmod y))) = R := hR
      have HS := hidK (sumR_mod x y hx hy w hE)
      rw [hR2] at HS
      simp only [intV] at HW1 HW2
      obtain ⟨zx, hzx⟩ : ∃ x, str a = x := ⟨_, rfl⟩
      obtain ⟨zy, hzy⟩ : ∃ y, str b = y := ⟨_, rfl⟩
      rw [hzx] at HW1 ⊢
      rw [hzy] at HW2 ⊢
      have HV : Hid (∃ s k, R = .returned (.tuple #[.string s, .int .i64 k])) := by rw [← hR2]; exact ansF_two _
      obtain ⟨qs, qk, rfl⟩ := HV.out
      clear hzx hzy hE h1 h2 hx hy hR hR2 HV
      go_enter Tryz.func118, Tryz.ntmps118
      go_wp2_with fail
      refine HW1.out.mono ?_
      rintro e w2 ⟨rfl, rfl⟩
      go_wp2_with fail
      refine HW2.out.mono ?_
      rintro e w2 ⟨rfl, rfl⟩
      go_wp2_with fail
      refine HS.out.mono ?_
      rintro e w3 ⟨rfl, hb3⟩
      go_wp2_with fail
      all_goals go_ret2
      all_goals exact ⟨rfl, hb3⟩
set_option maxHeartbeats 2000000 in
theorem bothR_eqn (a b : List UInt8) (ha : a.length ≤ 2147483647) (hb : b.length ≤ 2147483647) (w : World) (hE : NEnv w) : Calls Tryz.prog 118 #[.string ⟨#[101, 124, 61, 61, 124]⟩, .string (str a), .string (str b)] w fun e w' => e = ansF (bothR .eqn a b) ∧ Below w.heap.size w w' := by
  have HW1 := hidK (wholeR_any a ha w)
  have HW2 := hidK (wholeR_any b hb w)
  obtain ⟨R, hR⟩ : ∃ R, ansF (bothR .eqn a b) = R := ⟨_, rfl⟩
  rw [hR]
  unfold bothR numR at hR
  cases h1 : wholeF a with
  | none =>
    rw [h1] at HW1 hR
    subst hR
    cases h2 : wholeF b with
    | none =>
      rw [h2] at HW2
      simp only [intV] at HW1 HW2
      obtain ⟨x, hx⟩ : ∃ x, str a = x := ⟨_, rfl⟩
      obtain ⟨y, hy⟩ : ∃ y, str b = y := ⟨_, rfl⟩
      rw [hx] at HW1 ⊢
      rw [hy] at HW2 ⊢
      clear hx hy hE h1 h2
      go_enter Tryz.func118, Tryz.ntmps118
      go_wp2_with fail
      refine HW1.out.mono ?_
      rintro e w2 ⟨rfl, rfl⟩
      go_wp2_with fail
      refine HW2.out.mono ?_
      rintro e w2 ⟨rfl, rfl⟩
      go_wp2_with fail
      all_goals go_ret2
      all_goals exact ⟨rfl, Below.refl _ _⟩
    | some v =>
      rw [h2] at HW2
      simp only [intV] at HW1 HW2
      obtain ⟨x, hx⟩ : ∃ x, str a = x := ⟨_, rfl⟩
      obtain ⟨y, hy⟩ : ∃ y, str b = y := ⟨_, rfl⟩
      rw [hx] at HW1 ⊢
      rw [hy] at HW2 ⊢
      clear hx hy hE h1 h2
      go_enter Tryz.func118, Tryz.ntmps118
      go_wp2_with fail
      refine HW1.out.mono ?_
      rintro e w2 ⟨rfl, rfl⟩
      go_wp2_with fail
      refine HW2.out.mono ?_
      rintro e w2 ⟨rfl, rfl⟩
      go_wp2_with fail
      all_goals go_ret2
      all_goals exact ⟨rfl, Below.refl _ _⟩
  | some x =>
    rw [h1] at HW1 hR
    cases h2 : wholeF b with
    | none =>
      rw [h2] at HW2 hR
      subst hR
      simp only [intV] at HW1 HW2
      obtain ⟨zx, hx⟩ : ∃ x, str a = x := ⟨_, rfl⟩
      obtain ⟨zy, hy⟩ : ∃ y, str b = y := ⟨_, rfl⟩
      rw [hx] at HW1 ⊢
      rw [hy] at HW2 ⊢
      clear hx hy hE h1 h2
      go_enter Tryz.func118, Tryz.ntmps118
      go_wp2_with fail
      refine HW1.out.mono ?_
      rintro e w2 ⟨rfl, rfl⟩
      go_wp2_with fail
      refine HW2.out.mono ?_
      rintro e w2 ⟨rfl, rfl⟩
      go_wp2_with fail
      all_goals go_ret2
      all_goals exact ⟨rfl, Below.refl _ _⟩
    | some y =>
      have hx := whole_near h1
      have hy := whole_near h2
      rw [h2] at HW2 hR
      have hR2 : ansF (opR (some (unitF (decide (x = y))))) = R := hR
      have HS := hidK (sumR_eq x y w)
      rw [hR2] at HS
      simp only [intV] at HW1 HW2
      obtain ⟨zx, hzx⟩ : ∃ x, str a = x := ⟨_, rfl⟩
      obtain ⟨zy, hzy⟩ : ∃ y, str b = y := ⟨_, rfl⟩
      rw [hzx] at HW1 ⊢
      rw [hzy] at HW2 ⊢
      have HV : Hid (∃ s k, R = .returned (.tuple #[.string s, .int .i64 k])) := by rw [← hR2]; exact ansF_two _
      obtain ⟨qs, qk, rfl⟩ := HV.out
      clear hzx hzy hE h1 h2 hx hy hR hR2 HV
      go_enter Tryz.func118, Tryz.ntmps118
      go_wp2_with fail
      refine HW1.out.mono ?_
      rintro e w2 ⟨rfl, rfl⟩
      go_wp2_with fail
      refine HW2.out.mono ?_
      rintro e w2 ⟨rfl, rfl⟩
      go_wp2_with fail
      refine HS.out.mono ?_
      rintro e w3 ⟨rfl, hb3⟩
      go_wp2_with fail
      all_goals go_ret2
      all_goals exact ⟨rfl, hb3⟩
set_option maxHeartbeats 2000000 in
theorem bothR_ltn (a b : List UInt8) (ha : a.length ≤ 2147483647) (hb : b.length ≤ 2147483647) (w : World) (hE : NEnv w) : Calls Tryz.prog 118 #[.string ⟨#[101, 124, 60, 124]⟩, .string (str a), .string (str b)] w fun e w' => e = ansF (bothR .ltn a b) ∧ Below w.heap.size w w' := by
  have HW1 := hidK (wholeR_any a ha w)
  have HW2 := hidK (wholeR_any b hb w)
  obtain ⟨R, hR⟩ : ∃ R, ansF (bothR .ltn a b) = R := ⟨_, rfl⟩
  rw [hR]
  unfold bothR numR at hR
  cases h1 : wholeF a with
  | none =>
    rw [h1] at HW1 hR
    subst hR
    cases h2 : wholeF b with
    | none =>
      rw [h2] at HW2
      simp only [intV] at HW1 HW2
      obtain ⟨x, hx⟩ : ∃ x, str a = x := ⟨_, rfl⟩
      obtain ⟨y, hy⟩ : ∃ y, str b = y := ⟨_, rfl⟩
      rw [hx] at HW1 ⊢
      rw [hy] at HW2 ⊢
      clear hx hy hE h1 h2
      go_enter Tryz.func118, Tryz.ntmps118
      go_wp2_with fail
      refine HW1.out.mono ?_
      rintro e w2 ⟨rfl, rfl⟩
      go_wp2_with fail
      refine HW2.out.mono ?_
      rintro e w2 ⟨rfl, rfl⟩
      go_wp2_with fail
      all_goals go_ret2
      all_goals exact ⟨rfl, Below.refl _ _⟩
    | some v =>
      rw [h2] at HW2
      simp only [intV] at HW1 HW2
      obtain ⟨x, hx⟩ : ∃ x, str a = x := ⟨_, rfl⟩
      obtain ⟨y, hy⟩ : ∃ y, str b = y := ⟨_, rfl⟩
      rw [hx] at HW1 ⊢
      rw [hy] at HW2 ⊢
      clear hx hy hE h1 h2
      go_enter Tryz.func118, Tryz.ntmps118
      go_wp2_with fail
      refine HW1.out.mono ?_
      rintro e w2 ⟨rfl, rfl⟩
      go_wp2_with fail
      refine HW2.out.mono ?_
      rintro e w2 ⟨rfl, rfl⟩
      go_wp2_with fail
      all_goals go_ret2
      all_goals exact ⟨rfl, Below.refl _ _⟩
  | some x =>
    rw [h1] at HW1 hR
    cases h2 : wholeF b with
    | none =>
      rw [h2] at HW2 hR
      subst hR
      simp only [intV] at HW1 HW2
      obtain ⟨zx, hx⟩ : ∃ x, str a = x := ⟨_, rfl⟩
      obtain ⟨zy, hy⟩ : ∃ y, str b = y := ⟨_, rfl⟩
      rw [hx] at HW1 ⊢
      rw [hy] at HW2 ⊢
      clear hx hy hE h1 h2
      go_enter Tryz.func118, Tryz.ntmps118
      go_wp2_with fail
      refine HW1.out.mono ?_
      rintro e w2 ⟨rfl, rfl⟩
      go_wp2_with fail
      refine HW2.out.mono ?_
      rintro e w2 ⟨rfl, rfl⟩
      go_wp2_with fail
      all_goals go_ret2
      all_goals exact ⟨rfl, Below.refl _ _⟩
    | some y =>
      have hx := whole_near h1
      have hy := whole_near h2
      rw [h2] at HW2 hR
      have hR2 : ansF (opR (some (unitF (decide (x < y))))) = R := hR
      have HS := hidK (sumR_lt x y w)
      rw [hR2] at HS
      simp only [intV] at HW1 HW2
      obtain ⟨zx, hzx⟩ : ∃ x, str a = x := ⟨_, rfl⟩
      obtain ⟨zy, hzy⟩ : ∃ y, str b = y := ⟨_, rfl⟩
      rw [hzx] at HW1 ⊢
      rw [hzy] at HW2 ⊢
      have HV : Hid (∃ s k, R = .returned (.tuple #[.string s, .int .i64 k])) := by rw [← hR2]; exact ansF_two _
      obtain ⟨qs, qk, rfl⟩ := HV.out
      clear hzx hzy hE h1 h2 hx hy hR hR2 HV
      go_enter Tryz.func118, Tryz.ntmps118
      go_wp2_with fail
      refine HW1.out.mono ?_
      rintro e w2 ⟨rfl, rfl⟩
      go_wp2_with fail
      refine HW2.out.mono ?_
      rintro e w2 ⟨rfl, rfl⟩
      go_wp2_with fail
      refine HS.out.mono ?_
      rintro e w3 ⟨rfl, hb3⟩
      go_wp2_with fail
      all_goals go_ret2
      all_goals exact ⟨rfl, hb3⟩
set_option maxHeartbeats 2000000 in
theorem bothR_gtn (a b : List UInt8) (ha : a.length ≤ 2147483647) (hb : b.length ≤ 2147483647) (w : World) (hE : NEnv w) : Calls Tryz.prog 118 #[.string ⟨#[101, 124, 62, 124]⟩, .string (str a), .string (str b)] w fun e w' => e = ansF (bothR .gtn a b) ∧ Below w.heap.size w w' := by
  have HW1 := hidK (wholeR_any a ha w)
  have HW2 := hidK (wholeR_any b hb w)
  obtain ⟨R, hR⟩ : ∃ R, ansF (bothR .gtn a b) = R := ⟨_, rfl⟩
  rw [hR]
  unfold bothR numR at hR
  cases h1 : wholeF a with
  | none =>
    rw [h1] at HW1 hR
    subst hR
    cases h2 : wholeF b with
    | none =>
      rw [h2] at HW2
      simp only [intV] at HW1 HW2
      obtain ⟨x, hx⟩ : ∃ x, str a = x := ⟨_, rfl⟩
      obtain ⟨y, hy⟩ : ∃ y, str b = y := ⟨_, rfl⟩
      rw [hx] at HW1 ⊢
      rw [hy] at HW2 ⊢
      clear hx hy hE h1 h2
      go_enter Tryz.func118, Tryz.ntmps118
      go_wp2_with fail
      refine HW1.out.mono ?_
      rintro e w2 ⟨rfl, rfl⟩
      go_wp2_with fail
      refine HW2.out.mono ?_
      rintro e w2 ⟨rfl, rfl⟩
      go_wp2_with fail
      all_goals go_ret2
      all_goals exact ⟨rfl, Below.refl _ _⟩
    | some v =>
      rw [h2] at HW2
      simp only [intV] at HW1 HW2
      obtain ⟨x, hx⟩ : ∃ x, str a = x := ⟨_, rfl⟩
      obtain ⟨y, hy⟩ : ∃ y, str b = y := ⟨_, rfl⟩
      rw [hx] at HW1 ⊢
      rw [hy] at HW2 ⊢
      clear hx hy hE h1 h2
      go_enter Tryz.func118, Tryz.ntmps118
      go_wp2_with fail
      refine HW1.out.mono ?_
      rintro e w2 ⟨rfl, rfl⟩
      go_wp2_with fail
      refine HW2.out.mono ?_
      rintro e w2 ⟨rfl, rfl⟩
      go_wp2_with fail
      all_goals go_ret2
      all_goals exact ⟨rfl, Below.refl _ _⟩
  | some x =>
    rw [h1] at HW1 hR
    cases h2 : wholeF b with
    | none =>
      rw [h2] at HW2 hR
      subst hR
      simp only [intV] at HW1 HW2
      obtain ⟨zx, hx⟩ : ∃ x, str a = x := ⟨_, rfl⟩
      obtain ⟨zy, hy⟩ : ∃ y, str b = y := ⟨_, rfl⟩
      rw [hx] at HW1 ⊢
      rw [hy] at HW2 ⊢
      clear hx hy hE h1 h2
      go_enter Tryz.func118, Tryz.ntmps118
      go_wp2_with fail
      refine HW1.out.mono ?_
      rintro e w2 ⟨rfl, rfl⟩
      go_wp2_with fail
      refine HW2.out.mono ?_
      rintro e w2 ⟨rfl, rfl⟩
      go_wp2_with fail
      all_goals go_ret2
      all_goals exact ⟨rfl, Below.refl _ _⟩
    | some y =>
      have hx := whole_near h1
      have hy := whole_near h2
      rw [h2] at HW2 hR
      have hR2 : ansF (opR (some (unitF (decide (y < x))))) = R := hR
      have HS := hidK (sumR_gt x y w)
      rw [hR2] at HS
      simp only [intV] at HW1 HW2
      obtain ⟨zx, hzx⟩ : ∃ x, str a = x := ⟨_, rfl⟩
      obtain ⟨zy, hzy⟩ : ∃ y, str b = y := ⟨_, rfl⟩
      rw [hzx] at HW1 ⊢
      rw [hzy] at HW2 ⊢
      have HV : Hid (∃ s k, R = .returned (.tuple #[.string s, .int .i64 k])) := by rw [← hR2]; exact ansF_two _
      obtain ⟨qs, qk, rfl⟩ := HV.out
      clear hzx hzy hE h1 h2 hx hy hR hR2 HV
      go_enter Tryz.func118, Tryz.ntmps118
      go_wp2_with fail
      refine HW1.out.mono ?_
      rintro e w2 ⟨rfl, rfl⟩
      go_wp2_with fail
      refine HW2.out.mono ?_
      rintro e w2 ⟨rfl, rfl⟩
      go_wp2_with fail
      refine HS.out.mono ?_
      rintro e w3 ⟨rfl, hb3⟩
      go_wp2_with fail
      all_goals go_ret2
      all_goals exact ⟨rfl, hb3⟩

end Go.Proofs.YtlfcjcaofhcfnaaGreatDoor
