/-
  Layouts: liesBeside and touches, of cells that lie within.
-/
import Derived.Test.YtlaelkcmeaiajaaCBa
namespace Go.Proofs.Ytlaelkcmeaiajaa
open Go.RowKit
set_option linter.unusedVariables false
set_option maxRecDepth 100000

def aggC (c : CellV) : Value := .agg #[.int .i64 c.depth, .int .i64 c.kind, .int .i64 c.x, .int .i64 c.y, .int .i64 c.w, .int .i64 c.h, .int .i64 c.p]
theorem liesB_1 (f c : CellV) (W H : Int) : liesB f c W H 1 = (followB c.x c.w f.x W && overB f.y f.h c.y c.h) := rfl
theorem liesB_2 (f c : CellV) (W H : Int) : liesB f c W H 2 = (followB f.x f.w c.x W && overB f.y f.h c.y c.h) := rfl
theorem liesB_3 (f c : CellV) (W H : Int) : liesB f c W H 3 = (followB c.y c.h f.y H && overB f.x f.w c.x c.w) := rfl
theorem liesB_4 (f c : CellV) (W H : Int) : liesB f c W H 4 = (followB f.y f.h c.y H && overB f.x f.w c.x c.w) := rfl
theorem liesB_no (f c : CellV) (W H side : Int) (h1 : side ≠ 1) (h2 : side ≠ 2) (h3 : side ≠ 3) (h4 : side ≠ 4) : liesB f c W H side = false := by
  unfold liesB
  rw [if_neg h1, if_neg h2, if_neg h3, if_neg h4]

set_option maxHeartbeats 1000000 in
theorem lies_1 (f c wh : CellV) (w : World) (hf : Within f 0 0 wh.w wh.h) (hc : Within c 0 0 wh.w wh.h) (hw : wh.w ≤ 1000) (hh : wh.h ≤ 1000) : Calls Try.prog 16 #[aggC f, aggC c, aggC wh, .int .i64 1] w fun e w' => e = .returned (.bool (liesB f c wh.w wh.h 1)) ∧ Below w.heap.size w w' := by
  unfold Within at hf hc
  have HF : Hid (∀ X, Calls Try.prog 28 #[.int .i64 c.x, .int .i64 c.w, .int .i64 f.x, .int .i64 wh.w] X fun e w' => e = .returned (.bool (followB c.x c.w f.x wh.w)) ∧ X = w') := fun X => follow_any _ _ _ _ X (by omega) (by omega)
  have HO : Hid (∀ X, Calls Try.prog 29 #[.int .i64 f.y, .int .i64 f.h, .int .i64 c.y, .int .i64 c.h] X fun e w' => e = .returned (.bool (overB f.y f.h c.y c.h)) ∧ X = w') := fun X => overlap_any _ _ _ _ X (by omega) (by omega) (by omega) (by omega)
  have HB : Hid (∀ o o' o'', Below w.heap.size w (((w.alloc o).alloc o').alloc o'')) := fun o o' o'' => (((Below.refl _ _).alloc (Nat.le_refl _) _).alloc (by simp) _).alloc (by simp; omega) _
  rw [liesB_1]
  obtain ⟨r1, h1⟩ : ∃ r, followB c.x c.w f.x wh.w = r := ⟨_, rfl⟩
  obtain ⟨r2, h2⟩ : ∃ r, overB f.y f.h c.y c.h = r := ⟨_, rfl⟩
  rw [h1] at HF ⊢
  rw [h2] at HO ⊢
  unfold aggC
  clear hf hc hw hh h1 h2
  cases r1
  · go_enter Try.func16, Try.ntmps16
    go_wp2_with fail
    refine (HF.out _).mono ?_
    rintro e w1 ⟨rfl, rfl⟩
    go_wp2
    go_ret
    exact ⟨rfl, HB.out _ _ _⟩
  · go_enter Try.func16, Try.ntmps16
    go_wp2_with fail
    refine (HF.out _).mono ?_
    rintro e w1 ⟨rfl, rfl⟩
    go_wp2_with fail
    refine (HO.out _).mono ?_
    rintro e w1 ⟨rfl, rfl⟩
    go_wp2
    go_ret
    exact ⟨rfl, HB.out _ _ _⟩
set_option maxHeartbeats 1000000 in
theorem lies_2 (f c wh : CellV) (w : World) (hf : Within f 0 0 wh.w wh.h) (hc : Within c 0 0 wh.w wh.h) (hw : wh.w ≤ 1000) (hh : wh.h ≤ 1000) : Calls Try.prog 16 #[aggC f, aggC c, aggC wh, .int .i64 2] w fun e w' => e = .returned (.bool (liesB f c wh.w wh.h 2)) ∧ Below w.heap.size w w' := by
  unfold Within at hf hc
  have HF : Hid (∀ X, Calls Try.prog 28 #[.int .i64 f.x, .int .i64 f.w, .int .i64 c.x, .int .i64 wh.w] X fun e w' => e = .returned (.bool (followB f.x f.w c.x wh.w)) ∧ X = w') := fun X => follow_any _ _ _ _ X (by omega) (by omega)
  have HO : Hid (∀ X, Calls Try.prog 29 #[.int .i64 f.y, .int .i64 f.h, .int .i64 c.y, .int .i64 c.h] X fun e w' => e = .returned (.bool (overB f.y f.h c.y c.h)) ∧ X = w') := fun X => overlap_any _ _ _ _ X (by omega) (by omega) (by omega) (by omega)
  have HB : Hid (∀ o o' o'', Below w.heap.size w (((w.alloc o).alloc o').alloc o'')) := fun o o' o'' => (((Below.refl _ _).alloc (Nat.le_refl _) _).alloc (by simp) _).alloc (by simp; omega) _
  rw [liesB_2]
  obtain ⟨r1, h1⟩ : ∃ r, followB f.x f.w c.x wh.w = r := ⟨_, rfl⟩
  obtain ⟨r2, h2⟩ : ∃ r, overB f.y f.h c.y c.h = r := ⟨_, rfl⟩
  rw [h1] at HF ⊢
  rw [h2] at HO ⊢
  unfold aggC
  clear hf hc hw hh h1 h2
  cases r1
  · go_enter Try.func16, Try.ntmps16
    go_wp2_with fail
    refine (HF.out _).mono ?_
    rintro e w1 ⟨rfl, rfl⟩
    go_wp2
    go_ret
    exact ⟨rfl, HB.out _ _ _⟩
  · go_enter Try.func16, Try.ntmps16
    go_wp2_with fail
    refine (HF.out _).mono ?_
    rintro e w1 ⟨rfl, rfl⟩
    go_wp2_with fail
    refine (HO.out _).mono ?_
    rintro e w1 ⟨rfl, rfl⟩
    go_wp2
    go_ret
    exact ⟨rfl, HB.out _ _ _⟩
set_option maxHeartbeats 1000000 in
theorem lies_3 (f c wh : CellV) (w : World) (hf : Within f 0 0 wh.w wh.h) (hc : Within c 0 0 wh.w wh.h) (hw : wh.w ≤ 1000) (hh : wh.h ≤ 1000) : Calls Try.prog 16 #[aggC f, aggC c, aggC wh, .int .i64 3] w fun e w' => e = .returned (.bool (liesB f c wh.w wh.h 3)) ∧ Below w.heap.size w w' := by
  unfold Within at hf hc
  have HF : Hid (∀ X, Calls Try.prog 28 #[.int .i64 c.y, .int .i64 c.h, .int .i64 f.y, .int .i64 wh.h] X fun e w' => e = .returned (.bool (followB c.y c.h f.y wh.h)) ∧ X = w') := fun X => follow_any _ _ _ _ X (by omega) (by omega)
  have HO : Hid (∀ X, Calls Try.prog 29 #[.int .i64 f.x, .int .i64 f.w, .int .i64 c.x, .int .i64 c.w] X fun e w' => e = .returned (.bool (overB f.x f.w c.x c.w)) ∧ X = w') := fun X => overlap_any _ _ _ _ X (by omega) (by omega) (by omega) (by omega)
  have HB : Hid (∀ o o' o'', Below w.heap.size w (((w.alloc o).alloc o').alloc o'')) := fun o o' o'' => (((Below.refl _ _).alloc (Nat.le_refl _) _).alloc (by simp) _).alloc (by simp; omega) _
  rw [liesB_3]
  obtain ⟨r1, h1⟩ : ∃ r, followB c.y c.h f.y wh.h = r := ⟨_, rfl⟩
  obtain ⟨r2, h2⟩ : ∃ r, overB f.x f.w c.x c.w = r := ⟨_, rfl⟩
  rw [h1] at HF ⊢
  rw [h2] at HO ⊢
  unfold aggC
  clear hf hc hw hh h1 h2
  cases r1
  · go_enter Try.func16, Try.ntmps16
    go_wp2_with fail
    refine (HF.out _).mono ?_
    rintro e w1 ⟨rfl, rfl⟩
    go_wp2
    go_ret
    exact ⟨rfl, HB.out _ _ _⟩
  · go_enter Try.func16, Try.ntmps16
    go_wp2_with fail
    refine (HF.out _).mono ?_
    rintro e w1 ⟨rfl, rfl⟩
    go_wp2_with fail
    refine (HO.out _).mono ?_
    rintro e w1 ⟨rfl, rfl⟩
    go_wp2
    go_ret
    exact ⟨rfl, HB.out _ _ _⟩
set_option maxHeartbeats 1000000 in
theorem lies_4 (f c wh : CellV) (w : World) (hf : Within f 0 0 wh.w wh.h) (hc : Within c 0 0 wh.w wh.h) (hw : wh.w ≤ 1000) (hh : wh.h ≤ 1000) : Calls Try.prog 16 #[aggC f, aggC c, aggC wh, .int .i64 4] w fun e w' => e = .returned (.bool (liesB f c wh.w wh.h 4)) ∧ Below w.heap.size w w' := by
  unfold Within at hf hc
  have HF : Hid (∀ X, Calls Try.prog 28 #[.int .i64 f.y, .int .i64 f.h, .int .i64 c.y, .int .i64 wh.h] X fun e w' => e = .returned (.bool (followB f.y f.h c.y wh.h)) ∧ X = w') := fun X => follow_any _ _ _ _ X (by omega) (by omega)
  have HO : Hid (∀ X, Calls Try.prog 29 #[.int .i64 f.x, .int .i64 f.w, .int .i64 c.x, .int .i64 c.w] X fun e w' => e = .returned (.bool (overB f.x f.w c.x c.w)) ∧ X = w') := fun X => overlap_any _ _ _ _ X (by omega) (by omega) (by omega) (by omega)
  have HB : Hid (∀ o o' o'', Below w.heap.size w (((w.alloc o).alloc o').alloc o'')) := fun o o' o'' => (((Below.refl _ _).alloc (Nat.le_refl _) _).alloc (by simp) _).alloc (by simp; omega) _
  rw [liesB_4]
  obtain ⟨r1, h1⟩ : ∃ r, followB f.y f.h c.y wh.h = r := ⟨_, rfl⟩
  obtain ⟨r2, h2⟩ : ∃ r, overB f.x f.w c.x c.w = r := ⟨_, rfl⟩
  rw [h1] at HF ⊢
  rw [h2] at HO ⊢
  unfold aggC
  clear hf hc hw hh h1 h2
  cases r1
  · go_enter Try.func16, Try.ntmps16
    go_wp2_with fail
    refine (HF.out _).mono ?_
    rintro e w1 ⟨rfl, rfl⟩
    go_wp2
    go_ret
    exact ⟨rfl, HB.out _ _ _⟩
  · go_enter Try.func16, Try.ntmps16
    go_wp2_with fail
    refine (HF.out _).mono ?_
    rintro e w1 ⟨rfl, rfl⟩
    go_wp2_with fail
    refine (HO.out _).mono ?_
    rintro e w1 ⟨rfl, rfl⟩
    go_wp2
    go_ret
    exact ⟨rfl, HB.out _ _ _⟩
theorem lies_no (f c wh : CellV) (side : Int) (w : World) (h1 : side ≠ 1) (h2 : side ≠ 2) (h3 : side ≠ 3) (h4 : side ≠ 4) : Calls Try.prog 16 #[aggC f, aggC c, aggC wh, .int .i64 side] w fun e w' => e = .returned (.bool (liesB f c wh.w wh.h side)) ∧ Below w.heap.size w w' := by
  rw [liesB_no f c _ _ side h1 h2 h3 h4]
  have k1 : (side == 1) = false := by simpa using h1
  have k2 : (side == 2) = false := by simpa using h2
  have k3 : (side == 3) = false := by simpa using h3
  have k4 : (side == 4) = false := by simpa using h4
  have HB : Hid (∀ o o' o'', Below w.heap.size w (((w.alloc o).alloc o').alloc o'')) := fun o o' o'' => (((Below.refl _ _).alloc (Nat.le_refl _) _).alloc (by simp) _).alloc (by simp; omega) _
  unfold aggC
  clear h1 h2 h3 h4
  go_enter Try.func16, Try.ntmps16
  go_wp2
  go_ret
  exact ⟨rfl, HB.out _ _ _⟩
theorem lies_any (f c wh : CellV) (side : Int) (w : World) (hf : Within f 0 0 wh.w wh.h) (hc : Within c 0 0 wh.w wh.h) (hw : wh.w ≤ 1000) (hh : wh.h ≤ 1000) : Calls Try.prog 16 #[aggC f, aggC c, aggC wh, .int .i64 side] w fun e w' => e = .returned (.bool (liesB f c wh.w wh.h side)) ∧ Below w.heap.size w w' := by
  by_cases h1 : side = 1
  · subst h1; exact lies_1 f c wh w hf hc hw hh
  · by_cases h2 : side = 2
    · subst h2; exact lies_2 f c wh w hf hc hw hh
    · by_cases h3 : side = 3
      · subst h3; exact lies_3 f c wh w hf hc hw hh
      · by_cases h4 : side = 4
        · subst h4; exact lies_4 f c wh w hf hc hw hh
        · exact lies_no f c wh side w h1 h2 h3 h4

set_option maxHeartbeats 1000000 in
theorem touch_1 (f c : CellV) (W H : Int) (w : World) (hf : Within f 0 0 W H) (hc : Within c 0 0 W H) (hw : W ≤ 1000) (hh : H ≤ 1000) : Calls Try.prog 18 #[aggC f, aggC c, .int .i64 1, .int .i64 W, .int .i64 H] w fun e w' => e = .returned (.bool (liesB f c W H 1)) ∧ Below w.heap.size w w' := by
  unfold Within at hf hc
  have HO : Hid (∀ X, Calls Try.prog 30 #[.int .i64 f.y, .int .i64 f.h, .int .i64 c.y, .int .i64 c.h] X fun e w' => e = .returned (.bool (overB f.y f.h c.y c.h)) ∧ X = w') := fun X => meet_any _ _ _ _ X (by omega) (by omega) (by omega) (by omega)
  have HB : Hid (∀ o o', Below w.heap.size w ((w.alloc o).alloc o')) := fun o o' => ((Below.refl _ _).alloc (Nat.le_refl _) _).alloc (by simp) _
  rw [liesB_1]
  obtain ⟨r2, h2⟩ : ∃ r, overB f.y f.h c.y c.h = r := ⟨_, rfl⟩
  rw [h2] at HO ⊢
  rw [follow_left c.x c.w f.x W (by omega) (by omega) (by omega) (by omega) (by omega)]
  have v1 : IntKind.i64.wrap (c.x + c.w) = c.x + c.w := by rw [IntKind.wrap_i64]; omega
  have v2 : IntKind.i64.wrap (c.x + c.w + 1) = c.x + c.w + 1 := by rw [IntKind.wrap_i64]; omega
  have v3 : IntKind.i64.wrap (W + 1) = W + 1 := by rw [IntKind.wrap_i64]; omega
  unfold aggC atB
  clear h2
  by_cases e0 : f.x = 0
  · have e0' : (f.x == 0) = true := by simpa using e0
    rw [if_pos e0]
    obtain ⟨r1, h1⟩ : ∃ r, (c.x + c.w + 1 == W + 1) = r := ⟨_, rfl⟩
    have HR : Hid (decide (c.x + c.w + 1 = W + 1) = r1) := by show _ = _; rw [← h1]; cases hq : (c.x + c.w + 1 == W + 1) <;> simp_all
    rw [HR.out]
    clear hf hc hw hh e0
    cases r1
    · go_enter Try.func18, Try.ntmps18
      go_wp2
      go_ret
      exact ⟨rfl, HB.out _ _⟩
    · go_enter Try.func18, Try.ntmps18
      go_wp2_with fail
      refine (HO.out _).mono ?_
      rintro e w1 ⟨rfl, rfl⟩
      go_wp2
      go_ret
      exact ⟨rfl, HB.out _ _⟩
  · have e0' : (f.x == 0) = false := by simpa using e0
    rw [if_neg e0]
    obtain ⟨r1, h1⟩ : ∃ r, (c.x + c.w + 1 == f.x) = r := ⟨_, rfl⟩
    have HR : Hid (decide (c.x + c.w + 1 = f.x) = r1) := by show _ = _; rw [← h1]; cases hq : (c.x + c.w + 1 == f.x) <;> simp_all
    rw [HR.out]
    clear hf hc hw hh e0
    cases r1
    · go_enter Try.func18, Try.ntmps18
      go_wp2
      go_ret
      exact ⟨rfl, HB.out _ _⟩
    · go_enter Try.func18, Try.ntmps18
      go_wp2_with fail
      refine (HO.out _).mono ?_
      rintro e w1 ⟨rfl, rfl⟩
      go_wp2
      go_ret
      exact ⟨rfl, HB.out _ _⟩
set_option maxHeartbeats 1000000 in
theorem touch_2 (f c : CellV) (W H : Int) (w : World) (hf : Within f 0 0 W H) (hc : Within c 0 0 W H) (hw : W ≤ 1000) (hh : H ≤ 1000) : Calls Try.prog 18 #[aggC f, aggC c, .int .i64 2, .int .i64 W, .int .i64 H] w fun e w' => e = .returned (.bool (liesB f c W H 2)) ∧ Below w.heap.size w w' := by
  unfold Within at hf hc
  have HO : Hid (∀ X, Calls Try.prog 30 #[.int .i64 f.y, .int .i64 f.h, .int .i64 c.y, .int .i64 c.h] X fun e w' => e = .returned (.bool (overB f.y f.h c.y c.h)) ∧ X = w') := fun X => meet_any _ _ _ _ X (by omega) (by omega) (by omega) (by omega)
  have HB : Hid (∀ o o', Below w.heap.size w ((w.alloc o).alloc o')) := fun o o' => ((Below.refl _ _).alloc (Nat.le_refl _) _).alloc (by simp) _
  rw [liesB_2]
  obtain ⟨r2, h2⟩ : ∃ r, overB f.y f.h c.y c.h = r := ⟨_, rfl⟩
  rw [h2] at HO ⊢
  have v1 : IntKind.i64.wrap (f.x + f.w) = f.x + f.w := by rw [IntKind.wrap_i64]; omega
  have v2 : IntKind.i64.wrap (f.x + f.w + 1) = f.x + f.w + 1 := by rw [IntKind.wrap_i64]; omega
  have v3 : IntKind.i64.wrap (W + 1) = W + 1 := by rw [IntKind.wrap_i64]; omega
  unfold aggC followB
  clear h2
  by_cases e0 : f.x + f.w = W
  · have e0' : (f.x + f.w + 1 == W + 1) = true := by simp; omega
    rw [if_pos e0]
    obtain ⟨r1, h1⟩ : ∃ r, (c.x == 0) = r := ⟨_, rfl⟩
    have HR : Hid (decide (c.x = 0) = r1) := by show _ = _; rw [← h1]; cases hq : (c.x == 0) <;> simp_all
    rw [HR.out]
    clear hf hc hw hh e0
    cases r1
    · go_enter Try.func18, Try.ntmps18
      go_wp2
      go_ret
      exact ⟨rfl, HB.out _ _⟩
    · go_enter Try.func18, Try.ntmps18
      go_wp2_with fail
      refine (HO.out _).mono ?_
      rintro e w1 ⟨rfl, rfl⟩
      go_wp2
      go_ret
      exact ⟨rfl, HB.out _ _⟩
  · have e0' : (f.x + f.w + 1 == W + 1) = false := by simp; omega
    rw [if_neg e0]
    obtain ⟨r1, h1⟩ : ∃ r, (c.x == f.x + f.w + 1) = r := ⟨_, rfl⟩
    have HR : Hid (decide (c.x = f.x + f.w + 1) = r1) := by show _ = _; rw [← h1]; cases hq : (c.x == f.x + f.w + 1) <;> simp_all
    rw [HR.out]
    clear hf hc hw hh e0
    cases r1
    · go_enter Try.func18, Try.ntmps18
      go_wp2
      go_ret
      exact ⟨rfl, HB.out _ _⟩
    · go_enter Try.func18, Try.ntmps18
      go_wp2_with fail
      refine (HO.out _).mono ?_
      rintro e w1 ⟨rfl, rfl⟩
      go_wp2
      go_ret
      exact ⟨rfl, HB.out _ _⟩
set_option maxHeartbeats 1000000 in
theorem touch_3 (f c : CellV) (W H : Int) (w : World) (hf : Within f 0 0 W H) (hc : Within c 0 0 W H) (hw : W ≤ 1000) (hh : H ≤ 1000) : Calls Try.prog 18 #[aggC f, aggC c, .int .i64 3, .int .i64 W, .int .i64 H] w fun e w' => e = .returned (.bool (liesB f c W H 3)) ∧ Below w.heap.size w w' := by
  unfold Within at hf hc
  have HO : Hid (∀ X, Calls Try.prog 30 #[.int .i64 f.x, .int .i64 f.w, .int .i64 c.x, .int .i64 c.w] X fun e w' => e = .returned (.bool (overB f.x f.w c.x c.w)) ∧ X = w') := fun X => meet_any _ _ _ _ X (by omega) (by omega) (by omega) (by omega)
  have HB : Hid (∀ o o', Below w.heap.size w ((w.alloc o).alloc o')) := fun o o' => ((Below.refl _ _).alloc (Nat.le_refl _) _).alloc (by simp) _
  rw [liesB_3]
  obtain ⟨r2, h2⟩ : ∃ r, overB f.x f.w c.x c.w = r := ⟨_, rfl⟩
  rw [h2] at HO ⊢
  rw [follow_left c.y c.h f.y H (by omega) (by omega) (by omega) (by omega) (by omega)]
  have v1 : IntKind.i64.wrap (c.y + c.h) = c.y + c.h := by rw [IntKind.wrap_i64]; omega
  have v2 : IntKind.i64.wrap (c.y + c.h + 1) = c.y + c.h + 1 := by rw [IntKind.wrap_i64]; omega
  have v3 : IntKind.i64.wrap (H + 1) = H + 1 := by rw [IntKind.wrap_i64]; omega
  unfold aggC atB
  clear h2
  by_cases e0 : f.y = 0
  · have e0' : (f.y == 0) = true := by simpa using e0
    rw [if_pos e0]
    obtain ⟨r1, h1⟩ : ∃ r, (c.y + c.h + 1 == H + 1) = r := ⟨_, rfl⟩
    have HR : Hid (decide (c.y + c.h + 1 = H + 1) = r1) := by show _ = _; rw [← h1]; cases hq : (c.y + c.h + 1 == H + 1) <;> simp_all
    rw [HR.out]
    clear hf hc hw hh e0
    cases r1
    · go_enter Try.func18, Try.ntmps18
      go_wp2
      go_ret
      exact ⟨rfl, HB.out _ _⟩
    · go_enter Try.func18, Try.ntmps18
      go_wp2_with fail
      refine (HO.out _).mono ?_
      rintro e w1 ⟨rfl, rfl⟩
      go_wp2
      go_ret
      exact ⟨rfl, HB.out _ _⟩
  · have e0' : (f.y == 0) = false := by simpa using e0
    rw [if_neg e0]
    obtain ⟨r1, h1⟩ : ∃ r, (c.y + c.h + 1 == f.y) = r := ⟨_, rfl⟩
    have HR : Hid (decide (c.y + c.h + 1 = f.y) = r1) := by show _ = _; rw [← h1]; cases hq : (c.y + c.h + 1 == f.y) <;> simp_all
    rw [HR.out]
    clear hf hc hw hh e0
    cases r1
    · go_enter Try.func18, Try.ntmps18
      go_wp2
      go_ret
      exact ⟨rfl, HB.out _ _⟩
    · go_enter Try.func18, Try.ntmps18
      go_wp2_with fail
      refine (HO.out _).mono ?_
      rintro e w1 ⟨rfl, rfl⟩
      go_wp2
      go_ret
      exact ⟨rfl, HB.out _ _⟩
set_option maxHeartbeats 1000000 in
theorem touch_4 (f c : CellV) (W H : Int) (w : World) (hf : Within f 0 0 W H) (hc : Within c 0 0 W H) (hw : W ≤ 1000) (hh : H ≤ 1000) : Calls Try.prog 18 #[aggC f, aggC c, .int .i64 4, .int .i64 W, .int .i64 H] w fun e w' => e = .returned (.bool (liesB f c W H 4)) ∧ Below w.heap.size w w' := by
  unfold Within at hf hc
  have HO : Hid (∀ X, Calls Try.prog 30 #[.int .i64 f.x, .int .i64 f.w, .int .i64 c.x, .int .i64 c.w] X fun e w' => e = .returned (.bool (overB f.x f.w c.x c.w)) ∧ X = w') := fun X => meet_any _ _ _ _ X (by omega) (by omega) (by omega) (by omega)
  have HB : Hid (∀ o o', Below w.heap.size w ((w.alloc o).alloc o')) := fun o o' => ((Below.refl _ _).alloc (Nat.le_refl _) _).alloc (by simp) _
  rw [liesB_4]
  obtain ⟨r2, h2⟩ : ∃ r, overB f.x f.w c.x c.w = r := ⟨_, rfl⟩
  rw [h2] at HO ⊢
  have v1 : IntKind.i64.wrap (f.y + f.h) = f.y + f.h := by rw [IntKind.wrap_i64]; omega
  have v2 : IntKind.i64.wrap (f.y + f.h + 1) = f.y + f.h + 1 := by rw [IntKind.wrap_i64]; omega
  have v3 : IntKind.i64.wrap (H + 1) = H + 1 := by rw [IntKind.wrap_i64]; omega
  unfold aggC followB
  clear h2
  by_cases e0 : f.y + f.h = H
  · have e0' : (f.y + f.h + 1 == H + 1) = true := by simp; omega
    rw [if_pos e0]
    obtain ⟨r1, h1⟩ : ∃ r, (c.y == 0) = r := ⟨_, rfl⟩
    have HR : Hid (decide (c.y = 0) = r1) := by show _ = _; rw [← h1]; cases hq : (c.y == 0) <;> simp_all
    rw [HR.out]
    clear hf hc hw hh e0
    cases r1
    · go_enter Try.func18, Try.ntmps18
      go_wp2
      go_ret
      exact ⟨rfl, HB.out _ _⟩
    · go_enter Try.func18, Try.ntmps18
      go_wp2_with fail
      refine (HO.out _).mono ?_
      rintro e w1 ⟨rfl, rfl⟩
      go_wp2
      go_ret
      exact ⟨rfl, HB.out _ _⟩
  · have e0' : (f.y + f.h + 1 == H + 1) = false := by simp; omega
    rw [if_neg e0]
    obtain ⟨r1, h1⟩ : ∃ r, (c.y == f.y + f.h + 1) = r := ⟨_, rfl⟩
    have HR : Hid (decide (c.y = f.y + f.h + 1) = r1) := by show _ = _; rw [← h1]; cases hq : (c.y == f.y + f.h + 1) <;> simp_all
    rw [HR.out]
    clear hf hc hw hh e0
    cases r1
    · go_enter Try.func18, Try.ntmps18
      go_wp2
      go_ret
      exact ⟨rfl, HB.out _ _⟩
    · go_enter Try.func18, Try.ntmps18
      go_wp2_with fail
      refine (HO.out _).mono ?_
      rintro e w1 ⟨rfl, rfl⟩
      go_wp2
      go_ret
      exact ⟨rfl, HB.out _ _⟩
theorem touch_no (f c : CellV) (W H side : Int) (w : World) (h1 : side ≠ 1) (h2 : side ≠ 2) (h3 : side ≠ 3) (h4 : side ≠ 4) : Calls Try.prog 18 #[aggC f, aggC c, .int .i64 side, .int .i64 W, .int .i64 H] w fun e w' => e = .returned (.bool (liesB f c W H side)) ∧ Below w.heap.size w w' := by
  rw [liesB_no f c _ _ side h1 h2 h3 h4]
  have k1 : (side == 1) = false := by simpa using h1
  have k2 : (side == 2) = false := by simpa using h2
  have k3 : (side == 3) = false := by simpa using h3
  have k4 : (side == 4) = false := by simpa using h4
  have HB : Hid (∀ o o', Below w.heap.size w ((w.alloc o).alloc o')) := fun o o' => ((Below.refl _ _).alloc (Nat.le_refl _) _).alloc (by simp) _
  unfold aggC
  clear h1 h2 h3 h4
  go_enter Try.func18, Try.ntmps18
  go_wp2
  go_ret
  exact ⟨rfl, HB.out _ _⟩
theorem touch_any (f c : CellV) (W H side : Int) (w : World) (hf : Within f 0 0 W H) (hc : Within c 0 0 W H) (hw : W ≤ 1000) (hh : H ≤ 1000) : Calls Try.prog 18 #[aggC f, aggC c, .int .i64 side, .int .i64 W, .int .i64 H] w fun e w' => e = .returned (.bool (liesB f c W H side)) ∧ Below w.heap.size w w' := by
  by_cases h1 : side = 1
  · subst h1; exact touch_1 f c W H w hf hc hw hh
  · by_cases h2 : side = 2
    · subst h2; exact touch_2 f c W H w hf hc hw hh
    · by_cases h3 : side = 3
      · subst h3; exact touch_3 f c W H w hf hc hw hh
      · by_cases h4 : side = 4
        · subst h4; exact touch_4 f c W H w hf hc hw hh
        · exact touch_no f c W H side w h1 h2 h3 h4

end Go.Proofs.Ytlaelkcmeaiajaa
