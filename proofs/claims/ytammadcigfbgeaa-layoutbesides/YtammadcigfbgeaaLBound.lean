/-
  Layouts: where the cells of a layout lie; what lies beside what.
-/
import Derived.Test.YtammadcigfbgeaaLLooksW
namespace Go.Proofs.Ytammadcigfbgeaa
open Go.RowKit
set_option linter.unusedVariables false
set_option maxRecDepth 100000

/-- A cell lies within. -/
def Within (c : CellV) (x y w h : Int) : Prop := (x ≤ c.x ∧ 1 ≤ c.w ∧ c.x + c.w ≤ x + w) ∧ (y ≤ c.y ∧ 1 ≤ c.h ∧ c.y + c.h ≤ y + h)
mutual
theorem told_within : ∀ (t : Tree) (x y d : Int) (c : CellV), t.kinds → t.sound = true → c ∈ (t.moved x y).tell d → Within c x y t.box.w t.box.h
  | .leaf b p, x, y, d, c, hk, hs, hc => by
    have h := (Tree.leaf b p).sound_sides hs
    change (1 ≤ b.w ∧ b.w ≤ 1000) ∧ (1 ≤ b.h ∧ b.h ≤ 1000) at h
    have hc' : c ∈ [(⟨d, 1, x, y, b.w, b.h, p⟩ : CellV)] := hc
    simp only [List.mem_cons, List.not_mem_nil, or_false] at hc'
    subst hc'
    show (x ≤ x ∧ 1 ≤ b.w ∧ x + b.w ≤ x + b.w) ∧ (y ≤ y ∧ 1 ≤ b.h ∧ y + b.h ≤ y + b.h)
    omega
  | .split b k ts, x, y, d, c, hk, hs, hc => by
    have h := (Tree.split b k ts).sound_sides hs
    change (1 ≤ b.w ∧ b.w ≤ 1000) ∧ (1 ≤ b.h ∧ b.h ≤ 1000) at h
    unfold Tree.sound at hs
    simp only [Bool.and_eq_true, decide_eq_true_eq] at hs
    have hc' : c ∈ (⟨d, k, x, y, b.w, b.h, 0⟩ : CellV) :: tellAll (movedAll ts k x y) (d + 1) := hc
    rcases List.mem_cons.1 hc' with rfl | hc'
    · show (x ≤ x ∧ 1 ≤ b.w ∧ x + b.w ≤ x + b.w) ∧ (y ≤ y ∧ 1 ≤ b.h ∧ y + b.h ≤ y + b.h)
      omega
    · have := tolds_within ts b k x y (d + 1) c hk.1 hk.2 hs.2.1 hc'
      have he := hs.2.2
      show Within c x y b.w b.h
      unfold Within
      rcases hk.1 with rfl | rfl
      · rw [if_pos rfl] at this
        change extAll ts 2 = b.w at he
        omega
      · rw [if_neg (by decide)] at this
        change extAll ts 3 = b.h at he
        omega
theorem tolds_within : ∀ (ts : List Tree) (b : Box) (k x y d : Int) (c : CellV), (k = 2 ∨ k = 3) → kindsAll ts → soundAll ts b k = true → c ∈ tellAll (movedAll ts k x y) d → if k = 2 then (x ≤ c.x ∧ 1 ≤ c.w ∧ c.x + c.w ≤ x + extAll ts k) ∧ (y ≤ c.y ∧ 1 ≤ c.h ∧ c.y + c.h ≤ y + b.h) else (x ≤ c.x ∧ 1 ≤ c.w ∧ c.x + c.w ≤ x + b.w) ∧ (y ≤ c.y ∧ 1 ≤ c.h ∧ c.y + c.h ≤ y + extAll ts k)
  | [], b, k, x, y, d, c, hk, hks, hs, hc => by cases hc
  | t :: ts, b, k, x, y, d, c, hk, hks, hs, hc => by
    have hpos := extAll_pos ts b k (by unfold soundAll at hs; simp only [Bool.and_eq_true] at hs; exact hs.2)
    have hside := ext_side (t :: ts) b k 0 t rfl hs
    unfold soundAll at hs
    simp only [Bool.and_eq_true, decide_eq_true_eq] at hs
    have hc' : c ∈ (t.moved x y).tell d ++ tellAll (if k = 2 then movedAll ts k (x + (t.box.ext k + 1)) y else movedAll ts k x (y + (t.box.ext k + 1))) d := hc
    have hext : extAll (t :: ts) k = t.box.ext k + 1 + extAll ts k := rfl
    have hac := hs.1.2.2
    rcases List.mem_append.1 hc' with hc' | hc'
    · have h1 := told_within t x y d c hks.1 hs.1.1 hc'
      unfold Within at h1
      rcases hk with rfl | rfl
      · rw [if_pos rfl, hext]
        change t.box.h = b.h at hac
        have e : t.box.ext 2 = t.box.w := rfl
        omega
      · rw [if_neg (by decide), hext]
        change t.box.w = b.w at hac
        have e : t.box.ext 3 = t.box.h := rfl
        omega
    · rcases hk with rfl | rfl
      · rw [if_pos rfl] at hc' ⊢
        have h2 := tolds_within ts b 2 (x + (t.box.ext 2 + 1)) y d c (.inl rfl) hks.2 hs.2 hc'
        rw [if_pos rfl] at h2
        rw [hext]
        omega
      · rw [if_neg (by decide)] at hc' ⊢
        have h2 := tolds_within ts b 3 x (y + (t.box.ext 3 + 1)) d c (.inr rfl) hks.2 hs.2 hc'
        rw [if_neg (by decide)] at h2
        rw [hext]
        omega
end
/-- In a layout every cell lies within the first one. -/
theorem lay_within {l : List CellV} (hs : (readF l).isSome = true) : ∃ W H, (1 ≤ W ∧ W ≤ 1000) ∧ (1 ≤ H ∧ H ≤ 1000) ∧ (∀ c0, l[0]? = some c0 → c0.w = W ∧ c0.h = H) ∧ ∀ c ∈ l, Within c 0 0 W H := by
  cases hr : readF l with
  | none => rw [hr] at hs; cases hs
  | some t =>
    have h := readF_lay hr
    have hsd := t.sound_sides h.sound
    refine ⟨t.box.w, t.box.h, hsd.1, hsd.2, fun c0 hc => ?_, fun c hc => ?_⟩
    · have ht := h.tell
      cases t with
      | leaf b p => rw [← ht] at hc; cases hc; exact ⟨rfl, rfl⟩
      | split b k ts => rw [← ht] at hc; cases hc; exact ⟨rfl, rfl⟩
    · rw [← h.tell, ← h.moved] at hc
      exact told_within t 0 0 0 c h.kinds h.sound hc

def followB (b s n w : Int) : Bool := if b + s = w then decide (n = 0) else decide (n = b + s + 1)
def overB (a sa b sb : Int) : Bool := decide (a < b + sb) && decide (b < a + sa)
def liesB (f c : CellV) (W H side : Int) : Bool :=
  if side = 1 then followB c.x c.w f.x W && overB f.y f.h c.y c.h
  else if side = 2 then followB f.x f.w c.x W && overB f.y f.h c.y c.h
  else if side = 3 then followB c.y c.h f.y H && overB f.x f.w c.x c.w
  else if side = 4 then followB f.y f.h c.y H && overB f.x f.w c.x c.w
  else false
def atB (p w : Int) : Int := if p = 0 then w + 1 else p
theorem follow_left (b s n w : Int) (h1 : 0 ≤ b) (h2 : 1 ≤ s) (h3 : b + s ≤ w) (h4 : 0 ≤ n) (h5 : n < w) : followB b s n w = decide (b + s + 1 = atB n w) := by
  unfold followB atB
  by_cases e : b + s = w
  · rw [if_pos e]
    by_cases e2 : n = 0
    · rw [if_pos e2, decide_eq_true e2, decide_eq_true (by omega)]
    · rw [if_neg e2, decide_eq_false e2, decide_eq_false (by omega)]
  · rw [if_neg e]
    by_cases e2 : n = 0
    · rw [if_pos e2, decide_eq_false (by omega), decide_eq_false (by omega)]
    · rw [if_neg e2]
      by_cases e3 : n = b + s + 1
      · rw [decide_eq_true e3, decide_eq_true (by omega)]
      · rw [decide_eq_false e3, decide_eq_false (by omega)]

theorem follow_any (b s n w0 : Int) (w : World) (h1 : 0 ≤ b ∧ b ≤ 1000) (h2 : 0 ≤ s ∧ s ≤ 1000) : Calls Try.prog 67 #[.int .i64 b, .int .i64 s, .int .i64 n, .int .i64 w0] w fun e w' => e = .returned (.bool (followB b s n w0)) ∧ w = w' := by
  have v1 : IntKind.i64.wrap (b + s) = b + s := by rw [IntKind.wrap_i64]; omega
  have v2 : IntKind.i64.wrap (b + s + 1) = b + s + 1 := by rw [IntKind.wrap_i64]; omega
  clear h1 h2
  by_cases e : b + s = w0
  · have e' : (b + s == w0) = true := by simpa using e
    obtain ⟨r, hr⟩ : ∃ r, (n == 0) = r := ⟨_, rfl⟩
    have HR : Hid (followB b s n w0 = r) := by
      show _ = _
      unfold followB
      rw [if_pos e, ← hr]
      cases hq : (n == 0) <;> simp_all
    clear e
    go_enter Try.func67, Try.ntmps67
    go_wp2
    go_ret
    exact ⟨by rw [HR.out]; rfl, rfl⟩
  · have e' : (b + s == w0) = false := by simpa using e
    obtain ⟨r, hr⟩ : ∃ r, (n == b + s + 1) = r := ⟨_, rfl⟩
    have HR : Hid (followB b s n w0 = r) := by
      show _ = _
      unfold followB
      rw [if_neg e, ← hr]
      cases hq : (n == b + s + 1) <;> simp_all
    clear e
    go_enter Try.func67, Try.ntmps67
    go_wp2
    go_ret
    exact ⟨by rw [HR.out]; rfl, rfl⟩
theorem overlap_any (a sa b sb : Int) (w : World) (h1 : 0 ≤ a ∧ a ≤ 1000) (h2 : 0 ≤ sa ∧ sa ≤ 1000) (h3 : 0 ≤ b ∧ b ≤ 1000) (h4 : 0 ≤ sb ∧ sb ≤ 1000) : Calls Try.prog 68 #[.int .i64 a, .int .i64 sa, .int .i64 b, .int .i64 sb] w fun e w' => e = .returned (.bool (overB a sa b sb)) ∧ w = w' := by
  have v1 : IntKind.i64.wrap (b + sb) = b + sb := by rw [IntKind.wrap_i64]; omega
  have v2 : IntKind.i64.wrap (a + sa) = a + sa := by rw [IntKind.wrap_i64]; omega
  clear h1 h2 h3 h4
  by_cases e : a < b + sb
  · obtain ⟨r, hr⟩ : ∃ r, decide (b < a + sa) = r := ⟨_, rfl⟩
    have HR : Hid (overB a sa b sb = r) := by show _ = _; unfold overB; rw [decide_eq_true e, hr]; rfl
    go_enter Try.func68, Try.ntmps68
    go_wp2
    go_ret
    exact ⟨by rw [HR.out]; rfl, rfl⟩
  · have HR : Hid (overB a sa b sb = false) := by show _ = _; unfold overB; rw [decide_eq_false e]; rfl
    go_enter Try.func68, Try.ntmps68
    go_wp2
    go_ret
    exact ⟨by rw [HR.out]; rfl, rfl⟩
theorem meet_any (a sa b sb : Int) (w : World) (h1 : 0 ≤ a ∧ a ≤ 1000) (h2 : 0 ≤ sa ∧ sa ≤ 1000) (h3 : 0 ≤ b ∧ b ≤ 1000) (h4 : 0 ≤ sb ∧ sb ≤ 1000) : Calls Try.prog 69 #[.int .i64 a, .int .i64 sa, .int .i64 b, .int .i64 sb] w fun e w' => e = .returned (.bool (overB a sa b sb)) ∧ w = w' := by
  have v1 : IntKind.i64.wrap (b + sb) = b + sb := by rw [IntKind.wrap_i64]; omega
  have v2 : IntKind.i64.wrap (a + sa) = a + sa := by rw [IntKind.wrap_i64]; omega
  clear h1 h2 h3 h4
  by_cases e : a < b + sb
  · obtain ⟨r, hr⟩ : ∃ r, decide (b < a + sa) = r := ⟨_, rfl⟩
    have HR : Hid (overB a sa b sb = r) := by show _ = _; unfold overB; rw [decide_eq_true e, hr]; rfl
    go_enter Try.func69, Try.ntmps69
    go_wp2
    go_ret
    exact ⟨by rw [HR.out]; rfl, rfl⟩
  · have HR : Hid (overB a sa b sb = false) := by show _ = _; unfold overB; rw [decide_eq_false e]; rfl
    go_enter Try.func69, Try.ntmps69
    go_wp2
    go_ret
    exact ⟨by rw [HR.out]; rfl, rfl⟩

end Go.Proofs.Ytammadcigfbgeaa
