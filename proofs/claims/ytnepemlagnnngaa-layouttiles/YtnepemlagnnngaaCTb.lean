/-
  Layouts: where the cells of a layout lie; what lies beside what.
  Layouts: panes and borders fill the window, and nothing lies over anything.
  Layouts: the law's own over and kids.
-/
import Derived.Test.YtnepemlagnnngaaCLk
import Derived.Test.YtnepemlagnnngaaCFv
namespace Go.Proofs.Ytnepemlagnnngaa
open Go.RowKit
set_option linter.unusedVariables false
set_option maxRecDepth 100000

/-- A cell lies within. -/
def Within (c : CellV) (x y w h : Int) : Prop := (x ≤ c.x ∧ 1 ≤ c.w ∧ c.x + c.w ≤ x + w) ∧ (y ≤ c.y ∧ 1 ≤ c.h ∧ c.y + c.h ≤ y + h)
mutual
theorem told_within : ∀ (t : Tree) (x y d : Int) (c : CellV), t.kinds → t.sound = true → c ∈ (t.moved x y).tell d → Within c x y t.box.w t.box.h
  | .leaf b p, x, y, d, c, hk, hs, hc => by
    have h := (Tree.leaf b p).sound_sides hs
    change (1 ≤ b.w ∧ b.w ≤ 1000) ∧ (1 ≤ b.h ∧ b.h ≤ 1000) at h
    have hc' : c ∈ [(⟨d, 1, x, y, b.w, b.h, p⟩ : CellV)] := hc
    simp only [List.mem_cons, List.not_mem_nil, or_false] at hc'
    subst hc'
    show (x ≤ x ∧ 1 ≤ b.w ∧ x + b.w ≤ x + b.w) ∧ (y ≤ y ∧ 1 ≤ b.h ∧ y + b.h ≤ y + b.h)
    omega
  | .split b k ts, x, y, d, c, hk, hs, hc => by
    have h := (Tree.split b k ts).sound_sides hs
    change (1 ≤ b.w ∧ b.w ≤ 1000) ∧ (1 ≤ b.h ∧ b.h ≤ 1000) at h
    unfold Tree.sound at hs
    simp only [Bool.and_eq_true, decide_eq_true_eq] at hs
    have hc' : c ∈ (⟨d, k, x, y, b.w, b.h, 0⟩ : CellV) :: tellAll (movedAll ts k x y) (d + 1) := hc
    rcases List.mem_cons.1 hc' with rfl | hc'
    · show (x ≤ x ∧ 1 ≤ b.w ∧ x + b.w ≤ x + b.w) ∧ (y ≤ y ∧ 1 ≤ b.h ∧ y + b.h ≤ y + b.h)
      omega
    · have := tolds_within ts b k x y (d + 1) c hk.1 hk.2 hs.2.1 hc'
      have he := hs.2.2
      show Within c x y b.w b.h
      unfold Within
      rcases hk.1 with rfl | rfl
      · rw [if_pos rfl] at this
        change extAll ts 2 = b.w at he
        omega
      · rw [if_neg (by decide)] at this
        change extAll ts 3 = b.h at he
        omega
theorem tolds_within : ∀ (ts : List Tree) (b : Box) (k x y d : Int) (c : CellV), (k = 2 ∨ k = 3) → kindsAll ts → soundAll ts b k = true → c ∈ tellAll (movedAll ts k x y) d → if k = 2 then (x ≤ c.x ∧ 1 ≤ c.w ∧ c.x + c.w ≤ x + extAll ts k) ∧ (y ≤ c.y ∧ 1 ≤ c.h ∧ c.y + c.h ≤ y + b.h) else (x ≤ c.x ∧ 1 ≤ c.w ∧ c.x + c.w ≤ x + b.w) ∧ (y ≤ c.y ∧ 1 ≤ c.h ∧ c.y + c.h ≤ y + extAll ts k)
  | [], b, k, x, y, d, c, hk, hks, hs, hc => by cases hc
  | t :: ts, b, k, x, y, d, c, hk, hks, hs, hc => by
    have hpos := extAll_pos ts b k (by unfold soundAll at hs; simp only [Bool.and_eq_true] at hs; exact hs.2)
    have hside := ext_side (t :: ts) b k 0 t rfl hs
    unfold soundAll at hs
    simp only [Bool.and_eq_true, decide_eq_true_eq] at hs
    have hc' : c ∈ (t.moved x y).tell d ++ tellAll (if k = 2 then movedAll ts k (x + (t.box.ext k + 1)) y else movedAll ts k x (y + (t.box.ext k + 1))) d := hc
    have hext : extAll (t :: ts) k = t.box.ext k + 1 + extAll ts k := rfl
    have hac := hs.1.2.2
    rcases List.mem_append.1 hc' with hc' | hc'
    · have h1 := told_within t x y d c hks.1 hs.1.1 hc'
      unfold Within at h1
      rcases hk with rfl | rfl
      · rw [if_pos rfl, hext]
        change t.box.h = b.h at hac
        have e : t.box.ext 2 = t.box.w := rfl
        omega
      · rw [if_neg (by decide), hext]
        change t.box.w = b.w at hac
        have e : t.box.ext 3 = t.box.h := rfl
        omega
    · rcases hk with rfl | rfl
      · rw [if_pos rfl] at hc' ⊢
        have h2 := tolds_within ts b 2 (x + (t.box.ext 2 + 1)) y d c (.inl rfl) hks.2 hs.2 hc'
        rw [if_pos rfl] at h2
        rw [hext]
        omega
      · rw [if_neg (by decide)] at hc' ⊢
        have h2 := tolds_within ts b 3 x (y + (t.box.ext 3 + 1)) d c (.inr rfl) hks.2 hs.2 hc'
        rw [if_neg (by decide)] at h2
        rw [hext]
        omega
end
/-- In a layout every cell lies within the first one. -/
theorem lay_within {l : List CellV} (hs : (readF l).isSome = true) : ∃ W H, (1 ≤ W ∧ W ≤ 1000) ∧ (1 ≤ H ∧ H ≤ 1000) ∧ (∀ c0, l[0]? = some c0 → c0.w = W ∧ c0.h = H) ∧ ∀ c ∈ l, Within c 0 0 W H := by
  cases hr : readF l with
  | none => rw [hr] at hs; cases hs
  | some t =>
    have h := readF_lay hr
    have hsd := t.sound_sides h.sound
    refine ⟨t.box.w, t.box.h, hsd.1, hsd.2, fun c0 hc => ?_, fun c hc => ?_⟩
    · have ht := h.tell
      cases t with
      | leaf b p => rw [← ht] at hc; cases hc; exact ⟨rfl, rfl⟩
      | split b k ts => rw [← ht] at hc; cases hc; exact ⟨rfl, rfl⟩
    · rw [← h.tell, ← h.moved] at hc
      exact told_within t 0 0 0 c h.kinds h.sound hc

def followB (b s n w : Int) : Bool := if b + s = w then decide (n = 0) else decide (n = b + s + 1)
def overB (a sa b sb : Int) : Bool := decide (a < b + sb) && decide (b < a + sa)
def liesB (f c : CellV) (W H side : Int) : Bool :=
  if side = 1 then followB c.x c.w f.x W && overB f.y f.h c.y c.h
  else if side = 2 then followB f.x f.w c.x W && overB f.y f.h c.y c.h
  else if side = 3 then followB c.y c.h f.y H && overB f.x f.w c.x c.w
  else if side = 4 then followB f.y f.h c.y H && overB f.x f.w c.x c.w
  else false
def atB (p w : Int) : Int := if p = 0 then w + 1 else p
theorem follow_left (b s n w : Int) (h1 : 0 ≤ b) (h2 : 1 ≤ s) (h3 : b + s ≤ w) (h4 : 0 ≤ n) (h5 : n < w) : followB b s n w = decide (b + s + 1 = atB n w) := by
  unfold followB atB
  by_cases e : b + s = w
  · rw [if_pos e]
    by_cases e2 : n = 0
    · rw [if_pos e2, decide_eq_true e2, decide_eq_true (by omega)]
    · rw [if_neg e2, decide_eq_false e2, decide_eq_false (by omega)]
  · rw [if_neg e]
    by_cases e2 : n = 0
    · rw [if_pos e2, decide_eq_false (by omega), decide_eq_false (by omega)]
    · rw [if_neg e2]
      by_cases e3 : n = b + s + 1
      · rw [decide_eq_true e3, decide_eq_true (by omega)]
      · rw [decide_eq_false e3, decide_eq_false (by omega)]

end Go.Proofs.Ytnepemlagnnngaa

namespace Go.Proofs.Ytnepemlagnnngaa
open Go.RowKit
set_option linter.unusedVariables false
set_option maxRecDepth 20000

/-- How many children a cell of that depth has, of what stands behind it. -/
def kidsF (d : Int) : List CellV → Int
  | [] => 0
  | c :: r => if d < c.depth then (if c.depth = d + 1 then 1 else 0) + kidsF d r else 0
/-- What a cell fills. -/
def contr (c : CellV) (r : List CellV) : Int := if c.kind = 2 then (kidsF c.depth r - 1) * c.h else if c.kind = 3 then (kidsF c.depth r - 1) * c.w else c.w * c.h
def fillL : List CellV → Int
  | [] => 0
  | c :: r => contr c r + fillL r

theorem kidsF_cons (d : Int) (c : CellV) (r : List CellV) : kidsF d (c :: r) = if d < c.depth then (if c.depth = d + 1 then 1 else 0) + kidsF d r else 0 := rfl
theorem kidsF_low (d : Int) (r : List CellV) (h : Low d r) : kidsF d r = 0 := by
  rcases h with rfl | ⟨c, r', rfl, h⟩
  · rfl
  · unfold kidsF
    rw [if_neg (by omega)]
theorem kidsF_le (d : Int) : ∀ (r : List CellV), 0 ≤ kidsF d r ∧ kidsF d r ≤ r.length
  | [] => ⟨Int.le_refl _, Int.le_refl _⟩
  | c :: r => by
    have h := kidsF_le d r
    unfold kidsF
    rw [List.length_cons]
    split
    · split <;> omega
    · omega
mutual
theorem kidsF_tell : ∀ (t : Tree) (d e : Int) (r : List CellV), d < e → kidsF d (t.tell e ++ r) = (if e = d + 1 then 1 else 0) + kidsF d r
  | .leaf b p, d, e, r, h => by
    show kidsF d ((⟨e, 1, b.x, b.y, b.w, b.h, p⟩ : CellV) :: r) = _
    rw [kidsF_cons, if_pos h]
  | .split b k ts, d, e, r, h => by
    show kidsF d ((⟨e, k, b.x, b.y, b.w, b.h, 0⟩ : CellV) :: (tellAll ts (e + 1) ++ r)) = _
    rw [kidsF_cons, if_pos h, kidsF_tells ts d (e + 1) r (by omega), if_neg (by omega : ¬ e + 1 = d + 1)]
    show (if e = d + 1 then (1 : Int) else 0) + (0 + kidsF d r) = (if e = d + 1 then 1 else 0) + kidsF d r
    rw [Int.zero_add]
theorem kidsF_tells : ∀ (ts : List Tree) (d e : Int) (r : List CellV), d < e → kidsF d (tellAll ts e ++ r) = (if e = d + 1 then (ts.length : Int) else 0) + kidsF d r
  | [], d, e, r, h => by
    show kidsF d r = _
    simp
  | t :: ts, d, e, r, h => by
    show kidsF d ((t.tell e ++ tellAll ts e) ++ r) = _
    rw [List.append_assoc, kidsF_tell t d e _ h, kidsF_tells ts d e r h, List.length_cons]
    split <;> omega
end

theorem mul_sub_one (a b : Int) : (a - 1) * b = a * b - b := by rw [Int.sub_mul, Int.one_mul]
mutual
theorem fill_tell : ∀ (t : Tree) (d x y : Int) (r : List CellV), t.sound = true → t.kinds → Low d r → fillL ((t.moved x y).tell d ++ r) = t.box.w * t.box.h + fillL r
  | .leaf b p, d, x, y, r, hs, hk, hl => by
    show contr (⟨d, 1, x, y, b.w, b.h, p⟩ : CellV) r + fillL r = b.w * b.h + fillL r
    unfold contr
    rw [if_neg (show ¬ (1 : Int) = 2 by decide), if_neg (show ¬ (1 : Int) = 3 by decide)]
  | .split b k ts, d, x, y, r, hs, hk, hl => by
    unfold Tree.sound at hs
    simp only [Bool.and_eq_true, decide_eq_true_eq] at hs
    have hf := fill_tells ts b k (d + 1) x y r hs.2.1 hk.1 hk.2 (hl.mono (by omega))
    have hkid : kidsF d (tellAll (movedAll ts k x y) (d + 1) ++ r) = ts.length := by
      rw [kidsF_tells _ d (d + 1) r (by omega), if_pos rfl, kidsF_low d r hl, movedAll_length]
      omega
    show contr (⟨d, k, x, y, b.w, b.h, 0⟩ : CellV) (tellAll (movedAll ts k x y) (d + 1) ++ r) + fillL (tellAll (movedAll ts k x y) (d + 1) ++ r) = b.w * b.h + fillL r
    rw [hf]
    have he := hs.2.2
    unfold contr
    rw [hkid]
    rcases hk.1 with rfl | rfl
    · rw [if_pos rfl, he]
      show ((ts.length : Int) - 1) * b.h + ((b.w + 1 - ts.length) * b.h + fillL r) = b.w * b.h + fillL r
      rw [show b.w + 1 - (ts.length : Int) = b.w - ((ts.length : Int) - 1) by omega, Int.sub_mul b.w]
      omega
    · rw [if_neg (show ¬ (3 : Int) = 2 by decide), if_pos rfl, he]
      show ((ts.length : Int) - 1) * b.w + ((b.h + 1 - ts.length) * b.w + fillL r) = b.w * b.h + fillL r
      rw [show b.h + 1 - (ts.length : Int) = b.h - ((ts.length : Int) - 1) by omega, Int.sub_mul b.h, Int.mul_comm b.w b.h]
      omega
theorem fill_tells : ∀ (ts : List Tree) (b : Box) (k d x y : Int) (r : List CellV), soundAll ts b k = true → (k = 2 ∨ k = 3) → kindsAll ts → Low d r → fillL (tellAll (movedAll ts k x y) d ++ r) = (extAll ts k + 1 - ts.length) * b.ext (acrossK k) + fillL r
  | [], b, k, d, x, y, r, hs, hk, hks, hl => by
    show fillL r = (-1 + 1 - ((0 : Nat) : Int)) * b.ext (acrossK k) + fillL r
    simp
  | t :: ts, b, k, d, x, y, r, hs, hk, hks, hl => by
    unfold soundAll at hs
    simp only [Bool.and_eq_true, decide_eq_true_eq] at hs
    have hac := hs.1.2.2
    have hexp : ∀ E : Int, (t.box.ext k + 1 + extAll ts k + 1 - ((ts.length + 1 : Nat) : Int)) * E = t.box.ext k * E + (extAll ts k + 1 - ts.length) * E := fun E => by
      rw [← Int.add_mul]
      congr 1
      omega
    rcases hk with rfl | rfl
    · show fillL (((t.moved x y).tell d ++ tellAll (movedAll ts 2 (x + (t.box.ext 2 + 1)) y) d) ++ r) = (t.box.ext 2 + 1 + extAll ts 2 + 1 - ((ts.length + 1 : Nat) : Int)) * b.ext (acrossK 2) + fillL r
      rw [List.append_assoc, fill_tell t d x y _ hs.1.1 hks.1 (low_tellAll _ d r hl), fill_tells ts b 2 d _ y r hs.2 (.inl rfl) hks.2 hl, hexp]
      change t.box.h = b.h at hac
      show t.box.w * t.box.h + ((extAll ts 2 + 1 - ts.length) * b.h + fillL r) = t.box.w * b.h + (extAll ts 2 + 1 - ts.length) * b.h + fillL r
      rw [hac]
      omega
    · show fillL (((t.moved x y).tell d ++ tellAll (movedAll ts 3 x (y + (t.box.ext 3 + 1))) d) ++ r) = (t.box.ext 3 + 1 + extAll ts 3 + 1 - ((ts.length + 1 : Nat) : Int)) * b.ext (acrossK 3) + fillL r
      rw [List.append_assoc, fill_tell t d x y _ hs.1.1 hks.1 (low_tellAll _ d r hl), fill_tells ts b 3 d x _ r hs.2 (.inr rfl) hks.2 hl, hexp]
      change t.box.w = b.w at hac
      show t.box.w * t.box.h + ((extAll ts 3 + 1 - ts.length) * b.w + fillL r) = t.box.h * b.w + (extAll ts 3 + 1 - ts.length) * b.w + fillL r
      rw [hac, Int.mul_comm b.w t.box.h]
      omega
end

/-- Two cells have a place in common. -/
def OverP (a b : CellV) : Prop := a.x < b.x + b.w ∧ b.x < a.x + a.w ∧ a.y < b.y + b.h ∧ b.y < a.y + a.h
def Apart (a b : CellV) : Prop := a.kind = 1 → b.kind = 1 → ¬ OverP a b
mutual
theorem apart_tell : ∀ (t : Tree) (d x y : Int), t.sound = true → t.kinds → ((t.moved x y).tell d).Pairwise Apart
  | .leaf b p, d, x, y, hs, hk => List.pairwise_singleton _ _
  | .split b k ts, d, x, y, hs, hk => by
    unfold Tree.sound at hs
    simp only [Bool.and_eq_true, decide_eq_true_eq] at hs
    show ((⟨d, k, x, y, b.w, b.h, 0⟩ : CellV) :: tellAll (movedAll ts k x y) (d + 1)).Pairwise Apart
    refine List.pairwise_cons.2 ⟨fun c _ h1 => ?_, apart_tells ts b k (d + 1) x y hs.2.1 hk.1 hk.2⟩
    change k = 1 at h1
    have := hk.1
    omega
theorem apart_tells : ∀ (ts : List Tree) (b : Box) (k d x y : Int), soundAll ts b k = true → (k = 2 ∨ k = 3) → kindsAll ts → (tellAll (movedAll ts k x y) d).Pairwise Apart
  | [], b, k, d, x, y, hs, hk, hks => List.Pairwise.nil
  | t :: ts, b, k, d, x, y, hs, hk, hks => by
    unfold soundAll at hs
    simp only [Bool.and_eq_true, decide_eq_true_eq] at hs
    rcases hk with rfl | rfl
    · show ((t.moved x y).tell d ++ tellAll (movedAll ts 2 (x + (t.box.ext 2 + 1)) y) d).Pairwise Apart
      refine List.pairwise_append.2 ⟨apart_tell t d x y hs.1.1 hks.1, apart_tells ts b 2 d _ y hs.2 (.inl rfl) hks.2, fun a ha c hc _ _ ho => ?_⟩
      have h1 := told_within t x y d a hks.1 hs.1.1 ha
      have h2 := tolds_within ts b 2 _ y d c (.inl rfl) hks.2 hs.2 hc
      rw [if_pos rfl] at h2
      have e : t.box.ext 2 = t.box.w := rfl
      unfold Within at h1
      unfold OverP at ho
      omega
    · show ((t.moved x y).tell d ++ tellAll (movedAll ts 3 x (y + (t.box.ext 3 + 1))) d).Pairwise Apart
      refine List.pairwise_append.2 ⟨apart_tell t d x y hs.1.1 hks.1, apart_tells ts b 3 d x _ hs.2 (.inr rfl) hks.2, fun a ha c hc _ _ ho => ?_⟩
      have h1 := told_within t x y d a hks.1 hs.1.1 ha
      have h2 := tolds_within ts b 3 x _ d c (.inr rfl) hks.2 hs.2 hc
      rw [if_neg (by decide)] at h2
      have e : t.box.ext 3 = t.box.h := rfl
      unfold Within at h1
      unfold OverP at ho
      omega
end
def Unlike (a b : CellV) : Prop := a.kind = 1 → b.kind = 1 → a.p ≠ b.p
theorem unlike_all : ∀ (m : List CellV), (idsOf m).Nodup → m.Pairwise Unlike
  | [], _ => List.Pairwise.nil
  | a :: m, hn => by
    have hin : ∀ y, y ∈ m → y.kind = 1 → y.p ∈ idsOf m := fun y hy h1 => by
      unfold idsOf
      exact List.mem_map.2 ⟨y, List.mem_filter.2 ⟨hy, by simpa using h1⟩, rfl⟩
    by_cases ha : a.kind = 1
    · have e : idsOf (a :: m) = a.p :: idsOf m := by
        unfold idsOf
        rw [List.filter_cons, if_pos (by simpa using ha)]
        rfl
      rw [e] at hn
      obtain ⟨n1, n2⟩ := List.nodup_cons.1 hn
      exact List.pairwise_cons.2 ⟨fun c hc _ h1 he => n1 (he ▸ hin c hc h1), unlike_all m n2⟩
    · have e : idsOf (a :: m) = idsOf m := by
        unfold idsOf
        rw [List.filter_cons, if_neg (by simpa using ha)]
      rw [e] at hn
      exact List.pairwise_cons.2 ⟨fun c hc h1 => absurd h1 ha, unlike_all m hn⟩
mutual
theorem cells_tell : ∀ (t : Tree) (d : Int) (c : CellV), t.sound = true → t.kinds → c ∈ t.tell d → (c.kind = 1 ∧ 1 ≤ c.p ∨ c.kind = 2 ∨ c.kind = 3) ∧ d ≤ c.depth ∧ c.depth ≤ d + t.size
  | .leaf b p, d, c, hs, hk, hc => by
    have hc' : c ∈ [(⟨d, 1, b.x, b.y, b.w, b.h, p⟩ : CellV)] := hc
    have e : c = ⟨d, 1, b.x, b.y, b.w, b.h, p⟩ := by simpa using hc'
    subst e
    unfold Tree.sound at hs
    simp only [Bool.and_eq_true] at hs
    have hp := hs.2
    unfold idB at hp
    simp only [Bool.and_eq_true, decide_eq_true_eq] at hp
    refine ⟨.inl ⟨rfl, hp.1⟩, Int.le_refl _, ?_⟩
    show d ≤ d + (1 : Nat)
    omega
  | .split b k ts, d, c, hs, hk, hc => by
    unfold Tree.sound at hs
    simp only [Bool.and_eq_true, decide_eq_true_eq] at hs
    have hc' : c ∈ (⟨d, k, b.x, b.y, b.w, b.h, 0⟩ : CellV) :: tellAll ts (d + 1) := hc
    rcases List.mem_cons.1 hc' with e | hc'
    · subst e
      refine ⟨.inr hk.1, Int.le_refl _, ?_⟩
      show d ≤ d + _
      omega
    · obtain ⟨h1, h2, h3⟩ := cells_tells ts b k (d + 1) c hs.2.1 hk.2 hc'
      refine ⟨h1, by omega, ?_⟩
      show c.depth ≤ d + ((1 + sizes ts : Nat) : Int)
      omega
theorem cells_tells : ∀ (ts : List Tree) (b : Box) (k d : Int) (c : CellV), soundAll ts b k = true → kindsAll ts → c ∈ tellAll ts d → (c.kind = 1 ∧ 1 ≤ c.p ∨ c.kind = 2 ∨ c.kind = 3) ∧ d ≤ c.depth ∧ c.depth ≤ d + sizes ts
  | [], b, k, d, c, hs, hk, hc => by cases hc
  | t :: ts, b, k, d, c, hs, hk, hc => by
    unfold soundAll at hs
    simp only [Bool.and_eq_true] at hs
    have hc' : c ∈ t.tell d ++ tellAll ts d := hc
    have hz : sizes (t :: ts) = t.size + sizes ts := rfl
    rcases List.mem_append.1 hc' with h | h
    · obtain ⟨h1, h2, h3⟩ := cells_tell t d c hs.1.1 hk.1 h
      exact ⟨h1, h2, by rw [hz]; omega⟩
    · obtain ⟨h1, h2, h3⟩ := cells_tells ts b k d c hs.2 hk.2 h
      exact ⟨h1, h2, by rw [hz]; omega⟩
end

/-- What the law asks of a list. -/
structure Tiled (l : List CellV) (W H : Int) : Prop where
  len : 1 ≤ l.length ∧ l.length ≤ 63
  head : ∃ c r, l = c :: r ∧ c.w = W ∧ c.h = H ∧ c.x = 0 ∧ c.y = 0
  side : (1 ≤ W ∧ W ≤ 1000) ∧ (1 ≤ H ∧ H ≤ 1000)
  cell : ∀ c ∈ l, (c.kind = 1 ∧ 1 ≤ c.p ∨ c.kind = 2 ∨ c.kind = 3) ∧ (0 ≤ c.depth ∧ c.depth ≤ 1000) ∧ Within c 0 0 W H
  fill : fillL l = W * H
  apart : l.Pairwise Apart
  unlike : l.Pairwise Unlike
theorem lay_tiled {l : List CellV} {t : Tree} (h : IsLay l t) : Tiled l t.box.w t.box.h := by
  have hs := t.sound_sides h.sound
  have hsz := lay_size h
  have hl := h.size
  have ht := h.tell
  have hm := h.moved
  have hmt : (t.moved 0 0).tell 0 = l := by rw [hm, ht]
  refine ⟨⟨?_, hl⟩, ?_, hs, fun c hc => ?_, ?_, ?_, unlike_all l (few_len h.few).2⟩
  · rw [← ht, Tree.tell_length]
    exact t.size_pos
  · have hb : t.box.x = 0 ∧ t.box.y = 0 := by
      rw [← hm, box_moved]
      exact ⟨rfl, rfl⟩
    cases t with
    | leaf b p => exact ⟨_, _, ht.symm, rfl, rfl, hb.1, hb.2⟩
    | split b k ts => exact ⟨_, _, ht.symm, rfl, rfl, hb.1, hb.2⟩
  · obtain ⟨h1, h2, h3⟩ := cells_tell t 0 c h.sound h.kinds (by rw [ht]; exact hc)
    exact ⟨h1, ⟨h2, by omega⟩, told_within t 0 0 0 c h.kinds h.sound (by rw [hmt]; exact hc)⟩
  · have := fill_tell t 0 0 0 [] h.sound h.kinds (.inl rfl)
    rw [List.append_nil, hmt] at this
    rw [this]
    show _ + 0 = _
    omega
  · have := apart_tell t 0 0 0 h.sound h.kinds
    rw [hmt] at this
    exact this

end Go.Proofs.Ytnepemlagnnngaa

namespace Go.Proofs.Ytnepemlagnnngaa
open Go.RowKit
set_option linter.unusedVariables false
set_option maxRecDepth 100000

def Near (c : CellV) : Prop := (0 ≤ c.x ∧ c.x ≤ 1000) ∧ (0 ≤ c.y ∧ c.y ≤ 1000) ∧ (0 ≤ c.w ∧ c.w ≤ 1000) ∧ (0 ≤ c.h ∧ c.h ≤ 1000)
set_option maxHeartbeats 1000000 in
theorem over_no (a b : CellV) (w : World) (ha : Near a) (hb : Near b) (h : ¬ OverP a b) : Calls Try.prog 46 #[.agg a.vals, .agg b.vals] w fun e w' => e = .returned (.bool false) ∧ Below w.heap.size w w' := by
  obtain ⟨ad, ak, ax, ay, aw, ah, ap⟩ := a
  obtain ⟨bd, bk, bx, b_y, bw, bh, bp⟩ := b
  unfold Near at ha hb
  unfold OverP at h
  dsimp only at ha hb h
  unfold CellV.vals
  dsimp only
  have w1 : IntKind.i64.wrap (bx + bw) = bx + bw := by rw [IntKind.wrap_i64]; omega
  have w2 : IntKind.i64.wrap (ax + aw) = ax + aw := by rw [IntKind.wrap_i64]; omega
  have w3 : IntKind.i64.wrap (b_y + bh) = b_y + bh := by rw [IntKind.wrap_i64]; omega
  have w4 : IntKind.i64.wrap (ay + ah) = ay + ah := by rw [IntKind.wrap_i64]; omega
  have HB : Hid (∀ o1 o2, Below w.heap.size w ((w.alloc o1).alloc o2)) := fun o1 o2 => two_below w o1 o2
  clear ha hb
  by_cases h1 : ax < bx + bw
  · by_cases h2 : bx < ax + aw
    · by_cases h3 : ay < b_y + bh
      · have h4 : ¬ b_y < ay + ah := fun h4 => h ⟨h1, h2, h3, h4⟩
        clear h
        go_enter Try.func46, Try.ntmps46
        go_wp2
        go_ret
        exact ⟨rfl, HB.out _ _⟩
      · clear h
        go_enter Try.func46, Try.ntmps46
        go_wp2
        go_ret
        exact ⟨rfl, HB.out _ _⟩
    · clear h
      go_enter Try.func46, Try.ntmps46
      go_wp2
      go_ret
      exact ⟨rfl, HB.out _ _⟩
  · clear h
    go_enter Try.func46, Try.ntmps46
    go_wp2
    go_ret
    exact ⟨rfl, HB.out _ _⟩

set_option maxHeartbeats 1000000 in
theorem kids_seen (b off cap n : Nat) (l : List CellV) (at_ : Nat) (c : CellV) (w : World) (h : SeenIn w b off l) (hn : l.length = n) (hn1 : n ≤ 1000) (hat : l[at_]? = some c) (hd : ∀ x ∈ l, 0 ≤ x.depth ∧ x.depth ≤ 1000) : Calls Try.prog 45 #[.slice (some ⟨b, off, none⟩) n cap, .int .i64 at_] w fun e w' => e = .returned (.int .i64 (kidsF c.depth (l.drop (at_ + 1)))) ∧ Below w.heap.size w w' := by
  have H1 := hiddenK h
  have HN := hiddenK hn
  have HD := hiddenK hd
  have hlt0 : at_ < n := by rw [← hn]; exact (List.getElem?_eq_some_iff.1 hat).1
  have hcd := hd c (List.mem_of_getElem? hat)
  have hw1 : IntKind.i64.wrap (c.depth + 1) = c.depth + 1 := by rw [IntKind.wrap_i64]; omega
  have HAt := hiddenK hat
  obtain ⟨K, hK⟩ : ∃ K, kidsF c.depth (l.drop (at_ + 1)) = K := ⟨_, rfl⟩
  rw [hK]
  have HK := hiddenK hK
  clear h hn hd hat hK
  go_enter Try.func45, Try.ntmps45
  go_wp2
  go_loopw [5, 6] (fun vm vi wr => ∃ i : Nat, at_ + 1 ≤ i ∧ i ≤ n ∧ vi = .int .i64 i ∧ ∃ m : Int, vm = .int .i64 m ∧ 0 ≤ m ∧ m ≤ i ∧ Hid (m + kidsF c.depth (l.drop i) = K) ∧ Hid (Below w.heap.size w wr)) (fun _ vi _ => n - (intOf vi).toNat)
  case atStart => exact ⟨at_ + 1, Nat.le_refl _, by omega, by go_num, 0, rfl, Int.le_refl _, by omega, by show (0 : Int) + _ = K; rw [Int.zero_add]; exact HK.out, Below.refl _ _⟩
  case round =>
    obtain ⟨i, hi0, hi, rfl, m, rfl, hm0, hm1, HM, HB⟩ := hrel
    by_cases hlt : i < n
    · obtain ⟨x, hx⟩ : ∃ x, l[i]? = some x := ⟨_, List.getElem?_eq_getElem (by rw [HN.out]; exact hlt)⟩
      have hxd := HD.out x (List.mem_of_getElem? hx)
      obtain ⟨q0, q1, q2, q3, q4, q5, q6⟩ := (H1.out.below HB.out) i x hx
      obtain ⟨p0, p1, p2, p3, p4, p5, p6⟩ := (H1.out.below HB.out) at_ c HAt.out
      have hdr : l.drop i = x :: l.drop (i + 1) := by
        have hlt' : i < l.length := by rw [HN.out]; exact hlt
        rw [List.drop_eq_getElem_cons hlt', (List.getElem?_eq_some_iff.1 hx).2]
      have HM2 := hiddenK HM.out
      rw [hdr, kidsF_cons] at HM2
      clear hdr hx
      by_cases hgt : c.depth < x.depth
      · have HM3 := hiddenK HM2.out
        rw [if_pos hgt] at HM3
        by_cases heq : x.depth = c.depth + 1
        · have heq' : (x.depth == c.depth + 1) = true := by simpa using heq
          have HM4 : Hid (m + 1 + kidsF c.depth (l.drop (i + 1)) = K) := by
            have := HM3.out
            rw [if_pos heq] at this
            show _ = _
            omega
          clear HM HM2 HM3
          have hwm : IntKind.i64.wrap (m + 1) = m + 1 := by rw [IntKind.wrap_i64]; omega
          go_wp2_with fail
          go_quiet (fail)
          go_wp2_with fail
          go_quiet (fail)
          go_wp2
          go_roundw
          case rel => exact ⟨i + 1, by omega, by omega, by go_num, m + 1, by go_num, by omega, by omega, HM4, below_drewN HB.out _⟩
          case measure => simp [intOf]; omega
        · have heq' : (x.depth == c.depth + 1) = false := by simpa using heq
          have HM4 : Hid (m + kidsF c.depth (l.drop (i + 1)) = K) := by
            have := HM3.out
            rw [if_neg heq] at this
            show _ = _
            omega
          clear HM HM2 HM3
          go_wp2_with fail
          go_quiet (fail)
          go_wp2_with fail
          go_quiet (fail)
          go_wp2
          go_roundw
          case rel => exact ⟨i + 1, by omega, by omega, by go_num, m, rfl, by omega, by omega, HM4, below_drewN HB.out _⟩
          case measure => simp [intOf]; omega
      · have HF : Hid (m = K) := by
          have := HM2.out
          rw [if_neg hgt] at this
          show _ = _
          omega
        clear HM HM2
        go_wp2_with fail
        go_quiet (fail)
        go_wp2
        go_ret
        exact ⟨by rw [HF.out]; rfl, below_drewN HB.out _⟩
    · have HF : Hid (m = K) := by
        have := HM.out
        rw [List.drop_eq_nil_of_le (by rw [HN.out]; omega)] at this
        change m + 0 = K at this
        show _ = _
        omega
      have hin : i = n := by omega
      subst hin
      clear HM
      go_wp2_with fail
      go_quiet (fail)
      go_wp2
      go_ret
      exact ⟨by rw [HF.out]; rfl, below_drewN HB.out _⟩

end Go.Proofs.Ytnepemlagnnngaa
