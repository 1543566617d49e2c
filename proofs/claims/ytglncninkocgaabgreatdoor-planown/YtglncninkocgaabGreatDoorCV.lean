/-
  Plans: what the cells of a layout are like, and how long its text is.
-/
import Derived.Test.YtglncninkocgaabGreatDoorCP
import Derived.Test.YtglncninkocgaabGreatDoorCU
namespace Go.Proofs.YtglncninkocgaabGreatDoor
open Go.RowKit
set_option linter.unusedVariables false
set_option maxRecDepth 100000

/-- A cell lies within. -/
def Within (c : CellV) (x y w h : Int) : Prop := (x ≤ c.x ∧ 1 ≤ c.w ∧ c.x + c.w ≤ x + w) ∧ (y ≤ c.y ∧ 1 ≤ c.h ∧ c.y + c.h ≤ y + h)
mutual
theorem told_within : ∀ (t : Tree) (x y d : Int) (c : CellV), t.kinds → t.sound = true → c ∈ (t.moved x y).tell d → Within c x y t.box.w t.box.h
  | .leaf b p, x, y, d, c, hk, hs, hc => by
    have h := (Tree.leaf b p).sound_sides hs
    change (1 ≤ b.w ∧ b.w ≤ 1000) ∧ (1 ≤ b.h ∧ b.h ≤ 1000) at h
    have hc' : c ∈ [(⟨d, 1, x, y, b.w, b.h, p⟩ : CellV)] := hc
    simp only [List.mem_cons, List.not_mem_nil, or_false] at hc'
    subst hc'
    show (x ≤ x ∧ 1 ≤ b.w ∧ x + b.w ≤ x + b.w) ∧ (y ≤ y ∧ 1 ≤ b.h ∧ y + b.h ≤ y + b.h)
    omega
  | .split b k ts, x, y, d, c, hk, hs, hc => by
    have h := (Tree.split b k ts).sound_sides hs
    change (1 ≤ b.w ∧ b.w ≤ 1000) ∧ (1 ≤ b.h ∧ b.h ≤ 1000) at h
    unfold Tree.sound at hs
    simp only [Bool.and_eq_true, decide_eq_true_eq] at hs
    have hc' : c ∈ (⟨d, k, x, y, b.w, b.h, 0⟩ : CellV) :: tellAll (movedAll ts k x y) (d + 1) := hc
    rcases List.mem_cons.1 hc' with rfl | hc'
    · show (x ≤ x ∧ 1 ≤ b.w ∧ x + b.w ≤ x + b.w) ∧ (y ≤ y ∧ 1 ≤ b.h ∧ y + b.h ≤ y + b.h)
      omega
    · have := tolds_within ts b k x y (d + 1) c hk.1 hk.2 hs.2.1 hc'
      have he := hs.2.2
      show Within c x y b.w b.h
      unfold Within
      rcases hk.1 with rfl | rfl
      · rw [if_pos rfl] at this
        change extAll ts 2 = b.w at he
        omega
      · rw [if_neg (by decide)] at this
        change extAll ts 3 = b.h at he
        omega
theorem tolds_within : ∀ (ts : List Tree) (b : Box) (k x y d : Int) (c : CellV), (k = 2 ∨ k = 3) → kindsAll ts → soundAll ts b k = true → c ∈ tellAll (movedAll ts k x y) d → if k = 2 then (x ≤ c.x ∧ 1 ≤ c.w ∧ c.x + c.w ≤ x + extAll ts k) ∧ (y ≤ c.y ∧ 1 ≤ c.h ∧ c.y + c.h ≤ y + b.h) else (x ≤ c.x ∧ 1 ≤ c.w ∧ c.x + c.w ≤ x + b.w) ∧ (y ≤ c.y ∧ 1 ≤ c.h ∧ c.y + c.h ≤ y + extAll ts k)
  | [], b, k, x, y, d, c, hk, hks, hs, hc => by cases hc
  | t :: ts, b, k, x, y, d, c, hk, hks, hs, hc => by
    have hpos := extAll_pos ts b k (by unfold soundAll at hs; simp only [Bool.and_eq_true] at hs; exact hs.2)
    have hside := ext_side (t :: ts) b k 0 t rfl hs
    unfold soundAll at hs
    simp only [Bool.and_eq_true, decide_eq_true_eq] at hs
    have hc' : c ∈ (t.moved x y).tell d ++ tellAll (if k = 2 then movedAll ts k (x + (t.box.ext k + 1)) y else movedAll ts k x (y + (t.box.ext k + 1))) d := hc
    have hext : extAll (t :: ts) k = t.box.ext k + 1 + extAll ts k := rfl
    have hac := hs.1.2.2
    rcases List.mem_append.1 hc' with hc' | hc'
    · have h1 := told_within t x y d c hks.1 hs.1.1 hc'
      unfold Within at h1
      rcases hk with rfl | rfl
      · rw [if_pos rfl, hext]
        change t.box.h = b.h at hac
        have e : t.box.ext 2 = t.box.w := rfl
        omega
      · rw [if_neg (by decide), hext]
        change t.box.w = b.w at hac
        have e : t.box.ext 3 = t.box.h := rfl
        omega
    · rcases hk with rfl | rfl
      · rw [if_pos rfl] at hc' ⊢
        have h2 := tolds_within ts b 2 (x + (t.box.ext 2 + 1)) y d c (.inl rfl) hks.2 hs.2 hc'
        rw [if_pos rfl] at h2
        rw [hext]
        omega
      · rw [if_neg (by decide)] at hc' ⊢
        have h2 := tolds_within ts b 3 x (y + (t.box.ext 3 + 1)) d c (.inr rfl) hks.2 hs.2 hc'
        rw [if_neg (by decide)] at h2
        rw [hext]
        omega
end
/-- In a layout every cell lies within the first one. -/
theorem lay_within {l : List CellV} (hs : (readF l).isSome = true) : ∃ W H, (1 ≤ W ∧ W ≤ 1000) ∧ (1 ≤ H ∧ H ≤ 1000) ∧ (∀ c0, l[0]? = some c0 → c0.w = W ∧ c0.h = H) ∧ ∀ c ∈ l, Within c 0 0 W H := by
  cases hr : readF l with
  | none => rw [hr] at hs; cases hs
  | some t =>
    have h := readF_lay hr
    have hsd := t.sound_sides h.sound
    refine ⟨t.box.w, t.box.h, hsd.1, hsd.2, fun c0 hc => ?_, fun c hc => ?_⟩
    · have ht := h.tell
      cases t with
      | leaf b p => rw [← ht] at hc; cases hc; exact ⟨rfl, rfl⟩
      | split b k ts => rw [← ht] at hc; cases hc; exact ⟨rfl, rfl⟩
    · rw [← h.tell, ← h.moved] at hc
      exact told_within t 0 0 0 c h.kinds h.sound hc

mutual
theorem fit_tell : ∀ (t : Tree) (d : Int) (c : CellV), t.sound = true → t.kinds → c ∈ t.tell d → ((c.kind = 1 ∧ 1 ≤ c.p ∧ c.p ≤ 4611686018427387904) ∨ ((c.kind = 2 ∨ c.kind = 3) ∧ c.p = 0)) ∧ d ≤ c.depth ∧ c.depth ≤ d + t.size
  | .leaf b p, d, c, hs, hk, hc => by
    have hc' : c ∈ [(⟨d, 1, b.x, b.y, b.w, b.h, p⟩ : CellV)] := hc
    have e : c = ⟨d, 1, b.x, b.y, b.w, b.h, p⟩ := by simpa using hc'
    subst e
    unfold Tree.sound at hs
    simp only [Bool.and_eq_true] at hs
    have hp := hs.2
    unfold idB at hp
    simp only [Bool.and_eq_true, decide_eq_true_eq] at hp
    refine ⟨.inl ⟨rfl, hp⟩, Int.le_refl _, ?_⟩
    show d ≤ d + (1 : Nat)
    omega
  | .split b k ts, d, c, hs, hk, hc => by
    unfold Tree.sound at hs
    simp only [Bool.and_eq_true, decide_eq_true_eq] at hs
    have hc' : c ∈ (⟨d, k, b.x, b.y, b.w, b.h, 0⟩ : CellV) :: tellAll ts (d + 1) := hc
    rcases List.mem_cons.1 hc' with e | hc'
    · subst e
      refine ⟨.inr ⟨hk.1, rfl⟩, Int.le_refl _, ?_⟩
      show d ≤ d + _
      omega
    · obtain ⟨h1, h2, h3⟩ := fit_tells ts b k (d + 1) c hs.2.1 hk.2 hc'
      refine ⟨h1, by omega, ?_⟩
      show c.depth ≤ d + ((1 + sizes ts : Nat) : Int)
      omega
theorem fit_tells : ∀ (ts : List Tree) (b : Box) (k d : Int) (c : CellV), soundAll ts b k = true → kindsAll ts → c ∈ tellAll ts d → ((c.kind = 1 ∧ 1 ≤ c.p ∧ c.p ≤ 4611686018427387904) ∨ ((c.kind = 2 ∨ c.kind = 3) ∧ c.p = 0)) ∧ d ≤ c.depth ∧ c.depth ≤ d + sizes ts
  | [], b, k, d, c, hs, hk, hc => by cases hc
  | t :: ts, b, k, d, c, hs, hk, hc => by
    unfold soundAll at hs
    simp only [Bool.and_eq_true] at hs
    have hc' : c ∈ t.tell d ++ tellAll ts d := hc
    have hz : sizes (t :: ts) = t.size + sizes ts := rfl
    rcases List.mem_append.1 hc' with h | h
    · obtain ⟨h1, h2, h3⟩ := fit_tell t d c hs.1.1 hk.1 h
      exact ⟨h1, h2, by rw [hz]; omega⟩
    · obtain ⟨h1, h2, h3⟩ := fit_tells ts b k d c hs.2 hk.2 h
      exact ⟨h1, h2, by rw [hz]; omega⟩
end

theorem dec_four (u : Nat) (h : u < 10000) : (Go.Lib.decDigits u).length ≤ 4 := by
  by_cases h1 : u < 10
  · rw [dec_small h1]; simp
  rw [dec_big h1, List.length_append]
  by_cases h2 : u / 10 < 10
  · rw [dec_small h2]; simp
  rw [dec_big h2, List.length_append]
  by_cases h3 : u / 10 / 10 < 10
  · rw [dec_small h3]; simp
  rw [dec_big h3, List.length_append, dec_small (by omega)]
  simp
theorem put_four {n : Int} (h : 0 ≤ n ∧ n ≤ 1000) : (putL n).length ≤ 4 := by
  unfold putL
  rw [if_pos (by omega)]
  exact dec_four _ (by omega)
/-- Numbers of four digits. -/
def Few (c : CellV) : Prop := (0 ≤ c.x ∧ c.x ≤ 1000) ∧ (0 ≤ c.y ∧ c.y ≤ 1000) ∧ (0 ≤ c.w ∧ c.w ≤ 1000) ∧ (0 ≤ c.h ∧ c.h ≤ 1000)
def wts : List CellV → Nat
  | [] => 0
  | c :: l => (if c.kind = 1 then 40 else 22) + wts l
theorem wts_append : ∀ (a b : List CellV), wts (a ++ b) = wts a + wts b
  | [], b => by simp [wts]
  | c :: a, b => by
    show _ + wts (a ++ b) = _ + wts a + wts b
    rw [wts_append a b]; omega
theorem wts_ids : ∀ (l : List CellV), wts l ≤ 22 * l.length + 18 * (idsOf l).length
  | [] => by simp [wts]
  | c :: l => by
    have h := wts_ids l
    unfold idsOf at h ⊢
    rw [List.filter_cons]
    by_cases hk : c.kind = 1
    · rw [if_pos (by simpa using hk)]
      simp only [wts, if_pos hk, List.map_cons, List.length_cons]
      omega
    · rw [if_neg (by simpa using hk)]
      simp only [wts, if_neg hk, List.length_cons]
      omega
theorem box_few {b : Box} (h1 : 0 ≤ b.x ∧ b.x ≤ 1000) (h2 : 0 ≤ b.y ∧ b.y ≤ 1000) (h3 : 0 ≤ b.w ∧ b.w ≤ 1000) (h4 : 0 ≤ b.h ∧ b.h ≤ 1000) : (boxT b).length ≤ 19 := by
  have b1 := put_four h1
  have b2 := put_four h2
  have b3 := put_four h3
  have b4 := put_four h4
  unfold boxT
  simp
  omega
mutual
theorem text_len : ∀ (t : Tree) (d : Int), t.kinds → (∀ c ∈ t.tell d, Few c) → t.text.length + 1 ≤ wts (t.tell d)
  | .leaf b p, d, hk, hf => by
    obtain ⟨f1, f2, f3, f4⟩ := hf ⟨d, 1, b.x, b.y, b.w, b.h, p⟩ (List.mem_cons_self ..)
    have h1 := box_few f1 f2 f3 f4
    have h2 := putL_length p
    show (boxT b ++ 44 :: putL p).length + 1 ≤ 40 + 0
    simp
    omega
  | .split b k ts, d, hk, hf => by
    obtain ⟨f1, f2, f3, f4⟩ := hf ⟨d, k, b.x, b.y, b.w, b.h, 0⟩ (List.mem_cons_self ..)
    have h1 := box_few f1 f2 f3 f4
    have h2 := more_len ts (d + 1) hk.2 (fun c hc => hf c (List.mem_cons_of_mem _ hc))
    have h3 : k ≠ 1 := by rcases hk.1 with rfl | rfl <;> decide
    show (boxT b ++ openB k :: ((moreT ts).tail ++ [shutB k])).length + 1 ≤ (if k = 1 then 40 else 22) + wts (tellAll ts (d + 1))
    rw [if_neg h3]
    simp
    omega
theorem more_len : ∀ (ts : List Tree) (d : Int), kindsAll ts → (∀ c ∈ tellAll ts d, Few c) → (moreT ts).length ≤ wts (tellAll ts d)
  | [], d, hk, hf => by simp [moreT]
  | t :: ts, d, hk, hf => by
    have h1 := text_len t d hk.1 (fun c hc => hf c (List.mem_append_left _ hc))
    have h2 := more_len ts d hk.2 (fun c hc => hf c (List.mem_append_right _ hc))
    show (44 :: (t.text ++ moreT ts)).length ≤ wts (t.tell d ++ tellAll ts d)
    rw [wts_append]
    simp
    omega
end

/-- What a layout is like. -/
structure LayFit (l : List CellV) (t : Tree) : Prop where
  lay : IsLay l t
  len : l.length ≤ 63
  pos : 1 ≤ l.length
  fit : ∀ c ∈ l, CellFit c
  txt : t.text.length ≤ 1961
theorem lay_fit {l : List CellV} {t : Tree} (h : readF l = some t) : LayFit l t := by
  have hl := readF_lay h
  have h63 : l.length ≤ 63 := by
    rcases Nat.lt_or_ge 63 l.length with h1 | h1
    · rw [readF_long h1] at h; cases h
    · exact h1
  obtain ⟨W, H, hW, hH, _, hin⟩ := lay_within (l := l) (by rw [h]; rfl)
  have few : ∀ c ∈ l, Few c := fun c hc => by
    have := hin c hc
    unfold Within at this
    unfold Few
    omega
  have hsz : t.size ≤ 63 := by
    have : (t.tell 0).length = t.size := t.tell_length 0
    rw [hl.tell] at this
    omega
  refine ⟨hl, h63, ?_, fun c hc => ?_, ?_⟩
  · have : (t.tell 0).length = t.size := t.tell_length 0
    rw [hl.tell] at this
    rw [this]
    cases t <;> simp [Tree.size]
  · have f := few c hc
    have hc' := hc
    rw [← hl.tell] at hc'
    obtain ⟨k1, k2, k3⟩ := fit_tell t 0 c hl.sound hl.kinds hc'
    unfold Few at f
    refine ⟨by omega, by omega, by omega, by omega, by omega, by omega, by omega⟩
  · have h1 := text_len t 0 hl.kinds (by rw [hl.tell]; exact few)
    rw [hl.tell] at h1
    have h2 := wts_ids l
    have h3 := hl.few
    unfold fewB at h3
    simp only [Bool.and_eq_true, decide_eq_true_eq] at h3
    omega
end Go.Proofs.YtglncninkocgaabGreatDoor
