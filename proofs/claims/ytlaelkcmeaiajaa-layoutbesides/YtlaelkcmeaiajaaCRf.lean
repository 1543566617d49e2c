/-
  Layouts, by plain functions: the document's tree of a list beside the program's.
  Layouts, by plain functions: a list is a layout for the document as it is for the program.
  Layouts: the document's nodes in memory.
  Layouts: the document's grown, of every list.
-/
import Derived.Test.YtlaelkcmeaiajaaCPa
import Derived.Test.YtlaelkcmeaiajaaCAr
import Derived.Test.YtlaelkcmeaiajaaCTe
import Derived.Test.YtlaelkcmeaiajaaCRd
import Derived.Test.YtlaelkcmeaiajaaCJo
namespace Go.Proofs.Ytlaelkcmeaiajaa
open Go.RowKit
set_option linter.unusedVariables false

/-- The document's cell with its children. -/
inductive Node where
  | mk (k w h i : Int) (ks : List Node)
def Node.k : Node → Int | .mk k _ _ _ _ => k
def Node.w : Node → Int | .mk _ w _ _ _ => w
def Node.h : Node → Int | .mk _ _ h _ _ => h
def Node.i : Node → Int | .mk _ _ _ i _ => i
def Node.ks : Node → List Node | .mk _ _ _ _ ks => ks
def Node.ext (n : Node) (d : Int) : Int := if d = 2 then n.w else n.h

mutual
def nodeOf : Tree → Node
  | .leaf b p => .mk 1 b.w b.h p []
  | .split b k ts => .mk k b.w b.h 0 (nodesOf ts)
def nodesOf : List Tree → List Node
  | [] => []
  | t :: ts => nodeOf t :: nodesOf ts
end
mutual
def growT : Nat → CellV → List CellV → Node × List CellV
  | 0, c, r => (.mk c.kind c.w c.h c.p [], r)
  | n + 1, c, r => (.mk c.kind c.w c.h c.p (growAllT n c.depth r).1, (growAllT n c.depth r).2)
def growAllT : Nat → Int → List CellV → List Node × List CellV
  | 0, _, r => ([], r)
  | n + 1, d, r => match r with
    | [] => ([], [])
    | c :: r => if d < c.depth then ((growT n c r).1 :: (growAllT n d (growT n c r).2).1, (growAllT n d (growT n c r).2).2) else ([], c :: r)
end
mutual
def Node.ok : Node → Bool
  | .mk k w h i ks => ((decide (1 ≤ w) && decide (1 ≤ h)) && (decide (1 ≤ k) && decide (k ≤ 3))) &&
    (if k = 1 then (decide (ks.length = 0) && idB i) else ((decide (2 ≤ ks.length) && decide (i = 0)) && (oksAll ks k w h && decide (extN ks k = if k = 2 then w else h))))
def oksAll : List Node → Int → Int → Int → Bool
  | [], _, _, _ => true
  | n :: r, k, w, h => (((!decide (n.k = k)) && (decide (n.w ≤ w) && decide (n.h ≤ h))) && (n.ok && (if k = 2 then decide (n.h = h) else decide (n.w = w)))) && oksAll r k w h
def extN : List Node → Int → Int
  | [], _ => -1
  | n :: r, k => n.ext k + 1 + extN r k
end
mutual
def Node.ids : Node → List Int
  | .mk k _ _ i ks => if k = 1 then [i] else idsAll ks
def idsAll : List Node → List Int
  | [] => []
  | n :: r => n.ids ++ idsAll r
end
def stepsOk : Int → List CellV → Bool
  | _, [] => true
  | p, c :: r => (decide (1 ≤ c.depth) && decide (c.depth ≤ p + 1)) && stepsOk c.depth r
/-- What stands behind a part of that depth. -/
def Low (d : Int) (r : List CellV) : Prop := r = [] ∨ ∃ c r', r = c :: r' ∧ c.depth ≤ d

theorem tell_head (t : Tree) (d : Int) : ∃ c r, t.tell d = c :: r ∧ c.depth = d := by
  cases t with
  | leaf b p => exact ⟨_, _, rfl, rfl⟩
  | split b k ts => exact ⟨_, _, rfl, rfl⟩
theorem low_tellAll (ts : List Tree) (d : Int) (r : List CellV) (h : Low d r) : Low d (tellAll ts d ++ r) := by
  cases ts with
  | nil => exact h
  | cons t ts =>
    obtain ⟨c, r', h1, h2⟩ := tell_head t d
    refine .inr ⟨c, r' ++ tellAll ts d ++ r, ?_, by omega⟩
    show (t.tell d ++ tellAll ts d) ++ r = _
    rw [h1]
    simp
theorem Low.mono {d e : Int} {r : List CellV} (h : Low d r) (hd : d ≤ e) : Low e r := by
  rcases h with h | ⟨c, r', h1, h2⟩
  · exact .inl h
  · exact .inr ⟨c, r', h1, by omega⟩

theorem growAll_low (n : Nat) (d : Int) (r : List CellV) (h : Low d r) : growAllT n d r = ([], r) := by
  cases n with
  | zero => rfl
  | succ n =>
    rcases h with rfl | ⟨c, r', rfl, h2⟩
    · rfl
    · unfold growAllT
      simp only []
      rw [if_neg (by omega)]

mutual
theorem grow_told : ∀ (t : Tree) (d : Int) (m : Nat) (r : List CellV) (c : CellV) (l : List CellV), 2 * t.size ≤ m → Low d r → t.tell d ++ r = c :: l → growT m c l = (nodeOf t, r)
  | .leaf b p, d, m, r, c, l, hm, hl, he => by
    have he' : (⟨d, 1, b.x, b.y, b.w, b.h, p⟩ : CellV) :: r = c :: l := he
    cases he'
    cases m with
    | zero => rfl
    | succ n =>
      unfold growT
      rw [growAll_low n d r hl]
      rfl
  | .split b k ts, d, m, r, c, l, hm, hl, he => by
    have he' : (⟨d, k, b.x, b.y, b.w, b.h, 0⟩ : CellV) :: (tellAll ts (d + 1) ++ r) = c :: l := he
    cases he'
    unfold Tree.size at hm
    obtain ⟨n, rfl⟩ : ∃ n, m = n + 1 := ⟨m - 1, by omega⟩
    unfold growT
    rw [growAll_told ts d n r (by omega) hl]
    rfl
theorem growAll_told : ∀ (ts : List Tree) (d : Int) (m : Nat) (r : List CellV), 2 * sizes ts + 1 ≤ m → Low d r → growAllT m d (tellAll ts (d + 1) ++ r) = (nodesOf ts, r)
  | [], d, m, r, hm, hl => growAll_low m d r hl
  | t :: ts, d, m, r, hm, hl => by
    obtain ⟨n, rfl⟩ : ∃ n, m = n + 1 := ⟨m - 1, by omega⟩
    unfold sizes at hm
    have hp := t.size_pos
    obtain ⟨c, l, h1, h2⟩ := tell_head t (d + 1)
    have hlow : Low (d + 1) (tellAll ts (d + 1) ++ r) := low_tellAll ts (d + 1) r (hl.mono (by omega))
    have hg := grow_told t (d + 1) n (tellAll ts (d + 1) ++ r) c (l ++ (tellAll ts (d + 1) ++ r)) (by omega) hlow (by rw [h1]; rfl)
    have ih := growAll_told ts d n r (by omega) hl
    show growAllT (n + 1) d ((t.tell (d + 1) ++ tellAll ts (d + 1)) ++ r) = _
    rw [List.append_assoc, h1]
    show growAllT (n + 1) d (c :: (l ++ (tellAll ts (d + 1) ++ r))) = _
    unfold growAllT
    simp only []
    rw [if_pos (by omega), hg]
    simp only []
    rw [ih]
    rfl
end

mutual
theorem take_told : ∀ (t : Tree) (d : Int) (r : List CellV), t.kinds → Low d r → takeF (t.tell d ++ r) d = some (t, r)
  | .leaf b p, d, r, hk, hl => by
    show takeF ((⟨d, 1, b.x, b.y, b.w, b.h, p⟩ : CellV) :: r) d = _
    rw [takeF_cons, if_pos rfl, if_pos rfl]
    rfl
  | .split b k ts, d, r, hk, hl => by
    show takeF ((⟨d, k, b.x, b.y, b.w, b.h, 0⟩ : CellV) :: (tellAll ts (d + 1) ++ r)) d = _
    rw [takeF_cons, if_pos rfl, if_neg (by show ¬ k = 1; rcases hk.1 with h | h <;> omega), if_pos hk.1, takeAll_told ts (d + 1) r hk.2 (hl.mono (by omega)) (by
      rcases hl with rfl | ⟨c, r', rfl, h2⟩
      · exact .inl rfl
      · exact .inr ⟨c, r', rfl, by omega⟩)]
    rfl
theorem takeAll_told : ∀ (ts : List Tree) (d : Int) (r : List CellV), kindsAll ts → Low d r → (r = [] ∨ ∃ c r', r = c :: r' ∧ c.depth ≠ d) → takeAllF (tellAll ts d ++ r) d = (ts, r)
  | [], d, r, hk, hl, hr => by
    show takeAllF r d = _
    rw [takeAllF_eq]
    rcases hr with rfl | ⟨c, r', rfl, h⟩
    · rw [takeF_nil]
    · rw [takeF_cons, if_neg h]
  | t :: ts, d, r, hk, hl, hr => by
    show takeAllF ((t.tell d ++ tellAll ts d) ++ r) d = _
    rw [List.append_assoc, takeAllF_eq, take_told t d (tellAll ts d ++ r) hk.1 (low_tellAll ts d r hl)]
    simp only []
    rw [takeAll_told ts d r hk.2 hl hr]
end

mutual
theorem steps_tell : ∀ (t : Tree) (d p : Int) (r : List CellV), 1 ≤ d → d ≤ p + 1 → (∀ q, d ≤ q → stepsOk q r = true) → stepsOk p (t.tell d ++ r) = true
  | .leaf b q, d, p, r, h1, h2, hr => by
    show ((decide (1 ≤ d) && decide (d ≤ p + 1)) && stepsOk d r) = true
    rw [hr d (by omega)]
    simp [h1, h2]
  | .split b k ts, d, p, r, h1, h2, hr => by
    show ((decide (1 ≤ d) && decide (d ≤ p + 1)) && stepsOk d (tellAll ts (d + 1) ++ r)) = true
    rw [steps_tellAll ts (d + 1) d r (by omega) (by omega) (fun q hq => hr q (by omega))]
    simp [h1, h2]
theorem steps_tellAll : ∀ (ts : List Tree) (d p : Int) (r : List CellV), 1 ≤ d → d ≤ p + 1 → (∀ q, d ≤ q + 1 → stepsOk q r = true) → stepsOk p (tellAll ts d ++ r) = true
  | [], d, p, r, h1, h2, hr => hr p h2
  | t :: ts, d, p, r, h1, h2, hr => by
    show stepsOk p ((t.tell d ++ tellAll ts d) ++ r) = true
    rw [List.append_assoc]
    exact steps_tell t d p _ h1 h2 (fun q hq => steps_tellAll ts d q r h1 (by omega) hr)
end

mutual
theorem ids_told : ∀ (t : Tree) (d : Int), t.kinds → (nodeOf t).ids = idsOf (t.tell d)
  | .leaf b p, d, hk => by
    show (if (1 : Int) = 1 then [p] else idsAll []) = _
    rw [if_pos rfl]
    rfl
  | .split b k ts, d, hk => by
    have h1 : ¬ k = 1 := by rcases hk.1 with h | h <;> omega
    show (if k = 1 then [0] else idsAll (nodesOf ts)) = idsOf ((⟨d, k, b.x, b.y, b.w, b.h, 0⟩ : CellV) :: tellAll ts (d + 1))
    rw [if_neg h1, ids_toldAll ts (d + 1) hk.2]
    unfold idsOf
    rw [List.filter_cons_of_neg (by simpa using h1)]
theorem ids_toldAll : ∀ (ts : List Tree) (d : Int), kindsAll ts → idsAll (nodesOf ts) = idsOf (tellAll ts d)
  | [], d, hk => rfl
  | t :: ts, d, hk => by
    show (nodeOf t).ids ++ idsAll (nodesOf ts) = idsOf (t.tell d ++ tellAll ts d)
    rw [ids_told t d hk.1, ids_toldAll ts d hk.2]
    unfold idsOf
    rw [List.filter_append, List.map_append]
end

mutual
theorem size_ids : ∀ (t : Tree), t.kinds → t.sound = true → t.size + 1 ≤ 2 * (nodeOf t).ids.length
  | .leaf b p, hk, hs => by
    show 1 + 1 ≤ 2 * (if (1 : Int) = 1 then [p] else idsAll []).length
    rw [if_pos rfl]
    exact Nat.le_refl _
  | .split b k ts, hk, hs => by
    have h1 : ¬ k = 1 := by rcases hk.1 with h | h <;> omega
    unfold Tree.sound at hs
    simp only [Bool.and_eq_true, decide_eq_true_eq] at hs
    have := sizes_ids ts b k hk.2 hs.2.1
    have h2 := hs.1.1
    show 1 + sizes ts + 1 ≤ 2 * (if k = 1 then [0] else idsAll (nodesOf ts)).length
    rw [if_neg h1]
    omega
theorem sizes_ids : ∀ (ts : List Tree) (b : Box) (k : Int), kindsAll ts → soundAll ts b k = true → sizes ts + ts.length ≤ 2 * (idsAll (nodesOf ts)).length
  | [], b, k, hk, hs => Nat.le_refl _
  | t :: ts, b, k, hk, hs => by
    unfold soundAll at hs
    simp only [Bool.and_eq_true] at hs
    have h1 := size_ids t hk.1 hs.1.1
    have h2 := sizes_ids ts b k hk.2 hs.2
    show t.size + sizes ts + (ts.length + 1) ≤ 2 * ((nodeOf t).ids ++ idsAll (nodesOf ts)).length
    rw [List.length_append]
    omega
end

theorem nodeOf_w (t : Tree) : (nodeOf t).w = t.box.w := by cases t <;> rfl
theorem nodeOf_h (t : Tree) : (nodeOf t).h = t.box.h := by cases t <;> rfl
theorem nodeOf_ext (t : Tree) (k : Int) : (nodeOf t).ext k = t.box.ext k := by
  unfold Node.ext Box.ext
  rw [nodeOf_w, nodeOf_h]
theorem nodesOf_length : ∀ (ts : List Tree), (nodesOf ts).length = ts.length
  | [] => rfl
  | t :: ts => by
    show (nodesOf ts).length + 1 = ts.length + 1
    rw [nodesOf_length ts]
theorem extN_told : ∀ (ts : List Tree) (k : Int), extN (nodesOf ts) k = extAll ts k
  | [], k => rfl
  | t :: ts, k => by
    show (nodeOf t).ext k + 1 + extN (nodesOf ts) k = t.box.ext k + 1 + extAll ts k
    rw [nodeOf_ext, extN_told ts k]
theorem extAll_pos (ts : List Tree) (b : Box) (k : Int) (h : soundAll ts b k = true) : -1 ≤ extAll ts k := by
  induction ts with
  | nil => exact Int.le_refl _
  | cons t ts ih =>
    have hs := ext_side (t :: ts) b k 0 t rfl h
    unfold soundAll at h
    simp only [Bool.and_eq_true] at h
    have := ih h.2
    show -1 ≤ t.box.ext k + 1 + extAll ts k
    omega
theorem ext_le_all (ts : List Tree) (b : Box) (k : Int) (h : soundAll ts b k = true) : ∀ t ∈ ts, t.box.ext k ≤ extAll ts k := by
  induction ts with
  | nil => intro t ht; cases ht
  | cons a ts ih =>
    intro t ht
    have ha := ext_side (a :: ts) b k 0 a rfl h
    have hp := extAll_pos (a :: ts) b k h
    unfold soundAll at h
    simp only [Bool.and_eq_true] at h
    have hp2 := extAll_pos ts b k h.2
    show t.box.ext k ≤ a.box.ext k + 1 + extAll ts k
    rcases List.mem_cons.1 ht with rfl | ht
    · omega
    · have := ih h.2 t ht
      omega
theorem nodeOf_kind (t : Tree) (k : Int) (hk : k = 2 ∨ k = 3) (h : t.kindIs k = false) : ¬ (nodeOf t).k = k := by
  cases t with
  | leaf b p =>
    show ¬ (1 : Int) = k
    rcases hk with h | h <;> omega
  | split b j ts =>
    show ¬ j = k
    exact of_decide_eq_false h

end Go.Proofs.Ytlaelkcmeaiajaa

namespace Go.Proofs.Ytlaelkcmeaiajaa
open Go.RowKit
set_option linter.unusedVariables false

mutual
theorem sound_ok : ∀ (t : Tree), t.kinds → t.sound = true → (nodeOf t).ok = true
  | .leaf b p, hk, hs => by
    unfold Tree.sound at hs
    simp only [Bool.and_eq_true] at hs
    have h1 := side_of hs.1.1
    have h2 := side_of hs.1.2
    show (((decide (1 ≤ b.w) && decide (1 ≤ b.h)) && (decide ((1 : Int) ≤ 1) && decide ((1 : Int) ≤ 3))) && (if (1 : Int) = 1 then (decide (([] : List Node).length = 0) && idB p) else _)) = true
    rw [if_pos rfl, hs.2]
    simp [h1.1, h2.1]
  | .split b k ts, hk, hs => by
    unfold Tree.sound at hs
    simp only [Bool.and_eq_true, decide_eq_true_eq] at hs
    obtain ⟨⟨h2, hw, hh⟩, hall, hext⟩ := hs
    have h1 := side_of hw
    have h3 := side_of hh
    have hk1 : ¬ k = 1 := by rcases hk.1 with h | h <;> omega
    have hle : ∀ t ∈ ts, t.box.ext k ≤ b.ext k := fun t ht => hext ▸ ext_le_all ts b k hall t ht
    have ho := soundAll_oks ts b k hk.1 hk.2 hall hle
    show (((decide (1 ≤ b.w) && decide (1 ≤ b.h)) && (decide (1 ≤ k) && decide (k ≤ 3))) && (if k = 1 then _ else ((decide (2 ≤ (nodesOf ts).length) && decide ((0 : Int) = 0)) && (oksAll (nodesOf ts) k b.w b.h && decide (extN (nodesOf ts) k = if k = 2 then b.w else b.h))))) = true
    rw [if_neg hk1, ho, nodesOf_length, extN_told, hext]
    have hk2 : 1 ≤ k ∧ k ≤ 3 := by rcases hk.1 with h | h <;> omega
    have he : b.ext k = if k = 2 then b.w else b.h := rfl
    rw [he]
    simp [h1.1, h3.1, hk2, h2]
theorem soundAll_oks : ∀ (ts : List Tree) (b : Box) (k : Int), (k = 2 ∨ k = 3) → kindsAll ts → soundAll ts b k = true → (∀ t ∈ ts, t.box.ext k ≤ b.ext k) → oksAll (nodesOf ts) k b.w b.h = true
  | [], b, k, hk, hks, hs, hle => rfl
  | t :: ts, b, k, hk, hks, hs, hle => by
    unfold soundAll at hs
    simp only [Bool.and_eq_true, decide_eq_true_eq, Bool.not_eq_true'] at hs
    obtain ⟨⟨h1, h2, h3⟩, h4⟩ := hs
    have i1 := sound_ok t hks.1 h1
    have i2 := soundAll_oks ts b k hk hks.2 h4 (fun t ht => hle t (List.mem_cons_of_mem _ ht))
    have i3 := nodeOf_kind t k hk h2
    have i4 := hle t List.mem_cons_self
    show ((((!decide ((nodeOf t).k = k)) && (decide ((nodeOf t).w ≤ b.w) && decide ((nodeOf t).h ≤ b.h))) && ((nodeOf t).ok && (if k = 2 then decide ((nodeOf t).h = b.h) else decide ((nodeOf t).w = b.w)))) && oksAll (nodesOf ts) k b.w b.h) = true
    rw [i1, i2, nodeOf_w, nodeOf_h]
    rcases hk with rfl | rfl
    · have i5 : t.box.h = b.h := h3
      have i6 : t.box.w ≤ b.w := i4
      simp [i3, i5, i6]
    · have i5 : t.box.w = b.w := h3
      have i6 : t.box.h ≤ b.h := i4
      simp [i3, i5, i6]
end

mutual
theorem ok_tree : ∀ (n : Node), n.ok = true → n.w ≤ 1000 → n.h ≤ 1000 → ∃ t, n = nodeOf t ∧ t.sound = true ∧ t.kinds ∧ t.box = ⟨0, 0, n.w, n.h⟩
  | .mk k w h i ks, ho, hw, hh => by
    unfold Node.ok at ho
    simp only [Bool.and_eq_true, decide_eq_true_eq] at ho
    obtain ⟨⟨⟨h1, h2⟩, h3, h4⟩, h5⟩ := ho
    change w ≤ 1000 at hw
    change h ≤ 1000 at hh
    have sw := side_mk h1 hw
    have sh := side_mk h2 hh
    by_cases hk : k = 1
    · rw [if_pos hk] at h5
      simp only [Bool.and_eq_true, decide_eq_true_eq] at h5
      have : ks = [] := List.length_eq_zero_iff.1 h5.1
      subst this hk
      refine ⟨.leaf ⟨0, 0, w, h⟩ i, rfl, ?_, trivial, rfl⟩
      unfold Tree.sound
      simp [sw, sh, h5.2]
    · rw [if_neg hk] at h5
      simp only [Bool.and_eq_true, decide_eq_true_eq] at h5
      obtain ⟨⟨h6, h7⟩, h8, h9⟩ := h5
      have hk2 : k = 2 ∨ k = 3 := by omega
      obtain ⟨ts, e1, e2, e3⟩ := oks_trees ks k w h hk2 hw hh h8
      subst e1 h7
      rw [nodesOf_length] at h6
      rw [extN_told] at h9
      refine ⟨.split ⟨0, 0, w, h⟩ k ts, rfl, ?_, ⟨hk2, e3⟩, rfl⟩
      unfold Tree.sound
      rw [e2, sw, sh, h9]
      have he : (⟨0, 0, w, h⟩ : Box).ext k = if k = 2 then w else h := rfl
      rw [he]
      simp [h6]
theorem oks_trees : ∀ (ks : List Node) (k w h : Int), (k = 2 ∨ k = 3) → w ≤ 1000 → h ≤ 1000 → oksAll ks k w h = true → ∃ ts, ks = nodesOf ts ∧ soundAll ts ⟨0, 0, w, h⟩ k = true ∧ kindsAll ts
  | [], k, w, h, hk, hw, hh, ho => ⟨[], rfl, rfl, trivial⟩
  | n :: r, k, w, h, hk, hw, hh, ho => by
    unfold oksAll at ho
    simp only [Bool.and_eq_true, decide_eq_true_eq, Bool.not_eq_true', decide_eq_false_iff_not] at ho
    obtain ⟨⟨⟨h1, h2, h3⟩, h4, h5⟩, h6⟩ := ho
    obtain ⟨t, e1, e2, e3, e4⟩ := ok_tree n h4 (by omega) (by omega)
    obtain ⟨ts, f1, f2, f3⟩ := oks_trees r k w h hk hw hh h6
    refine ⟨t :: ts, by rw [e1, f1]; rfl, ?_, ⟨e3, f3⟩⟩
    unfold soundAll
    have hki : t.kindIs k = false := by
      cases t with
      | leaf b p => rfl
      | split b j us =>
        subst e1
        exact decide_eq_false h1
    have hac : t.box.ext (acrossK k) = (⟨0, 0, w, h⟩ : Box).ext (acrossK k) := by
      rw [e4]
      rcases hk with rfl | rfl
      · rw [if_pos rfl] at h5
        exact of_decide_eq_true h5
      · rw [if_neg (by decide)] at h5
        exact of_decide_eq_true h5
    rw [e2, hki, hac, f2]
    simp
end

mutual
def layN : Node → Int → Int → Int → List CellV
  | .mk k w h i ks, d, x, y => ⟨d, k, x, y, w, h, i⟩ :: layAllN ks k (d + 1) x y
def layAllN : List Node → Int → Int → Int → Int → List CellV
  | [], _, _, _, _ => []
  | n :: r, k, d, x, y => layN n d x y ++ (if k = 2 then layAllN r k d (x + (n.ext k + 1)) y else layAllN r k d x (y + (n.ext k + 1)))
end
mutual
theorem lay_told : ∀ (t : Tree) (d x y : Int), layN (nodeOf t) d x y = (t.moved x y).tell d
  | .leaf b p, d, x, y => rfl
  | .split b k ts, d, x, y => by
    show (⟨d, k, x, y, b.w, b.h, 0⟩ : CellV) :: layAllN (nodesOf ts) k (d + 1) x y = ⟨d, k, x, y, b.w, b.h, 0⟩ :: tellAll (movedAll ts k x y) (d + 1)
    rw [layAll_told ts k (d + 1) x y]
theorem layAll_told : ∀ (ts : List Tree) (k d x y : Int), layAllN (nodesOf ts) k d x y = tellAll (movedAll ts k x y) d
  | [], k, d, x, y => rfl
  | t :: ts, k, d, x, y => by
    show layN (nodeOf t) d x y ++ (if k = 2 then layAllN (nodesOf ts) k d (x + ((nodeOf t).ext k + 1)) y else layAllN (nodesOf ts) k d x (y + ((nodeOf t).ext k + 1))) = (t.moved x y).tell d ++ tellAll (if k = 2 then movedAll ts k (x + (t.box.ext k + 1)) y else movedAll ts k x (y + (t.box.ext k + 1))) d
    rw [lay_told t d x y, nodeOf_ext]
    by_cases hk : k = 2
    · rw [if_pos hk, if_pos hk, layAll_told ts]
    · rw [if_neg hk, if_neg hk, layAll_told ts]
end
mutual
theorem moved_moved : ∀ (t : Tree) (x y a b : Int), (t.moved a b).moved x y = t.moved x y
  | .leaf b p, x, y, _, _ => rfl
  | .split b k ts, x, y, a, c => by
    show Tree.split { b with x := x, y := y } k (movedAll (movedAll ts k a c) k x y) = .split { b with x := x, y := y } k (movedAll ts k x y)
    rw [movedAll_moved ts]
theorem movedAll_moved : ∀ (ts : List Tree) (k x y a c : Int), movedAll (movedAll ts k a c) k x y = movedAll ts k x y
  | [], k, x, y, a, c => rfl
  | t :: ts, k, x, y, a, c => by
    show movedAll (t.moved a c :: (if k = 2 then movedAll ts k (a + (t.box.ext k + 1)) c else movedAll ts k a (c + (t.box.ext k + 1)))) k x y = t.moved x y :: (if k = 2 then movedAll ts k (x + (t.box.ext k + 1)) y else movedAll ts k x (y + (t.box.ext k + 1)))
    by_cases hk : k = 2
    · rw [if_pos hk, if_pos hk]
      show (t.moved a c).moved x y :: (if k = 2 then movedAll _ k (x + ((t.moved a c).box.ext k + 1)) y else _) = _
      rw [if_pos hk, moved_moved t, Tree.ext_moved, movedAll_moved ts]
    · rw [if_neg hk, if_neg hk]
      show (t.moved a c).moved x y :: (if k = 2 then _ else movedAll _ k x (y + ((t.moved a c).box.ext k + 1))) = _
      rw [if_neg hk, moved_moved t, Tree.ext_moved, movedAll_moved ts]
end
mutual
theorem kinds_moved : ∀ (t : Tree) (x y : Int), t.kinds → (t.moved x y).kinds
  | .leaf b p, x, y, h => trivial
  | .split b k ts, x, y, h => ⟨h.1, kindsAll_moved ts k x y h.2⟩
theorem kindsAll_moved : ∀ (ts : List Tree) (k x y : Int), kindsAll ts → kindsAll (movedAll ts k x y)
  | [], k, x, y, h => trivial
  | t :: ts, k, x, y, h => by
    refine ⟨kinds_moved t x y h.1, ?_⟩
    split
    · exact kindsAll_moved ts k _ _ h.2
    · exact kindsAll_moved ts k _ _ h.2
end
mutual
theorem node_moved : ∀ (t : Tree) (x y : Int), nodeOf (t.moved x y) = nodeOf t
  | .leaf b p, x, y => rfl
  | .split b k ts, x, y => by
    show Node.mk k b.w b.h 0 (nodesOf (movedAll ts k x y)) = .mk k b.w b.h 0 (nodesOf ts)
    rw [nodes_moved ts]
theorem nodes_moved : ∀ (ts : List Tree) (k x y : Int), nodesOf (movedAll ts k x y) = nodesOf ts
  | [], k, x, y => rfl
  | t :: ts, k, x, y => by
    show nodeOf (t.moved x y) :: nodesOf (if k = 2 then movedAll ts k (x + (t.box.ext k + 1)) y else movedAll ts k x (y + (t.box.ext k + 1))) = nodeOf t :: nodesOf ts
    rw [node_moved t]
    split
    · rw [nodes_moved ts]
    · rw [nodes_moved ts]
end
theorem box_moved (t : Tree) (x y : Int) : (t.moved x y).box = { t.box with x := x, y := y } := by cases t <;> rfl

theorem kindIs_moved (t : Tree) (x y k : Int) : (t.moved x y).kindIs k = t.kindIs k := by cases t <;> rfl
theorem movedAll_length : ∀ (ts : List Tree) (k x y : Int), (movedAll ts k x y).length = ts.length
  | [], k, x, y => rfl
  | t :: ts, k, x, y => by
    show (if k = 2 then movedAll ts k (x + (t.box.ext k + 1)) y else movedAll ts k x (y + (t.box.ext k + 1))).length + 1 = ts.length + 1
    split
    · rw [movedAll_length ts]
    · rw [movedAll_length ts]
theorem extAll_moved : ∀ (ts : List Tree) (k x y : Int), extAll (movedAll ts k x y) k = extAll ts k
  | [], k, x, y => rfl
  | t :: ts, k, x, y => by
    show (t.moved x y).box.ext k + 1 + extAll (if k = 2 then movedAll ts k (x + (t.box.ext k + 1)) y else movedAll ts k x (y + (t.box.ext k + 1))) k = t.box.ext k + 1 + extAll ts k
    rw [Tree.ext_moved]
    split
    · rw [extAll_moved ts]
    · rw [extAll_moved ts]
mutual
/-- Sound is said of the sizes alone. -/
theorem sound_movedE : ∀ (t : Tree) (x y : Int), (t.moved x y).sound = t.sound
  | .leaf b p, x, y => rfl
  | .split b k ts, x, y => by
    show ((decide (2 ≤ (movedAll ts k x y).length) && (sideB b.w && sideB b.h)) && (soundAll (movedAll ts k x y) { b with x := x, y := y } k && decide (extAll (movedAll ts k x y) k = b.ext k))) = ((decide (2 ≤ ts.length) && (sideB b.w && sideB b.h)) && (soundAll ts b k && decide (extAll ts k = b.ext k)))
    rw [movedAll_length, extAll_moved, soundAll_moved ts k x y b { b with x := x, y := y } fun _ => rfl]
theorem soundAll_moved : ∀ (ts : List Tree) (k x y : Int) (b b' : Box), (∀ d, b'.ext d = b.ext d) → soundAll (movedAll ts k x y) b' k = soundAll ts b k
  | [], k, x, y, b, b', h => rfl
  | t :: ts, k, x, y, b, b', h => by
    show (((t.moved x y).sound && (!(t.moved x y).kindIs k && decide ((t.moved x y).box.ext (acrossK k) = b'.ext (acrossK k)))) && soundAll (if k = 2 then movedAll ts k (x + (t.box.ext k + 1)) y else movedAll ts k x (y + (t.box.ext k + 1))) b' k) = ((t.sound && (!t.kindIs k && decide (t.box.ext (acrossK k) = b.ext (acrossK k)))) && soundAll ts b k)
    rw [sound_movedE t, kindIs_moved, Tree.ext_moved, h]
    split
    · rw [soundAll_moved ts k _ _ b b' h]
    · rw [soundAll_moved ts k _ _ b b' h]
end
theorem sound_moved (t : Tree) (x y : Int) (hk : t.kinds) (h : t.sound = true) : (t.moved x y).sound = true := (sound_movedE t x y).trans h

theorem takes_kinds : ∀ (m : Nat) (l : List CellV) (d : Int), l.length ≤ m → (∀ t r, takeF l d = some (t, r) → t.kinds) ∧ kindsAll (takeAllF l d).1 := by
  intro m
  induction m with
  | zero =>
    intro l d hm
    have : l = [] := List.length_eq_zero_iff.1 (by omega)
    subst this
    refine ⟨fun t r h => ?_, ?_⟩
    · rw [takeF_nil] at h; cases h
    · rw [takeAllF_eq, takeF_nil]
      trivial
  | succ m ih =>
    intro l d hm
    have one : ∀ t r, takeF l d = some (t, r) → t.kinds := by
      intro t r h
      cases l with
      | nil => rw [takeF_nil] at h; cases h
      | cons c l =>
        rw [List.length_cons] at hm
        obtain ⟨_, k1⟩ := ih l (d + 1) (by omega)
        rw [takeF_cons] at h
        split at h
        · split at h
          · cases h
            trivial
          · split at h
            · rename_i h23
              cases h
              exact ⟨h23, k1⟩
            · cases h
        · cases h
    refine ⟨one, ?_⟩
    rw [takeAllF_eq]
    cases h : takeF l d with
    | none => trivial
    | some p =>
      obtain ⟨t, r⟩ := p
      have hr := takeF_shorter l d t r h
      exact ⟨one t r h, (ih r d (by omega)).2⟩

/-- What a layout is. -/
structure IsLay (l : List CellV) (t : Tree) : Prop where
  kinds : t.kinds
  sound : t.sound = true
  moved : t.moved 0 0 = t
  tell : t.tell 0 = l
  few : fewB (idsOf l) = true

theorem readF_lay {l : List CellV} {t : Tree} (h : readF l = some t) : IsLay l t := by
  unfold readF at h
  split at h
  · cases h
  · split at h
    · cases h
    · rename_i t' r ht
      split at h
      · rename_i hc
        cases h
        have hk := (takes_kinds l.length l 0 (Nat.le_refl _)).1 t' r ht
        exact ⟨kinds_moved t' 0 0 hk, sound_moved t' 0 0 hk hc.1, moved_moved t' 0 0 0 0, hc.2.1, hc.2.2⟩
      · cases h
theorem few_len {zs : List Int} (h : fewB zs = true) : zs.length ≤ 32 ∧ zs.Nodup := by
  unfold fewB at h
  simpa using h
theorem IsLay.size {l : List CellV} {t : Tree} (h : IsLay l t) : l.length ≤ 63 := by
  have h1 := size_ids t h.kinds h.sound
  rw [ids_told t 0 h.kinds, h.tell] at h1
  have h2 := (few_len h.few).1
  have h3 := Tree.tell_length t 0
  rw [h.tell] at h3
  omega
theorem lay_readF {l : List CellV} {t : Tree} (h : IsLay l t) : readF l = some t := by
  have ht : takeF l 0 = some (t, []) := by
    have := take_told t 0 [] h.kinds (.inl rfl)
    rwa [List.append_nil, h.tell] at this
  rw [readF_some (by have := h.size; omega) ht, if_pos ⟨h.sound, by rw [h.moved, h.tell], h.few⟩, h.moved]
theorem IsLay.grow {l : List CellV} {t : Tree} (h : IsLay l t) {c : CellV} {r : List CellV} (hl : l = c :: r) : growT 200 c r = (nodeOf t, []) := by
  have h3 := Tree.tell_length t 0
  rw [h.tell] at h3
  have h4 := h.size
  exact grow_told t 0 200 [] c r (by omega) (.inl rfl) (by rw [List.append_nil, h.tell, hl])
theorem IsLay.steps {l : List CellV} {t : Tree} (h : IsLay l t) {c : CellV} {r : List CellV} (hl : l = c :: r) : c.depth = 0 ∧ c.w ≤ 1000 ∧ c.h ≤ 1000 ∧ stepsOk 0 r = true := by
  have hs := t.sound_sides h.sound
  have ht := h.tell
  cases t with
  | leaf b p =>
    rw [hl] at ht
    cases ht
    exact ⟨rfl, hs.1.2, hs.2.2, rfl⟩
  | split b k ts =>
    rw [hl] at ht
    cases ht
    refine ⟨rfl, hs.1.2, hs.2.2, ?_⟩
    have := steps_tellAll ts 1 0 [] (by omega) (by omega) (fun q _ => rfl)
    rwa [List.append_nil] at this

end Go.Proofs.Ytlaelkcmeaiajaa

namespace Go.Proofs.Ytlaelkcmeaiajaa
open Go.RowKit
set_option linter.unusedVariables false
set_option maxRecDepth 100000

/-- The cells of a node. -/
def nodeL (n : Node) (sl : Value) : List Value := [.int .i64 n.k, .int .i64 n.w, .int .i64 n.h, .int .i64 n.i, sl]
def nodeV (n : Node) (sl : Value) : Array Value := #[.int .i64 n.k, .int .i64 n.w, .int .i64 n.h, .int .i64 n.i, sl]
theorem nodeL_get (n : Node) (sl : Value) (j : Nat) : (nodeL n sl)[j]? = (nodeV n sl)[j]? := by unfold nodeL nodeV; simp
def IsSl (v : Value) : Prop := ∃ a n c, v = .slice a n c
mutual
/-- A node lies in memory: the list of its children, the blocks. -/
def Node.In (W : World) : Node → Value → List Nat → Prop
  | .mk _ _ _ _ ks, sl, fp => ∃ cs fs, W.ownsRow 0 58 5 sl ks.length cs ∧ nodesIn W ks cs fs ∧ fp = sl.ownBlock.toList ++ fs
def nodesIn (W : World) : List Node → List Value → List Nat → Prop
  | [], cs, fp => cs = [] ∧ fp = []
  | n :: r, cs, fp => ∃ sl cs' f f', cs = nodeL n sl ++ cs' ∧ n.In W sl f ∧ nodesIn W r cs' f' ∧ fp = f ++ f'
end

theorem own_kept5 {W W' : World} {B s : Nat} {t : TypeId} {sl : Value} {n : Nat} {vs : List Value} (h : W.ownsRow B t s sl n vs) (hk : ∀ g ∈ sl.ownBlock.toList, W'.heap[g]? = W.heap[g]?) : W'.ownsRow B t s sl n vs := by
  refine ⟨h.1, ?_⟩
  rcases h.2 with h0 | ⟨g, cap, cur, rfl, hb, hg, r⟩
  · exact .inl h0
  · exact .inr ⟨g, cap, cur, rfl, hb, (hk g (by simp [Value.ownBlock])).trans hg, r⟩
theorem own_lt5 {W : World} {B s : Nat} {t : TypeId} {sl : Value} {n : Nat} {vs : List Value} (h : W.ownsRow B t s sl n vs) : ∀ g ∈ sl.ownBlock.toList, g < W.heap.size := fun g hg => (World.ownsRow.lt h g (by simpa using hg)).2
theorem own_sl5 {W : World} {B s : Nat} {t : TypeId} {sl : Value} {n : Nat} {vs : List Value} (h : W.ownsRow B t s sl n vs) : ∃ a c, sl = .slice a n c := by
  rcases h.2 with ⟨h0, h1⟩ | ⟨g, cap, cur, rfl, _⟩
  · exact ⟨none, 0, by rw [h0, h1]⟩
  · exact ⟨_, _, rfl⟩
mutual
theorem Node.In.keep {W W' : World} : ∀ {n : Node} {sl : Value} {fp : List Nat}, n.In W sl fp → (∀ g ∈ fp, W'.heap[g]? = W.heap[g]?) → n.In W' sl fp
  | .mk _ _ _ _ ks, sl, fp, h, hk => by
    obtain ⟨cs, fs, h1, h2, rfl⟩ := h
    exact ⟨cs, fs, own_kept5 h1 (fun q hq => hk q (List.mem_append_left _ hq)), nodesIn.keep h2 (fun q hq => hk q (List.mem_append_right _ hq)), rfl⟩
theorem nodesIn.keep {W W' : World} : ∀ {ns : List Node} {cs : List Value} {fp : List Nat}, nodesIn W ns cs fp → (∀ g ∈ fp, W'.heap[g]? = W.heap[g]?) → nodesIn W' ns cs fp
  | [], cs, fp, h, hk => h
  | n :: r, cs, fp, h, hk => by
    obtain ⟨sl, cs', f, f', h1, h2, h3, rfl⟩ := h
    exact ⟨sl, cs', f, f', h1, Node.In.keep h2 (fun q hq => hk q (List.mem_append_left _ hq)), nodesIn.keep h3 (fun q hq => hk q (List.mem_append_right _ hq)), rfl⟩
end
mutual
theorem Node.In.lt {W : World} : ∀ {n : Node} {sl : Value} {fp : List Nat}, n.In W sl fp → ∀ g ∈ fp, g < W.heap.size
  | .mk _ _ _ _ ks, sl, fp, h => by
    obtain ⟨cs, fs, h1, h2, rfl⟩ := h
    intro g hg
    rcases List.mem_append.1 hg with hg | hg
    · exact own_lt5 h1 g hg
    · exact nodesIn.lt h2 g hg
theorem nodesIn.lt {W : World} : ∀ {ns : List Node} {cs : List Value} {fp : List Nat}, nodesIn W ns cs fp → ∀ g ∈ fp, g < W.heap.size
  | [], cs, fp, h => by
    obtain ⟨_, rfl⟩ := h
    intro g hg
    cases hg
  | n :: r, cs, fp, h => by
    obtain ⟨sl, cs', f, f', h1, h2, h3, rfl⟩ := h
    intro g hg
    rcases List.mem_append.1 hg with hg | hg
    · exact Node.In.lt h2 g hg
    · exact nodesIn.lt h3 g hg
end
theorem Node.In.below {W W' : World} {n : Node} {sl : Value} {fp : List Nat} (h : n.In W sl fp) (hb : Below W.heap.size W W') : n.In W' sl fp := h.keep fun g hg => hb.block g (h.lt g hg)
theorem nodesIn.below {W W' : World} {ns : List Node} {cs : List Value} {fp : List Nat} (h : nodesIn W ns cs fp) (hb : Below W.heap.size W W') : nodesIn W' ns cs fp := h.keep fun g hg => hb.block g (h.lt g hg)
theorem Node.In.sl {W : World} {n : Node} {sl : Value} {fp : List Nat} (h : n.In W sl fp) : ∃ a c, sl = .slice a n.ks.length c := by
  cases n with
  | mk k w h' i ks =>
    obtain ⟨cs, fs, h1, _⟩ := h
    exact own_sl5 h1
theorem nodesIn.length {W : World} : ∀ {ns : List Node} {cs : List Value} {fp : List Nat}, nodesIn W ns cs fp → cs.length = ns.length * 5
  | [], cs, fp, h => by rw [h.1]; rfl
  | n :: r, cs, fp, h => by
    obtain ⟨sl, cs', f, f', rfl, h2, h3, rfl⟩ := h
    rw [List.length_append, nodesIn.length h3, List.length_cons]
    show 5 + _ = _
    omega
theorem nodesIn.get {W : World} : ∀ {ns : List Node} {cs : List Value} {fp : List Nat}, nodesIn W ns cs fp → ∀ (i : Nat) (n : Node), ns[i]? = some n → ∃ sl f, n.In W sl f ∧ (∀ q ∈ f, q ∈ fp) ∧ ∀ j, j < 5 → cs[i * 5 + j]? = (nodeL n sl)[j]?
  | [], cs, fp, h, i, n, hi => by cases hi
  | a :: r, cs, fp, h, 0, n, hi => by
    obtain ⟨sl, cs', f, f', rfl, h2, h3, rfl⟩ := h
    cases hi
    refine ⟨sl, f, h2, fun q hq => List.mem_append_left _ hq, fun j hj => ?_⟩
    rw [Nat.zero_mul, Nat.zero_add, List.getElem?_append_left (by show j < 5; exact hj)]
  | a :: r, cs, fp, h, i + 1, n, hi => by
    obtain ⟨sl, cs', f, f', rfl, h2, h3, rfl⟩ := h
    obtain ⟨sl1, f1, e1, e2, e3⟩ := nodesIn.get h3 i n hi
    refine ⟨sl1, f1, e1, fun q hq => List.mem_append_right _ (e2 q hq), fun j hj => ?_⟩
    rw [← e3 j hj, List.getElem?_append_right (by show 5 ≤ (i + 1) * 5 + j; omega)]
    show cs'[(i + 1) * 5 + j - 5]? = _
    rw [show (i + 1) * 5 + j - 5 = i * 5 + j by omega]
theorem nodesIn.snoc {W : World} {n : Node} {sl : Value} {f : List Nat} (h2 : n.In W sl f) : ∀ {ns : List Node} {cs : List Value} {fs : List Nat}, nodesIn W ns cs fs → nodesIn W (ns ++ [n]) (cs ++ nodeL n sl) (fs ++ f)
  | [], cs, fs, h => by
    obtain ⟨rfl, rfl⟩ := h
    exact ⟨sl, [], f, [], by simp, h2, ⟨rfl, rfl⟩, by simp⟩
  | a :: ns, cs, fs, h => by
    obtain ⟨sl1, cs', f1, f', rfl, h3, h4, rfl⟩ := h
    exact ⟨sl1, cs' ++ nodeL n sl, f1, f' ++ f, by simp, h3, nodesIn.snoc h2 h4, by simp⟩

/-- Where the children of a node lie. -/
structure KidIn (W : World) (b off : Nat) (n : Node) (sl : Value) : Prop where
  q0 : W.cell? ⟨b, off, none⟩ = some (.int .i64 n.k)
  q1 : W.cell? ⟨b, off + 1, none⟩ = some (.int .i64 n.w)
  q2 : W.cell? ⟨b, off + 2, none⟩ = some (.int .i64 n.h)
  q3 : W.cell? ⟨b, off + 3, none⟩ = some (.int .i64 n.i)
  q4 : W.cell? ⟨b, off + 4, none⟩ = some sl
theorem Node.In.kids {W : World} {k w h i : Int} {ks : List Node} {sl : Value} {fp : List Nat} (hn : (Node.mk k w h i ks).In W sl fp) (hne : ks ≠ []) : ∃ g cap, sl = .slice (some ⟨g, 0, none⟩) ks.length cap ∧ g < W.heap.size ∧ ∀ (j : Nat) (n : Node), ks[j]? = some n → ∃ sl' f, n.In W sl' f ∧ KidIn W g (j * 5) n sl' := by
  obtain ⟨cs, fs, h1, h2, rfl⟩ := hn
  rcases h1.2 with ⟨h0, h3⟩ | ⟨g, cap, cur, rfl, _, hg, _, _, h5, h6⟩
  · exact absurd (List.length_eq_zero_iff.1 h3) hne
  · refine ⟨g, cap, rfl, lt_of_block hg, fun j n hj => ?_⟩
    obtain ⟨sl', f, e1, e2, e3⟩ := h2.get j n hj
    have hlt : j < ks.length := (List.getElem?_eq_some_iff.1 hj).1
    have hc : ∀ o, o < 5 → W.cell? ⟨g, j * 5 + o, none⟩ = (nodeL n sl')[o]? := by
      intro o ho
      rw [cell_atL hg, ← e3 o ho, ← h6, List.getElem?_take_of_lt (by omega)]
      simp
    exact ⟨sl', f, e1, hc 0 (by omega), hc 1 (by omega), hc 2 (by omega), hc 3 (by omega), hc 4 (by omega)⟩

theorem infoNode : (Try.prog.info? 58).map (fun i => (i.zero, i.size, i.bytes)) = some (some (.agg #[.int .i64 0, .int .i64 0, .int .i64 0, .int .i64 0, .slice none 0 0]), 5, 56) := by kernel_rfl
theorem wpList_append_node {ops : Array Oper} {rest : List Oper} {o : Oper} {a : Act} {Q : Exit → Act → World → Prop} (w : World) (hgd : o.guard = none) (s x : Operand)
    (ho : o.op = .call { callee := .builtin .append, args := #[s, x], argTypes := #[56, 56] })
    (v : Value) (m : Nat) (cs : List Value) (n : Node) (sa : Option Addr) (sn sc : Nat) (hs : a.eval s = v) (hown : w.ownsRow 0 58 5 v m cs) (hx : a.eval x = .slice (some ⟨w.heap.size, 0, none⟩) 1 1) (hlen : m ≤ 1000000)
    (h : ∀ v' w', w'.ownsRow 0 58 5 v' (m + 1) (cs ++ nodeL n (.slice sa sn sc)) → (w.alloc (.cells (nodeV n (.slice sa sn sc)) 58)).grownBy w' v.ownBlock → (v'.ownBlock = v.ownBlock ∨ v'.ownBlock = some (w.alloc (.cells (nodeV n (.slice sa sn sc)) 58)).heap.size) → wpList Try.prog ops Q rest (a.put o.dst v') w') : wpList Try.prog ops Q (o :: rest) a (w.alloc (.cells (nodeV n (.slice sa sn sc)) 58)) := by
  obtain ⟨i0, hi, hz0, hz1, hz2⟩ := info_partsL infoNode
  refine wpList_append_own_at _ hgd s x 56 ho 0 58 i0 _ 5 56 Try.underlying56 hi hz0 hz1 hz2 rfl (by decide) v m cs hs (World.ownsRow.alloc hown _) ⟨w.heap.size, 0, none⟩ 1 1 (nodeL n (.slice sa sn sc)) hx rfl ?_ ?_ ?_ ?_ (Nat.zero_le _) ?_
  · intro j u hu
    rw [show (⟨w.heap.size, 0, none⟩ : Addr).add j = ⟨w.heap.size, j, none⟩ by unfold Addr.add; split <;> simp_all, cell_newL, ← nodeL_get]
    exact hu
  · intro u hu
    have hu' : u ∈ [Value.int .i64 n.k, .int .i64 n.w, .int .i64 n.h, .int .i64 n.i, .slice sa sn sc] := hu
    simp only [List.mem_cons, List.not_mem_nil, or_false] at hu'
    rcases hu' with rfl | rfl | rfl | rfl | rfl <;> rfl
  · unfold maxLen; omega
  · omega
  · intro v' w' h2 h3 _ h5
    exact h v' w' h2 h3 h5

/-- What grows, without fuel. -/
theorem grows_shorter : ∀ (m : Nat), (∀ c r, (growT m c r).2.length ≤ r.length) ∧ (∀ d r, (growAllT m d r).2.length ≤ r.length)
  | 0 => ⟨fun c r => Nat.le_refl _, fun d r => Nat.le_refl _⟩
  | m + 1 => by
    obtain ⟨i1, i2⟩ := grows_shorter m
    refine ⟨fun c r => i2 c.depth r, fun d r => ?_⟩
    cases r with
    | nil => exact Nat.le_refl _
    | cons c r =>
      unfold growAllT
      simp only []
      split
      · have h1 := i1 c r
        have h2 := i2 d (growT m c r).2
        rw [List.length_cons]
        simp only []
        omega
      · exact Nat.le_refl _
theorem grows_fuel : ∀ (q : Nat), (∀ m m' c r, r.length < q → 2 * r.length + 1 ≤ m → 2 * r.length + 1 ≤ m' → growT m c r = growT m' c r) ∧ (∀ m m' d r, r.length < q → 2 * r.length ≤ m → 2 * r.length ≤ m' → growAllT m d r = growAllT m' d r)
  | 0 => ⟨fun _ _ _ _ h => by omega, fun _ _ _ _ h => by omega⟩
  | q + 1 => by
    obtain ⟨i1, i2⟩ := grows_fuel q
    have two : ∀ m m' d r, r.length < q + 1 → 2 * r.length ≤ m → 2 * r.length ≤ m' → growAllT m d r = growAllT m' d r := by
      intro m m' d r hr hm hm'
      cases r with
      | nil => cases m <;> cases m' <;> rfl
      | cons c r =>
        rw [List.length_cons] at hr hm hm'
        obtain ⟨k, rfl⟩ : ∃ k, m = k + 1 := ⟨m - 1, by omega⟩
        obtain ⟨k', rfl⟩ : ∃ k, m' = k + 1 := ⟨m' - 1, by omega⟩
        unfold growAllT
        simp only []
        have h1 := i1 k k' c r (by omega) (by omega) (by omega)
        have h2 := (grows_shorter k').1 c r
        rw [h1, i2 k k' d (growT k' c r).2 (by omega) (by omega) (by omega)]
    refine ⟨fun m m' c r hr hm hm' => ?_, two⟩
    obtain ⟨k, rfl⟩ : ∃ k, m = k + 1 := ⟨m - 1, by omega⟩
    obtain ⟨k', rfl⟩ : ∃ k, m' = k + 1 := ⟨m' - 1, by omega⟩
    unfold growT
    rw [two k k' c.depth r hr (by omega) (by omega)]
def growF (c : CellV) (r : List CellV) : Node × List CellV := growT (2 * r.length + 1) c r
def growAllF (d : Int) (r : List CellV) : List Node × List CellV := growAllT (2 * r.length) d r
theorem growF_eq (c : CellV) (r : List CellV) : growF c r = (.mk c.kind c.w c.h c.p (growAllF c.depth r).1, (growAllF c.depth r).2) := by
  unfold growF growAllF growT
  rfl
theorem growAllF_nil (d : Int) : growAllF d [] = ([], []) := rfl
theorem growF_shorter (c : CellV) (r : List CellV) : (growF c r).2.length ≤ r.length := (grows_shorter _).1 c r
theorem growAllF_cons (d : Int) (c : CellV) (r : List CellV) : growAllF d (c :: r) = if d < c.depth then ((growF c r).1 :: (growAllF d (growF c r).2).1, (growAllF d (growF c r).2).2) else ([], c :: r) := by
  have hs := growF_shorter c r
  unfold growF at hs ⊢
  unfold growAllF
  rw [show 2 * (c :: r).length = (2 * r.length + 1) + 1 by rw [List.length_cons]; omega]
  conv => lhs; unfold growAllT
  simp only []
  rw [(grows_fuel (r.length + 1)).2 (2 * r.length + 1) (2 * (growT (2 * r.length + 1) c r).2.length) d (growT (2 * r.length + 1) c r).2 (by omega) (by omega) (by omega)]
theorem IsLay.growF {l : List CellV} {t : Tree} (h : IsLay l t) {c : CellV} {r : List CellV} (hl : l = c :: r) : Go.Proofs.Ytlaelkcmeaiajaa.growF c r = (nodeOf t, []) := by
  rw [← h.grow hl]
  have := h.size
  rw [hl, List.length_cons] at this
  exact (grows_fuel (r.length + 1)).1 _ 200 c r (by omega) (by omega) (by omega)

end Go.Proofs.Ytlaelkcmeaiajaa

namespace Go.Proofs.Ytlaelkcmeaiajaa
open Go.RowKit
set_option linter.unusedVariables false
set_option maxRecDepth 100000

/-- What grown leaves. -/
def GrowGood (l : List CellV) (c : CellV) (r : List CellV) (w : World) (e : Ending) (w' : World) : Prop :=
  ∃ sa sn sc fp pre, e = .returned (.tuple #[.agg (nodeV (growF c r).1 (.slice sa sn sc)), .int .i64 (pre : List CellV).length]) ∧ l = pre ++ (growF c r).2 ∧ (growF c r).1.In w' (.slice sa sn sc) fp ∧ fp.Nodup ∧ (∀ q ∈ fp, w.heap.size ≤ q) ∧ Below w.heap.size w w'

/-- How far grown has come. -/
structure GrowTo (l : List CellV) (c : CellV) (r0 : List CellV) (w : World) (sl : Value) (ts : List Node) (pre r : List CellV) (wr : World) : Prop where
  res : wr.heap[w.heap.size]? = some (.cells #[.int .i64 0, .int .i64 0, .int .i64 0, .int .i64 0, .slice none 0 0] 58 (0, 0))
  cel : wr.heap[w.heap.size + 1]? = some (.cells #[.int .i64 c.depth, .int .i64 c.kind, .int .i64 c.x, .int .i64 c.y, .int .i64 c.w, .int .i64 c.h, .int .i64 c.p] 35 (0, 0))
  nod : wr.heap[w.heap.size + 2]? = some (.cells #[.int .i64 c.kind, .int .i64 c.w, .int .i64 c.h, .int .i64 c.p, sl] 58 (0, 0))
  row : ∃ cs fs, wr.ownsRow 0 58 5 sl ts.length cs ∧ nodesIn wr ts cs fs ∧ (sl.ownBlock.toList ++ fs).Nodup ∧ ∀ q ∈ sl.ownBlock.toList ++ fs, w.heap.size + 3 ≤ q
  eq : growAllF c.depth r0 = (ts ++ (growAllF c.depth r).1, (growAllF c.depth r).2)
  at_ : l = pre ++ r
  below : Below w.heap.size w wr
  len : ts.length + r.length ≤ r0.length

theorem block3 (w : World) (o1 o2 o3 : Obj) : (((w.alloc o1).alloc o2).alloc o3).heap[w.heap.size]? = (w.alloc o1).heap[w.heap.size]? ∧ (((w.alloc o1).alloc o2).alloc o3).heap[w.heap.size + 1]? = ((w.alloc o1).alloc o2).heap[w.heap.size + 1]? := by
  have b1 := (Below.refl ((w.alloc o1).heap.size) (w.alloc o1)).alloc (Nat.le_refl _) o2
  have b2 := (Below.refl (((w.alloc o1).alloc o2).heap.size) ((w.alloc o1).alloc o2)).alloc (Nat.le_refl _) o3
  refine ⟨(b2.block _ (by simp; omega)).trans (b1.block _ (by simp)), b2.block _ (by simp)⟩
theorem GrowTo.start (l : List CellV) (c : CellV) (r0 pre : List CellV) (w : World) (hl : l = pre ++ r0) :
    GrowTo l c r0 w (.slice none 0 0) [] pre r0 (((w.alloc (.cells #[.int .i64 0, .int .i64 0, .int .i64 0, .int .i64 0, .slice none 0 0] 58)).alloc (.cells #[.int .i64 c.depth, .int .i64 c.kind, .int .i64 c.x, .int .i64 c.y, .int .i64 c.w, .int .i64 c.h, .int .i64 c.p] 35)).alloc (.cells #[.int .i64 c.kind, .int .i64 c.w, .int .i64 c.h, .int .i64 c.p, .slice none 0 0] 58)) := by
  have h3 := block3 w (.cells #[.int .i64 0, .int .i64 0, .int .i64 0, .int .i64 0, .slice none 0 0] 58) (.cells #[.int .i64 c.depth, .int .i64 c.kind, .int .i64 c.x, .int .i64 c.y, .int .i64 c.w, .int .i64 c.h, .int .i64 c.p] 35) (.cells #[.int .i64 c.kind, .int .i64 c.w, .int .i64 c.h, .int .i64 c.p, .slice none 0 0] 58)
  refine ⟨h3.1.trans (heap_alloc_new _ _), h3.2.trans ?_, ?_, ⟨[], [], World.ownsRow_nil _ _ _ _, ⟨rfl, rfl⟩, by simp [Value.ownBlock], by simp [Value.ownBlock]⟩, by simp, hl, ?_, by simp⟩
  · exact block_new _ _ (by simp) _ _
  · exact block_new _ _ (by simp) _ _
  · exact (((Below.refl _ _).alloc (Nat.le_refl _) _).alloc (by simp) _).alloc (by simp; omega) _

theorem GrowTo.done {l : List CellV} {c : CellV} {r0 : List CellV} {w : World} {sl : Value} {ts : List Node} {pre r : List CellV} {wr : World} (h : GrowTo l c r0 w sl ts pre r wr) (hr : growAllF c.depth r = ([], r)) : growF c r0 = (.mk c.kind c.w c.h c.p ts, r) := by
  rw [growF_eq, h.eq, hr]
  simp

theorem GrowTo.next {l : List CellV} {c : CellV} {r0 : List CellV} {w : World} {sl : Value} {ts : List Node} {pre : List CellV} {c' : CellV} {r1 : List CellV} {wr : World} (h : GrowTo l c r0 w sl ts pre (c' :: r1) wr) (hd : c.depth < c'.depth) {sa : Option Addr} {sn sc : Nat} {fp : List Nat} {pre' : List CellV} {w2 : World} (hl : l = pre' ++ (growF c' r1).2) (hN : (growF c' r1).1.In w2 (.slice sa sn sc) fp) (hnd : fp.Nodup) (hfp : ∀ q ∈ fp, wr.heap.size ≤ q) (hb : Below wr.heap.size wr w2) (o : Obj) :
    w2.heap[w.heap.size + 2]? = some (.cells #[.int .i64 c.kind, .int .i64 c.w, .int .i64 c.h, .int .i64 c.p, sl] 58 (0, 0)) ∧ ∃ cs, (w2.alloc o).ownsRow 0 58 5 sl ts.length cs ∧ ts.length ≤ 1000000 + r0.length ∧ ∀ o' sl' w5, w5.ownsRow 0 58 5 sl' (ts.length + 1) (cs ++ nodeL (growF c' r1).1 (.slice sa sn sc)) → ((w2.alloc o).alloc o').grownBy w5 sl.ownBlock → (sl'.ownBlock = sl.ownBlock ∨ sl'.ownBlock = some ((w2.alloc o).alloc o').heap.size) →
      w5.heap[w.heap.size + 2]? = some (.cells #[.int .i64 c.kind, .int .i64 c.w, .int .i64 c.h, .int .i64 c.p, sl] 58 (0, 0)) ∧ GrowTo l c r0 w sl' (ts ++ [(growF c' r1).1]) pre' (growF c' r1).2 (w5.setCell ⟨w.heap.size + 2, 4, none⟩ sl') := by
  obtain ⟨cs, fs, h1, h2, h3, h4⟩ := h.row
  have hlt2 : w.heap.size + 2 < wr.heap.size := lt_of_block h.nod
  have hsz2 := hb.size
  have hsz3 : (w2.alloc o).heap.size = w2.heap.size + 1 := by simp
  have hlen := h.len
  rw [List.length_cons] at hlen
  have hsh := growF_shorter c' r1
  refine ⟨(hb.block _ hlt2).trans h.nod, cs, World.ownsRow.alloc (own_kept5 h1 fun q hq => hb.block q (own_lt5 h1 q hq)) o, by omega, fun o' sl' w5 k1 k2 k3 => ?_⟩
  have hsz4 : ((w2.alloc o).alloc o').heap.size = w2.heap.size + 2 := by simp
  have hk0 : ∀ q, q < w2.heap.size → q ∉ sl.ownBlock.toList → w5.heap[q]? = w2.heap[q]? := fun q hq hn => (k2.block q (by omega) (by intro e; exact hn (by rw [← e]; simp))).trans ((((Below.refl w2.heap.size w2).alloc (Nat.le_refl _) o).alloc (by omega) o').block q hq)
  have hlow := own_lt5 h1
  obtain ⟨n1, n2, n3⟩ := List.nodup_append.1 h3
  have hkr : ∀ q, q < wr.heap.size → q ∉ sl.ownBlock.toList → w5.heap[q]? = wr.heap[q]? := fun q hq hn => (hk0 q (by omega) hn).trans (hb.block q hq)
  have hsmall : ∀ q, q < w.heap.size + 3 → q ∉ sl.ownBlock.toList := fun q hq hm => by
    have := h4 q (List.mem_append_left _ hm)
    omega
  have hnod : w5.heap[w.heap.size + 2]? = some (.cells #[.int .i64 c.kind, .int .i64 c.w, .int .i64 c.h, .int .i64 c.p, sl] 58 (0, 0)) := (hkr _ (by omega) (hsmall _ (by omega))).trans h.nod
  have hset : ∀ q, q ≠ w.heap.size + 2 → (w5.setCell ⟨w.heap.size + 2, 4, none⟩ sl').heap[q]? = w5.heap[q]? := fun q hq => Below.heap_setCell _ _ _ _ hq
  have hown' : ∀ q ∈ sl'.ownBlock.toList, w.heap.size + 3 ≤ q := by
    intro q hq
    rcases k3 with k3 | k3
    · rw [k3] at hq
      exact h4 q (List.mem_append_left _ hq)
    · rw [k3] at hq
      simp at hq
      omega
  refine ⟨hnod, ?_, ?_, ?_, ⟨cs ++ nodeL (growF c' r1).1 (.slice sa sn sc), fs ++ fp, ?_, nodesIn.snoc (hN.keep fun q hq => (hset q ?_).trans (hk0 q (hN.lt q hq) fun e => ?_)) (h2.keep fun q hq => (hset q ?_).trans (hkr q (h2.lt q hq) fun e => ?_)), ?_, ?_⟩, ?_, hl, ?_, ?_⟩
  · exact (hset _ (by omega)).trans ((hkr _ (by omega) (hsmall _ (by omega))).trans h.res)
  · exact (hset _ (by omega)).trans ((hkr _ (by omega) (hsmall _ (by omega))).trans h.cel)
  · have hlt : w.heap.size + 2 < w5.heap.size := lt_of_block hnod
    have h' : w5.heap[w.heap.size + 2] = .cells #[.int .i64 c.kind, .int .i64 c.w, .int .i64 c.h, .int .i64 c.p, sl] 58 (0, 0) := by simpa [Array.getElem?_eq_getElem hlt] using hnod
    show (w5.heap.modify (w.heap.size + 2) _)[w.heap.size + 2]? = _
    rw [Array.getElem?_eq_getElem (by simpa using hlt), Array.getElem_modify_self, h']
    rfl
  · have := own_kept5 k1 (W' := w5.setCell ⟨w.heap.size + 2, 4, none⟩ sl') fun q hq => hset q (by have := hown' q hq; omega)
    simpa using this
  · have := hfp q hq; omega
  · have := hlow q e; have := hfp q hq; omega
  · have := h4 q (List.mem_append_right _ hq); omega
  · exact n3 q e q hq rfl
  · have hdd : (fs ++ fp).Nodup := by
      refine List.nodup_append.2 ⟨n2, hnd, fun a ha b hb' e => ?_⟩
      have := h2.lt a ha
      have := hfp b hb'
      omega
    refine List.nodup_append.2 ⟨by cases sl'.ownBlock <;> simp, hdd, fun a ha b hb' e => ?_⟩
    subst e
    rcases k3 with k3 | k3
    · rw [k3] at ha
      rcases List.mem_append.1 hb' with hb' | hb'
      · exact n3 a ha a hb' rfl
      · have := hlow a ha; have := hfp a hb'; omega
    · rw [k3] at ha
      simp at ha
      rcases List.mem_append.1 hb' with hb' | hb'
      · have := h2.lt a hb'; omega
      · have := hN.lt a hb'; omega
  · intro q hq
    rcases List.mem_append.1 hq with hq | hq
    · exact hown' q hq
    · rcases List.mem_append.1 hq with hq | hq
      · exact h4 q (List.mem_append_right _ hq)
      · have := hfp q hq; omega
  · rw [h.eq, growAllF_cons, if_pos hd]
    simp
  · have hb5 : Below w.heap.size w w5 := ⟨k2.os.trans (hb.os.trans h.below.os), k2.tape.trans (hb.tape.trans h.below.tape), k2.output.trans (hb.output.trans h.below.output), by have := k2.size; have := h.below.size; omega, fun q hq => (hkr q (by omega) (hsmall q (by omega))).trans (h.below.block q hq)⟩
    exact below_grown hb5 (grownBy_set _ _ _ _) (by omega)
  · rw [List.length_append]
    simp
    omega

end Go.Proofs.Ytlaelkcmeaiajaa
