/-
  Layouts, by plain functions: the document's tree of a list beside the program's.
-/
import Derived.Test.YtcjcekaahooamaaLTakeP
import Derived.Test.YtcjcekaahooamaaLSoundP
import Derived.Test.YtcjcekaahooamaaLTellA
import Derived.Test.YtcjcekaahooamaaLRead
namespace Go.Proofs.Ytcjcekaahooamaa
open Go.RowKit
set_option linter.unusedVariables false

/-- The document's cell with its children. -/
inductive Node where
  | mk (k w h i : Int) (ks : List Node)
def Node.k : Node → Int | .mk k _ _ _ _ => k
def Node.w : Node → Int | .mk _ w _ _ _ => w
def Node.h : Node → Int | .mk _ _ h _ _ => h
def Node.i : Node → Int | .mk _ _ _ i _ => i
def Node.ks : Node → List Node | .mk _ _ _ _ ks => ks
def Node.ext (n : Node) (d : Int) : Int := if d = 2 then n.w else n.h

mutual
def nodeOf : Tree → Node
  | .leaf b p => .mk 1 b.w b.h p []
  | .split b k ts => .mk k b.w b.h 0 (nodesOf ts)
def nodesOf : List Tree → List Node
  | [] => []
  | t :: ts => nodeOf t :: nodesOf ts
end
mutual
def growT : Nat → CellV → List CellV → Node × List CellV
  | 0, c, r => (.mk c.kind c.w c.h c.p [], r)
  | n + 1, c, r => (.mk c.kind c.w c.h c.p (growAllT n c.depth r).1, (growAllT n c.depth r).2)
def growAllT : Nat → Int → List CellV → List Node × List CellV
  | 0, _, r => ([], r)
  | n + 1, d, r => match r with
    | [] => ([], [])
    | c :: r => if d < c.depth then ((growT n c r).1 :: (growAllT n d (growT n c r).2).1, (growAllT n d (growT n c r).2).2) else ([], c :: r)
end
mutual
def Node.ok : Node → Bool
  | .mk k w h i ks => ((decide (1 ≤ w) && decide (1 ≤ h)) && (decide (1 ≤ k) && decide (k ≤ 3))) &&
    (if k = 1 then (decide (ks.length = 0) && idB i) else ((decide (2 ≤ ks.length) && decide (i = 0)) && (oksAll ks k w h && decide (extN ks k = if k = 2 then w else h))))
def oksAll : List Node → Int → Int → Int → Bool
  | [], _, _, _ => true
  | n :: r, k, w, h => (((!decide (n.k = k)) && (decide (n.w ≤ w) && decide (n.h ≤ h))) && (n.ok && (if k = 2 then decide (n.h = h) else decide (n.w = w)))) && oksAll r k w h
def extN : List Node → Int → Int
  | [], _ => -1
  | n :: r, k => n.ext k + 1 + extN r k
end
mutual
def Node.ids : Node → List Int
  | .mk k _ _ i ks => if k = 1 then [i] else idsAll ks
def idsAll : List Node → List Int
  | [] => []
  | n :: r => n.ids ++ idsAll r
end
def stepsOk : Int → List CellV → Bool
  | _, [] => true
  | p, c :: r => (decide (1 ≤ c.depth) && decide (c.depth ≤ p + 1)) && stepsOk c.depth r
mutual
def Tree.kinds : Tree → Prop
  | .leaf _ _ => True
  | .split _ k ts => (k = 2 ∨ k = 3) ∧ kindsAll ts
def kindsAll : List Tree → Prop
  | [] => True
  | t :: ts => t.kinds ∧ kindsAll ts
end
/-- What stands behind a part of that depth. -/
def Low (d : Int) (r : List CellV) : Prop := r = [] ∨ ∃ c r', r = c :: r' ∧ c.depth ≤ d

theorem tell_head (t : Tree) (d : Int) : ∃ c r, t.tell d = c :: r ∧ c.depth = d := by
  cases t with
  | leaf b p => exact ⟨_, _, rfl, rfl⟩
  | split b k ts => exact ⟨_, _, rfl, rfl⟩
theorem low_tellAll (ts : List Tree) (d : Int) (r : List CellV) (h : Low d r) : Low d (tellAll ts d ++ r) := by
  cases ts with
  | nil => exact h
  | cons t ts =>
    obtain ⟨c, r', h1, h2⟩ := tell_head t d
    refine .inr ⟨c, r' ++ tellAll ts d ++ r, ?_, by omega⟩
    show (t.tell d ++ tellAll ts d) ++ r = _
    rw [h1]
    simp
theorem Low.mono {d e : Int} {r : List CellV} (h : Low d r) (hd : d ≤ e) : Low e r := by
  rcases h with h | ⟨c, r', h1, h2⟩
  · exact .inl h
  · exact .inr ⟨c, r', h1, by omega⟩

theorem growAll_low (n : Nat) (d : Int) (r : List CellV) (h : Low d r) : growAllT n d r = ([], r) := by
  cases n with
  | zero => rfl
  | succ n =>
    rcases h with rfl | ⟨c, r', rfl, h2⟩
    · rfl
    · unfold growAllT
      simp only []
      rw [if_neg (by omega)]

mutual
theorem grow_told : ∀ (t : Tree) (d : Int) (m : Nat) (r : List CellV) (c : CellV) (l : List CellV), 2 * t.size ≤ m → Low d r → t.tell d ++ r = c :: l → growT m c l = (nodeOf t, r)
  | .leaf b p, d, m, r, c, l, hm, hl, he => by
    have he' : (⟨d, 1, b.x, b.y, b.w, b.h, p⟩ : CellV) :: r = c :: l := he
    cases he'
    cases m with
    | zero => rfl
    | succ n =>
      unfold growT
      rw [growAll_low n d r hl]
      rfl
  | .split b k ts, d, m, r, c, l, hm, hl, he => by
    have he' : (⟨d, k, b.x, b.y, b.w, b.h, 0⟩ : CellV) :: (tellAll ts (d + 1) ++ r) = c :: l := he
    cases he'
    unfold Tree.size at hm
    obtain ⟨n, rfl⟩ : ∃ n, m = n + 1 := ⟨m - 1, by omega⟩
    unfold growT
    rw [growAll_told ts d n r (by omega) hl]
    rfl
theorem growAll_told : ∀ (ts : List Tree) (d : Int) (m : Nat) (r : List CellV), 2 * sizes ts + 1 ≤ m → Low d r → growAllT m d (tellAll ts (d + 1) ++ r) = (nodesOf ts, r)
  | [], d, m, r, hm, hl => growAll_low m d r hl
  | t :: ts, d, m, r, hm, hl => by
    obtain ⟨n, rfl⟩ : ∃ n, m = n + 1 := ⟨m - 1, by omega⟩
    unfold sizes at hm
    have hp := t.size_pos
    obtain ⟨c, l, h1, h2⟩ := tell_head t (d + 1)
    have hlow : Low (d + 1) (tellAll ts (d + 1) ++ r) := low_tellAll ts (d + 1) r (hl.mono (by omega))
    have hg := grow_told t (d + 1) n (tellAll ts (d + 1) ++ r) c (l ++ (tellAll ts (d + 1) ++ r)) (by omega) hlow (by rw [h1]; rfl)
    have ih := growAll_told ts d n r (by omega) hl
    show growAllT (n + 1) d ((t.tell (d + 1) ++ tellAll ts (d + 1)) ++ r) = _
    rw [List.append_assoc, h1]
    show growAllT (n + 1) d (c :: (l ++ (tellAll ts (d + 1) ++ r))) = _
    unfold growAllT
    simp only []
    rw [if_pos (by omega), hg]
    simp only []
    rw [ih]
    rfl
end

mutual
theorem take_told : ∀ (t : Tree) (d : Int) (r : List CellV), t.kinds → Low d r → takeF (t.tell d ++ r) d = some (t, r)
  | .leaf b p, d, r, hk, hl => by
    show takeF ((⟨d, 1, b.x, b.y, b.w, b.h, p⟩ : CellV) :: r) d = _
    rw [takeF_cons, if_pos rfl, if_pos rfl]
    rfl
  | .split b k ts, d, r, hk, hl => by
    show takeF ((⟨d, k, b.x, b.y, b.w, b.h, 0⟩ : CellV) :: (tellAll ts (d + 1) ++ r)) d = _
    rw [takeF_cons, if_pos rfl, if_neg (by show ¬ k = 1; rcases hk.1 with h | h <;> omega), if_pos hk.1, takeAll_told ts (d + 1) r hk.2 (hl.mono (by omega)) (by
      rcases hl with rfl | ⟨c, r', rfl, h2⟩
      · exact .inl rfl
      · exact .inr ⟨c, r', rfl, by omega⟩)]
    rfl
theorem takeAll_told : ∀ (ts : List Tree) (d : Int) (r : List CellV), kindsAll ts → Low d r → (r = [] ∨ ∃ c r', r = c :: r' ∧ c.depth ≠ d) → takeAllF (tellAll ts d ++ r) d = (ts, r)
  | [], d, r, hk, hl, hr => by
    show takeAllF r d = _
    rw [takeAllF_eq]
    rcases hr with rfl | ⟨c, r', rfl, h⟩
    · rw [takeF_nil]
    · rw [takeF_cons, if_neg h]
  | t :: ts, d, r, hk, hl, hr => by
    show takeAllF ((t.tell d ++ tellAll ts d) ++ r) d = _
    rw [List.append_assoc, takeAllF_eq, take_told t d (tellAll ts d ++ r) hk.1 (low_tellAll ts d r hl)]
    simp only []
    rw [takeAll_told ts d r hk.2 hl hr]
end

mutual
theorem steps_tell : ∀ (t : Tree) (d p : Int) (r : List CellV), 1 ≤ d → d ≤ p + 1 → (∀ q, d ≤ q → stepsOk q r = true) → stepsOk p (t.tell d ++ r) = true
  | .leaf b q, d, p, r, h1, h2, hr => by
    show ((decide (1 ≤ d) && decide (d ≤ p + 1)) && stepsOk d r) = true
    rw [hr d (by omega)]
    simp [h1, h2]
  | .split b k ts, d, p, r, h1, h2, hr => by
    show ((decide (1 ≤ d) && decide (d ≤ p + 1)) && stepsOk d (tellAll ts (d + 1) ++ r)) = true
    rw [steps_tellAll ts (d + 1) d r (by omega) (by omega) (fun q hq => hr q (by omega))]
    simp [h1, h2]
theorem steps_tellAll : ∀ (ts : List Tree) (d p : Int) (r : List CellV), 1 ≤ d → d ≤ p + 1 → (∀ q, d ≤ q + 1 → stepsOk q r = true) → stepsOk p (tellAll ts d ++ r) = true
  | [], d, p, r, h1, h2, hr => hr p h2
  | t :: ts, d, p, r, h1, h2, hr => by
    show stepsOk p ((t.tell d ++ tellAll ts d) ++ r) = true
    rw [List.append_assoc]
    exact steps_tell t d p _ h1 h2 (fun q hq => steps_tellAll ts d q r h1 (by omega) hr)
end

mutual
theorem ids_told : ∀ (t : Tree) (d : Int), t.kinds → (nodeOf t).ids = idsOf (t.tell d)
  | .leaf b p, d, hk => by
    show (if (1 : Int) = 1 then [p] else idsAll []) = _
    rw [if_pos rfl]
    rfl
  | .split b k ts, d, hk => by
    have h1 : ¬ k = 1 := by rcases hk.1 with h | h <;> omega
    show (if k = 1 then [0] else idsAll (nodesOf ts)) = idsOf ((⟨d, k, b.x, b.y, b.w, b.h, 0⟩ : CellV) :: tellAll ts (d + 1))
    rw [if_neg h1, ids_toldAll ts (d + 1) hk.2]
    unfold idsOf
    rw [List.filter_cons_of_neg (by simpa using h1)]
theorem ids_toldAll : ∀ (ts : List Tree) (d : Int), kindsAll ts → idsAll (nodesOf ts) = idsOf (tellAll ts d)
  | [], d, hk => rfl
  | t :: ts, d, hk => by
    show (nodeOf t).ids ++ idsAll (nodesOf ts) = idsOf (t.tell d ++ tellAll ts d)
    rw [ids_told t d hk.1, ids_toldAll ts d hk.2]
    unfold idsOf
    rw [List.filter_append, List.map_append]
end

mutual
theorem size_ids : ∀ (t : Tree), t.kinds → t.sound = true → t.size + 1 ≤ 2 * (nodeOf t).ids.length
  | .leaf b p, hk, hs => by
    show 1 + 1 ≤ 2 * (if (1 : Int) = 1 then [p] else idsAll []).length
    rw [if_pos rfl]
    exact Nat.le_refl _
  | .split b k ts, hk, hs => by
    have h1 : ¬ k = 1 := by rcases hk.1 with h | h <;> omega
    unfold Tree.sound at hs
    simp only [Bool.and_eq_true, decide_eq_true_eq] at hs
    have := sizes_ids ts b k hk.2 hs.2.1
    have h2 := hs.1.1
    show 1 + sizes ts + 1 ≤ 2 * (if k = 1 then [0] else idsAll (nodesOf ts)).length
    rw [if_neg h1]
    omega
theorem sizes_ids : ∀ (ts : List Tree) (b : Box) (k : Int), kindsAll ts → soundAll ts b k = true → sizes ts + ts.length ≤ 2 * (idsAll (nodesOf ts)).length
  | [], b, k, hk, hs => Nat.le_refl _
  | t :: ts, b, k, hk, hs => by
    unfold soundAll at hs
    simp only [Bool.and_eq_true] at hs
    have h1 := size_ids t hk.1 hs.1.1
    have h2 := sizes_ids ts b k hk.2 hs.2
    show t.size + sizes ts + (ts.length + 1) ≤ 2 * ((nodeOf t).ids ++ idsAll (nodesOf ts)).length
    rw [List.length_append]
    omega
end

theorem nodeOf_w (t : Tree) : (nodeOf t).w = t.box.w := by cases t <;> rfl
theorem nodeOf_h (t : Tree) : (nodeOf t).h = t.box.h := by cases t <;> rfl
theorem nodeOf_ext (t : Tree) (k : Int) : (nodeOf t).ext k = t.box.ext k := by
  unfold Node.ext Box.ext
  rw [nodeOf_w, nodeOf_h]
theorem nodesOf_length : ∀ (ts : List Tree), (nodesOf ts).length = ts.length
  | [] => rfl
  | t :: ts => by
    show (nodesOf ts).length + 1 = ts.length + 1
    rw [nodesOf_length ts]
theorem extN_told : ∀ (ts : List Tree) (k : Int), extN (nodesOf ts) k = extAll ts k
  | [], k => rfl
  | t :: ts, k => by
    show (nodeOf t).ext k + 1 + extN (nodesOf ts) k = t.box.ext k + 1 + extAll ts k
    rw [nodeOf_ext, extN_told ts k]
theorem extAll_pos (ts : List Tree) (b : Box) (k : Int) (h : soundAll ts b k = true) : -1 ≤ extAll ts k := by
  induction ts with
  | nil => exact Int.le_refl _
  | cons t ts ih =>
    have hs := ext_side (t :: ts) b k 0 t rfl h
    unfold soundAll at h
    simp only [Bool.and_eq_true] at h
    have := ih h.2
    show -1 ≤ t.box.ext k + 1 + extAll ts k
    omega
theorem ext_le_all (ts : List Tree) (b : Box) (k : Int) (h : soundAll ts b k = true) : ∀ t ∈ ts, t.box.ext k ≤ extAll ts k := by
  induction ts with
  | nil => intro t ht; cases ht
  | cons a ts ih =>
    intro t ht
    have ha := ext_side (a :: ts) b k 0 a rfl h
    have hp := extAll_pos (a :: ts) b k h
    unfold soundAll at h
    simp only [Bool.and_eq_true] at h
    have hp2 := extAll_pos ts b k h.2
    show t.box.ext k ≤ a.box.ext k + 1 + extAll ts k
    rcases List.mem_cons.1 ht with rfl | ht
    · omega
    · have := ih h.2 t ht
      omega
theorem nodeOf_kind (t : Tree) (k : Int) (hk : k = 2 ∨ k = 3) (h : t.kindIs k = false) : ¬ (nodeOf t).k = k := by
  cases t with
  | leaf b p =>
    show ¬ (1 : Int) = k
    rcases hk with h | h <;> omega
  | split b j ts =>
    show ¬ j = k
    exact of_decide_eq_false h

end Go.Proofs.Ytcjcekaahooamaa
