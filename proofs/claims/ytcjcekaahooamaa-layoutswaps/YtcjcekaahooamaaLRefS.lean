/-
  Layouts: the document's sizes of a node.
-/
import Derived.Test.YtcjcekaahooamaaLRefI
namespace Go.Proofs.Ytcjcekaahooamaa
open Go.RowKit
set_option linter.unusedVariables false
set_option maxRecDepth 100000

theorem ref_extent (n : Node) (a : Option Addr) (m c : Nat) (d : Int) (w : World) : Calls Try.prog 40 #[.agg (nodeV n (.slice a m c)), .int .i64 d] w fun e w' => e = .returned (.int .i64 (n.ext d)) ∧ Below w.heap.size w w' := by
  have HB : Hid (∀ o, Below w.heap.size w (w.alloc o)) := fun o => (Below.refl _ _).alloc (Nat.le_refl _) _
  obtain ⟨x, hx⟩ : ∃ x, n.ext d = x := ⟨_, rfl⟩
  rw [hx]
  unfold nodeV
  by_cases hd : d = 2
  · have hxx : n.w = x := by rw [← hx]; unfold Node.ext; rw [if_pos hd]
    subst hd
    rw [hxx]
    clear hx hxx
    go_enter Try.func40, Try.ntmps40
    go_wp2
    go_ret
    exact ⟨rfl, HB.out _⟩
  · have hxx : n.h = x := by rw [← hx]; unfold Node.ext; rw [if_neg hd]
    have hd2 : (d == 2) = false := by simpa using hd
    rw [hxx]
    clear hx hxx hd
    go_enter Try.func40, Try.ntmps40
    go_wp2
    go_ret
    exact ⟨rfl, HB.out _⟩

/-- What is asked of a child. -/
def kidOk (n : Node) (k w h : Int) : Bool := (((!decide (n.k = k)) && (decide (n.w ≤ w) && decide (n.h ≤ h))) && (n.ok && (if k = 2 then decide (n.h = h) else decide (n.w = w))))
theorem oksAll_cons (n : Node) (r : List Node) (k w h : Int) : oksAll (n :: r) k w h = (kidOk n k w h && oksAll r k w h) := by
  conv => lhs; unfold oksAll
  rfl
theorem oksAll_at : ∀ (ks : List Node) (k w h : Int) (j : Nat) (n : Node), ks[j]? = some n → oksAll ks k w h = true → kidOk n k w h = true
  | [], k, w, h, j, n, hj, ho => by simp at hj
  | a :: ks, k, w, h, 0, n, hj, ho => by
    simp at hj
    subst hj
    rw [oksAll_cons, Bool.and_eq_true] at ho
    exact ho.1
  | a :: ks, k, w, h, j + 1, n, hj, ho => by
    rw [oksAll_cons, Bool.and_eq_true] at ho
    exact oksAll_at ks k w h j n (by simpa using hj) ho.2
theorem oksAll_take : ∀ (ks : List Node) (k w h : Int) (j : Nat) (n : Node), ks[j]? = some n → oksAll (ks.take j) k w h = true → kidOk n k w h = true → oksAll (ks.take (j + 1)) k w h = true
  | [], k, w, h, j, n, hj, ho, hn => by simp at hj
  | a :: ks, k, w, h, 0, n, hj, ho, hn => by
    simp at hj
    subst hj
    show oksAll [a] k w h = true
    rw [oksAll_cons, hn]
    rfl
  | a :: ks, k, w, h, j + 1, n, hj, ho, hn => by
    change oksAll (a :: ks.take j) k w h = true at ho
    show oksAll (a :: ks.take (j + 1)) k w h = true
    rw [oksAll_cons, Bool.and_eq_true] at ho ⊢
    exact ⟨ho.1, oksAll_take ks k w h j n (by simpa using hj) ho.2 hn⟩
def extS : List Node → Int → Int
  | [], _ => 0
  | n :: r, k => n.ext k + extS r k
theorem extN_eq : ∀ (ks : List Node) (k : Int), extN ks k = ((ks.length : Int) - 1) + extS ks k
  | [], k => rfl
  | n :: r, k => by
    show n.ext k + 1 + extN r k = (((r.length + 1 : Nat) : Int) - 1) + (n.ext k + extS r k)
    rw [extN_eq r k]
    omega
theorem extS_take : ∀ (ks : List Node) (k : Int) (j : Nat) (n : Node), ks[j]? = some n → extS (ks.take (j + 1)) k = extS (ks.take j) k + n.ext k
  | [], k, j, n, h => by simp at h
  | a :: ks, k, 0, n, h => by
    simp at h
    subst h
    show a.ext k + 0 = 0 + a.ext k
    omega
  | a :: ks, k, j + 1, n, h => by
    show a.ext k + extS (ks.take (j + 1)) k = a.ext k + extS (ks.take j) k + n.ext k
    rw [extS_take ks k j n (by simpa using h)]
    omega
theorem ok_sides (n : Node) (h : n.ok = true) : 1 ≤ n.w ∧ 1 ≤ n.h := by
  cases n with
  | mk k w hh i ks =>
    unfold Node.ok at h
    simp only [Bool.and_eq_true, decide_eq_true_eq] at h
    exact ⟨h.1.1.1, h.1.1.2⟩
theorem kid_sides {n : Node} {k w h : Int} (hk : kidOk n k w h = true) (hw : w ≤ 1000) (hh : h ≤ 1000) : 1 ≤ n.ext k ∧ n.ext k ≤ 1000 := by
  unfold kidOk at hk
  simp only [Bool.and_eq_true, decide_eq_true_eq] at hk
  have := ok_sides n hk.2.1
  unfold Node.ext
  split <;> omega
theorem extS_bound : ∀ (ks : List Node) (k w h : Int), oksAll ks k w h = true → w ≤ 1000 → h ≤ 1000 → 0 ≤ extS ks k ∧ extS ks k ≤ 1000 * (ks.length : Int)
  | [], k, w, h, ho, hw, hh => by
    show (0 : Int) ≤ 0 ∧ (0 : Int) ≤ 1000 * 0
    omega
  | n :: r, k, w, h, ho, hw, hh => by
    rw [oksAll_cons, Bool.and_eq_true] at ho
    have h1 := kid_sides ho.1 hw hh
    have h2 := extS_bound r k w h ho.2 hw hh
    show 0 ≤ n.ext k + extS r k ∧ n.ext k + extS r k ≤ 1000 * ((r.length + 1 : Nat) : Int)
    omega

def SizesGood (n : Node) : Prop := ∀ sl fp w, n.In w sl fp → n.w ≤ 1000 → n.h ≤ 1000 → Calls Try.prog 23 #[.agg (nodeV n sl)] w fun e w' => e = .returned (.bool n.ok) ∧ Below w.heap.size w w'

theorem ok_head (k wd h i : Int) (ks : List Node) : (Node.mk k wd h i ks).ok = (((decide (1 ≤ wd) && decide (1 ≤ h)) && (decide (1 ≤ k) && decide (k ≤ 3))) &&
    (if k = 1 then (decide (ks.length = 0) && idB i) else ((decide (2 ≤ ks.length) && decide (i = 0)) && (oksAll ks k wd h && decide (extN ks k = if k = 2 then wd else h))))) := by
  conv => lhs; unfold Node.ok

theorem sizes_head (k wd h i : Int) (ks : List Node) (a : Option Addr) (m c : Nat) (w : World) (hb : ¬ ((1 ≤ wd ∧ 1 ≤ h) ∧ (1 ≤ k ∧ k ≤ 3))) : Calls Try.prog 23 #[.agg #[.int .i64 k, .int .i64 wd, .int .i64 h, .int .i64 i, .slice a m c]] w fun e w' => e = .returned (.bool false) ∧ Below w.heap.size w w' := by
  have HB : Hid (∀ o, Below w.heap.size w (w.alloc o)) := fun o => (Below.refl _ _).alloc (Nat.le_refl _) _
  by_cases a1 : wd < 1
  · clear hb
    go_enter Try.func23, Try.ntmps23
    go_wp2
    go_ret
    exact ⟨rfl, HB.out _⟩
  · by_cases a2 : h < 1
    · clear hb
      go_enter Try.func23, Try.ntmps23
      go_wp2
      go_ret
      exact ⟨rfl, HB.out _⟩
    · by_cases a3 : k < 1
      · clear hb
        go_enter Try.func23, Try.ntmps23
        go_wp2
        go_ret
        exact ⟨rfl, HB.out _⟩
      · have a4 : 3 < k := by omega
        clear hb
        go_enter Try.func23, Try.ntmps23
        go_wp2
        go_ret
        exact ⟨rfl, HB.out _⟩

theorem sizes_pane (wd h i : Int) (a : Option Addr) (m c : Nat) (w : World) (a1 : ¬ wd < 1) (a2 : ¬ h < 1) : Calls Try.prog 23 #[.agg #[.int .i64 1, .int .i64 wd, .int .i64 h, .int .i64 i, .slice a m c]] w fun e w' => e = .returned (.bool (decide (m = 0) && idB i)) ∧ Below w.heap.size w w' := by
  have HB : Hid (∀ o, Below w.heap.size w (w.alloc o)) := fun o => (Below.refl _ _).alloc (Nat.le_refl _) _
  by_cases h0 : m = 0
  · subst h0
    have hi : idB i = (decide (1 ≤ i) && decide (i ≤ 4611686018427387904)) := rfl
    by_cases b1 : 1 ≤ i
    · by_cases b2 : i ≤ 4611686018427387904
      · have HR : Hid (idB i = true) := by show _ = _; rw [hi]; simp [b1, b2]
        clear hi
        go_enter Try.func23, Try.ntmps23
        go_wp2
        go_ret
        exact ⟨by rw [HR.out]; rfl, HB.out _⟩
      · have HR : Hid (idB i = false) := by show _ = _; rw [hi]; simp [b2]
        clear hi
        go_enter Try.func23, Try.ntmps23
        go_wp2
        go_ret
        exact ⟨by rw [HR.out]; rfl, HB.out _⟩
    · have HR : Hid (idB i = false) := by show _ = _; rw [hi]; simp [b1]
      clear hi
      go_enter Try.func23, Try.ntmps23
      go_wp2
      go_ret
      exact ⟨by rw [HR.out]; rfl, HB.out _⟩
  · have HR : Hid (decide (m = 0) = false) := decide_eq_false h0
    have h1 : ((m : Int) == 0) = false := by simp; omega
    clear h0
    go_enter Try.func23, Try.ntmps23
    go_wp2
    go_ret
    exact ⟨by rw [HR.out]; rfl, HB.out _⟩

theorem sizes_few (k wd h i : Int) (a : Option Addr) (m c : Nat) (w : World) (a1 : ¬ wd < 1) (a2 : ¬ h < 1) (hk : k = 2 ∨ k = 3) (hf : m < 2 ∨ i ≠ 0) : Calls Try.prog 23 #[.agg #[.int .i64 k, .int .i64 wd, .int .i64 h, .int .i64 i, .slice a m c]] w fun e w' => e = .returned (.bool false) ∧ Below w.heap.size w w' := by
  have HB : Hid (∀ o, Below w.heap.size w (w.alloc o)) := fun o => (Below.refl _ _).alloc (Nat.le_refl _) _
  by_cases h0 : (m : Int) < 2
  · clear hf
    rcases hk with rfl | rfl
    · go_enter Try.func23, Try.ntmps23
      go_wp2
      go_ret
      exact ⟨rfl, HB.out _⟩
    · go_enter Try.func23, Try.ntmps23
      go_wp2
      go_ret
      exact ⟨rfl, HB.out _⟩
  · have hi : (i != 0) = true := by
      have : i ≠ 0 := by omega
      simpa using this
    clear hf
    rcases hk with rfl | rfl
    · go_enter Try.func23, Try.ntmps23
      go_wp2
      go_ret
      exact ⟨rfl, HB.out _⟩
    · go_enter Try.func23, Try.ntmps23
      go_wp2
      go_ret
      exact ⟨rfl, HB.out _⟩

theorem kid_no {n : Node} {k w h : Int} (hn : ¬ (n.k ≠ k ∧ n.w ≤ w ∧ n.h ≤ h ∧ n.ok = true ∧ (k = 2 → n.h = h) ∧ (k = 3 → n.w = w))) (hk : k = 2 ∨ k = 3) : kidOk n k w h = false := by
  cases hq : kidOk n k w h with
  | false => rfl
  | true =>
    exfalso
    apply hn
    unfold kidOk at hq
    simp only [Bool.and_eq_true, decide_eq_true_eq, Bool.not_eq_true', decide_eq_false_iff_not] at hq
    obtain ⟨⟨h1, h2, h3⟩, h4, h5⟩ := hq
    refine ⟨h1, h2, h3, h4, fun e => ?_, fun e => ?_⟩
    · rw [if_pos e] at h5
      exact of_decide_eq_true h5
    · rw [if_neg (by omega)] at h5
      exact of_decide_eq_true h5
theorem kid_yes {n : Node} {k w h : Int} (h1 : n.k ≠ k) (h2 : n.w ≤ w) (h3 : n.h ≤ h) (h4 : n.ok = true) (h5 : k = 2 → n.h = h) (h6 : k ≠ 2 → n.w = w) : kidOk n k w h = true := by
  unfold kidOk
  by_cases hk : k = 2
  · rw [if_pos hk]
    simp [h1, h2, h4, h5 hk]
  · rw [if_neg hk]
    simp [h1, h3, h4, h6 hk]

end Go.Proofs.Ytcjcekaahooamaa
