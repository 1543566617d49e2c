/-
  Layouts: split.sound, over what its parts' methods do.
-/
import Derived.Test.YtcjcekaahooamaaLAroundW
import Derived.Test.YtcjcekaahooamaaTQuiet
namespace Go.Proofs.Ytcjcekaahooamaa
open Go.RowKit
set_option linter.unusedVariables false
set_option maxRecDepth 20000

/-- What sound wants of a part. -/
structure PartS (w : World) (v : Value) (t : Tree) (T : TypeId) (gi : Nat) (Fs Fa : FuncId) : Prop where
  val : v = .iface T (.pointer (some ⟨gi, 0, none⟩))
  mS : ∀ W, (method 241 T (.pointer (some ⟨gi, 0, none⟩)) "mullion/layout.sound").run Try.prog W = .ok (Fs, .pointer (some ⟨gi, 0, none⟩)) W
  mA : ∀ W, (method 241 T (.pointer (some ⟨gi, 0, none⟩)) "mullion/layout.as").run Try.prog W = .ok (Fa, .pointer (some ⟨gi, 0, none⟩)) W
  mE : ∀ W, (method 241 T (.pointer (some ⟨gi, 0, none⟩)) "mullion/layout.extent").run Try.prog W = .ok (30, .pointer (some ⟨gi, 0, none⟩)) W
  fS : ∀ a W, (callFunc Fs #[a]).run Try.prog W = .ok (.enter Fs #[a]) W
  fA : ∀ a c W, (callFunc Fa #[a, c]).run Try.prog W = .ok (.enter Fa #[a, c]) W
  nA : ∀ W, (nilAhead 241 T (.pointer (some ⟨gi, 0, none⟩)) "mullion/layout.as").run Try.prog W = .ok (some false) W
  nE : ∀ W, (nilAhead 241 T (.pointer (some ⟨gi, 0, none⟩)) "mullion/layout.extent").run Try.prog W = .ok (some false) W
  cS : ∀ X, Below w.heap.size w X → Calls Try.prog Fs #[.pointer (some ⟨gi, 0, none⟩)] X fun e w' => e = .returned (.bool t.sound) ∧ Below X.heap.size X w'
  cA : ∀ k X, Below w.heap.size w X → Calls Try.prog Fa #[.pointer (some ⟨gi, 0, none⟩), .int .i64 k] X fun e w' => e = .returned (.pointer (if t.kindIs k = true then some ⟨gi, 0, none⟩ else none)) ∧ X = w'
  cE : ∀ k X, Below w.heap.size w X → Calls Try.prog 30 #[.pointer (some ⟨gi, 0, none⟩), .int .i64 k] X fun e w' => e = .returned (.int .i64 (t.box.ext k)) ∧ X = w'
theorem l_fS (a : Value) (W : World) : (callFunc 93 #[a]).run Try.prog W = .ok (.enter 93 #[a]) W := by kernel_rfl
theorem s_fS (a : Value) (W : World) : (callFunc 101 #[a]).run Try.prog W = .ok (.enter 101 #[a]) W := by kernel_rfl
theorem l_fA (a c : Value) (W : World) : (callFunc 89 #[a, c]).run Try.prog W = .ok (.enter 89 #[a, c]) W := by kernel_rfl
theorem s_fA (a c : Value) (W : World) : (callFunc 97 #[a, c]).run Try.prog W = .ok (.enter 97 #[a, c]) W := by kernel_rfl
def Sounds (w : World) (vs : List Value) (ts : List Tree) : Prop := ∀ (i : Nat) (t : Tree), ts[i]? = some t → ∃ v T gi Fs Fa, vs[i]? = some v ∧ PartS w v t T gi Fs Fa

theorem below_step {w a b : World} (h : Below w.heap.size w a) (k : Below a.heap.size a b) : Below w.heap.size w b := h.trans (k.mono h.size)
theorem SplitAt.below {W W' : World} {g : Nat} {b : Box} {k : Int} {sl : Value} (h : SplitAt W g b k sl) (hb : Below W.heap.size W W') : SplitAt W' g b k sl := by
  have hg : g < W.heap.size := World.block_lt_of_cell? W _ h.box.x
  exact (hb.block g hg).trans h

theorem soundAll_at (ts : List Tree) (b : Box) (k : Int) : ∀ (i : Nat) (t : Tree), ts[i]? = some t → soundAll ts b k = true → (t.sound && (!t.kindIs k && decide (t.box.ext (acrossK k) = b.ext (acrossK k)))) = true := by
  induction ts with
  | nil => intro i t h; simp at h
  | cons a ts ih =>
    intro i t h hs
    unfold soundAll at hs
    rw [Bool.and_eq_true] at hs
    cases i with
    | zero => simp at h; subst h; exact hs.1
    | succ i => exact ih i t (by simpa using h) hs.2
theorem soundAll_take (ts : List Tree) (b : Box) (k : Int) : ∀ (i : Nat) (t : Tree), ts[i]? = some t → soundAll (ts.take i) b k = true → (t.sound && (!t.kindIs k && decide (t.box.ext (acrossK k) = b.ext (acrossK k)))) = true → soundAll (ts.take (i + 1)) b k = true := by
  induction ts with
  | nil => intro i t h; simp at h
  | cons a ts ih =>
    intro i t h hs ht
    cases i with
    | zero =>
      simp at h
      subst h
      show soundAll [a] b k = true
      unfold soundAll
      rw [ht]
      rfl
    | succ i =>
      rw [List.take_succ_cons] at hs ⊢
      unfold soundAll at hs ⊢
      rw [Bool.and_eq_true] at hs ⊢
      exact ⟨hs.1, ih i t (by simpa using h) hs.2 ht⟩
theorem Tree.sound_sides (t : Tree) (h : t.sound = true) : (1 ≤ t.box.w ∧ t.box.w ≤ 1000) ∧ (1 ≤ t.box.h ∧ t.box.h ≤ 1000) := by
  cases t with
  | leaf b p =>
    unfold Tree.sound at h
    simp only [sideB, Bool.and_eq_true, decide_eq_true_eq] at h
    exact ⟨h.1.1, h.1.2⟩
  | split b k ts =>
    unfold Tree.sound at h
    simp only [sideB, Bool.and_eq_true, decide_eq_true_eq] at h
    exact ⟨h.1.2.1, h.1.2.2⟩
theorem soundAll_small (ts : List Tree) (b : Box) (k : Int) (hl : ts.length ≤ 200) (h : soundAll ts b k = true) : SmallT ts := by
  refine ⟨hl, fun t ht => ?_⟩
  obtain ⟨i, hi⟩ := List.getElem?_of_mem ht
  have := soundAll_at ts b k i t hi h
  rw [Bool.and_eq_true] at this
  exact t.sound_sides this.1

end Go.Proofs.Ytcjcekaahooamaa
