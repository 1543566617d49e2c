/-
  Layouts: tell, of every tree; lay.
-/
import Derived.Test.YtcjcekaahooamaaLTell
namespace Go.Proofs.Ytcjcekaahooamaa
open Go.RowKit
set_option linter.unusedVariables false
set_option maxRecDepth 100000

theorem s_tell (g : Nat) (W : World) : (method 241 73 (.pointer (some ⟨g, 0, none⟩)) "mullion/layout.tell").run Try.prog W = .ok (103, .pointer (some ⟨g, 0, none⟩)) W := by kernel_rfl
theorem l_nT (g : Nat) (W : World) : (nilAhead 241 38 (.pointer (some ⟨g, 0, none⟩)) "mullion/layout.tell").run Try.prog W = .ok (some false) W := by kernel_rfl
theorem s_nT (g : Nat) (W : World) : (nilAhead 241 73 (.pointer (some ⟨g, 0, none⟩)) "mullion/layout.tell").run Try.prog W = .ok (some false) W := by kernel_rfl
theorem l_fT (a c d : Value) (W : World) : (callFunc 94 #[a, c, d]).run Try.prog W = .ok (.enter 94 #[a, c, d]) W := by kernel_rfl
theorem s_fT (a c d : Value) (W : World) : (callFunc 103 #[a, c, d]).run Try.prog W = .ok (.enter 103 #[a, c, d]) W := by kernel_rfl

mutual
/-- Every split has a part. -/
def Tree.full : Tree → Prop
  | .leaf _ _ => True
  | .split _ _ ts => ts ≠ [] ∧ fulls ts
def fulls : List Tree → Prop
  | [] => True
  | t :: ts => t.full ∧ fulls ts
end

mutual
theorem Tree.At.partT : ∀ {t : Tree} {w : World} {Bt B : Nat} {v : Value} {fp : List Nat}, t.At w Bt v fp → t.full → (∀ g ∈ fp, g < B) → B ≤ w.heap.size → ∃ T gi Ft, PartT w B v t T gi Ft
  | .leaf b p, w, Bt, B, v, fp, h, _, hfp, hB => by
    obtain ⟨g, rfl, h2, rfl⟩ := h
    have hg : g < B := hfp g (by simp)
    exact ⟨_, g, _, { val := rfl, mT := l_tell g, nT := l_nT g, fT := l_fT, cT := fun X u l d hX hsz hO hd hl => leaf_tells g b p d B u l X ((hX.block g hg).trans h2) hg (Nat.le_trans hB hsz) hO (by have := hl; omega) }⟩
  | .split b k ts, w, Bt, B, v, fp, h, hfu, hfp, hB => by
    obtain ⟨g, sl, vs, fs, rfl, h2, h3, h4, rfl⟩ := h
    have hg : g < B := hfp g (by simp)
    have hvl := h4.length
    obtain ⟨pg, cap, hsl, _⟩ := seen_of h2 h3 (by intro e; rw [e] at hvl; exact hfu.1 (List.length_eq_zero_iff.1 hvl.symm))
    subst hsl
    have hpg : pg < B := hfp pg (by simp [Value.ownBlock])
    refine ⟨_, g, _, { val := rfl, mT := s_tell g, nT := s_nT g, fT := s_fT, cT := fun X u l d hX hsz hO hd hl => ?_ }⟩
    have h2' : SplitAt X g b k _ := (hX.block g hg).trans h2
    have h3' : X.ownsRow Bt 35 1 _ vs.length vs := own_kept h3 fun q hq => hX.block q (hfp q (by simp [hq]))
    have h4' : partsAt X Bt ts vs fs := h4.keep fun q hq => hX.block q (hfp q (by simp [hq]))
    obtain ⟨pg', cap', e, hseen⟩ := seen_of h2' h3' (by intro e; rw [e] at hvl; exact hfu.1 (List.length_eq_zero_iff.1 hvl.symm))
    cases e
    exact split_tells g b k pg vs.length cap vs ts d B u l X h2' hvl.symm hseen.row (partsAt.tells h4' hfu.2 (fun q hq => hfp q (by simp [hq])) (Nat.le_trans hB hsz)) hg hpg (Nat.le_trans hB hsz) hO (by have := hd; unfold Tree.size at this; omega) (by have := hl; unfold Tree.size at this; omega)
theorem partsAt.tells : ∀ {ts : List Tree} {w : World} {Bt B : Nat} {vs : List Value} {fp : List Nat}, partsAt w Bt ts vs fp → fulls ts → (∀ g ∈ fp, g < B) → B ≤ w.heap.size → Tells w B vs ts
  | [], w, Bt, B, vs, fp, h, _, hfp, hB => by
    intro i t hi
    simp at hi
  | t :: ts, w, Bt, B, vs, fp, h, hfu, hfp, hB => by
    obtain ⟨v, vs', f, f', rfl, h2, h3, rfl⟩ := h
    have h4 := Tree.At.partT h2 hfu.1 (fun q hq => hfp q (List.mem_append_left _ hq)) hB
    have h5 := partsAt.tells h3 hfu.2 (fun q hq => hfp q (List.mem_append_right _ hq)) hB
    intro i t' hi
    cases i with
    | zero =>
      simp at hi
      subst hi
      obtain ⟨T, gi, Ft, hp⟩ := h4
      exact ⟨v, T, gi, Ft, rfl, hp⟩
    | succ i => exact h5 i t' (by simpa using hi)
end

mutual
theorem Tree.full_moved : ∀ (t : Tree) (x y : Int), t.full → (t.moved x y).full
  | .leaf _ _, _, _, _ => trivial
  | .split b k ts, x, y, h => by
    refine ⟨?_, fulls_moved ts k x y h.2⟩
    cases ts with
    | nil => exact absurd rfl h.1
    | cons a r => intro e; cases e
theorem fulls_moved : ∀ (ts : List Tree) (k x y : Int), fulls ts → fulls (movedAll ts k x y)
  | [], _, _, _, _ => trivial
  | t :: ts, k, x, y, h => by
    refine ⟨Tree.full_moved t x y h.1, ?_⟩
    split
    · exact fulls_moved ts k _ _ h.2
    · exact fulls_moved ts k _ _ h.2
end
mutual
theorem Tree.size_moved : ∀ (t : Tree) (x y : Int), (t.moved x y).size = t.size
  | .leaf _ _, _, _ => rfl
  | .split b k ts, x, y => by
    show 1 + sizes (movedAll ts k x y) = 1 + sizes ts
    rw [sizes_moved ts]
theorem sizes_moved : ∀ (ts : List Tree) (k x y : Int), sizes (movedAll ts k x y) = sizes ts
  | [], _, _, _ => rfl
  | t :: ts, k, x, y => by
    show (t.moved x y).size + sizes (if k = 2 then _ else _) = t.size + sizes ts
    rw [Tree.size_moved t]
    split
    · rw [sizes_moved ts]
    · rw [sizes_moved ts]
end
mutual
theorem Tree.sound_full : ∀ (t : Tree), t.sound = true → t.full
  | .leaf _ _, _ => trivial
  | .split b k ts, h => by
    unfold Tree.sound at h
    simp only [Bool.and_eq_true, decide_eq_true_eq] at h
    refine ⟨?_, soundAll_fulls ts b k h.2.1⟩
    intro e
    rw [e] at h
    simp at h
theorem soundAll_fulls : ∀ (ts : List Tree) (b : Box) (k : Int), soundAll ts b k = true → fulls ts
  | [], _, _, _ => trivial
  | t :: ts, b, k, h => by
    unfold soundAll at h
    simp only [Bool.and_eq_true] at h
    exact ⟨Tree.sound_full t h.1.1, soundAll_fulls ts b k h.2⟩
end

/-- Every part at its place, and the tree as a list. -/
theorem lay_any (t : Tree) (B : Nat) (v : Value) (fp : List Nat) (w : World) (h : t.At w B v fp) (hnd : fp.Nodup) (hs : t.sound = true) (hf : t.fine) (hz : t.size ≤ 900) :
    Calls Try.prog 11 #[v] w fun e w' => ∃ u, e = .returned u ∧ CeOwns w' w.heap.size u ((t.moved 0 0).tell 0) ∧ (t.moved 0 0).At w' B v fp ∧ But fp w w' := by
  have hsd := t.sound_sides hs
  have hfu := Tree.full_moved t 0 0 (t.sound_full hs)
  obtain ⟨T, gi, Fm, HP⟩ := t.moves hf B v fp w h hnd hs
  have HcM := HP.cM w 0 0 h (by omega) (by omega)
  have hlt := h.lt
  have HM : Hid (Calls Try.prog Fm #[.pointer (some ⟨gi, 0, none⟩), .int .i64 0, .int .i64 0] w fun e w' => e = .returned (.tuple #[]) ∧ But fp w w' ∧ ∃ Ft, (∀ W, (method 241 T (.pointer (some ⟨gi, 0, none⟩)) "mullion/layout.tell").run Try.prog W = .ok (Ft, .pointer (some ⟨gi, 0, none⟩)) W) ∧ (∀ a c d W, (callFunc Ft #[a, c, d]).run Try.prog W = .ok (.enter Ft #[a, c, d]) W) ∧
      Calls Try.prog Ft #[.pointer (some ⟨gi, 0, none⟩), .slice none 0 0, .int .i64 0] w' fun e w2 => ∃ u, e = .returned u ∧ CeOwns w2 w.heap.size u ((t.moved 0 0).tell 0) ∧ (t.moved 0 0).At w2 B v fp ∧ But fp w w2) := by
    refine HcM.mono fun e w' h1 => ⟨h1.1, h1.2.2, ?_⟩
    have hsz := h1.2.2.size
    obtain ⟨T', gi', Ft, HT⟩ := h1.2.1.partT (B := w.heap.size) hfu hlt hsz
    have e1 := HP.val
    rw [HT.val] at e1
    cases e1
    refine ⟨Ft, HT.mT, HT.fT, (HT.cT w' (.slice none 0 0) [] 0 (Below.refl _ _) (Nat.le_refl _) (World.ownsRow_nil _ _ _ _) (by rw [Tree.size_moved]; omega) (by rw [Tree.size_moved]; simp; omega)).mono fun e w2 h2 => ?_⟩
    obtain ⟨u, e2, e3, e4⟩ := h2
    refine ⟨u, e2, e3, h1.2.1.keep fun q hq => e4.block q (hlt q hq), ?_⟩
    have hb := h1.2.2
    exact ⟨e4.os.trans hb.os, e4.tape.trans hb.tape, e4.output.trans hb.output, Nat.le_trans hb.size e4.size, fun q hq hn => (e4.block q hq).trans (hb.block q hq hn)⟩
  have m1 := HP.mM
  have m2 := HP.fM
  have hval := HP.val
  subst hval
  clear HcM HP h hsd hfu hlt
  go_enter Try.func11, Try.ntmps11
  go_wp2_with fail
  refine HM.out.mono ?_
  rintro e w1 ⟨rfl, hb, Ft, m3, m4, hc⟩
  have HC : Hid (Calls Try.prog Ft #[.pointer (some ⟨gi, 0, none⟩), .slice none 0 0, .int .i64 0] w1 _) := hc
  clear hc hb
  go_wp2_with fail
  refine HC.out.mono ?_
  rintro e w2 ⟨u, rfl, hu⟩
  have HU : Hid _ := hu
  clear hu
  go_wp2
  go_ret
  exact ⟨u, rfl, HU.out⟩

end Go.Proofs.Ytcjcekaahooamaa
