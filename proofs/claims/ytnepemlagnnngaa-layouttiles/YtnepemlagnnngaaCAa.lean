/-
  Layouts: panes laid anew, by plain functions.
  Layouts: what the law of Arrange stands on: lists laid down, the document's pairs.
  Layouts: shares, and panes side by side in the program.
  Layouts: a first pane and the others, rows of panes, by plain functions.
-/
import Derived.Test.YtnepemlagnnngaaCJo
import Derived.Test.YtnepemlagnnngaaCRf
import Derived.Test.YtnepemlagnnngaaCNx
import Derived.Test.YtnepemlagnnngaaCSm
import Derived.Test.YtnepemlagnnngaaCWa
import Derived.Test.YtnepemlagnnngaaCFi
import Derived.Test.YtnepemlagnnngaaCFq
import Derived.Test.YtnepemlagnnngaaCFs
import Derived.Test.YtnepemlagnnngaaCTr
import Derived.Test.YtnepemlagnnngaaCWo
import Derived.Test.YtnepemlagnnngaaCOp
namespace Go.Proofs.Ytnepemlagnnngaa
open Go.RowKit
set_option linter.unusedVariables false
set_option maxRecDepth 100000

/-- What the i-th of n gets of a whole. -/
def shareF (wh n i : Int) : Int := if i < (wh - (n - 1)).tmod n then (wh - (n - 1)).tdiv n + 1 else (wh - (n - 1)).tdiv n
def shareL (k : Int) (b : Box) (n : Int) : List Int → Int → List Tree
  | [], _ => []
  | z :: zs, i => .leaf (b.with k (shareF (b.ext k) n i)) z :: shareL k b n zs (i + 1)
def evenT (k : Int) (zs : List Int) (b : Box) : Tree := match zs with
  | [z] => .leaf b z
  | _ => .split b k (shareL k b zs.length zs 0)

theorem with_ext (b : Box) (k n : Int) : (b.with k n).ext k = n := by
  unfold Box.with Box.str Box.ext
  by_cases h : k = 2 <;> simp [h] <;> omega
theorem with_across (b : Box) (k n : Int) (hk : k = 2 ∨ k = 3) : (b.with k n).ext (acrossK k) = b.ext (acrossK k) := by
  rcases hk with rfl | rfl <;> rfl
theorem with_sides (b : Box) (k n : Int) (hk : k = 2 ∨ k = 3) : (sideB (b.with k n).w && sideB (b.with k n).h) = (sideB n && sideB (b.ext (acrossK k))) := by
  rcases hk with rfl | rfl
  · show (sideB (b.w + (n - b.w)) && sideB b.h) = (sideB n && sideB b.h)
    rw [show b.w + (n - b.w) = n by omega]
  · show (sideB b.w && sideB (b.h + (n - b.h))) = (sideB n && sideB b.w)
    rw [show b.h + (n - b.h) = n by omega, Bool.and_comm]
theorem box_sides (b : Box) (k : Int) (hk : k = 2 ∨ k = 3) : (sideB b.w && sideB b.h) = (sideB (b.ext k) && sideB (b.ext (acrossK k))) := by
  rcases hk with rfl | rfl
  · rfl
  · show _ = (sideB b.h && sideB b.w)
    rw [Bool.and_comm]

theorem shareL_length (k : Int) (b : Box) (n : Int) : ∀ (zs : List Int) (i : Int), (shareL k b n zs i).length = zs.length
  | [], _ => rfl
  | z :: zs, i => by show _ + 1 = _ + 1; rw [shareL_length k b n zs (i + 1)]
theorem shareL_sizes (k : Int) (b : Box) (n : Int) : ∀ (zs : List Int) (i : Int), sizes (shareL k b n zs i) = zs.length
  | [], _ => rfl
  | z :: zs, i => by
    show 1 + sizes (shareL k b n zs (i + 1)) = zs.length + 1
    rw [shareL_sizes k b n zs (i + 1)]
    omega
theorem shareL_kinds (k : Int) (b : Box) (n : Int) : ∀ (zs : List Int) (i : Int), kindsAll (shareL k b n zs i)
  | [], _ => by unfold shareL; exact trivial
  | z :: zs, i => by unfold shareL; exact ⟨trivial, shareL_kinds k b n zs (i + 1)⟩
/-- Shares that are enough. -/
theorem share_pos {wh n i : Int} (hn : 1 ≤ n) (h : n ≤ wh - (n - 1)) (hi : 0 ≤ i) : 1 ≤ shareF wh n i ∧ shareF wh n i ≤ wh := by
  unfold shareF
  obtain ⟨L, hL⟩ : ∃ L, wh - (n - 1) = L := ⟨_, rfl⟩
  rw [hL] at h ⊢
  rw [Int.tmod_eq_emod_of_nonneg (by omega), Int.tdiv_eq_ediv_of_nonneg (by omega)]
  have h1 : 1 ≤ L / n := (Int.le_ediv_iff_mul_le (by omega)).2 (by omega)
  have h2 : n * (L / n) + L % n = L := Int.mul_ediv_add_emod L n
  have h3 := Int.emod_nonneg L (show n ≠ 0 by omega)
  have h4 : L / n ≤ n * (L / n) := by
    have := Int.mul_le_mul_of_nonneg_right hn (show 0 ≤ L / n by omega)
    omega
  split
  · refine ⟨by omega, ?_⟩
    have h5 : 0 ≤ i := hi
    omega
  · omega
theorem share_last {wh n : Int} (hn : 1 ≤ n) (h : wh - (n - 1) < n) : shareF wh n (n - 1) < 1 := by
  unfold shareF
  obtain ⟨L, hL⟩ : ∃ L, wh - (n - 1) = L := ⟨_, rfl⟩
  rw [hL] at h ⊢
  by_cases h0 : 0 ≤ L
  · rw [Int.tmod_eq_emod_of_nonneg h0, Int.tdiv_eq_ediv_of_nonneg h0, Int.emod_eq_of_lt h0 h, Int.ediv_eq_zero_of_lt h0 h, if_neg (by omega)]
    omega
  · have h1 : L.tmod n ≤ 0 := by
      have := Int.tmod_nonneg n (show 0 ≤ -L by omega)
      rw [Int.neg_tmod] at this
      omega
    have h2 : L.tdiv n ≤ 0 := by
      have := Int.tdiv_nonneg (show 0 ≤ -L by omega) (show 0 ≤ n by omega)
      rw [Int.neg_tdiv] at this
      omega
    rw [if_neg (by omega)]
    omega
/-- The sum of the shares. -/
def shareSum (wh n : Int) : Nat → Int → Int
  | 0, _ => 0
  | m + 1, i => shareF wh n i + shareSum wh n m (i + 1)
theorem shareL_ext (k : Int) (b : Box) (n : Int) : ∀ (zs : List Int) (i : Int), extAll (shareL k b n zs i) k = shareSum (b.ext k) n zs.length i + zs.length - 1
  | [], _ => by show (-1 : Int) = 0 + ((0 : Nat) : Int) - 1; omega
  | z :: zs, i => by
    show (b.with k (shareF (b.ext k) n i)).ext k + 1 + extAll (shareL k b n zs (i + 1)) k = shareF (b.ext k) n i + shareSum (b.ext k) n zs.length (i + 1) + ((zs.length + 1 : Nat) : Int) - 1
    rw [with_ext, shareL_ext k b n zs (i + 1)]
    omega
theorem shareSum_eq {wh n : Int} (hn : 1 ≤ n) (h : 0 ≤ wh - (n - 1)) : ∀ (m : Nat) (i : Int), 0 ≤ i → shareSum wh n m i = m * ((wh - (n - 1)) / n) + (if i < (wh - (n - 1)) % n then min (m : Int) ((wh - (n - 1)) % n - i) else 0)
  | 0, i, _ => by
    show (0 : Int) = _
    have h3 := Int.emod_nonneg (wh - (n - 1)) (show n ≠ 0 by omega)
    split <;> simp <;> omega
  | m + 1, i, hi => by
    show shareF wh n i + shareSum wh n m (i + 1) = _
    rw [shareSum_eq hn h m (i + 1) (by omega)]
    unfold shareF
    rw [Int.tmod_eq_emod_of_nonneg h, Int.tdiv_eq_ediv_of_nonneg h]
    obtain ⟨Q, hQ⟩ : ∃ Q, (wh - (n - 1)) / n = Q := ⟨_, rfl⟩
    obtain ⟨R, hR⟩ : ∃ R, (wh - (n - 1)) % n = R := ⟨_, rfl⟩
    rw [hQ, hR]
    have e : ((m + 1 : Nat) : Int) * Q = (m : Int) * Q + Q := by
      rw [show ((m + 1 : Nat) : Int) = (m : Int) + 1 from rfl, Int.add_mul]
      omega
    rw [e]
    obtain ⟨P, hP⟩ : ∃ P, (m : Int) * Q = P := ⟨_, rfl⟩
    rw [hP]
    split <;> split <;> omega
theorem shareSum_all {wh n : Int} (m : Nat) (hm : n = m) (hn : 1 ≤ n) (h : 0 ≤ wh - (n - 1)) : shareSum wh n m 0 = wh - (n - 1) := by
  rw [shareSum_eq hn h m 0 (by omega), ← hm]
  have h2 : n * ((wh - (n - 1)) / n) + (wh - (n - 1)) % n = wh - (n - 1) := Int.mul_ediv_add_emod _ _
  have h3 := Int.emod_nonneg (wh - (n - 1)) (show n ≠ 0 by omega)
  have h4 := Int.emod_lt_of_pos (wh - (n - 1)) (show 0 < n by omega)
  obtain ⟨P, hP⟩ : ∃ P, n * ((wh - (n - 1)) / n) = P := ⟨_, rfl⟩
  rw [hP] at h2 ⊢
  split <;> omega
theorem shareL_sound (k : Int) (hk : k = 2 ∨ k = 3) (b : Box) (n : Int) (hn : 1 ≤ n) (hac : sideB (b.ext (acrossK k)) = true) (hw : b.ext k ≤ 1000) (h : n ≤ b.ext k - (n - 1)) : ∀ (zs : List Int) (i : Int), 0 ≤ i → (∀ z ∈ zs, idB z = true) → soundAll (shareL k b n zs i) b k = true
  | [], _, _, _ => rfl
  | z :: zs, i, hi, hz => by
    show ((((sideB (b.with k (shareF (b.ext k) n i)).w && sideB (b.with k (shareF (b.ext k) n i)).h) && idB z) && (!false && decide ((b.with k (shareF (b.ext k) n i)).ext (acrossK k) = b.ext (acrossK k)))) && soundAll (shareL k b n zs (i + 1)) b k) = true
    obtain ⟨h1, h2⟩ := share_pos (wh := b.ext k) hn h hi
    rw [with_sides _ _ _ hk, with_across _ _ _ hk, hac, side_mk h1 (by omega), hz z (by simp), shareL_sound k hk b n hn hac hw h zs (i + 1) (by omega) fun y hy => hz y (List.mem_cons_of_mem _ hy)]
    simp
theorem shareL_unsound (k : Int) (hk : k = 2 ∨ k = 3) (b : Box) (n : Int) (hn : 1 ≤ n) (h : b.ext k - (n - 1) < n) : ∀ (zs : List Int) (i : Int), zs ≠ [] → i + zs.length = n → soundAll (shareL k b n zs i) b k = false
  | [], _, h0, _ => absurd rfl h0
  | [z], i, _, hi => by
    show ((((sideB (b.with k (shareF (b.ext k) n i)).w && sideB (b.with k (shareF (b.ext k) n i)).h) && idB z) && _) && _) = false
    have e : i = n - 1 := by simp at hi; omega
    have h1 := share_last hn h
    rw [with_sides _ _ _ hk, e]
    have : sideB (shareF (b.ext k) n (n - 1)) = false := by
      cases hs : sideB (shareF (b.ext k) n (n - 1)) with
      | false => rfl
      | true => have := side_of hs; omega
    rw [this]
    rfl
  | z :: y :: zs, i, _, hi => by
    show (_ && soundAll (shareL k b n (y :: zs) (i + 1)) b k) = false
    rw [shareL_unsound k hk b n hn h (y :: zs) (i + 1) (by simp) (by simp at hi ⊢; omega), Bool.and_false]
/-- Whether panes have room side by side. -/
def fitsB (k : Int) (n : Int) (b : Box) : Bool := (sideB (b.ext k) && sideB (b.ext (acrossK k))) && (decide (n = 1) || decide (n ≤ b.ext k - (n - 1)))
theorem even_sound (k : Int) (hk : k = 2 ∨ k = 3) (zs : List Int) (b : Box) (hne : zs ≠ []) (hz : ∀ z ∈ zs, idB z = true) : (evenT k zs b).sound = fitsB k zs.length b := by
  unfold fitsB
  match zs, hne, hz with
  | [z], _, hz =>
    show ((sideB b.w && sideB b.h) && idB z) = _
    rw [box_sides b k hk, hz z (by simp)]
    simp
  | z :: y :: zs, _, hz =>
    show ((decide (2 ≤ (shareL k b ((zs.length + 2 : Nat) : Int) (z :: y :: zs) 0).length) && (sideB b.w && sideB b.h)) && (soundAll (shareL k b ((zs.length + 2 : Nat) : Int) (z :: y :: zs) 0) b k && decide (extAll (shareL k b ((zs.length + 2 : Nat) : Int) (z :: y :: zs) 0) k = b.ext k))) = _
    rw [shareL_length, box_sides b k hk, shareL_ext]
    have e1 : decide (2 ≤ (z :: y :: zs).length) = true := decide_eq_true (by simp)
    have e2 : decide ((((z :: y :: zs).length : Nat) : Int) = 1) = false := decide_eq_false (by simp; omega)
    rw [e1, e2, Bool.true_and, Bool.false_or]
    obtain ⟨n, hn⟩ : ∃ n, zs.length + 2 = n := ⟨_, rfl⟩
    have hl : (z :: y :: zs).length = n := by simp; omega
    rw [hl, hn]
    cases hs : (sideB (b.ext k) && sideB (b.ext (acrossK k))) with
    | false => rfl
    | true =>
      have hs2 := Bool.and_eq_true_iff.1 hs
      have hsk := side_of hs2.1
      by_cases hle : (n : Int) ≤ b.ext k - (n - 1)
      · rw [shareL_sound k hk b n (by omega) hs2.2 hsk.2 hle _ 0 (by omega) hz, decide_eq_true hle, shareSum_all n rfl (by omega) (by omega)]
        simp
        omega
      · rw [shareL_unsound k hk b n (by omega) (by omega) _ 0 (by simp) (by rw [hl]; omega), decide_eq_false hle]
        rfl
theorem even_kinds (k : Int) (hk : k = 2 ∨ k = 3) (zs : List Int) (b : Box) : (evenT k zs b).kinds := by
  unfold evenT
  split
  · exact trivial
  · exact ⟨hk, shareL_kinds _ _ _ _ _⟩
theorem even_size (k : Int) (zs : List Int) (b : Box) : (evenT k zs b).size ≤ zs.length + 1 := by
  unfold evenT
  split
  · exact Nat.le_add_left 1 _
  · show 1 + sizes (shareL k b _ zs 0) ≤ _
    rw [shareL_sizes]
    omega
theorem even_box (k : Int) (zs : List Int) (b : Box) : (evenT k zs b).box = b := by
  unfold evenT
  split <;> rfl
theorem even_kindIs (k j : Int) (h : k ≠ j) (zs : List Int) (b : Box) : (evenT k zs b).kindIs j = false := by
  unfold evenT
  split
  · rfl
  · exact decide_eq_false h

end Go.Proofs.Ytnepemlagnnngaa

namespace Go.Proofs.Ytnepemlagnnngaa
open Go.RowKit
set_option linter.unusedVariables false
set_option maxRecDepth 100000



theorem laidL_len (t : Tree) : (laidL t).length = t.size := by
  unfold laidL
  rw [Tree.tell_length, Tree.size_moved]

end Go.Proofs.Ytnepemlagnnngaa

namespace Go.Proofs.Ytnepemlagnnngaa
open Go.RowKit
set_option linter.unusedVariables false
set_option maxRecDepth 100000

theorem tdiv_small {L n : Int} (hL : -2000 ≤ L ∧ L ≤ 2000) (hn : 1 ≤ n) : -2000 ≤ L.tdiv n ∧ L.tdiv n ≤ 2000 := by
  by_cases h0 : 0 ≤ L
  · rw [Int.tdiv_eq_ediv_of_nonneg h0]
    have h1 : 0 ≤ L / n := Int.ediv_nonneg h0 (by omega)
    have h2 : L / n ≤ L := Int.ediv_le_self n h0
    omega
  · have h1 : 0 ≤ (-L) / n := Int.ediv_nonneg (by omega) (by omega)
    have h2 : (-L) / n ≤ -L := Int.ediv_le_self n (by omega)
    have h3 : (-L).tdiv n = (-L) / n := Int.tdiv_eq_ediv_of_nonneg (by omega)
    rw [Int.neg_tdiv] at h3
    omega
theorem share_small {wh n i : Int} (hw : -1000 ≤ wh ∧ wh ≤ 1000) (hn : 1 ≤ n ∧ n ≤ 500) : -2001 ≤ shareF wh n i ∧ shareF wh n i ≤ 2001 := by
  have h := tdiv_small (L := wh - (n - 1)) (n := n) (by omega) hn.1
  unfold shareF
  split <;> omega
theorem share_any (wh n i : Int) (w : World) (hw : -1000 ≤ wh ∧ wh ≤ 1000) (hn : 1 ≤ n ∧ n ≤ 500) : Calls Try.prog 93 #[.int .i64 wh, .int .i64 n, .int .i64 i] w fun e w' => e = .returned (.int .i64 (shareF wh n i)) ∧ w = w' := by
  have w1 : IntKind.i64.wrap (n - 1) = n - 1 := by rw [IntKind.wrap_i64]; omega
  have w2 : IntKind.i64.wrap (wh - (n - 1)) = wh - (n - 1) := by rw [IntKind.wrap_i64]; omega
  have hd := tdiv_small (L := wh - (n - 1)) (n := n) (by omega) hn.1
  obtain ⟨L, hL⟩ : ∃ L, wh - (n - 1) = L := ⟨_, rfl⟩
  unfold shareF
  rw [hL] at hd w2 ⊢
  obtain ⟨q, hq⟩ : ∃ q, L.tdiv n = q := ⟨_, rfl⟩
  obtain ⟨r, hr⟩ : ∃ r, L.tmod n = r := ⟨_, rfl⟩
  have w3 : IntKind.i64.wrap q = q := by rw [IntKind.wrap_i64]; omega
  have w4 : IntKind.i64.wrap (q + 1) = q + 1 := by rw [IntKind.wrap_i64]; omega
  have hn0 : n ≠ 0 := by omega
  have hb : (n == 0) = false := by simpa using hn0
  rw [hq, hr]
  by_cases hc : i < r
  · rw [if_pos hc]
    have hdc : decide (i < r) = true := decide_eq_true hc
    clear hd hw hn
    go_enter Try.func93, Try.ntmps93
    go_wp2
    go_ret
    exact ⟨rfl, rfl⟩
  · rw [if_neg hc]
    have hdc : decide (i < r) = false := decide_eq_false hc
    clear hd hw hn
    go_enter Try.func93, Try.ntmps93
    go_wp2
    go_ret
    exact ⟨rfl, rfl⟩

theorem box_withG (g : Nat) (b : Box) (k n : Int) (w : World) (h : BoxAt w g b) (h1 : -3000 ≤ b.w ∧ b.w ≤ 3000) (h2 : -3000 ≤ b.h ∧ b.h ≤ 3000) (h3 : -3000 ≤ n ∧ n ≤ 3000) :
    Calls Try.prog 29 #[.pointer (some ⟨g, 0, none⟩), .int .i64 k, .int .i64 n] w fun e w' => e = .returned (.agg #[.int .i64 (b.with k n).x, .int .i64 (b.with k n).y, .int .i64 (b.with k n).w, .int .i64 (b.with k n).h]) ∧ Below w.heap.size w w' := by
  obtain ⟨q0, q1, q2, q3, qf⟩ := h
  have HB : Hid (BoxAt w g b) := ⟨q0, q1, q2, q3, qf⟩
  have hlt := HB.out.lt
  obtain ⟨e, he⟩ : ∃ e, b.ext k = e := ⟨_, rfl⟩
  have heb : -3000 ≤ e ∧ e ≤ 3000 := by rw [← he]; unfold Box.ext; split <;> omega
  have hw : IntKind.i64.wrap (n - e) = n - e := by rw [IntKind.wrap_i64]; omega
  have HE : Hid (∀ X, Below w.heap.size w X → Calls Try.prog 27 #[.pointer (some ⟨g, 0, none⟩), .int .i64 k] X fun e' w' => e' = .returned (.int .i64 e) ∧ X = w') := fun X hX => he ▸ box_extent g b k X (HB.out.below hX)
  have HS : Hid (∀ X, BoxAt X (w.heap.size + 1) b → Calls Try.prog 30 #[.pointer (some ⟨w.heap.size + 1, 0, none⟩), .int .i64 k, .int .i64 (n - e)] X fun e' w' => e' = .returned (.tuple #[]) ∧ BoxAt w' (w.heap.size + 1) (b.str k (n - e)) ∧ X.grownBy w' (some (w.heap.size + 1)) ∧ (∀ o, 4 ≤ o → w'.cell? ⟨w.heap.size + 1, o, none⟩ = X.cell? ⟨w.heap.size + 1, o, none⟩)) := fun X h => box_stretch _ _ k (n - e) X h (by omega) (by omega) (by omega)
  obtain ⟨b', hb'⟩ : ∃ b', b.str k (n - e) = b' := ⟨_, rfl⟩
  have hd : b.with k n = b' := by unfold Box.with; rw [he, hb']
  rw [hd]
  rw [hb'] at HS
  clear he qf heb h1 h2 h3 hd hb'
  go_enter Try.func29, Try.ntmps29
  go_wp2_with fail
  have HX : Hid (∀ o o', Below w.heap.size w ((w.alloc o).alloc o')) := fun o o' => ((Below.refl _ _).alloc (Nat.le_refl _) _).alloc (by simp) _
  have HZ : Hid (∀ o, BoxAt ((w.alloc (.cells #[.int .i64 0, .int .i64 0, .int .i64 0, .int .i64 0] 66)).alloc o) w.heap.size ⟨0, 0, 0, 0⟩) := fun o => (BoxAt.new w 66).below ((Below.refl _ _).alloc (Nat.le_refl _) o)
  have HY : Hid (∀ o, BoxAt ((w.alloc o).alloc (.cells #[.int .i64 b.x, .int .i64 b.y, .int .i64 b.w, .int .i64 b.h] 66)) (w.heap.size + 1) b) := fun o => by
    have hs : (w.alloc o).heap.size = w.heap.size + 1 := by simp
    have hn := heap_alloc_new (w.alloc o) (.cells #[.int .i64 b.x, .int .i64 b.y, .int .i64 b.w, .int .i64 b.h] 66)
    rw [hs] at hn
    exact ⟨cell_atL hn 0, cell_atL hn 1, cell_atL hn 2, cell_atL hn 3, fun o _ => free_atL hn o⟩
  refine (HE.out _ (HX.out _ _)).mono ?_
  rintro e' w1 ⟨rfl, rfl⟩
  clear q0 q1 q2 q3
  go_wp2_with fail
  refine (HS.out _ (HY.out _)).mono ?_
  rintro e' w2 ⟨rfl, hb2, hg2, _⟩
  obtain ⟨z0, z1, z2, z3, zf⟩ := (HZ.out _).grown hg2 (by omega)
  obtain ⟨r0, r1, r2, r3, _⟩ := hb2
  have f0 := zf 0 (by decide)
  have f1 := zf 1 (by decide)
  have f2 := zf 2 (by decide)
  have f3 := zf 3 (by decide)
  have HB2 : Hid (Below w.heap.size w w2) := below_grown (HX.out _ _) hg2 (by omega)
  clear zf hg2 HZ HY HX HE HS
  go_wp2
  refine bodyPost_ret (v := .agg #[.int .i64 b'.x, .int .i64 b'.y, .int .i64 b'.w, .int .i64 b'.h]) (by simp [results, Try.results29, go_sem, z0, z1, z2, z3]) rfl ?_
  exact ⟨rfl, below_grown (below_grown (below_grown (below_grown HB2.out (grownBy_set _ _ _ _) (Nat.le_refl _)) (grownBy_set _ _ _ _) (Nat.le_refl _)) (grownBy_set _ _ _ _) (Nat.le_refl _)) (grownBy_set _ _ _ _) (Nat.le_refl _)⟩

/-- Ids as they can be read. -/
def IdsIn (w : World) (v : Value) (zs : List Int) : Prop := ∃ g o cap, v = .slice (some ⟨g, o, none⟩) zs.length cap ∧ zs.length ≤ cap ∧ ∀ (i : Nat) z, zs[i]? = some z → w.cell? ⟨g, o + i, none⟩ = some (.int .i64 z)
theorem IdsIn.below {w w' : World} {v : Value} {zs : List Int} (h : IdsIn w v zs) (hb : Below w.heap.size w w') : IdsIn w' v zs := by
  obtain ⟨g, o, cap, e, hc, h2⟩ := h
  exact ⟨g, o, cap, e, hc, fun i z hz => (hb.cell (p := ⟨g, o + i, none⟩) (World.block_lt_of_cell? w _ (h2 i z hz))).trans (h2 i z hz)⟩

/-- How far a row of parts has come. -/
structure EvenTo (w : World) (k : Int) (b : Box) (ts : List Tree) (sl : Value) (vs : List Value) (fs : List Nat) (wr : World) : Prop where
  box : BoxAt wr w.heap.size b
  own : SplitAt wr (w.heap.size + 1) b k sl
  row : wr.ownsRow (w.heap.size + 2) 56 1 sl vs.length vs
  parts : partsAt wr 0 ts vs fs
  nodup : fs.Nodup
  ge : ∀ q ∈ fs, w.heap.size + 2 ≤ q
  apart : ∀ q ∈ fs, sl.ownBlock ≠ some q
  below : Below w.heap.size w wr
theorem EvenTo.lt {w : World} {k : Int} {b : Box} {ts : List Tree} {sl : Value} {vs : List Value} {fs : List Nat} {wr : World} (h : EvenTo w k b ts sl vs fs wr) : w.heap.size + 2 ≤ wr.heap.size := lt_of_block h.own
theorem EvenTo.below' {w : World} {k : Int} {b : Box} {ts : List Tree} {sl : Value} {vs : List Value} {fs : List Nat} {wr X : World} (h : EvenTo w k b ts sl vs fs wr) (hb : Below wr.heap.size wr X) : EvenTo w k b ts sl vs fs X :=
  ⟨h.box.below hb, h.own.below hb, own_below h.row hb, h.parts.below hb, h.nodup, h.ge, h.apart, below_step h.below hb⟩
theorem EvenTo.start (w : World) (k : Int) (b : Box) : EvenTo w k b [] (.slice none 0 0) [] [] ((w.alloc (.cells #[.int .i64 b.x, .int .i64 b.y, .int .i64 b.w, .int .i64 b.h] 66)).alloc (.cells #[.int .i64 b.x, .int .i64 b.y, .int .i64 b.w, .int .i64 b.h, .int .i64 k, .slice none 0 0] 101)) := by
  have hs : (w.alloc (.cells #[.int .i64 b.x, .int .i64 b.y, .int .i64 b.w, .int .i64 b.h] 66)).heap.size = w.heap.size + 1 := by simp
  have hn := heap_alloc_new w (.cells #[.int .i64 b.x, .int .i64 b.y, .int .i64 b.w, .int .i64 b.h] 66)
  have hB : BoxAt (w.alloc (.cells #[.int .i64 b.x, .int .i64 b.y, .int .i64 b.w, .int .i64 b.h] 66)) w.heap.size b := ⟨cell_atL hn 0, cell_atL hn 1, cell_atL hn 2, cell_atL hn 3, fun o _ => free_atL hn o⟩
  have h1 : Below w.heap.size w (w.alloc (.cells #[.int .i64 b.x, .int .i64 b.y, .int .i64 b.w, .int .i64 b.h] 66)) := (Below.refl _ _).alloc (Nat.le_refl _) _
  refine ⟨hB.below ((Below.refl _ _).alloc (Nat.le_refl _) _), ?_, World.ownsRow_nil _ _ _ _, ⟨rfl, rfl⟩, List.nodup_nil, nofun, nofun, alloc_below h1 _⟩
  rw [← hs]
  exact heap_alloc_new _ _
/-- One more part is there. -/
theorem EvenTo.next {w : World} {k : Int} {b : Box} {ts : List Tree} {sl : Value} {vs : List Value} {fs : List Nat} {wr X : World} (h : EvenTo w k b ts sl vs fs wr) (hX : Below wr.heap.size wr X) {t : Tree} {v : Value} {f : List Nat} (hA : t.At X 0 v f) (hf : f.Nodup) (hge : ∀ q ∈ f, wr.heap.size ≤ q) {o : Obj} {sl' : Value} {w' : World} (h1 : w'.ownsRow (w.heap.size + 2) 56 1 sl' (vs.length + 1) (vs ++ [v])) (h2 : (X.alloc o).grownBy w' sl.ownBlock) (h3 : sl'.ownBlock = sl.ownBlock ∨ sl'.ownBlock = some (X.alloc o).heap.size) :
    SplitAt w' (w.heap.size + 1) b k sl ∧ EvenTo w k b (ts ++ [t]) sl' (vs ++ [v]) (fs ++ f) (w'.setCell ⟨w.heap.size + 1, 5, none⟩ sl') := by
  have hx := h.below' hX
  have hlt := h.lt
  have hxl := hX.size
  have hsz : (X.alloc o).heap.size = X.heap.size + 1 := by simp
  have hne : ∀ q, sl.ownBlock = some q → w.heap.size + 2 ≤ q ∧ q < wr.heap.size := fun q hq => World.ownsRow.lt h.row q hq
  have kept : ∀ q, q < X.heap.size → sl.ownBlock ≠ some q → w'.heap[q]? = X.heap[q]? := fun q hq hn => (h2.block q (by omega) (fun e => hn e.symm)).trans (((Below.refl X.heap.size X).alloc (Nat.le_refl _) o).block q hq)
  have hs : SplitAt w' (w.heap.size + 1) b k sl := (kept _ (by omega) fun e => by have := hne _ e; omega).trans hx.own
  have kept' : ∀ q, q < X.heap.size → sl.ownBlock ≠ some q → q ≠ w.heap.size + 1 → (w'.setCell ⟨w.heap.size + 1, 5, none⟩ sl').heap[q]? = X.heap[q]? := fun q hq hn hn' => (Below.heap_setCell _ _ _ _ (fun e => hn' (by simpa using e))).trans (kept q hq hn)
  have hfl : ∀ q ∈ fs, q < wr.heap.size := h.parts.lt
  refine ⟨hs, ?_, hs.setSl sl', ?_, partsAt.snoc (hA.keep fun q hq => ?_) (hx.parts.keep fun q hq => ?_), ?_, fun q hq => ?_, fun q hq => ?_, ?_⟩
  · have kb := kept' w.heap.size (by omega) (fun e => by have := hne _ e; omega) (by omega)
    have e : ∀ o', (w'.setCell ⟨w.heap.size + 1, 5, none⟩ sl').cell? ⟨w.heap.size, o', none⟩ = X.cell? ⟨w.heap.size, o', none⟩ := fun o' => World.cell?_of_block kb
    have e' : ∀ o', (w'.setCell ⟨w.heap.size + 1, 5, none⟩ sl').frozen? ⟨w.heap.size, o', none⟩ = X.frozen? ⟨w.heap.size, o', none⟩ := fun o' => World.frozen?_of_block kb
    exact ⟨(e _).trans hx.box.x, (e _).trans hx.box.y, (e _).trans hx.box.w, (e _).trans hx.box.h, fun o' ho => (e' _).trans (hx.box.free o' ho)⟩
  · have := own_kept h1 (W' := w'.setCell ⟨w.heap.size + 1, 5, none⟩ sl') fun q hq => by
      refine Below.heap_setCell _ _ _ _ fun e => ?_
      have := (World.ownsRow.lt h1 q (by simpa using hq)).1
      have e' : q = w.heap.size + 1 := by simpa using e
      omega
    simpa using this
  · have := hge q hq
    exact kept' q (hA.lt q hq) (fun e => by have := hne _ e; omega) (by omega)
  · have := h.ge q hq
    have := hfl q hq
    exact kept' q (by omega) (h.apart q hq) (by omega)
  · refine List.nodup_append.2 ⟨h.nodup, hf, fun a ha c hc e => ?_⟩
    have := hfl a ha
    have := hge c hc
    omega
  · rcases List.mem_append.1 hq with h4 | h4
    · exact h.ge q h4
    · have := hge q h4
      omega
  · rcases List.mem_append.1 hq with h4 | h4
    · rcases h3 with e | e
      · rw [e]; exact h.apart q h4
      · rw [e]
        intro e2
        have := hfl q h4
        have := Option.some.inj e2
        omega
    · have h5 := hge q h4
      have h6 := hA.lt q h4
      rcases h3 with e | e
      · rw [e]
        intro e2
        have := hne _ e2
        omega
      · rw [e]
        intro e2
        have := Option.some.inj e2
        omega
  · have hb : Below w.heap.size w w' := by
      have h0 : Below w.heap.size w (X.alloc o) := alloc_below hx.below o
      refine ⟨h2.os.trans h0.os, h2.tape.trans h0.tape, h2.output.trans h0.output, Nat.le_trans h0.size h2.size, fun q hq => (h2.block q (by have := h0.size; omega) fun e => ?_).trans (h0.block q hq)⟩
      have := hne _ e.symm
      omega
    exact below_grown hb (grownBy_set _ _ _ _) (by omega)
theorem EvenTo.made {w : World} {k : Int} {b : Box} {ts : List Tree} {sl : Value} {vs : List Value} {fs : List Nat} {wr : World} (h : EvenTo w k b ts sl vs fs wr) : ReadYes (.split b k ts) w (.returned (splitI (w.heap.size + 1))) wr := by
  refine ⟨_, _, _, rfl, ⟨_, sl, vs, fs, rfl, h.own, ⟨h.row.1, ?_⟩, h.parts, rfl⟩, ?_, ?_, h.below⟩
  · rcases h.row.2 with h0 | ⟨g, cap, cur, e, _, r⟩
    · exact .inl h0
    · exact .inr ⟨g, cap, cur, e, Nat.zero_le _, r⟩
  · have h1 : ∀ q ∈ sl.ownBlock.toList, w.heap.size + 2 ≤ q := fun q hq => (World.ownsRow.lt h.row q (by simpa using hq)).1
    refine List.nodup_cons.2 ⟨fun hm => ?_, List.nodup_append.2 ⟨?_, h.nodup, fun a ha c hc e => ?_⟩⟩
    · rcases List.mem_append.1 hm with h2 | h2
      · have := h1 _ h2; omega
      · have := h.ge _ h2; omega
    · cases sl.ownBlock <;> simp
    · subst e
      exact h.apart a hc (by simpa using ha)
  · intro q hq
    rcases List.mem_cons.1 hq with h2 | h2
    · omega
    · rcases List.mem_append.1 h2 with h3 | h3
      · have := (World.ownsRow.lt h.row q (by simpa using h3)).1; omega
      · have := h.ge _ h3; omega

theorem step_append_partB {ops : Array Oper} {o : Oper} {a : Act} {K : Act → World → Prop} {Q : Exit → Act → World → Prop} {E : Prop} (w : World) (hgd : o.guard = none) (s x : Operand)
    (ho : o.op = .call { callee := .builtin .append, args := #[s, x], argTypes := #[76, 76] })
    (B : Nat) (v : Value) (vs : List Value) (T : TypeId) (g : Nat) (hs : a.eval s = v) (hown : w.ownsRow B 56 1 v vs.length vs) (hx : a.eval x = .slice (some ⟨w.heap.size, 0, none⟩) 1 1) (hlen : vs.length ≤ 1000000) (hB : B ≤ w.heap.size)
    (h : ∀ v' w', w'.ownsRow B 56 1 v' (vs.length + 1) (vs ++ [.iface T (.pointer (some ⟨g, 0, none⟩))]) → (w.alloc (.cells #[.iface T (.pointer (some ⟨g, 0, none⟩))] 56)).grownBy w' v.ownBlock → (v'.ownBlock = v.ownBlock ∨ v'.ownBlock = some (w.alloc (.cells #[.iface T (.pointer (some ⟨g, 0, none⟩))] 56)).heap.size) → K (a.put o.dst v') w') : if Region.wanted o (yielded ops a.tmps) = true then Oper.wp Try.prog o a (w.alloc (.cells #[.iface T (.pointer (some ⟨g, 0, none⟩))] 56)) K Q else E := by
  have hw : Region.wanted o (yielded ops a.tmps) = true := by simp [Region.wanted, hgd]
  rw [if_pos hw]
  obtain ⟨i0, hi, hz0, hz1, hz2⟩ := info_partsL infoPart
  obtain ⟨v', w', hr, h2, h3, h4, h5⟩ := run_append_own_at (P := Try.prog) (w.alloc (.cells #[.iface T (.pointer (some ⟨g, 0, none⟩))] 56)) B 76 o.type 56 i0 .nilIface 1 16 Try.underlying76 hi hz0 hz1 hz2 rfl (by decide) v vs.length vs (World.ownsRow.alloc hown _) ⟨w.heap.size, 0, none⟩ 1 1 [.iface T (.pointer (some ⟨g, 0, none⟩))] rfl (fun j u hu => by
    rw [show (⟨w.heap.size, 0, none⟩ : Addr).add j = ⟨w.heap.size, j, none⟩ by unfold Addr.add; split <;> simp_all, cell_newL]
    simpa using hu) (fun u hu => by
    simp only [List.mem_cons, List.not_mem_nil, or_false] at hu
    subst hu
    rfl) (by unfold maxLen; omega) (by omega) (by
    have : (w.alloc (.cells #[.iface T (.pointer (some ⟨g, 0, none⟩))] 56)).heap.size = w.heap.size + 1 := by simp
    omega)
  unfold Oper.wp execOp
  simp only [ho, resolve, invoke, builtin, Sem.run_bind, Sem.run_pure, Result.andThen_ok, List.map_toArray, List.map_cons, List.map_nil, hs, hx, hr]
  exact h v' w' h2 h3 h5

end Go.Proofs.Ytnepemlagnnngaa

namespace Go.Proofs.Ytnepemlagnnngaa
open Go.RowKit
set_option linter.unusedVariables false
set_option maxRecDepth 100000

theorem shareL_get (k : Int) (b : Box) (n : Int) : ∀ (zs : List Int) (j : Int) (i : Nat) (z : Int), zs[i]? = some z → (shareL k b n zs j)[i]? = some (.leaf (b.with k (shareF (b.ext k) n (j + i))) z)
  | [], _, _, _, h => by simp at h
  | y :: zs, j, 0, z, h => by
    have : y = z := by simpa using h
    subst this
    show some _ = _
    rw [show j + ((0 : Nat) : Int) = j by simp]
  | y :: zs, j, i + 1, z, h => by
    have h' : zs[i]? = some z := by simpa using h
    have := shareL_get k b n zs (j + 1) i z h'
    rw [show j + ((i + 1 : Nat) : Int) = j + 1 + (i : Int) by omega]
    exact this
theorem across_two (k : Int) (hk : k = 2 ∨ k = 3) : acrossK (acrossK k) = k ∧ (acrossK k = 2 ∨ acrossK k = 3) ∧ acrossK k ≠ k := by
  rcases hk with rfl | rfl <;> decide
/-- The first pane, and the others beside it. -/
def othersF (wh z : Int) : Int := if 1 ≤ z then max (wh - 1 - z) 1 else halfF wh
def firstT (k : Int) (z0 : Int) (zs : List Int) (b : Box) (sz : Int) : Tree := .split b k [.leaf (b.with k (b.ext k - 1 - othersF (b.ext k) sz)) z0, evenT (acrossK k) zs (b.with k (othersF (b.ext k) sz))]
def leadB (k : Int) (n : Int) (b : Box) (sz : Int) : Bool := sideB (b.ext k - 1 - othersF (b.ext k) sz) && fitsB (acrossK k) n (b.with k (othersF (b.ext k) sz))
theorem first_sound (k : Int) (hk : k = 2 ∨ k = 3) (z0 : Int) (zs : List Int) (b : Box) (sz : Int) (hne : zs ≠ []) (h0 : idB z0 = true) (hz : ∀ z ∈ zs, idB z = true) (hb : (sideB b.w && sideB b.h) = true) : (firstT k z0 zs b sz).sound = leadB k zs.length b sz := by
  obtain ⟨h1, h2, h3⟩ := across_two k hk
  unfold leadB
  obtain ⟨o, ho⟩ : ∃ o, othersF (b.ext k) sz = o := ⟨_, rfl⟩
  unfold firstT
  rw [ho]
  have hs2 : (sideB (b.ext k) && sideB (b.ext (acrossK k))) = true := by rw [← box_sides b k hk]; exact hb
  have hac := (Bool.and_eq_true_iff.1 hs2).2
  have hev := even_sound (acrossK k) h2 zs (b.with k o) hne hz
  have hki := even_kindIs (acrossK k) k h3 zs (b.with k o)
  have hbx := even_box (acrossK k) zs (b.with k o)
  obtain ⟨E, hE⟩ : ∃ E, evenT (acrossK k) zs (b.with k o) = E := ⟨_, rfl⟩
  rw [hE] at hev hki hbx ⊢
  show ((decide (2 ≤ 2) && (sideB b.w && sideB b.h)) && (((((sideB (b.with k (b.ext k - 1 - o)).w && sideB (b.with k (b.ext k - 1 - o)).h) && idB z0) && (!false && decide ((b.with k (b.ext k - 1 - o)).ext (acrossK k) = b.ext (acrossK k)))) && ((E.sound && (!E.kindIs k && decide (E.box.ext (acrossK k) = b.ext (acrossK k)))) && true)) && decide ((b.with k (b.ext k - 1 - o)).ext k + 1 + (E.box.ext k + 1 + -1) = b.ext k))) = _
  rw [hb, with_sides _ _ _ hk, with_across _ _ _ hk, hac, h0, hev, hki, hbx, with_across _ _ _ hk, with_ext, with_ext, decide_eq_true (show b.ext k - 1 - o + 1 + (o + 1 + -1) = b.ext k by omega)]
  simp
/-- Rows of panes, one below the other. -/
def tileL (b : Box) (r : Int) (c : Nat) : List Int → Nat → Int → List Tree
  | _, 0, _ => []
  | zs, m + 1, i => evenT 2 (zs.take c) (b.with 3 (shareF b.h r i)) :: tileL b r c (zs.drop c) m (i + 1)
def tileT (b : Box) (r c : Nat) (zs : List Int) : Tree := .split b 3 (tileL b r c zs r 0)
theorem tileL_get (b : Box) (r : Int) (c : Nat) : ∀ (m : Nat) (zs : List Int) (j : Int) (i : Nat), i < m → (tileL b r c zs m j)[i]? = some (evenT 2 ((zs.drop (i * c)).take c) (b.with 3 (shareF b.h r (j + i))))
  | 0, _, _, _, h => absurd h (Nat.not_lt_zero _)
  | m + 1, zs, j, 0, _ => by
    show some _ = _
    rw [show j + ((0 : Nat) : Int) = j by simp, Nat.zero_mul, List.drop_zero]
  | m + 1, zs, j, i + 1, h => by
    have := tileL_get b r c m (zs.drop c) (j + 1) i (by omega)
    rw [List.drop_drop] at this
    rw [show j + ((i + 1 : Nat) : Int) = j + 1 + (i : Int) by omega, show (i + 1) * c = c + i * c by rw [Nat.add_mul]; omega]
    exact this
theorem tileL_length (b : Box) (r : Int) (c : Nat) : ∀ (m : Nat) (zs : List Int) (j : Int), (tileL b r c zs m j).length = m
  | 0, _, _ => rfl
  | m + 1, zs, j => by show _ + 1 = _; rw [tileL_length b r c m]
theorem tileL_kinds (b : Box) (r : Int) (c : Nat) : ∀ (m : Nat) (zs : List Int) (j : Int), kindsAll (tileL b r c zs m j)
  | 0, _, _ => trivial
  | m + 1, zs, j => ⟨even_kinds 2 (.inl rfl) _ _, tileL_kinds b r c m _ _⟩
theorem tileL_sizes (b : Box) (r : Int) (c : Nat) : ∀ (m : Nat) (zs : List Int) (j : Int), sizes (tileL b r c zs m j) ≤ zs.length + m
  | 0, zs, _ => Nat.zero_le _
  | m + 1, zs, j => by
    show Tree.size _ + sizes _ ≤ _
    have h1 := even_size 2 (zs.take c) (b.with 3 (shareF b.h r j))
    have h2 := tileL_sizes b r c m (zs.drop c) (j + 1)
    rw [List.length_take] at h1
    rw [List.length_drop] at h2
    omega
theorem tileL_ext (b : Box) (r : Int) (c : Nat) : ∀ (m : Nat) (zs : List Int) (j : Int), extAll (tileL b r c zs m j) 3 = shareSum b.h r m j + m - 1
  | 0, _, _ => by show (-1 : Int) = 0 + ((0 : Nat) : Int) - 1; omega
  | m + 1, zs, j => by
    show (evenT 2 (zs.take c) (b.with 3 (shareF b.h r j))).box.ext 3 + 1 + extAll (tileL b r c (zs.drop c) m (j + 1)) 3 = shareF b.h r j + shareSum b.h r m (j + 1) + ((m + 1 : Nat) : Int) - 1
    rw [even_box, with_ext, tileL_ext b r c m]
    omega
/-- Whether every row has room. -/
def rowsB (b : Box) (r : Int) (c : Nat) : List Int → Nat → Int → Bool
  | _, 0, _ => true
  | zs, m + 1, i => fitsB 2 (zs.take c).length (b.with 3 (shareF b.h r i)) && rowsB b r c (zs.drop c) m (i + 1)
def tileB (b : Box) (r c : Nat) (zs : List Int) : Bool := fitsB 3 r b && rowsB b r c zs r 0
theorem tileL_sound (b : Box) (r : Int) (c : Nat) (hc : 0 < c) : ∀ (m : Nat) (zs : List Int) (j : Int), (m - 1) * c < zs.length ∨ m = 0 → (∀ z ∈ zs, idB z = true) → soundAll (tileL b r c zs m j) b 3 = rowsB b r c zs m j
  | 0, _, _, _, _ => rfl
  | m + 1, zs, j, hl, hz => by
    show (((evenT 2 (zs.take c) (b.with 3 (shareF b.h r j))).sound && (!(evenT 2 (zs.take c) (b.with 3 (shareF b.h r j))).kindIs 3 && decide ((evenT 2 (zs.take c) (b.with 3 (shareF b.h r j))).box.ext (acrossK 3) = b.ext (acrossK 3)))) && soundAll (tileL b r c (zs.drop c) m (j + 1)) b 3) = (fitsB 2 (zs.take c).length (b.with 3 (shareF b.h r j)) && rowsB b r c (zs.drop c) m (j + 1))
    have hl0 : 0 < zs.length := by
      rcases hl with h | h
      · exact Nat.lt_of_le_of_lt (Nat.zero_le _) h
      · omega
    rw [even_sound 2 (.inl rfl) _ _ (fun e => by have := congrArg List.length e; rw [List.length_take, List.length_nil] at this; omega) (fun z hm => hz z (List.mem_of_mem_take hm)), even_kindIs 2 3 (by decide), even_box, with_across _ 3 _ (.inr rfl), tileL_sound b r c hc m (zs.drop c) (j + 1) ?_ (fun z hm => hz z (List.mem_of_mem_drop hm))]
    · simp
    · rcases Nat.eq_zero_or_pos m with h0 | h0
      · exact .inr h0
      · refine .inl ?_
        rcases hl with h | h
        · rw [List.length_drop]
          have e : (m + 1 - 1) * c = (m - 1) * c + c := by
            rw [show m + 1 - 1 = (m - 1) + 1 by omega, Nat.add_mul]
            omega
          omega
        · omega
theorem rows_last (b : Box) (r : Int) (c : Nat) (hr : 1 ≤ r) (h : b.h - (r - 1) < r) : ∀ (m : Nat) (zs : List Int) (j : Int), m ≠ 0 → j + m = r → rowsB b r c zs m j = false
  | 0, _, _, h0, _ => absurd rfl h0
  | 1, zs, j, _, hj => by
    have e : j = r - 1 := by omega
    have h1 := share_last hr h
    show (((sideB _ && sideB ((b.with 3 (shareF b.h r j)).ext 3)) && _) && _) = false
    rw [with_ext, e]
    have : sideB (shareF b.h r (r - 1)) = false := by
      cases hs : sideB (shareF b.h r (r - 1)) with
      | false => rfl
      | true => have := side_of hs; omega
    rw [this]
    simp
  | m + 2, zs, j, _, hj => by
    show (_ && rowsB b r c (zs.drop c) (m + 1) (j + 1)) = false
    rw [rows_last b r c hr h (m + 1) (zs.drop c) (j + 1) (by omega) (by omega), Bool.and_false]
theorem tile_sound (b : Box) (r c : Nat) (zs : List Int) (hr : 2 ≤ r) (hc : 0 < c) (hl : (r - 1) * c < zs.length) (hz : ∀ z ∈ zs, idB z = true) (hb : (sideB b.w && sideB b.h) = true) : (tileT b r c zs).sound = tileB b r c zs := by
  show ((decide (2 ≤ (tileL b r c zs r 0).length) && (sideB b.w && sideB b.h)) && (soundAll (tileL b r c zs r 0) b 3 && decide (extAll (tileL b r c zs r 0) 3 = b.ext 3))) = (((sideB b.h && sideB b.w) && (decide ((r : Int) = 1) || decide ((r : Int) ≤ b.h - (r - 1)))) && rowsB b r c zs r 0)
  have hb' : (sideB b.h && sideB b.w) = true := by rw [Bool.and_comm]; exact hb
  rw [tileL_length, decide_eq_true hr, hb, hb', tileL_sound b r c hc r zs 0 (.inl hl) hz, tileL_ext, decide_eq_false (show ¬ (r : Int) = 1 by omega)]
  by_cases h : (r : Int) ≤ b.h - (r - 1)
  · rw [shareSum_all r rfl (by omega) (by omega), decide_eq_true h]
    rw [decide_eq_true (show b.h - ((r : Int) - 1) + r - 1 = b.ext 3 by show _ = b.h; omega)]
    simp
  · rw [rows_last b r c (by omega) (by omega) r zs 0 (by omega) (by omega)]
    simp
/-- The grid. -/
def gridT : Nat → Nat → Nat → Nat → Nat × Nat
  | 0, _, r, c => (r, c)
  | f + 1, n, r, c => if r * c < n then (if (r + 1) * c < n then gridT f n (r + 1) (c + 1) else gridT f n (r + 1) c) else (r, c)
def gridF (n : Nat) : Nat × Nat := gridT 40 n 1 1
theorem grid_facts : ∀ n, n < 33 → 2 ≤ n → 2 ≤ (gridF n).1 ∧ 0 < (gridF n).2 ∧ ((gridF n).1 - 1) * (gridF n).2 < n ∧ n ≤ (gridF n).1 * (gridF n).2 ∧ (gridF n).1 ≤ 32 ∧ (gridF n).2 ≤ 32 := by decide

end Go.Proofs.Ytnepemlagnnngaa
