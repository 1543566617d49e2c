/-
  Layouts: Panes, Next, on both sides.
  Layouts: room, of every tree, on both sides.
  Layouts: the document's Room; least extents on both sides.
-/
import Derived.Test.YtnepemlagnnngaaCTr
import Derived.Test.YtnepemlagnnngaaCOp
import Derived.Test.YtnepemlagnnngaaCTe
namespace Go.Proofs.Ytnepemlagnnngaa
open Go.RowKit
set_option linter.unusedVariables false
set_option maxRecDepth 100000

theorem lay_ids {l : List CellV} {t : Tree} (hr : readF l = some t) : (nodeOf t).ids = idsOf l ∧ 1 ≤ (idsOf l).length ∧ (idsOf l).length ≤ 32 ∧ (idsOf l).Nodup ∧ (nodeOf t).cnt ≤ 1000 := by
  have h := readF_lay hr
  have hi := ids_told t 0 h.kinds
  rw [h.tell] at hi
  have hs := size_ids t h.kinds h.sound
  rw [hi] at hs
  have hf := few_len h.few
  have hp := t.size_pos
  refine ⟨hi, by omega, hf.1, hf.2, ?_⟩
  have h1 := layN_length (nodeOf t) 0 0 0
  rw [lay_told t 0 0 0, h.moved, h.tell] at h1
  have := h.size
  omega

/-- The panes of a list, if it is a layout. -/
def panesL (l : List CellV) : List Int := if (readF l).isSome then idsOf l else []
theorem panes_any (v : Value) (l : List CellV) (w : World) (h : CellsIn w v l) : Calls Try.prog 17 #[v] w fun e w' => ∃ z m c, e = .returned (.slice z m c) ∧ (panesL l).length = m ∧ IOwns w' w.heap.size (.slice z m c) (panesL l) ∧ Below w.heap.size w w' := by
  have HR : Hid (Calls Try.prog 24 #[v] w (ReadGood l w)) := read_any v l w h
  have HP : Hid ((readF l).isSome = true → ∀ X, Below w.heap.size w X → Calls Try.prog 52 #[v] X fun e w' => ∃ z m c, e = .returned (.slice z m c) ∧ (panesL l).length = m ∧ IOwns w' w.heap.size (.slice z m c) (panesL l) ∧ Below w.heap.size w w') := fun hs X hX => by
    have hlen : l.length ≤ 1000000 := by
      cases hr : readF l with
      | none => rw [hr] at hs; cases hs
      | some t => have := (readF_lay hr).size; omega
    refine (paneIds_any v l X (h.below hX) hlen).mono ?_
    rintro e w' ⟨u, rfl, h1, h2⟩
    have hp : panesL l = idsOf l := by unfold panesL; rw [if_pos hs]
    rw [hp]
    obtain ⟨z, c, hz⟩ := own_sl5 h1
    subst hz
    exact ⟨z, _, c, rfl, rfl, h1.lower hX.size, below_step hX h2⟩
  clear h
  go_enter Try.func17, Try.ntmps17
  go_wp2_with fail
  refine HR.out.mono ?_
  rintro e w1 (⟨hF, rfl, hb⟩ | ⟨t, T, g, fp, hF, rfl, hAt, hnd, hge, hb⟩)
  · have HE : Hid (panesL l = []) := by show _ = _; unfold panesL; rw [hF]; rfl
    unfold nilPart
    clear hF
    go_wp2
    go_ret
    exact ⟨none, 0, 0, rfl, by rw [HE.out]; rfl, by rw [HE.out]; exact World.ownsRow_nil _ _ _ _, hb⟩
  · have HC : Hid (Calls Try.prog 52 #[v] w1 fun e w' => ∃ z m c, e = .returned (.slice z m c) ∧ (panesL l).length = m ∧ IOwns w' w.heap.size (.slice z m c) (panesL l) ∧ Below w.heap.size w w') := HP.out (by rw [hF]; rfl) w1 hb
    clear hF hAt hnd hge HP
    go_wp2_with fail
    refine HC.out.mono ?_
    rintro e w2 ⟨z, m, c, rfl, h1, h2, h3⟩
    have H2 : Hid ((panesL l).length = m ∧ IOwns w2 w.heap.size (.slice z m c) (panesL l)) := ⟨h1, h2⟩
    clear h1 h2
    go_wp2
    go_ret
    exact ⟨z, m, c, rfl, H2.out.1, H2.out.2, h3⟩

/-- Where a number stands first. -/
def FirstAt (zs : List Int) (x : Int) (k : Nat) : Prop := zs[k]? = some x ∧ ∀ j, j < k → zs[j]? ≠ some x
theorem first_or (zs : List Int) (x : Int) : (∃ k, k < zs.length ∧ FirstAt zs x k) ∨ ∀ j : Nat, zs[j]? ≠ some x := by
  induction zs with
  | nil => exact .inr fun j => by simp
  | cons a zs ih =>
    by_cases ha : a = x
    · exact .inl ⟨0, by simp, by simp [ha], fun j hj => by omega⟩
    · rcases ih with ⟨k, hk, h1, h2⟩ | h
      · refine .inl ⟨k + 1, by simp; omega, by simpa using h1, fun j hj => ?_⟩
        cases j with
        | zero => simpa using ha
        | succ j => simpa using h2 j (by omega)
      · refine .inr fun j => ?_
        cases j with
        | zero => simpa using ha
        | succ j => simpa using h j
theorem getD_of {zs : List Int} {j : Nat} (hj : j < zs.length) : zs[j]? = some (zs.getD j 0) := by simp [List.getD, hj]
theorem index_hit (u : Value) (zs : List Int) (x : Int) (k : Nat) (B : Nat) (w : World) (h : IOwns w B u zs) (hk : FirstAt zs x k) (hn : zs.length ≤ 1000000) : Calls Try.prog 79 #[u, .int .i64 x] w fun e w' => e = .returned (.int .i64 (k : Int)) ∧ w = w' := by
  have hkl : k < zs.length := (List.getElem?_eq_some_iff.1 hk.1).1
  rcases h.at_ with ⟨rfl, rfl⟩ | ⟨g, cap, rfl, hc⟩
  · simp at hkl
  · refine (Try.slices_Index_int g 0 zs.length cap zs x w (Nat.le_refl _) (by omega) fun j hj => by rw [Nat.zero_add]; exact hc j _ (getD_of hj)).mono fun e w' h2 => ⟨?_, h2.2.symm⟩
    rw [h2.1, Go.Lib.idxOf_hit zs zs.length k x hkl (Nat.le_refl _) (by have := getD_of hkl; rw [hk.1] at this; exact (Option.some.inj this).symm) (fun j hj e => hk.2 j hj (by rw [getD_of (by omega), e]))]
theorem index_miss (u : Value) (zs : List Int) (x : Int) (B : Nat) (w : World) (h : IOwns w B u zs) (hk : ∀ j : Nat, zs[j]? ≠ some x) (hn : zs.length ≤ 1000000) : Calls Try.prog 79 #[u, .int .i64 x] w fun e w' => e = .returned (.int .i64 (-1)) ∧ w = w' := by
  rcases h.at_ with ⟨rfl, rfl⟩ | ⟨g, cap, rfl, hc⟩
  · exact (Try.slices_Index_int_empty none 0 x w).mono fun e w' h2 => ⟨h2.1, h2.2.symm⟩
  · refine (Try.slices_Index_int g 0 zs.length cap zs x w (Nat.le_refl _) (by omega) fun j hj => by rw [Nat.zero_add]; exact hc j _ (getD_of hj)).mono fun e w' h2 => ⟨?_, h2.2.symm⟩
    rw [h2.1, Go.Lib.idxOf_miss zs zs.length x fun j hj e => hk j (by rw [getD_of hj, e])]

/-- The place that is so many behind. -/
def nextAt (k : Nat) (n : Int) (m : Nat) : Nat := (((k : Int) + n.tmod m) % m).toNat
theorem next_facts (k : Nat) (n : Int) (m : Nat) (hk : k < m) : ∃ T : Int, n.tmod m = T ∧ (-(m : Int) < T ∧ T < m) ∧ nextAt k n m < m ∧ ((k : Int) + (T + m)).tmod m = (nextAt k n m : Int) ∧ ((0 ≤ (k : Int) + T ∧ ((k : Int) + T).tmod m = (nextAt k n m : Int)) ∨ ((k : Int) + T < 0 ∧ ((k : Int) + T).tmod m = (k : Int) + T ∧ (k : Int) + T + m = (nextAt k n m : Int))) := by
  have hm : (0 : Int) < m := by omega
  have h1 : n.tmod m < m := Int.tmod_lt_of_pos n hm
  have h2 : -(m : Int) < n.tmod m := by
    have := Int.lt_tmod_of_pos n hm
    omega
  refine ⟨n.tmod m, rfl, ⟨h2, h1⟩, ?_⟩
  obtain ⟨T, hT⟩ : ∃ T, n.tmod m = T := ⟨_, rfl⟩
  unfold nextAt
  rw [hT] at h1 h2 ⊢
  have e0 : 0 ≤ ((k : Int) + T) % m := Int.emod_nonneg _ (by omega)
  have e1 : ((k : Int) + T) % m < m := Int.emod_lt_of_pos _ hm
  have ec : ((((k : Int) + T) % m).toNat : Int) = ((k : Int) + T) % m := Int.toNat_of_nonneg e0
  rw [ec]
  refine ⟨by omega, ?_, ?_⟩
  · rw [Int.tmod_eq_emod_of_nonneg (by omega), ← Int.add_assoc, Int.add_emod_right]
  · by_cases hs : 0 ≤ (k : Int) + T
    · exact .inl ⟨hs, Int.tmod_eq_emod_of_nonneg hs⟩
    · refine .inr ⟨by omega, ?_, ?_⟩
      · obtain ⟨q, hq⟩ : ∃ q : Nat, (k : Int) + T = -(q : Int) := ⟨(-((k : Int) + T)).toNat, by omega⟩
        rw [hq, Int.neg_tmod, Int.tmod_eq_emod_of_nonneg (by omega), Int.emod_eq_of_lt (by omega) (by omega)]
      · have := Int.add_emod_right ((k : Int) + T) m
        rw [← this, Int.emod_eq_of_lt (by omega) (by omega)]

/-- What Next answers. -/
def NextIs (l : List CellV) (pane n : Int) (y e : Int) : Prop :=
  (readF l = none ∧ y = 0 ∧ e = 40) ∨ ((readF l).isSome = true ∧ (∀ j : Nat, (idsOf l)[j]? ≠ some pane) ∧ y = 0 ∧ e = 42) ∨
  ((readF l).isSome = true ∧ ∃ k, FirstAt (idsOf l) pane k ∧ k < (idsOf l).length ∧ (idsOf l)[nextAt k n (idsOf l).length]? = some y ∧ e = 0)
theorem FirstAt.one {zs : List Int} {x : Int} {j k : Nat} (h1 : FirstAt zs x j) (h2 : FirstAt zs x k) : j = k := by
  rcases Nat.lt_trichotomy j k with h | h | h
  · exact absurd h1.1 (h2.2 j h)
  · exact h
  · exact absurd h2.1 (h1.2 k h)
theorem next_same {l : List CellV} {pane n y e y' e' : Int} (h : NextIs l pane n y e) (h' : NextIs l pane n y' e') : y = y' ∧ e = e' := by
  rcases h with ⟨h1, h2, h3⟩ | ⟨h1, h2, h3, h4⟩ | ⟨h1, k, h2, h3, h4, h5⟩ <;> rcases h' with ⟨g1, g2, g3⟩ | ⟨g1, g2, g3, g4⟩ | ⟨g1, k', g2, g3, g4, g5⟩
  · omega
  · rw [h1] at g1; cases g1
  · rw [h1] at g1; cases g1
  · rw [g1] at h1; cases h1
  · omega
  · exact absurd g2.1 (h2 k')
  · rw [g1] at h1; cases h1
  · exact absurd h2.1 (g2 k)
  · have := h2.one g2
    subst this
    rw [h4] at g4
    exact ⟨Option.some.inj g4, by omega⟩
theorem next_ex (l : List CellV) (pane n : Int) : ∃ y e, NextIs l pane n y e := by
  cases hr : readF l with
  | none => exact ⟨0, 40, .inl ⟨hr, rfl, rfl⟩⟩
  | some t =>
    have hs : (readF l).isSome = true := by rw [hr]; rfl
    rcases first_or (idsOf l) pane with ⟨k, hk, hf⟩ | h
    · obtain ⟨T, _, _, h1, _⟩ := next_facts k n (idsOf l).length hk
      exact ⟨_, 0, .inr (.inr ⟨hs, k, hf, hk, List.getElem?_eq_getElem h1, rfl⟩)⟩
    · exact ⟨0, 42, .inr (.inl ⟨hs, h, rfl, rfl⟩)⟩

end Go.Proofs.Ytnepemlagnnngaa

namespace Go.Proofs.Ytnepemlagnnngaa
open Go.RowKit
set_option linter.unusedVariables false
set_option maxRecDepth 100000

mutual
theorem room_bound : ∀ (t : Tree) (d : Int), t.sound = true → 0 ≤ t.room d ∧ t.room d ≤ 1000 * (t.size : Int)
  | .leaf b p, d, hs => by
    have := (Tree.leaf b p).sound_sides hs
    show 0 ≤ b.ext d - 1 ∧ b.ext d - 1 ≤ 1000 * ((1 : Nat) : Int)
    change (1 ≤ b.w ∧ b.w ≤ 1000) ∧ (1 ≤ b.h ∧ b.h ≤ 1000) at this
    unfold Box.ext
    split <;> omega
  | .split b k ts, d, hs => by
    unfold Tree.sound at hs
    simp only [Bool.and_eq_true, decide_eq_true_eq] at hs
    have h := rooms_bound ts b k d hs.2.1
    show 0 ≤ (if d = k then roomAll ts d else roomLeast ts d) ∧ (if d = k then roomAll ts d else roomLeast ts d) ≤ 1000 * ((1 + sizes ts : Nat) : Int)
    split <;> omega
theorem rooms_bound : ∀ (ts : List Tree) (b : Box) (k d : Int), soundAll ts b k = true → (0 ≤ roomAll ts d ∧ roomAll ts d ≤ 1000 * (sizes ts : Int)) ∧ (0 ≤ roomLeast ts d ∧ roomLeast ts d ≤ 1000)
  | [], b, k, d, hs => by
    show ((0 : Int) ≤ 0 ∧ (0 : Int) ≤ 1000 * ((0 : Nat) : Int)) ∧ ((0 : Int) ≤ 1000 ∧ (1000 : Int) ≤ 1000)
    omega
  | t :: ts, b, k, d, hs => by
    unfold soundAll at hs
    simp only [Bool.and_eq_true] at hs
    have h1 := room_bound t d hs.1.1
    have h2 := rooms_bound ts b k d hs.2
    show (0 ≤ t.room d + roomAll ts d ∧ t.room d + roomAll ts d ≤ 1000 * ((t.size + sizes ts : Nat) : Int)) ∧ (0 ≤ min (t.room d) (roomLeast ts d) ∧ min (t.room d) (roomLeast ts d) ≤ 1000)
    omega
end
theorem roomAll_take : ∀ (ts : List Tree) (d : Int) (i : Nat) (t : Tree), ts[i]? = some t → roomAll (ts.take (i + 1)) d = roomAll (ts.take i) d + t.room d
  | [], d, i, t, h => by simp at h
  | a :: ts, d, 0, t, h => by
    simp at h
    subst h
    show a.room d + 0 = 0 + a.room d
    omega
  | a :: ts, d, i + 1, t, h => by
    show a.room d + roomAll (ts.take (i + 1)) d = a.room d + roomAll (ts.take i) d + t.room d
    rw [roomAll_take ts d i t (by simpa using h)]
    omega
theorem roomLeast_take : ∀ (ts : List Tree) (d : Int) (i : Nat) (t : Tree), ts[i]? = some t → roomLeast (ts.take (i + 1)) d = min (roomLeast (ts.take i) d) (t.room d)
  | [], d, i, t, h => by simp at h
  | a :: ts, d, 0, t, h => by
    simp at h
    subst h
    show min (a.room d) 1000 = min 1000 (a.room d)
    omega
  | a :: ts, d, i + 1, t, h => by
    show min (a.room d) (roomLeast (ts.take (i + 1)) d) = min (min (a.room d) (roomLeast (ts.take i) d)) (t.room d)
    rw [roomLeast_take ts d i t (by simpa using h)]
    omega
theorem soundAll_taken (ts : List Tree) (b : Box) (k : Int) (h : soundAll ts b k = true) : ∀ (i : Nat), soundAll (ts.take i) b k = true := by
  induction ts with
  | nil => intro i; simp [soundAll]
  | cons t ts ih =>
    intro i
    cases i with
    | zero => rfl
    | succ i =>
      unfold soundAll at h
      simp only [Bool.and_eq_true] at h
      show soundAll (t :: ts.take i) b k = true
      unfold soundAll
      simp only [Bool.and_eq_true]
      exact ⟨h.1, ih h.2 i⟩
theorem sizes_taken (ts : List Tree) : ∀ (i : Nat), sizes (ts.take i) ≤ sizes ts := by
  induction ts with
  | nil => intro i; simp [sizes]
  | cons t ts ih =>
    intro i
    cases i with
    | zero => exact Nat.zero_le _
    | succ i =>
      have := ih i
      show t.size + sizes (ts.take i) ≤ t.size + sizes ts
      omega

theorem l_room (g : Nat) (W : World) : (method 279 60 (.pointer (some ⟨g, 0, none⟩)) "mullion/layout.room").run Try.prog W = .ok (131, .pointer (some ⟨g, 0, none⟩)) W := by kernel_rfl
theorem s_room (g : Nat) (W : World) : (method 279 74 (.pointer (some ⟨g, 0, none⟩)) "mullion/layout.room").run Try.prog W = .ok (139, .pointer (some ⟨g, 0, none⟩)) W := by kernel_rfl
theorem l_fR (a c : Value) (W : World) : (callFunc 131 #[a, c]).run Try.prog W = .ok (.enter 131 #[a, c]) W := by kernel_rfl
theorem s_fR (a c : Value) (W : World) : (callFunc 139 #[a, c]).run Try.prog W = .ok (.enter 139 #[a, c]) W := by kernel_rfl
/-- What room wants of a part. -/
structure PartR (w : World) (v : Value) (t : Tree) (T : TypeId) (gi : Nat) (Fr : FuncId) : Prop where
  val : v = .iface T (.pointer (some ⟨gi, 0, none⟩))
  mR : ∀ W, (method 279 T (.pointer (some ⟨gi, 0, none⟩)) "mullion/layout.room").run Try.prog W = .ok (Fr, .pointer (some ⟨gi, 0, none⟩)) W
  fR : ∀ a c W, (callFunc Fr #[a, c]).run Try.prog W = .ok (.enter Fr #[a, c]) W
  cR : ∀ d X, Below w.heap.size w X → Calls Try.prog Fr #[.pointer (some ⟨gi, 0, none⟩), .int .i64 d] X fun e w' => e = .returned (.int .i64 (t.room d)) ∧ X = w'
def Rooms (w : World) (vs : List Value) (ts : List Tree) : Prop := ∀ (i : Nat) (t : Tree), ts[i]? = some t → ∃ v T gi Fr, vs[i]? = some v ∧ PartR w v t T gi Fr

theorem leaf_rooms (g : Nat) (b : Box) (p d : Int) (w : World) (h : LeafAt w g b p) (hs : (Tree.leaf b p).sound = true) : Calls Try.prog 131 #[.pointer (some ⟨g, 0, none⟩), .int .i64 d] w fun e w' => e = .returned (.int .i64 (b.ext d - 1)) ∧ w = w' := by
  have HE : Hid (Calls Try.prog 27 #[.pointer (some ⟨g, 0, none⟩), .int .i64 d] w fun e w' => e = .returned (.int .i64 (b.ext d)) ∧ w = w') := box_extent g b d w h.box
  have hb := room_bound (.leaf b p) d hs
  change 0 ≤ b.ext d - 1 ∧ b.ext d - 1 ≤ 1000 * ((1 : Nat) : Int) at hb
  obtain ⟨x, hx⟩ : ∃ x, b.ext d = x := ⟨_, rfl⟩
  rw [hx] at HE hb ⊢
  have hw : IntKind.i64.wrap (x - 1) = x - 1 := by rw [IntKind.wrap_i64]; omega
  clear h hs hx hb
  go_enter Try.func131, Try.ntmps131
  go_wp2_with (go_at_call 27; refine HE.out.mono ?_; rintro e w1 ⟨rfl, rfl⟩)
  go_ret
  exact ⟨rfl, rfl⟩

set_option maxHeartbeats 1000000 in
theorem split_rooms (g : Nat) (b : Box) (k : Int) (pg n cap : Nat) (vs : List Value) (ts : List Tree) (d : Int) (w : World) (hS : SplitAt w g b k (.slice (some ⟨pg, 0, none⟩) n cap)) (hn : ts.length = n) (hR : ∀ (i : Nat) u, vs[i]? = some u → w.cell? ⟨pg, i, none⟩ = some u) (hT : Rooms w vs ts) (hs : soundAll ts b k = true) (hz : sizes ts ≤ 1000) : Calls Try.prog 139 #[.pointer (some ⟨g, 0, none⟩), .int .i64 d] w fun e w' => e = .returned (.int .i64 (if d = k then roomAll ts d else roomLeast ts d)) ∧ w = w' := by
  have q4 : w.cell? ⟨g, 4, none⟩ = some (.int .i64 k) := cell_atL hS 4
  have q5 : w.cell? ⟨g, 5, none⟩ = some (.slice (some ⟨pg, 0, none⟩) n cap) := cell_atL hS 5
  have HR : Hid (∀ (i : Nat) u, vs[i]? = some u → w.cell? ⟨pg, i, none⟩ = some u) := hR
  have HT : Hid (Rooms w vs ts) := hT
  have HN : Hid (ts.length = n) := hn
  have HSo : Hid (soundAll ts b k = true) := hs
  have HZ : Hid (sizes ts ≤ 1000) := hz
  have hn1 : n ≤ 1000 := by have := length_sizes ts; omega
  obtain ⟨Z, hZZ⟩ : ∃ z, (if d = k then roomAll ts d else roomLeast ts d) = z := ⟨_, rfl⟩
  have HZZ : Hid ((if d = k then roomAll ts d else roomLeast ts d) = Z) := hZZ
  rw [hZZ]
  clear hS hn hR hT hs hz hZZ
  go_enter Try.func139, Try.ntmps139
  go_wp2
  go_loopw [5, 6, 15] (fun va vl v wr => ∃ i : Nat, i ≤ n ∧ va = .int .i64 (roomAll (ts.take i) d) ∧ vl = .int .i64 (roomLeast (ts.take i) d) ∧ v = .int .i64 i ∧ w = wr) (fun _ _ v _ => n - (intOf v).toNat)
  case atStart => exact ⟨0, Nat.zero_le _, rfl, rfl, rfl, rfl⟩
  case round =>
    obtain ⟨i, hi, rfl, rfl, rfl, rfl⟩ := hrel
    by_cases hlt : i < n
    · obtain ⟨t, ht⟩ : ∃ t, ts[i]? = some t := ⟨_, List.getElem?_eq_getElem (by rw [HN.out]; exact hlt)⟩
      obtain ⟨pv, T, gi, Fr, hpv, HP⟩ := HT.out i t ht
      have ri := HR.out i _ hpv
      have hval := HP.val
      subst hval
      have m1 := HP.mR
      have m2 := HP.fR
      have HcR : Hid (Calls Try.prog Fr #[.pointer (some ⟨gi, 0, none⟩), .int .i64 d] w fun e w' => e = .returned (.int .i64 (t.room d)) ∧ w = w') := HP.cR d w (Below.refl _ _)
      have h1 := roomAll_take ts d i t ht
      have h2 := roomLeast_take ts d i t ht
      have h3 := (rooms_bound (ts.take i) b k d (soundAll_taken ts b k HSo.out i)).1
      have h4 := (rooms_bound (ts.take (i + 1)) b k d (soundAll_taken ts b k HSo.out (i + 1))).1
      have h5 := sizes_taken ts i
      have h6 := sizes_taken ts (i + 1)
      have h7 := HZ.out
      obtain ⟨A, hA⟩ : ∃ x, roomAll (ts.take i) d = x := ⟨_, rfl⟩
      obtain ⟨B, hB⟩ : ∃ x, roomLeast (ts.take i) d = x := ⟨_, rfl⟩
      obtain ⟨R, hRr⟩ : ∃ x, t.room d = x := ⟨_, rfl⟩
      rw [hA, hRr] at h1
      rw [hB, hRr] at h2
      rw [h1] at h4
      rw [hA] at h3
      rw [hRr] at HcR
      rw [hA, hB]
      have hw : IntKind.i64.wrap (A + R) = A + R := by rw [IntKind.wrap_i64]; omega
      have H1 : Hid (roomAll (ts.take (i + 1)) d = A + R) := h1
      have H2 : Hid (roomLeast (ts.take (i + 1)) d = min B R) := h2
      clear HP hpv ht h1 h2 h3 h4 h5 h6 h7 hA hB hRr
      go_wp2_with fail
      refine HcR.out.mono ?_
      rintro e w1 ⟨rfl, rfl⟩
      go_wp2
      go_roundw
      case rel => exact ⟨i + 1, by omega, by rw [H1.out], by rw [H2.out]; try (congr 1; split <;> omega), by go_num, trivial⟩
      case measure => simp [intOf]; omega
    · have hin : i = n := by omega
      subst hin
      rw [List.take_of_length_le (by rw [HN.out]; exact Nat.le_refl _)]
      obtain ⟨A, hA⟩ : ∃ x, roomAll ts d = x := ⟨_, rfl⟩
      obtain ⟨B, hB⟩ : ∃ x, roomLeast ts d = x := ⟨_, rfl⟩
      rw [hA, hB]
      have HAe : Hid (d = k → A = Z) := fun e => by rw [← HZZ.out, if_pos e, hA]
      have HBe : Hid (¬ d = k → B = Z) := fun e => by rw [← HZZ.out, if_neg e, hB]
      clear hA hB
      by_cases hdk : d = k
      · have hdk' : (d == k) = true := by simpa using hdk
        have HD : Hid (A = Z) := HAe.out hdk
        clear hdk HAe HBe
        go_wp2
        go_ret
        exact ⟨by rw [← HD.out]; rfl, rfl⟩
      · have hdk' : (d == k) = false := by simpa using hdk
        have HD : Hid (B = Z) := HBe.out hdk
        clear hdk HAe HBe
        go_wp2
        go_ret
        exact ⟨by rw [← HD.out]; rfl, rfl⟩

mutual
theorem Tree.At.partR : ∀ {t : Tree} {w : World} {B : Nat} {v : Value} {fp : List Nat}, t.At w B v fp → t.sound = true → t.size ≤ 1000 → ∃ T gi Fr, PartR w v t T gi Fr
  | .leaf b p, w, B, v, fp, h, hs, hz => by
    obtain ⟨g, rfl, h2, rfl⟩ := h
    exact ⟨_, g, _, { val := rfl, mR := l_room g, fR := l_fR, cR := fun d X hX => leaf_rooms g b p d X (h2.below hX) hs }⟩
  | .split b k ts, w, B, v, fp, h, hs, hz => by
    obtain ⟨g, sl, vs, fs, rfl, h2, h3, h4, rfl⟩ := h
    have hvl := h4.length
    have hs' := hs
    unfold Tree.sound at hs'
    simp only [Bool.and_eq_true, decide_eq_true_eq] at hs'
    unfold Tree.size at hz
    obtain ⟨pg, cap, hsl, hseen⟩ := seen_of h2 h3 (by intro e; rw [e] at hvl; have := hs'.1.1; simp at hvl; omega)
    subst hsl
    refine ⟨_, g, _, { val := rfl, mR := s_room g, fR := s_fR, cR := fun d X hX => ?_ }⟩
    exact split_rooms g b k pg vs.length cap vs ts d X (h2.below hX) hvl.symm (fun i u hu => (hX.cell (p := ⟨pg, i, none⟩) (World.block_lt_of_cell? w _ (hseen.row i u hu))).trans (hseen.row i u hu)) (partsAt.rooms (h4.below hX) hs'.2.1 (by omega)) hs'.2.1 (by omega)
theorem partsAt.rooms : ∀ {ts : List Tree} {w : World} {B : Nat} {vs : List Value} {fp : List Nat} {b : Box} {k : Int}, partsAt w B ts vs fp → soundAll ts b k = true → sizes ts ≤ 1000 → Rooms w vs ts
  | [], w, B, vs, fp, b, k, h, hs, hz => by
    intro i t hi
    simp at hi
  | t :: ts, w, B, vs, fp, b, k, h, hs, hz => by
    obtain ⟨v, vs', f, f', rfl, h2, h3, rfl⟩ := h
    unfold soundAll at hs
    simp only [Bool.and_eq_true] at hs
    unfold sizes at hz
    have h4 := Tree.At.partR h2 hs.1.1 (by omega)
    have h5 := partsAt.rooms h3 hs.2 (by omega)
    intro i t' hi
    cases i with
    | zero =>
      simp at hi
      subst hi
      obtain ⟨T, gi, Fr, hp⟩ := h4
      exact ⟨v, T, gi, Fr, rfl, hp⟩
    | succ i => exact h5 i t' (by simpa using hi)
end

end Go.Proofs.Ytnepemlagnnngaa

namespace Go.Proofs.Ytnepemlagnnngaa
open Go.RowKit
set_option linter.unusedVariables false
set_option maxRecDepth 100000

theorem nodesOf_get : ∀ (ts : List Tree) (i : Nat) (t : Tree), ts[i]? = some t → (nodesOf ts)[i]? = some (nodeOf t)
  | [], i, t, h => by simp at h
  | a :: ts, 0, t, h => by
    simp at h
    subst h
    rfl
  | a :: ts, i + 1, t, h => by
    show (nodesOf ts)[i]? = _
    exact nodesOf_get ts i t (by simpa using h)

/-- The least extents. -/
def leastT (t : Tree) (d : Int) : Int := t.box.ext d - t.room d
theorem lay_size {l : List CellV} {t : Tree} (h : IsLay l t) : t.size ≤ 63 := by
  have h3 := Tree.tell_length t 0
  rw [h.tell] at h3
  have := h.size
  omega
theorem leaf_or_split {W : World} {B : Nat} {t : Tree} {T : TypeId} {g : Nat} {fp : List Nat} (h : t.At W B (.iface T (.pointer (some ⟨g, 0, none⟩))) fp) : ∀ d X, Below W.heap.size W X → (method 279 T (.pointer (some ⟨g, 0, none⟩)) "mullion/layout.extent").run Try.prog X = .ok (27, .pointer (some ⟨g, 0, none⟩)) X ∧ Calls Try.prog 27 #[.pointer (some ⟨g, 0, none⟩), .int .i64 d] X fun e w' => e = .returned (.int .i64 (t.box.ext d)) ∧ X = w' := by
  obtain ⟨g', hv, hb, _⟩ := h.own
  intro d X hX
  rcases hv with hv | hv
  · cases hv
    exact ⟨l_extent _ X, box_extent _ t.box d X (hb.below hX)⟩
  · cases hv
    exact ⟨s_extent _ X, box_extent _ t.box d X (hb.below hX)⟩
theorem least_any (t : Tree) (T : TypeId) (g : Nat) (fp : List Nat) (d : Int) (w : World) (h : t.At w 0 (.iface T (.pointer (some ⟨g, 0, none⟩))) fp) (hs : t.sound = true) (hz : t.size ≤ 63) : Calls Try.prog 71 #[.iface T (.pointer (some ⟨g, 0, none⟩)), .int .i64 d] w fun e w' => e = .returned (.int .i64 (leastT t d)) ∧ w = w' := by
  obtain ⟨T', gi, Fr, hp⟩ := h.partR hs (by omega)
  have e := hp.val
  cases e
  have m1 : ∀ W, (method 279 T (.pointer (some ⟨g, 0, none⟩)) "mullion/layout.extent").run Try.prog W = .ok (27, .pointer (some ⟨g, 0, none⟩)) W := by
    obtain ⟨g', hv, _, _⟩ := h.own
    rcases hv with hv | hv
    · cases hv; exact l_extent _
    · cases hv; exact s_extent _
  have HE : Hid (Calls Try.prog 27 #[.pointer (some ⟨g, 0, none⟩), .int .i64 d] w fun e w' => e = .returned (.int .i64 (t.box.ext d)) ∧ w = w') := (leaf_or_split h d w (Below.refl _ _)).2
  have HR : Hid (Calls Try.prog Fr #[.pointer (some ⟨g, 0, none⟩), .int .i64 d] w fun e w' => e = .returned (.int .i64 (t.room d)) ∧ w = w') := hp.cR d w (Below.refl _ _)
  have m2 := hp.mR
  have m3 := hp.fR
  have hb := room_bound t d hs
  have hsd := t.sound_sides hs
  have hx : 1 ≤ t.box.ext d ∧ t.box.ext d ≤ 1000 := by unfold Box.ext; split <;> omega
  unfold leastT
  obtain ⟨X, hX⟩ : ∃ x, t.box.ext d = x := ⟨_, rfl⟩
  obtain ⟨R, hRr⟩ : ∃ x, t.room d = x := ⟨_, rfl⟩
  rw [hX] at HE hx ⊢
  rw [hRr] at HR hb ⊢
  have hw : IntKind.i64.wrap (X - R) = X - R := by rw [IntKind.wrap_i64]; omega
  clear hp h hs hz hb hsd hx hX hRr
  go_enter Try.func71, Try.ntmps71
  go_wp2_with fail
  refine HE.out.mono ?_
  rintro e w1 ⟨rfl, rfl⟩
  go_wp2_with fail
  refine HR.out.mono ?_
  rintro e w1 ⟨rfl, rfl⟩
  go_wp2
  go_ret
  exact ⟨rfl, rfl⟩

/-- What Least answers. -/
def leastA (l : List CellV) (d : Int) : Int := match readF l with
  | none => 0
  | some t => leastT t d
end Go.Proofs.Ytnepemlagnnngaa
