/-
  Layouts: the small calls of a split: isCut, half, wanted, with, a leaf's stretch and way, mayJoin, inOrder, replace at the root.
-/
import Derived.Test.YtcjcekaahooamaaLRead
namespace Go.Proofs.Ytcjcekaahooamaa
open Go.RowKit
set_option linter.unusedVariables false
set_option maxRecDepth 100000

theorem isCut_any (k : Int) (w : World) : Calls Try.prog 28 #[.int .i64 k] w fun e w' => e = .returned (.bool (decide (k = 2 ∨ k = 3))) ∧ w = w' := by
  by_cases h2 : k = 2
  · subst h2
    go_enter Try.func28, Try.ntmps28
    go_wp2
    go_ret
    exact ⟨rfl, rfl⟩
  · have k2 : (k == 2) = false := by simpa using h2
    obtain ⟨r, hr⟩ : ∃ r, (k == 3) = r := ⟨_, rfl⟩
    have HR : Hid (decide (k = 2 ∨ k = 3) = r) := by
      show _ = _
      rw [← hr]
      simp [h2]
      cases h : (k == 3) <;> simp_all
    clear h2
    go_enter Try.func28, Try.ntmps28
    go_wp2
    go_ret
    exact ⟨by rw [HR.out]; rfl, rfl⟩

def halfF (s : Int) : Int := (s - 1) / 2
theorem half_any (s : Int) (w : World) (hs : 1 ≤ s ∧ s ≤ 1000000) : Calls Try.prog 43 #[.int .i64 s] w fun e w' => e = .returned (.int .i64 (halfF s)) ∧ w = w' := by
  have hw : IntKind.i64.wrap (s - 1) = s - 1 := by rw [IntKind.wrap_i64]; omega
  have hq : (s - 1).tdiv 2 = halfF s := by unfold halfF; rw [Int.tdiv_eq_ediv_of_nonneg (by omega)]
  have hw2 : IntKind.i64.wrap (halfF s) = halfF s := by rw [IntKind.wrap_i64]; unfold halfF; omega
  go_enter Try.func43, Try.ntmps43
  go_wp2
  go_ret
  exact ⟨rfl, rfl⟩
def wantedF (z s : Int) : Int := if z < 1 then halfF s else z
theorem wanted_any (z s : Int) (w : World) (hs : 1 ≤ s ∧ s ≤ 1000000) : Calls Try.prog 31 #[.int .i64 z, .int .i64 s] w fun e w' => e = .returned (.int .i64 (wantedF z s)) ∧ w = w' := by
  have HH : Hid (∀ W, Calls Try.prog 43 #[.int .i64 s] W fun e w' => e = .returned (.int .i64 (halfF s)) ∧ W = w') := fun W => half_any s W hs
  unfold wantedF
  by_cases hz : z < 1
  · rw [if_pos hz]
    clear hs
    go_enter Try.func31, Try.ntmps31
    go_wp2_with (go_at_call 43; refine (HH.out _).mono ?_; rintro e w1 ⟨rfl, rfl⟩)
    go_ret
    exact ⟨rfl, rfl⟩
  · rw [if_neg hz]
    clear hs
    go_enter Try.func31, Try.ntmps31
    go_wp2
    go_ret
    exact ⟨rfl, rfl⟩

theorem leaf_way_yes (g : Nat) (b : Box) (p : Int) (w : World) (h : LeafAt w g b p) : Calls Try.prog 95 #[.pointer (some ⟨g, 0, none⟩), .int .i64 p] w fun e w' => e = .returned (.tuple #[.slice none 0 0, .pointer (some ⟨g, 0, none⟩)]) ∧ w = w' := by
  have q4 : w.cell? ⟨g, 4, none⟩ = some (.int .i64 p) := cell_atL h 4
  clear h
  go_enter Try.func95, Try.ntmps95
  go_wp2
  all_goals go_ret2
  all_goals exact ⟨rfl, rfl⟩
theorem leaf_way_no (g : Nat) (b : Box) (p q : Int) (w : World) (h : LeafAt w g b p) (hq : p ≠ q) : Calls Try.prog 95 #[.pointer (some ⟨g, 0, none⟩), .int .i64 q] w fun e w' => e = .returned (.tuple #[.slice none 0 0, .pointer none]) ∧ w = w' := by
  have q4 : w.cell? ⟨g, 4, none⟩ = some (.int .i64 p) := cell_atL h 4
  have hn : (p != q) = true := by simpa using hq
  clear h hq
  go_enter Try.func95, Try.ntmps95
  go_wp2
  all_goals go_ret2
  all_goals exact ⟨rfl, rfl⟩

theorem leaf_stretches (g : Nat) (b : Box) (p k n : Int) (w : World) (h : LeafAt w g b p) (h1 : -1000000 ≤ b.w ∧ b.w ≤ 1000000) (h2 : -1000000 ≤ b.h ∧ b.h ≤ 1000000) (h3 : -1000000 ≤ n ∧ n ≤ 1000000) :
    Calls Try.prog 33 #[.pointer (some ⟨g, 0, none⟩), .int .i64 k, .int .i64 n] w fun e w' => e = .returned (.tuple #[]) ∧ LeafAt w' g (b.str k n) p ∧ w.grownBy w' (some g) := by
  obtain ⟨q0, q1, q2, q3, qf⟩ := h.box
  have f2 := qf 2 (by decide)
  have f3 := qf 3 (by decide)
  have HL : Hid (LeafAt w g b p) := h
  have w1 : IntKind.i64.wrap (b.w + n) = b.w + n := by rw [IntKind.wrap_i64]; omega
  have w2 : IntKind.i64.wrap (b.h + n) = b.h + n := by rw [IntKind.wrap_i64]; omega
  clear qf h h1 h2 h3
  by_cases hk : k = 2
  · subst hk
    go_enter Try.func33, Try.ntmps33
    go_wp2
    exact ⟨rfl, .tuple #[], (by simp [results, Try.results33, go_sem]), rfl, HL.out.set 2 (.int .i64 (b.w + n)) (b' := b.str 2 n) rfl, grownBy_set _ _ _ _⟩
  · have hk2 : (k == 2) = false := by simpa using hk
    have hst : b.str k n = { b with h := b.h + n } := if_neg hk
    rw [hst]
    go_enter Try.func33, Try.ntmps33
    go_wp2
    exact ⟨rfl, .tuple #[], (by simp [results, Try.results33, go_sem]), rfl, HL.out.set 3 (.int .i64 (b.h + n)) (b' := { b with h := b.h + n }) rfl, grownBy_set _ _ _ _⟩

/-- May a new pane have that id? -/
def joinE (l : List CellV) (id : Int) : Int := if idB id = false ∨ (idsOf l).contains id = true then 43 else if (idsOf l).length = 32 then 45 else 0
theorem contains_any (u : Value) (zs : List Int) (x : Int) (B : Nat) (w : World) (h : IOwns w B u zs) (hn : zs.length ≤ 1000000) : Calls Try.prog 42 #[u, .int .i64 x] w fun e w' => e = .returned (.bool (zs.contains x)) ∧ w = w' := by
  rcases h.2 with ⟨rfl, h0⟩ | ⟨g, cap, cur, rfl, hb, hg, h1, h2, h3, h4⟩
  · have : zs = [] := List.length_eq_zero_iff.1 h0
    subst this
    exact (Try.slices_Contains_int_empty none 0 x w).mono fun e w' h => ⟨by rw [h.1]; rfl, h.2.symm⟩
  · have hc : ∀ j, j < zs.length → w.cell? ⟨g, 0 + j, none⟩ = some (.int .i64 (zs.getD j 0)) := by
      intro j hj
      rw [Nat.zero_add, cell_atL hg]
      have : (cur.toList.take (zs.length * 1))[j]? = (zs.map (Value.int .i64))[j]? := by rw [h4]
      rw [List.getElem?_take_of_lt (by omega)] at this
      rw [← Array.getElem?_toList, this]
      simp [List.getD, hj]
    refine (Try.slices_Contains_int g 0 zs.length cap zs x w (Nat.le_refl _) (by omega) hc).mono fun e w' h => ?_
    rw [List.take_of_length_le (Nat.le_refl _)] at h
    exact ⟨h.1, h.2.symm⟩
theorem joinE_val (l : List CellV) (id : Int) (a c : Bool) (n : Nat) (ha : idB id = a) (hc : (idsOf l).contains id = c) (hn : (idsOf l).length = n) : joinE l id = if a = false ∨ c = true then 43 else if n = 32 then 45 else 0 := by
  unfold joinE
  rw [ha, hc, hn]
theorem mayJoin_any (v : Value) (l : List CellV) (id : Int) (w : World) (h : CellsIn w v l) (hl : l.length ≤ 1000) : Calls Try.prog 29 #[v, .int .i64 id] w fun e w' => e = .returned (.int .i64 (joinE l id)) ∧ Below w.heap.size w w' := by
  have HP : Hid (Calls Try.prog 21 #[v] w fun e w' => ∃ ad n cap, e = .returned (.slice ad n cap) ∧ (idsOf l).length = n ∧ Below w.heap.size w w' ∧ Calls Try.prog 42 #[.slice ad n cap, .int .i64 id] w' fun e w2 => e = .returned (.bool ((idsOf l).contains id)) ∧ w' = w2) := by
    refine (paneIds_any v l w h (by omega)).mono ?_
    rintro e w1 ⟨u, rfl, hu, hb⟩
    have hc := contains_any u _ id _ w1 hu (by have := idsOf_length l; omega)
    rcases hu.2 with ⟨rfl, h0⟩ | ⟨g, cap, cur, rfl, _⟩
    · exact ⟨none, 0, 0, rfl, h0, hb, hc⟩
    · exact ⟨_, _, _, rfl, rfl, hb, hc⟩
  have HI : Hid (∀ W, Calls Try.prog 27 #[.int .i64 id] W fun e w' => e = .returned (.bool (idB id)) ∧ W = w') := isId_any id
  obtain ⟨a, ha⟩ : ∃ a, idB id = a := ⟨_, rfl⟩
  obtain ⟨c, hc⟩ : ∃ c, (idsOf l).contains id = c := ⟨_, rfl⟩
  have HE : Hid (∀ n, (idsOf l).length = n → joinE l id = if a = false ∨ c = true then 43 else if n = 32 then 45 else 0) := fun n => joinE_val l id a c n ha hc
  obtain ⟨r, hr⟩ : ∃ r, joinE l id = r := ⟨_, rfl⟩
  rw [ha] at HI
  rw [hc] at HP
  rw [hr] at HE ⊢
  clear ha hc hr h
  go_enter Try.func29, Try.ntmps29
  go_wp2_with fail
  refine HP.out.mono ?_
  rintro e w1 ⟨ad, n, cap, rfl, hn, hb, hcc⟩
  have HB : Hid (Below w.heap.size w w1) := hb
  have HC : Hid (Calls Try.prog 42 #[.slice ad n cap, .int .i64 id] w1 _) := hcc
  have HE2 : Hid _ := HE.out n hn
  clear hb hcc hn HE
  cases a
  · have HR : Hid (r = 43) := by show r = 43; have h := HE2.out; simpa using h
    go_wp2_with (go_at_call 27; refine (HI.out _).mono ?_; rintro e w2 ⟨rfl, rfl⟩)
    go_ret
    exact ⟨by rw [HR.out]; rfl, HB.out⟩
  · cases c
    · by_cases h32 : n = 32
      · have HR : Hid (r = 45) := by show r = 45; have h := HE2.out; simpa [h32] using h
        have hi : ((n : Int) == 32) = true := by simp; omega
        clear HE2 h32
        go_wp2_with (first | (go_at_call 27; refine (HI.out _).mono ?_; rintro e w2 ⟨rfl, rfl⟩) | (go_at_call 42; refine HC.out.mono ?_; rintro e w2 ⟨rfl, rfl⟩))
        go_ret
        exact ⟨by rw [HR.out]; rfl, HB.out⟩
      · have HR : Hid (r = 0) := by show r = 0; have h := HE2.out; simpa [h32] using h
        have hi : ((n : Int) == 32) = false := by simp; omega
        clear HE2 h32
        go_wp2_with (first | (go_at_call 27; refine (HI.out _).mono ?_; rintro e w2 ⟨rfl, rfl⟩) | (go_at_call 42; refine HC.out.mono ?_; rintro e w2 ⟨rfl, rfl⟩))
        go_ret
        exact ⟨by rw [HR.out]; rfl, HB.out⟩
    · have HR : Hid (r = 43) := by show r = 43; have h := HE2.out; simpa using h
      clear HE2
      go_wp2_with (first | (go_at_call 27; refine (HI.out _).mono ?_; rintro e w2 ⟨rfl, rfl⟩) | (go_at_call 42; refine HC.out.mono ?_; rintro e w2 ⟨rfl, rfl⟩))
      go_ret
      exact ⟨by rw [HR.out]; rfl, HB.out⟩

theorem inOrder_any (T1 T2 : TypeId) (g1 g2 : Nat) (bf : Bool) (w : World) : Calls Try.prog 36 #[.iface T1 (.pointer (some ⟨g1, 0, none⟩)), .iface T2 (.pointer (some ⟨g2, 0, none⟩)), .bool bf] w fun e w' => e = .returned (.slice (some ⟨w.heap.size, 0, none⟩) 2 2) ∧ w' = w.alloc (.cells (if bf then #[.iface T2 (.pointer (some ⟨g2, 0, none⟩)), .iface T1 (.pointer (some ⟨g1, 0, none⟩))] else #[.iface T1 (.pointer (some ⟨g1, 0, none⟩)), .iface T2 (.pointer (some ⟨g2, 0, none⟩))]) 35) := by
  cases bf
  · go_enter Try.func36, Try.ntmps36
    go_wp2
    go_ret
    exact ⟨rfl, rfl⟩
  · go_enter Try.func36, Try.ntmps36
    go_wp2
    go_ret
    exact ⟨rfl, rfl⟩
theorem replace_root (root p : Value) (ad : Option Addr) (cap : Nat) (w : World) : Calls Try.prog 34 #[root, .slice ad 0 cap, p] w fun e w' => e = .returned p ∧ w = w' := by
  go_enter Try.func34, Try.ntmps34
  go_wp2
  go_ret
  exact ⟨rfl, rfl⟩

/-- A box like this one, but for its extent. -/
def Box.with (b : Box) (k n : Int) : Box := b.str k (n - b.ext k)
theorem box_with (g : Nat) (b : Box) (k n : Int) (w : World) (h : BoxAt w g b) (h1 : 0 ≤ b.w ∧ b.w ≤ 1000) (h2 : 0 ≤ b.h ∧ b.h ≤ 1000) (h3 : -1000 ≤ n ∧ n ≤ 1000) :
    Calls Try.prog 32 #[.pointer (some ⟨g, 0, none⟩), .int .i64 k, .int .i64 n] w fun e w' => e = .returned (.agg #[.int .i64 (b.with k n).x, .int .i64 (b.with k n).y, .int .i64 (b.with k n).w, .int .i64 (b.with k n).h]) ∧ Below w.heap.size w w' := by
  obtain ⟨q0, q1, q2, q3, qf⟩ := h
  have HB : Hid (BoxAt w g b) := ⟨q0, q1, q2, q3, qf⟩
  have hlt := HB.out.lt
  obtain ⟨e, he⟩ : ∃ e, b.ext k = e := ⟨_, rfl⟩
  have heb : 0 ≤ e ∧ e ≤ 1000 := by rw [← he]; unfold Box.ext; split <;> omega
  have hw : IntKind.i64.wrap (n - e) = n - e := by rw [IntKind.wrap_i64]; omega
  have HE : Hid (∀ X, Below w.heap.size w X → Calls Try.prog 30 #[.pointer (some ⟨g, 0, none⟩), .int .i64 k] X fun e' w' => e' = .returned (.int .i64 e) ∧ X = w') := fun X hX => he ▸ box_extent g b k X (HB.out.below hX)
  have HS : Hid (∀ X, BoxAt X (w.heap.size + 1) b → Calls Try.prog 33 #[.pointer (some ⟨w.heap.size + 1, 0, none⟩), .int .i64 k, .int .i64 (n - e)] X fun e' w' => e' = .returned (.tuple #[]) ∧ BoxAt w' (w.heap.size + 1) (b.str k (n - e)) ∧ X.grownBy w' (some (w.heap.size + 1)) ∧ (∀ o, 4 ≤ o → w'.cell? ⟨w.heap.size + 1, o, none⟩ = X.cell? ⟨w.heap.size + 1, o, none⟩)) := fun X h => box_stretch _ _ k (n - e) X h (by omega) (by omega) (by omega)
  obtain ⟨b', hb'⟩ : ∃ b', b.str k (n - e) = b' := ⟨_, rfl⟩
  have hd : b.with k n = b' := by unfold Box.with; rw [he, hb']
  rw [hd]
  rw [hb'] at HS
  clear he qf heb h1 h2 h3 hd hb'
  go_enter Try.func32, Try.ntmps32
  go_wp2_with fail
  have HX : Hid (∀ o o', Below w.heap.size w ((w.alloc o).alloc o')) := fun o o' => ((Below.refl _ _).alloc (Nat.le_refl _) _).alloc (by simp) _
  have HZ : Hid (∀ o, BoxAt ((w.alloc (.cells #[.int .i64 0, .int .i64 0, .int .i64 0, .int .i64 0] 42)).alloc o) w.heap.size ⟨0, 0, 0, 0⟩) := fun o => (BoxAt.new w 42).below ((Below.refl _ _).alloc (Nat.le_refl _) o)
  have HY : Hid (∀ o, BoxAt ((w.alloc o).alloc (.cells #[.int .i64 b.x, .int .i64 b.y, .int .i64 b.w, .int .i64 b.h] 42)) (w.heap.size + 1) b) := fun o => by
    have hs : (w.alloc o).heap.size = w.heap.size + 1 := by simp
    have hn := heap_alloc_new (w.alloc o) (.cells #[.int .i64 b.x, .int .i64 b.y, .int .i64 b.w, .int .i64 b.h] 42)
    rw [hs] at hn
    exact ⟨cell_atL hn 0, cell_atL hn 1, cell_atL hn 2, cell_atL hn 3, fun o _ => free_atL hn o⟩
  refine (HE.out _ (HX.out _ _)).mono ?_
  rintro e' w1 ⟨rfl, rfl⟩
  clear q0 q1 q2 q3
  go_wp2_with fail
  refine (HS.out _ (HY.out _)).mono ?_
  rintro e' w2 ⟨rfl, hb2, hg2, _⟩
  obtain ⟨z0, z1, z2, z3, zf⟩ := (HZ.out _).grown hg2 (by omega)
  obtain ⟨r0, r1, r2, r3, _⟩ := hb2
  have f0 := zf 0 (by decide)
  have f1 := zf 1 (by decide)
  have f2 := zf 2 (by decide)
  have f3 := zf 3 (by decide)
  have HB2 : Hid (Below w.heap.size w w2) := below_grown (HX.out _ _) hg2 (by omega)
  clear zf hg2 HZ HY HX HE HS
  go_wp2
  refine bodyPost_ret (v := .agg #[.int .i64 b'.x, .int .i64 b'.y, .int .i64 b'.w, .int .i64 b'.h]) (by simp [results, Try.results32, go_sem, z0, z1, z2, z3]) rfl ?_
  exact ⟨rfl, below_grown (below_grown (below_grown (below_grown HB2.out (grownBy_set _ _ _ _) (Nat.le_refl _)) (grownBy_set _ _ _ _) (Nat.le_refl _)) (grownBy_set _ _ _ _) (Nat.le_refl _)) (grownBy_set _ _ _ _) (Nat.le_refl _)⟩

end Go.Proofs.Ytcjcekaahooamaa
