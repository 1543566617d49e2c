/-
  Layouts: the small calls of a split: isCut, half, wanted, with, a leaf's stretch and way, mayJoin, inOrder, replace at the root.
  Layouts: join, of parts none of which is of that kind.
  Layouts: the layout of one pane is read, checked, cut.
-/
import Derived.Test.YtlaelkcmeaiajaaCRd
namespace Go.Proofs.Ytlaelkcmeaiajaa
open Go.RowKit
set_option linter.unusedVariables false
set_option maxRecDepth 100000

theorem isCut_any (k : Int) (w : World) : Calls Try.prog 33 #[.int .i64 k] w fun e w' => e = .returned (.bool (decide (k = 2 ∨ k = 3))) ∧ w = w' := by
  by_cases h2 : k = 2
  · subst h2
    go_enter Try.func33, Try.ntmps33
    go_wp2
    go_ret
    exact ⟨rfl, rfl⟩
  · have k2 : (k == 2) = false := by simpa using h2
    obtain ⟨r, hr⟩ : ∃ r, (k == 3) = r := ⟨_, rfl⟩
    have HR : Hid (decide (k = 2 ∨ k = 3) = r) := by
      show _ = _
      rw [← hr]
      simp [h2]
      cases h : (k == 3) <;> simp_all
    clear h2
    go_enter Try.func33, Try.ntmps33
    go_wp2
    go_ret
    exact ⟨by rw [HR.out]; rfl, rfl⟩

def halfF (s : Int) : Int := (s - 1) / 2
theorem half_any (s : Int) (w : World) (hs : 1 ≤ s ∧ s ≤ 1000000) : Calls Try.prog 51 #[.int .i64 s] w fun e w' => e = .returned (.int .i64 (halfF s)) ∧ w = w' := by
  have hw : IntKind.i64.wrap (s - 1) = s - 1 := by rw [IntKind.wrap_i64]; omega
  have hq : (s - 1).tdiv 2 = halfF s := by unfold halfF; rw [Int.tdiv_eq_ediv_of_nonneg (by omega)]
  have hw2 : IntKind.i64.wrap (halfF s) = halfF s := by rw [IntKind.wrap_i64]; unfold halfF; omega
  go_enter Try.func51, Try.ntmps51
  go_wp2
  go_ret
  exact ⟨rfl, rfl⟩
def wantedF (z s : Int) : Int := if z < 1 then halfF s else z
theorem wanted_any (z s : Int) (w : World) (hs : 1 ≤ s ∧ s ≤ 1000000) : Calls Try.prog 36 #[.int .i64 z, .int .i64 s] w fun e w' => e = .returned (.int .i64 (wantedF z s)) ∧ w = w' := by
  have HH : Hid (∀ W, Calls Try.prog 51 #[.int .i64 s] W fun e w' => e = .returned (.int .i64 (halfF s)) ∧ W = w') := fun W => half_any s W hs
  unfold wantedF
  by_cases hz : z < 1
  · rw [if_pos hz]
    clear hs
    go_enter Try.func36, Try.ntmps36
    go_wp2_with (go_at_call 51; refine (HH.out _).mono ?_; rintro e w1 ⟨rfl, rfl⟩)
    go_ret
    exact ⟨rfl, rfl⟩
  · rw [if_neg hz]
    clear hs
    go_enter Try.func36, Try.ntmps36
    go_wp2
    go_ret
    exact ⟨rfl, rfl⟩

theorem leaf_way_yes (g : Nat) (b : Box) (p : Int) (w : World) (h : LeafAt w g b p) : Calls Try.prog 108 #[.pointer (some ⟨g, 0, none⟩), .int .i64 p] w fun e w' => e = .returned (.tuple #[.slice none 0 0, .pointer (some ⟨g, 0, none⟩)]) ∧ w = w' := by
  have q4 : w.cell? ⟨g, 4, none⟩ = some (.int .i64 p) := cell_atL h 4
  clear h
  go_enter Try.func108, Try.ntmps108
  go_wp2
  all_goals go_ret2
  all_goals exact ⟨rfl, rfl⟩
theorem leaf_way_no (g : Nat) (b : Box) (p q : Int) (w : World) (h : LeafAt w g b p) (hq : p ≠ q) : Calls Try.prog 108 #[.pointer (some ⟨g, 0, none⟩), .int .i64 q] w fun e w' => e = .returned (.tuple #[.slice none 0 0, .pointer none]) ∧ w = w' := by
  have q4 : w.cell? ⟨g, 4, none⟩ = some (.int .i64 p) := cell_atL h 4
  have hn : (p != q) = true := by simpa using hq
  clear h hq
  go_enter Try.func108, Try.ntmps108
  go_wp2
  all_goals go_ret2
  all_goals exact ⟨rfl, rfl⟩

theorem leaf_stretches (g : Nat) (b : Box) (p k n : Int) (w : World) (h : LeafAt w g b p) (h1 : -1000000 ≤ b.w ∧ b.w ≤ 1000000) (h2 : -1000000 ≤ b.h ∧ b.h ≤ 1000000) (h3 : -1000000 ≤ n ∧ n ≤ 1000000) :
    Calls Try.prog 38 #[.pointer (some ⟨g, 0, none⟩), .int .i64 k, .int .i64 n] w fun e w' => e = .returned (.tuple #[]) ∧ LeafAt w' g (b.str k n) p ∧ w.grownBy w' (some g) := by
  obtain ⟨q0, q1, q2, q3, qf⟩ := h.box
  have f2 := qf 2 (by decide)
  have f3 := qf 3 (by decide)
  have HL : Hid (LeafAt w g b p) := h
  have w1 : IntKind.i64.wrap (b.w + n) = b.w + n := by rw [IntKind.wrap_i64]; omega
  have w2 : IntKind.i64.wrap (b.h + n) = b.h + n := by rw [IntKind.wrap_i64]; omega
  clear qf h h1 h2 h3
  by_cases hk : k = 2
  · subst hk
    go_enter Try.func38, Try.ntmps38
    go_wp2
    exact ⟨rfl, .tuple #[], (by simp [results, Try.results38, go_sem]), rfl, HL.out.set 2 (.int .i64 (b.w + n)) (b' := b.str 2 n) rfl, grownBy_set _ _ _ _⟩
  · have hk2 : (k == 2) = false := by simpa using hk
    have hst : b.str k n = { b with h := b.h + n } := if_neg hk
    rw [hst]
    go_enter Try.func38, Try.ntmps38
    go_wp2
    exact ⟨rfl, .tuple #[], (by simp [results, Try.results38, go_sem]), rfl, HL.out.set 3 (.int .i64 (b.h + n)) (b' := { b with h := b.h + n }) rfl, grownBy_set _ _ _ _⟩

/-- May a new pane have that id? -/
def joinE (l : List CellV) (id : Int) : Int := if idB id = false ∨ (idsOf l).contains id = true then 43 else if (idsOf l).length = 32 then 45 else 0
theorem contains_any (u : Value) (zs : List Int) (x : Int) (B : Nat) (w : World) (h : IOwns w B u zs) (hn : zs.length ≤ 1000000) : Calls Try.prog 50 #[u, .int .i64 x] w fun e w' => e = .returned (.bool (zs.contains x)) ∧ w = w' := by
  rcases h.2 with ⟨rfl, h0⟩ | ⟨g, cap, cur, rfl, hb, hg, h1, h2, h3, h4⟩
  · have : zs = [] := List.length_eq_zero_iff.1 h0
    subst this
    exact (Try.slices_Contains_int_empty none 0 x w).mono fun e w' h => ⟨by rw [h.1]; rfl, h.2.symm⟩
  · have hc : ∀ j, j < zs.length → w.cell? ⟨g, 0 + j, none⟩ = some (.int .i64 (zs.getD j 0)) := by
      intro j hj
      rw [Nat.zero_add, cell_atL hg]
      have : (cur.toList.take (zs.length * 1))[j]? = (zs.map (Value.int .i64))[j]? := by rw [h4]
      rw [List.getElem?_take_of_lt (by omega)] at this
      rw [← Array.getElem?_toList, this]
      simp [List.getD, hj]
    refine (Try.slices_Contains_int g 0 zs.length cap zs x w (Nat.le_refl _) (by omega) hc).mono fun e w' h => ?_
    rw [List.take_of_length_le (Nat.le_refl _)] at h
    exact ⟨h.1, h.2.symm⟩
theorem joinE_val (l : List CellV) (id : Int) (a c : Bool) (n : Nat) (ha : idB id = a) (hc : (idsOf l).contains id = c) (hn : (idsOf l).length = n) : joinE l id = if a = false ∨ c = true then 43 else if n = 32 then 45 else 0 := by
  unfold joinE
  rw [ha, hc, hn]
theorem mayJoin_any (v : Value) (l : List CellV) (id : Int) (w : World) (h : CellsIn w v l) (hl : l.length ≤ 1000) : Calls Try.prog 34 #[v, .int .i64 id] w fun e w' => e = .returned (.int .i64 (joinE l id)) ∧ Below w.heap.size w w' := by
  have HP : Hid (Calls Try.prog 45 #[v] w fun e w' => ∃ ad n cap, e = .returned (.slice ad n cap) ∧ (idsOf l).length = n ∧ Below w.heap.size w w' ∧ Calls Try.prog 50 #[.slice ad n cap, .int .i64 id] w' fun e w2 => e = .returned (.bool ((idsOf l).contains id)) ∧ w' = w2) := by
    refine (paneIds_any v l w h (by omega)).mono ?_
    rintro e w1 ⟨u, rfl, hu, hb⟩
    have hc := contains_any u _ id _ w1 hu (by have := idsOf_length l; omega)
    rcases hu.2 with ⟨rfl, h0⟩ | ⟨g, cap, cur, rfl, _⟩
    · exact ⟨none, 0, 0, rfl, h0, hb, hc⟩
    · exact ⟨_, _, _, rfl, rfl, hb, hc⟩
  have HI : Hid (∀ W, Calls Try.prog 32 #[.int .i64 id] W fun e w' => e = .returned (.bool (idB id)) ∧ W = w') := isId_any id
  obtain ⟨a, ha⟩ : ∃ a, idB id = a := ⟨_, rfl⟩
  obtain ⟨c, hc⟩ : ∃ c, (idsOf l).contains id = c := ⟨_, rfl⟩
  have HE : Hid (∀ n, (idsOf l).length = n → joinE l id = if a = false ∨ c = true then 43 else if n = 32 then 45 else 0) := fun n => joinE_val l id a c n ha hc
  obtain ⟨r, hr⟩ : ∃ r, joinE l id = r := ⟨_, rfl⟩
  rw [ha] at HI
  rw [hc] at HP
  rw [hr] at HE ⊢
  clear ha hc hr h
  go_enter Try.func34, Try.ntmps34
  go_wp2_with fail
  refine HP.out.mono ?_
  rintro e w1 ⟨ad, n, cap, rfl, hn, hb, hcc⟩
  have HB : Hid (Below w.heap.size w w1) := hb
  have HC : Hid (Calls Try.prog 50 #[.slice ad n cap, .int .i64 id] w1 _) := hcc
  have HE2 : Hid _ := HE.out n hn
  clear hb hcc hn HE
  cases a
  · have HR : Hid (r = 43) := by show r = 43; have h := HE2.out; simpa using h
    go_wp2_with (go_at_call 32; refine (HI.out _).mono ?_; rintro e w2 ⟨rfl, rfl⟩)
    go_ret
    exact ⟨by rw [HR.out]; rfl, HB.out⟩
  · cases c
    · by_cases h32 : n = 32
      · have HR : Hid (r = 45) := by show r = 45; have h := HE2.out; simpa [h32] using h
        have hi : ((n : Int) == 32) = true := by simp; omega
        clear HE2 h32
        go_wp2_with (first | (go_at_call 32; refine (HI.out _).mono ?_; rintro e w2 ⟨rfl, rfl⟩) | (go_at_call 50; refine HC.out.mono ?_; rintro e w2 ⟨rfl, rfl⟩))
        go_ret
        exact ⟨by rw [HR.out]; rfl, HB.out⟩
      · have HR : Hid (r = 0) := by show r = 0; have h := HE2.out; simpa [h32] using h
        have hi : ((n : Int) == 32) = false := by simp; omega
        clear HE2 h32
        go_wp2_with (first | (go_at_call 32; refine (HI.out _).mono ?_; rintro e w2 ⟨rfl, rfl⟩) | (go_at_call 50; refine HC.out.mono ?_; rintro e w2 ⟨rfl, rfl⟩))
        go_ret
        exact ⟨by rw [HR.out]; rfl, HB.out⟩
    · have HR : Hid (r = 43) := by show r = 43; have h := HE2.out; simpa using h
      clear HE2
      go_wp2_with (first | (go_at_call 32; refine (HI.out _).mono ?_; rintro e w2 ⟨rfl, rfl⟩) | (go_at_call 50; refine HC.out.mono ?_; rintro e w2 ⟨rfl, rfl⟩))
      go_ret
      exact ⟨by rw [HR.out]; rfl, HB.out⟩

theorem inOrder_any (T1 T2 : TypeId) (g1 g2 : Nat) (bf : Bool) (w : World) : Calls Try.prog 41 #[.iface T1 (.pointer (some ⟨g1, 0, none⟩)), .iface T2 (.pointer (some ⟨g2, 0, none⟩)), .bool bf] w fun e w' => e = .returned (.slice (some ⟨w.heap.size, 0, none⟩) 2 2) ∧ w' = w.alloc (.cells (if bf then #[.iface T2 (.pointer (some ⟨g2, 0, none⟩)), .iface T1 (.pointer (some ⟨g1, 0, none⟩))] else #[.iface T1 (.pointer (some ⟨g1, 0, none⟩)), .iface T2 (.pointer (some ⟨g2, 0, none⟩))]) 45) := by
  cases bf
  · go_enter Try.func41, Try.ntmps41
    go_wp2
    go_ret
    exact ⟨rfl, rfl⟩
  · go_enter Try.func41, Try.ntmps41
    go_wp2
    go_ret
    exact ⟨rfl, rfl⟩
theorem replace_root (root p : Value) (ad : Option Addr) (cap : Nat) (w : World) : Calls Try.prog 39 #[root, .slice ad 0 cap, p] w fun e w' => e = .returned p ∧ w = w' := by
  go_enter Try.func39, Try.ntmps39
  go_wp2
  go_ret
  exact ⟨rfl, rfl⟩

/-- A box like this one, but for its extent. -/
def Box.with (b : Box) (k n : Int) : Box := b.str k (n - b.ext k)
theorem box_with (g : Nat) (b : Box) (k n : Int) (w : World) (h : BoxAt w g b) (h1 : 0 ≤ b.w ∧ b.w ≤ 1000) (h2 : 0 ≤ b.h ∧ b.h ≤ 1000) (h3 : -1000 ≤ n ∧ n ≤ 1000) :
    Calls Try.prog 37 #[.pointer (some ⟨g, 0, none⟩), .int .i64 k, .int .i64 n] w fun e w' => e = .returned (.agg #[.int .i64 (b.with k n).x, .int .i64 (b.with k n).y, .int .i64 (b.with k n).w, .int .i64 (b.with k n).h]) ∧ Below w.heap.size w w' := by
  obtain ⟨q0, q1, q2, q3, qf⟩ := h
  have HB : Hid (BoxAt w g b) := ⟨q0, q1, q2, q3, qf⟩
  have hlt := HB.out.lt
  obtain ⟨e, he⟩ : ∃ e, b.ext k = e := ⟨_, rfl⟩
  have heb : 0 ≤ e ∧ e ≤ 1000 := by rw [← he]; unfold Box.ext; split <;> omega
  have hw : IntKind.i64.wrap (n - e) = n - e := by rw [IntKind.wrap_i64]; omega
  have HE : Hid (∀ X, Below w.heap.size w X → Calls Try.prog 35 #[.pointer (some ⟨g, 0, none⟩), .int .i64 k] X fun e' w' => e' = .returned (.int .i64 e) ∧ X = w') := fun X hX => he ▸ box_extent g b k X (HB.out.below hX)
  have HS : Hid (∀ X, BoxAt X (w.heap.size + 1) b → Calls Try.prog 38 #[.pointer (some ⟨w.heap.size + 1, 0, none⟩), .int .i64 k, .int .i64 (n - e)] X fun e' w' => e' = .returned (.tuple #[]) ∧ BoxAt w' (w.heap.size + 1) (b.str k (n - e)) ∧ X.grownBy w' (some (w.heap.size + 1)) ∧ (∀ o, 4 ≤ o → w'.cell? ⟨w.heap.size + 1, o, none⟩ = X.cell? ⟨w.heap.size + 1, o, none⟩)) := fun X h => box_stretch _ _ k (n - e) X h (by omega) (by omega) (by omega)
  obtain ⟨b', hb'⟩ : ∃ b', b.str k (n - e) = b' := ⟨_, rfl⟩
  have hd : b.with k n = b' := by unfold Box.with; rw [he, hb']
  rw [hd]
  rw [hb'] at HS
  clear he qf heb h1 h2 h3 hd hb'
  go_enter Try.func37, Try.ntmps37
  go_wp2_with fail
  have HX : Hid (∀ o o', Below w.heap.size w ((w.alloc o).alloc o')) := fun o o' => ((Below.refl _ _).alloc (Nat.le_refl _) _).alloc (by simp) _
  have HZ : Hid (∀ o, BoxAt ((w.alloc (.cells #[.int .i64 0, .int .i64 0, .int .i64 0, .int .i64 0] 52)).alloc o) w.heap.size ⟨0, 0, 0, 0⟩) := fun o => (BoxAt.new w 52).below ((Below.refl _ _).alloc (Nat.le_refl _) o)
  have HY : Hid (∀ o, BoxAt ((w.alloc o).alloc (.cells #[.int .i64 b.x, .int .i64 b.y, .int .i64 b.w, .int .i64 b.h] 52)) (w.heap.size + 1) b) := fun o => by
    have hs : (w.alloc o).heap.size = w.heap.size + 1 := by simp
    have hn := heap_alloc_new (w.alloc o) (.cells #[.int .i64 b.x, .int .i64 b.y, .int .i64 b.w, .int .i64 b.h] 52)
    rw [hs] at hn
    exact ⟨cell_atL hn 0, cell_atL hn 1, cell_atL hn 2, cell_atL hn 3, fun o _ => free_atL hn o⟩
  refine (HE.out _ (HX.out _ _)).mono ?_
  rintro e' w1 ⟨rfl, rfl⟩
  clear q0 q1 q2 q3
  go_wp2_with fail
  refine (HS.out _ (HY.out _)).mono ?_
  rintro e' w2 ⟨rfl, hb2, hg2, _⟩
  obtain ⟨z0, z1, z2, z3, zf⟩ := (HZ.out _).grown hg2 (by omega)
  obtain ⟨r0, r1, r2, r3, _⟩ := hb2
  have f0 := zf 0 (by decide)
  have f1 := zf 1 (by decide)
  have f2 := zf 2 (by decide)
  have f3 := zf 3 (by decide)
  have HB2 : Hid (Below w.heap.size w w2) := below_grown (HX.out _ _) hg2 (by omega)
  clear zf hg2 HZ HY HX HE HS
  go_wp2
  refine bodyPost_ret (v := .agg #[.int .i64 b'.x, .int .i64 b'.y, .int .i64 b'.w, .int .i64 b'.h]) (by simp [results, Try.results37, go_sem, z0, z1, z2, z3]) rfl ?_
  exact ⟨rfl, below_grown (below_grown (below_grown (below_grown HB2.out (grownBy_set _ _ _ _) (Nat.le_refl _)) (grownBy_set _ _ _ _) (Nat.le_refl _)) (grownBy_set _ _ _ _) (Nat.le_refl _)) (grownBy_set _ _ _ _) (Nat.le_refl _)⟩

end Go.Proofs.Ytlaelkcmeaiajaa

namespace Go.Proofs.Ytlaelkcmeaiajaa
open Go.RowKit
set_option linter.unusedVariables false
set_option maxRecDepth 100000

theorem wpList_append_partB {ops : Array Oper} {rest : List Oper} {o : Oper} {a : Act} {Q : Exit → Act → World → Prop} (w : World) (hgd : o.guard = none) (s x : Operand)
    (ho : o.op = .call { callee := .builtin .append, args := #[s, x], argTypes := #[74, 74] })
    (B : Nat) (v : Value) (vs : List Value) (T : TypeId) (g : Nat) (hs : a.eval s = v) (hown : w.ownsRow B 45 1 v vs.length vs) (hx : a.eval x = .slice (some ⟨w.heap.size, 0, none⟩) 1 1) (hlen : vs.length ≤ 16777216) (hB : B ≤ w.heap.size)
    (h : ∀ v' w', w'.ownsRow B 45 1 v' (vs.length + 1) (vs ++ [.iface T (.pointer (some ⟨g, 0, none⟩))]) → (w.alloc (.cells #[.iface T (.pointer (some ⟨g, 0, none⟩))] 45)).grownBy w' v.ownBlock → wpList Try.prog ops Q rest (a.put o.dst v') w') : wpList Try.prog ops Q (o :: rest) a (w.alloc (.cells #[.iface T (.pointer (some ⟨g, 0, none⟩))] 45)) := by
  obtain ⟨i0, hi, hz0, hz1, hz2⟩ := info_partsL infoPart
  refine wpList_append_own_at _ hgd s x 74 ho B 45 i0 .nilIface 1 16 Try.underlying74 hi hz0 hz1 hz2 rfl (by decide) v vs.length vs hs (World.ownsRow.alloc hown _) ⟨w.heap.size, 0, none⟩ 1 1 [.iface T (.pointer (some ⟨g, 0, none⟩))] hx rfl ?_ ?_ ?_ ?_ ?_ ?_
  · intro j u hu
    rw [show (⟨w.heap.size, 0, none⟩ : Addr).add j = ⟨w.heap.size, j, none⟩ by unfold Addr.add; split <;> simp_all, cell_newL]
    simpa using hu
  · intro u hu
    simp only [List.mem_cons, List.not_mem_nil, or_false] at hu
    subst hu
    rfl
  · unfold maxLen; omega
  · omega
  · have : (w.alloc (.cells #[.iface T (.pointer (some ⟨g, 0, none⟩))] 45)).heap.size = w.heap.size + 1 := by simp
    omega
  · intro v' w' h2 h3 _ h5
    exact h v' w' h2 h3

theorem SplitAt.setSl {W : World} {g : Nat} {b : Box} {k : Int} {sl : Value} (h : SplitAt W g b k sl) (sl' : Value) : SplitAt (W.setCell ⟨g, 5, none⟩ sl') g b k sl' := by
  have hlt : g < W.heap.size := lt_of_block h
  have h' : W.heap[g] = .cells (splitV b k sl) 90 (0, 0) := by unfold SplitAt at h; simpa [Array.getElem?_eq_getElem hlt] using h
  show (W.heap.modify g _)[g]? = _
  rw [Array.getElem?_eq_getElem (by simpa using hlt), Array.getElem_modify_self, h']
  rfl

/-- How far join has come. -/
structure JoinTo (w : World) (k : Int) (vs : List Value) (sl : Value) (wr : World) : Prop where
  own : SplitAt wr w.heap.size ⟨0, 0, 0, 0⟩ k sl
  row : wr.ownsRow (w.heap.size + 1) 45 1 sl vs.length vs
  below : Below w.heap.size w wr

theorem JoinTo.start (w : World) (k : Int) : JoinTo w k [] (.slice none 0 0) (w.alloc (.cells #[.int .i64 0, .int .i64 0, .int .i64 0, .int .i64 0, .int .i64 k, .slice none 0 0] 90)) :=
  ⟨heap_alloc_new _ _, World.ownsRow_nil _ _ _ _, (Below.refl _ _).alloc (Nat.le_refl _) _⟩
theorem JoinTo.lt {w : World} {k : Int} {vs : List Value} {sl : Value} {wr : World} (h : JoinTo w k vs sl wr) : w.heap.size < wr.heap.size := lt_of_block h.own

theorem JoinTo.next {w : World} {k : Int} {vs : List Value} {sl : Value} {wr : World} (h : JoinTo w k vs sl wr) {o : Obj} {sl' u : Value} {w' : World} (h1 : w'.ownsRow (w.heap.size + 1) 45 1 sl' (vs.length + 1) (vs ++ [u])) (h2 : (wr.alloc o).grownBy w' sl.ownBlock) :
    SplitAt w' w.heap.size ⟨0, 0, 0, 0⟩ k sl ∧ JoinTo w k (vs ++ [u]) sl' (w'.setCell ⟨w.heap.size, 5, none⟩ sl') := by
  have hlt := h.lt
  have hsz : (wr.alloc o).heap.size = wr.heap.size + 1 := by simp
  have hne : ∀ q, sl.ownBlock = some q → w.heap.size + 1 ≤ q := fun q hq => (World.ownsRow.lt h.row q hq).1
  have hs : SplitAt w' w.heap.size ⟨0, 0, 0, 0⟩ k sl := by
    refine (h2.block w.heap.size (by omega) fun e => ?_).trans ((((Below.refl wr.heap.size wr).alloc (Nat.le_refl _) o).block _ hlt).trans h.own)
    have := hne _ e.symm
    omega
  refine ⟨hs, hs.setSl sl', ?_, ?_⟩
  · have hk : ∀ q ∈ sl'.ownBlock.toList, (w'.setCell ⟨w.heap.size, 5, none⟩ sl').heap[q]? = w'.heap[q]? := fun q hq => by
      refine Below.heap_setCell _ _ _ _ fun e => ?_
      have := (World.ownsRow.lt h1 q (by simpa using hq)).1
      have e' : q = w.heap.size := by simpa using e
      omega
    have := own_kept h1 hk
    simpa using this
  · have hb : Below w.heap.size w w' := by
      have h0 : Below w.heap.size w (wr.alloc o) := h.below.alloc h.below.size o
      refine ⟨h2.os.trans h0.os, h2.tape.trans h0.tape, h2.output.trans h0.output, Nat.le_trans h0.size h2.size, fun q hq => (h2.block q (by have := h0.size; omega) fun e => ?_).trans (h0.block q hq)⟩
      have := hne _ e.symm
      omega
    exact below_grown hb (grownBy_set _ _ _ _) (Nat.le_refl _)

set_option maxHeartbeats 2000000 in
theorem join_none (k : Int) (hk : k = 2 ∨ k = 3) (pg n cap : Nat) (vs : List Value) (fs : List Nat) (t0 : Tree) (tr : List Tree) (w : World) (hR : ∀ (i : Nat) u, vs[i]? = some u → w.cell? ⟨pg, i, none⟩ = some u) (hP : partsAt w 0 (t0 :: tr) vs fs) (hfi : fines (t0 :: tr)) (hs : SmallT (t0 :: tr)) (hno : ∀ t ∈ t0 :: tr, t.kindIs k = false) (hn : (t0 :: tr).length = n) :
    Calls Try.prog 40 #[.int .i64 k, .slice (some ⟨pg, 0, none⟩) n cap] w fun e w' => ∃ sl, e = .returned (.pointer (some ⟨w.heap.size, 0, none⟩)) ∧ SplitAt w' w.heap.size (aroundB (t0 :: tr) k) k sl ∧ w'.ownsRow (w.heap.size + 1) 45 1 sl vs.length vs ∧ Below w.heap.size w w' := by
  have hvl := hP.length
  rw [hn] at hvl
  have HS : Hid (Sounds w vs (t0 :: tr)) := hP.sounds hfi
  have HR : Hid (∀ (i : Nat) u, vs[i]? = some u → w.cell? ⟨pg, i, none⟩ = some u) := hR
  have HV : Hid (vs.length = n) := hvl
  have HN : Hid ((t0 :: tr).length = n) := hn
  have HK : Hid (∀ t ∈ t0 :: tr, t.kindIs k = false) := hno
  have hn2 : n ≤ 200 := by have := hs.1; omega
  have HJ0 : Hid (JoinTo w k [] (.slice none 0 0) _) := JoinTo.start w k
  have HA : Hid (∀ sl wr, JoinTo w k vs sl wr → Calls Try.prog 53 #[.pointer (some ⟨w.heap.size, 0, none⟩)] wr fun e w' => e = .returned (.agg #[.int .i64 0, .int .i64 0, .int .i64 (aroundB (t0 :: tr) k).w, .int .i64 (aroundB (t0 :: tr) k).h]) ∧ JoinTo w k vs sl w') := by
    intro sl wr h
    refine (around_any w.heap.size ⟨0, 0, 0, 0⟩ k hk sl vs fs t0 tr 0 wr h.own ⟨h.row.1, ?_⟩ (hP.below h.below) hs).mono fun e w' h2 => ⟨h2.1, h.own.below h2.2, own_below h.row h2.2, below_step h.below h2.2⟩
    rcases h.row.2 with h0 | ⟨g, cap, cur, e, _, r⟩
    · exact .inl h0
    · exact .inr ⟨g, cap, cur, e, Nat.zero_le _, r⟩
  obtain ⟨bw, hbw⟩ : ∃ x, (aroundB (t0 :: tr) k).w = x := ⟨_, rfl⟩
  obtain ⟨bh, hbh⟩ : ∃ x, (aroundB (t0 :: tr) k).h = x := ⟨_, rfl⟩
  have HE : Hid (aroundB (t0 :: tr) k = ⟨0, 0, bw, bh⟩) := by
    show _ = _
    rw [← hbw, ← hbh]
    unfold aroundB
    by_cases h2 : k = 2 <;> simp [h2]
  rw [hbw, hbh] at HA
  rw [HE.out]
  clear hR hP hfi hs hno hn hvl hk hbw hbh
  go_enter Try.func40, Try.ntmps40
  go_wp2
  go_loopw [14] (fun v wr => ∃ i : Nat, i ≤ n ∧ v = .int .i64 i ∧ ∃ sl, Hid (JoinTo w k (vs.take i) sl wr)) (fun v _ => n - (intOf v).toNat)
  case atStart => exact ⟨0, Nat.zero_le _, rfl, _, HJ0⟩
  case round =>
    obtain ⟨i, hi, rfl, sl, HJ⟩ := hrel
    clear HJ0
    by_cases hlt : i < n
    · obtain ⟨t, ht⟩ : ∃ t, (t0 :: tr)[i]? = some t := ⟨_, List.getElem?_eq_getElem (by rw [HN.out]; exact hlt)⟩
      obtain ⟨pv, T, gi, Fs, Fa, hpv, HP⟩ := HS.out i t ht
      have hval := HP.val
      subst hval
      have ri := (HJ.out.below.cell (p := ⟨pg, i, none⟩) (World.block_lt_of_cell? w _ (HR.out i _ hpv))).trans (HR.out i _ hpv)
      have m1 := HP.mA
      have m2 := HP.fA
      have hcA := HP.cA k wr HJ.out.below
      rw [HK.out t (List.mem_of_getElem? ht)] at hcA
      have HcA : Hid (Calls Try.prog Fa #[.pointer (some ⟨gi, 0, none⟩), .int .i64 k] wr fun e w' => e = .returned (.pointer none) ∧ wr = w') := hcA
      have HT : Hid (vs.take (i + 1) = vs.take i ++ [.iface T (.pointer (some ⟨gi, 0, none⟩))]) := by
        show _ = _
        rw [List.take_add_one, hpv]
        rfl
      have HL : Hid ((vs.take i).length = i) := by
        show _ = _
        rw [List.length_take, HV.out]
        omega
      have r5 : wr.cell? ⟨w.heap.size, 5, none⟩ = some sl := cell_atL HJ.out.own 5
      obtain ⟨sa, sn, sc, hsl⟩ := own_slice HJ.out.row
      subst hsl
      have HW : Hid (w.heap.size + 1 ≤ wr.heap.size) := HJ.out.lt
      clear HP hpv ht hcA
      go_wp2_with fail
      refine HcA.out.mono ?_
      rintro e w1 ⟨rfl, rfl⟩
      go_wp2_with (at_builtin; refine wpList_append_partB wr rfl (.tmp 39) (.tmp 41) rfl (w.heap.size + 1) (.slice sa sn sc) (vs.take i) T gi rfl HJ.out.row rfl (by rw [HL.out]; omega) HW.out ?_; intro sl' w3 a1 a2; have hsl := own_slice a1; have hj := HJ.out.next a1 a2; have c5 : w3.cell? ⟨w.heap.size, 5, none⟩ = some (.slice sa sn sc) := cell_atL hj.1 5; have f5 : w3.frozen? ⟨w.heap.size, 5, none⟩ = false := free_atL hj.1 5; have HJ3 : Hid (JoinTo w k (vs.take i ++ [.iface T (.pointer (some ⟨gi, 0, none⟩))]) sl' (w3.setCell ⟨w.heap.size, 5, none⟩ sl')) := hj.2; clear a1 a2 hj; obtain ⟨sa', sn', sc', hsl'⟩ := hsl; subst hsl')
      go_roundw
      case rel => exact ⟨i + 1, by omega, by go_num, _, by rw [HT.out]; exact HJ3⟩
      case measure => simp [intOf]; omega
    · have hin : i = n := by omega
      subst hin
      have HJ2 : Hid (JoinTo w k vs sl wr) := by
        have h := HJ.out
        rwa [List.take_of_length_le (by rw [HV.out]; exact Nat.le_refl _)] at h
      have HA2 : Hid (Calls Try.prog 53 #[.pointer (some ⟨w.heap.size, 0, none⟩)] wr _) := HA.out sl wr HJ2.out
      clear HJ HA
      go_wp2_with fail
      refine HA2.out.mono ?_
      rintro e w5 ⟨rfl, hj⟩
      have HJ5 : Hid (JoinTo w k vs sl w5) := hj
      obtain ⟨q0, q1, q2, q3, qf⟩ := hj.own.box
      have f0 := qf 0 (by decide)
      have f1 := qf 1 (by decide)
      have f2 := qf 2 (by decide)
      have f3 := qf 3 (by decide)
      clear hj qf HA2
      go_wp2
      go_ret
      refine ⟨sl, rfl, (((HJ5.out.own.set 0 (.int .i64 0) (b' := ⟨0, 0, 0, 0⟩) rfl).set 1 (.int .i64 0) (b' := ⟨0, 0, 0, 0⟩) rfl).set 2 (.int .i64 bw) (b' := ⟨0, 0, bw, 0⟩) rfl).set 3 (.int .i64 bh) (b' := ⟨0, 0, bw, bh⟩) rfl, ?_, below_grown (below_grown (below_grown (below_grown HJ5.out.below (grownBy_set _ _ _ _) (Nat.le_refl _)) (grownBy_set _ _ _ _) (Nat.le_refl _)) (grownBy_set _ _ _ _) (Nat.le_refl _)) (grownBy_set _ _ _ _) (Nat.le_refl _)⟩
      refine own_kept HJ5.out.row fun q hq => ?_
      have hne : q ≠ w.heap.size := fun e => by
        have := (World.ownsRow.lt HJ5.out.row q (by simpa using hq)).1
        omega
      exact ((Below.heap_setCell _ _ _ _ hne).trans (Below.heap_setCell _ _ _ _ hne)).trans ((Below.heap_setCell _ _ _ _ hne).trans (Below.heap_setCell _ _ _ _ hne))

end Go.Proofs.Ytlaelkcmeaiajaa

namespace Go.Proofs.Ytlaelkcmeaiajaa
open Go.RowKit
set_option linter.unusedVariables false
set_option maxRecDepth 100000

def oneCell (x y p : Int) : CellV := ⟨0, 1, 0, 0, x, y, p⟩
theorem new_sides {x y p : Int} (h : newErr x y p = 0) : (sideB x = true ∧ sideB y = true) ∧ idB p = true := by
  unfold newErr at h
  cases h1 : sideB x <;> cases h2 : sideB y <;> cases h3 : idB p <;> simp_all
theorem readF_one (x y p : Int) (h : newErr x y p = 0) : readF [oneCell x y p] = some (.leaf ⟨0, 0, x, y⟩ p) := by
  obtain ⟨⟨hx, hy⟩, hp⟩ := new_sides h
  have ht : takeF [oneCell x y p] 0 = some (.leaf ⟨0, 0, x, y⟩ p, []) := by
    rw [takeF_cons]
    rfl
  rw [readF_some (by simp) ht, if_pos ⟨by unfold Tree.sound; simp [hx, hy, hp], rfl, rfl⟩]
  rfl
theorem check_one (x y p : Int) (h : newErr x y p = 0) : checkE [oneCell x y p] = 0 := by
  unfold checkE
  rw [readF_one x y p h]
  rfl
theorem check_nil : checkE [] = 40 := by
  unfold checkE
  rw [readF_none (takeF_nil 0)]
  rfl
theorem joinE_one (x y p id : Int) (hi : idB id = true) (hne : id ≠ p) : joinE [oneCell x y p] id = 0 := by
  have h1 : idsOf [oneCell x y p] = [p] := rfl
  unfold joinE
  rw [h1, hi]
  simp [hne]

theorem l_way (g : Nat) (W : World) : (method 248 48 (.pointer (some ⟨g, 0, none⟩)) "mullion/layout.way").run Try.prog W = .ok (108, .pointer (some ⟨g, 0, none⟩)) W := by kernel_rfl
theorem l_fW (a c : Value) (W : World) : (callFunc 108 #[a, c]).run Try.prog W = .ok (.enter 108 #[a, c]) W := by kernel_rfl

/-- One pane cut in two, side by side. -/
def twoTree (x y p id : Int) : Tree := .split ⟨0, 0, x, y⟩ 2 [.leaf ⟨0, 0, x - halfF x - 1, y⟩ p, .leaf ⟨0, 0, halfF x, y⟩ id]
def twoCells (x y p id : Int) : List CellV := [⟨0, 2, 0, 0, x, y, 0⟩, ⟨1, 1, 0, 0, x - halfF x - 1, y, p⟩, ⟨1, 1, x - halfF x, 0, halfF x, y, id⟩]
theorem side_of {n : Int} (h : sideB n = true) : 1 ≤ n ∧ n ≤ 1000 := by
  unfold sideB at h
  simpa using h
theorem side_mk {n : Int} (h1 : 1 ≤ n) (h2 : n ≤ 1000) : sideB n = true := by
  unfold sideB
  simp [h1, h2]
theorem two_sound (x y p id : Int) (h : newErr x y p = 0) (h3 : 3 ≤ x) (hi : idB id = true) : (twoTree x y p id).sound = true := by
  obtain ⟨⟨hx, hy⟩, hp⟩ := new_sides h
  have hxs := side_of hx
  have ha : sideB (halfF x) = true := side_mk (by unfold halfF; omega) (by unfold halfF; omega)
  have hb : sideB (x - halfF x - 1) = true := side_mk (by unfold halfF; omega) (by unfold halfF; omega)
  unfold twoTree
  simp [Tree.sound, soundAll, Tree.kindIs, Tree.box, extAll, Box.ext, acrossK, hx, hy, hp, hi, ha, hb]
  omega
theorem two_tell (x y p id : Int) : ((twoTree x y p id).moved 0 0).tell 0 = twoCells x y p id := by
  unfold twoTree twoCells
  simp [Tree.moved, movedAll, Tree.tell, tellAll, Tree.box, Box.ext]
theorem two_around (x y p id : Int) : aroundB [.leaf ⟨0, 0, x - halfF x - 1, y⟩ p, .leaf ⟨0, 0, halfF x, y⟩ id] 2 = ⟨0, 0, x, y⟩ := by
  unfold aroundB
  simp [extAll, Tree.box, Box.ext]
  omega

/-- Two leaves joined and laid down. -/
theorem join_two (x y p id : Int) (h : newErr x y p = 0) (h3 : 3 ≤ x) (hi : idB id = true) (g1 g2 : Nat) (w : World) (h1 : LeafAt w g1 ⟨0, 0, x - halfF x - 1, y⟩ p) (h2 : LeafAt w g2 ⟨0, 0, halfF x, y⟩ id) (hne : g1 ≠ g2) :
    Calls Try.prog 40 #[.int .i64 2, .slice (some ⟨w.heap.size, 0, none⟩) 2 2] (w.alloc (.cells #[leafI g1, leafI g2] 45)) fun e w' => e = .returned (.pointer (some ⟨w.heap.size + 1, 0, none⟩)) ∧
      Calls Try.prog 23 #[splitI (w.heap.size + 1)] w' fun e w2 => ∃ u, e = .returned u ∧ CeOwns w2 w.heap.size u (twoCells x y p id) ∧ But [g1, g2] w w2 := by
  have hsz : (w.alloc (.cells #[leafI g1, leafI g2] 45)).heap.size = w.heap.size + 1 := by simp
  have hb0 : Below w.heap.size w (w.alloc (.cells #[leafI g1, leafI g2] 45)) := (Below.refl _ _).alloc (Nat.le_refl _) _
  obtain ⟨⟨hx, hy⟩, hp⟩ := new_sides h
  have hxs := side_of hx
  have hys := side_of hy
  have hP : partsAt (w.alloc (.cells #[leafI g1, leafI g2] 45)) 0 [.leaf ⟨0, 0, x - halfF x - 1, y⟩ p, .leaf ⟨0, 0, halfF x, y⟩ id] [leafI g1, leafI g2] [g1, g2] :=
    ⟨leafI g1, [leafI g2], [g1], [g2], rfl, ⟨g1, rfl, h1.below hb0, rfl⟩, ⟨leafI g2, [], [g2], [], rfl, ⟨g2, rfl, h2.below hb0, rfl⟩, ⟨rfl, rfl⟩, rfl⟩, rfl⟩
  have hl1 := lt_of_block h1
  have hl2 := lt_of_block h2
  have hj := join_none 2 (.inl rfl) w.heap.size 2 2 [leafI g1, leafI g2] [g1, g2] (.leaf ⟨0, 0, x - halfF x - 1, y⟩ p) [.leaf ⟨0, 0, halfF x, y⟩ id] _ (fun i u hu => by
    rw [cell_newL]
    simpa using hu) hP ⟨trivial, trivial, trivial⟩ ⟨by simp, by
      intro t ht
      simp only [List.mem_cons, List.not_mem_nil, or_false] at ht
      unfold halfF at ht
      rcases ht with rfl | rfl
      · exact ⟨⟨by show 1 ≤ x - (x - 1) / 2 - 1; omega, by show x - (x - 1) / 2 - 1 ≤ 1000; omega⟩, hys⟩
      · exact ⟨⟨by show 1 ≤ (x - 1) / 2; omega, by show (x - 1) / 2 ≤ 1000; omega⟩, hys⟩⟩ (by
      intro t ht
      simp only [List.mem_cons, List.not_mem_nil, or_false] at ht
      rcases ht with rfl | rfl <;> rfl) rfl
  rw [two_around] at hj
  refine hj.mono ?_
  rintro e w' ⟨sl, rfl, e1, e2, e3⟩
  rw [hsz] at e1 e2 e3 ⊢
  refine ⟨rfl, ?_⟩
  have e3' : Below (w.heap.size + 1) (w.alloc (.cells #[leafI g1, leafI g2] 45)) w' := e3
  have hAt : (twoTree x y p id).At w' 0 (splitI (w.heap.size + 1)) ((w.heap.size + 1) :: (sl.ownBlock.toList ++ [g1, g2])) := by
    refine ⟨w.heap.size + 1, sl, [leafI g1, leafI g2], [g1, g2], rfl, e1, ⟨e2.1, ?_⟩, ?_, rfl⟩
    · rcases e2.2 with h0 | ⟨g, cap, cur, e, _, r⟩
      · exact .inl h0
      · exact .inr ⟨g, cap, cur, e, Nat.zero_le _, r⟩
    · refine hP.keep fun q hq => e3'.block q ?_
      simp only [List.mem_cons, List.not_mem_nil, or_false] at hq
      rcases hq with rfl | rfl <;> omega
  have hnd : ((w.heap.size + 1) :: (sl.ownBlock.toList ++ [g1, g2])).Nodup := by
    have hsl : ∀ q ∈ sl.ownBlock.toList, w.heap.size + 1 + 1 ≤ q := fun q hq => (World.ownsRow.lt e2 q (by simpa using hq)).1
    refine List.nodup_cons.2 ⟨fun hm => ?_, List.nodup_append.2 ⟨by cases sl.ownBlock <;> simp, by simp [hne], fun a ha b hb e => ?_⟩⟩
    · rcases List.mem_append.1 hm with hm | hm
      · have := hsl _ hm; omega
      · simp only [List.mem_cons, List.not_mem_nil, or_false] at hm
        rcases hm with hm | hm <;> omega
    · subst e
      have := hsl _ ha
      simp only [List.mem_cons, List.not_mem_nil, or_false] at hb
      rcases hb with hb | hb <;> omega
  refine (lay_any (twoTree x y p id) 0 _ _ w' hAt hnd (two_sound x y p id h h3 hi) ⟨.inl rfl, by simp, trivial, trivial, trivial⟩ (by unfold twoTree; simp [Tree.size, sizes])).mono ?_
  rintro e w2 ⟨u, rfl, k1, k2, k3⟩
  rw [two_tell] at k1
  have hw' := e3'.size
  refine ⟨u, rfl, k1.lower (by omega), ⟨k3.os.trans (e3'.os.trans hb0.os), k3.tape.trans (e3'.tape.trans hb0.tape), k3.output.trans (e3'.output.trans hb0.output), Nat.le_trans (Nat.le_trans hb0.size e3'.size) k3.size, fun q hq hn => ?_⟩⟩
  refine (k3.block q (by omega) fun hm => ?_).trans ((e3'.block q (by omega)).trans (hb0.block q hq))
  rcases List.mem_cons.1 hm with hm | hm
  · omega
  · rcases List.mem_append.1 hm with hm | hm
    · have := (World.ownsRow.lt e2 q (by simpa using hm)).1
      omega
    · exact hn hm

set_option maxHeartbeats 2000000 in
theorem split_one (v : Value) (x y p id : Int) (w : World) (hv : CellsIn w v [oneCell x y p]) (h : newErr x y p = 0) (h3 : 3 ≤ x) (hi : idB id = true) (hne : id ≠ p) :
    Calls Try.prog 21 #[v, .int .i64 p, .int .i64 2, .int .i64 0, .bool false, .int .i64 id] w fun e w' => ∃ u, e = .returned (.tuple #[u, .int .i64 0]) ∧ CeOwns w' w.heap.size u (twoCells x y p id) ∧ Below w.heap.size w w' := by
  have HR : Hid (Calls Try.prog 22 #[v] w fun e w1 => ∃ g, e = .returned (leafI g) ∧ w.heap.size ≤ g ∧ LeafAt w1 g ⟨0, 0, x, y⟩ p ∧ Below w.heap.size w w1) := by
    refine (read_any v _ w hv).mono ?_
    rintro e w1 (⟨hF, _⟩ | ⟨t, T, g, fp, hF, rfl, hAt, hnd, hge, hb⟩)
    · rw [readF_one x y p h] at hF
      cases hF
    · rw [readF_one x y p h] at hF
      cases hF
      obtain ⟨g', e1, e2, e3⟩ := hAt
      cases e1
      subst e3
      exact ⟨g, rfl, hge g (by simp), e2, hb⟩
  have HC : Hid (∀ W, Calls Try.prog 33 #[.int .i64 2] W fun e w' => e = .returned (.bool true) ∧ W = w') := fun W => isCut_any 2 W
  have HM : Hid (∀ W, Below w.heap.size w W → Calls Try.prog 34 #[v, .int .i64 id] W fun e w' => e = .returned (.int .i64 0) ∧ Below W.heap.size W w') := fun W hW => joinE_one x y p id hi hne ▸ mayJoin_any v _ id W (hv.below hW) (by simp)
  obtain ⟨⟨hx, hy⟩, hp⟩ := new_sides h
  have hxs := side_of hx
  have hys := side_of hy
  have HW : Hid (∀ W, Calls Try.prog 36 #[.int .i64 0, .int .i64 x] W fun e w' => e = .returned (.int .i64 (halfF x)) ∧ W = w') := fun W => wanted_any 0 x W (by omega)
  have hhb : 1 ≤ halfF x ∧ halfF x ≤ x - 2 := by unfold halfF; omega
  have HJ : Hid (∀ g1 g2 W, LeafAt W g1 ⟨0, 0, x - halfF x - 1, y⟩ p → LeafAt W g2 ⟨0, 0, halfF x, y⟩ id → g1 ≠ g2 → _) := fun g1 g2 W a b c => join_two x y p id h h3 hi g1 g2 W a b c
  obtain ⟨n, hn⟩ : ∃ n, halfF x = n := ⟨_, rfl⟩
  rw [hn] at HW hhb HJ
  have w1e : IntKind.i64.wrap (x - 2) = x - 2 := by rw [IntKind.wrap_i64]; omega
  have w2e : IntKind.i64.wrap (-n) = -n := by rw [IntKind.wrap_i64]; omega
  have w3e : IntKind.i64.wrap (-n - 1) = -n - 1 := by rw [IntKind.wrap_i64]; omega
  have hmin : min n (x - 2) = n := by omega
  have hx3 : ¬ (x < 3) := by omega
  have HH : Hid ((1 ≤ n ∧ n ≤ x - 2) ∧ (1 ≤ x ∧ x ≤ 1000) ∧ (1 ≤ y ∧ y ≤ 1000)) := ⟨hhb, hxs, hys⟩
  have hvs := hv.length
  obtain ⟨ad, cap, rfl⟩ := hvs
  obtain ⟨l1, hl1⟩ : ∃ l, twoCells x y p id = l := ⟨_, rfl⟩
  rw [hl1] at HJ ⊢
  clear hn hxs hys hx hy hp hi hne h h3 hv hhb hl1
  have HMS : Hid (∀ g W, (method 248 48 (.pointer (some ⟨g, 0, none⟩)) "mullion/layout.way").run Try.prog W = .ok (108, .pointer (some ⟨g, 0, none⟩)) W) := l_way
  have HFW : Hid (∀ a c W, (callFunc 108 #[a, c]).run Try.prog W = .ok (.enter 108 #[a, c]) W) := l_fW
  go_enter Try.func21, Try.ntmps21
  go_wp2_with fail
  refine HR.out.mono ?_
  rintro e w1 ⟨g, rfl, hg, hL, hb⟩
  have HL : Hid (LeafAt w1 g ⟨0, 0, x, y⟩ p) := hL
  have HB : Hid (Below w.heap.size w w1) := hb
  have HG : Hid (w.heap.size ≤ g) := hg
  have m1 := HMS.out g
  have m2 := HFW.out
  have HWy : Hid (Calls Try.prog 108 #[.pointer (some ⟨g, 0, none⟩), .int .i64 p] w1 fun e w' => e = .returned (.tuple #[.slice none 0 0, .pointer (some ⟨g, 0, none⟩)]) ∧ w1 = w') := leaf_way_yes g _ p w1 hL
  clear hL hb hg HR HMS HFW
  unfold leafI
  go_wp2_with (go_at_call 33; refine (HC.out _).mono ?_; rintro e w2 ⟨rfl, rfl⟩)
  refine HWy.out.mono ?_
  rintro e w2 ⟨rfl, rfl⟩
  clear m1 m2 HWy
  go_wp2_with fail
  refine (HM.out w1 HB.out).mono ?_
  rintro e w2 ⟨rfl, hb2⟩
  have HL2 : Hid (LeafAt w2 g ⟨0, 0, x, y⟩ p) := HL.out.below hb2
  have HB2 : Hid (Below w.heap.size w w2) := below_step HB.out hb2
  have HE2 : Hid (Calls Try.prog 35 #[.pointer (some ⟨g, 0, none⟩), .int .i64 2] w2 fun e w' => e = .returned (.int .i64 x) ∧ w2 = w') := box_extent g ⟨0, 0, x, y⟩ 2 w2 HL2.out.box
  have HWi : Hid (Calls Try.prog 37 #[.pointer (some ⟨g, 0, none⟩), .int .i64 2, .int .i64 n] w2 fun e w' => e = .returned (.agg #[.int .i64 0, .int .i64 0, .int .i64 n, .int .i64 y]) ∧ Below w2.heap.size w2 w') := by
    have hh := HH.out
    have hb := box_with g ⟨0, 0, x, y⟩ 2 n w2 HL2.out.box ⟨by show 0 ≤ x; omega, by show x ≤ 1000; omega⟩ ⟨by show 0 ≤ y; omega, by show y ≤ 1000; omega⟩ (by omega)
    have he : (⟨0, 0, x, y⟩ : Box).with 2 n = ⟨0, 0, n, y⟩ := by
      unfold Box.with Box.str Box.ext
      simp
      omega
    rw [he] at hb
    exact hb
  clear hb2 HL HB HM
  go_wp2_with (first | (go_at_call 35; refine HE2.out.mono ?_; rintro e w3 ⟨rfl, rfl⟩) | (go_at_call 36; refine (HW.out _).mono ?_; rintro e w3 ⟨rfl, rfl⟩))
  refine HWi.out.mono ?_
  rintro e w3 ⟨rfl, hb3⟩
  have HL3 : Hid (∀ o, LeafAt (w3.alloc o) g ⟨0, 0, x, y⟩ p) := fun o => (HL2.out.below hb3).below ((Below.refl _ _).alloc (Nat.le_refl _) o)
  have HN3 : Hid (LeafAt (w3.alloc (.cells #[.int .i64 0, .int .i64 0, .int .i64 n, .int .i64 y, .int .i64 id] 54)) w3.heap.size ⟨0, 0, n, y⟩ id) := heap_alloc_new _ _
  have HB3 : Hid (∀ o, Below w.heap.size w (w3.alloc o)) := fun o => (below_step HB2.out hb3).alloc (below_step HB2.out hb3).size o
  have HG3 : Hid (g < w3.heap.size) := lt_of_block (HL2.out.below hb3)
  have HSz : Hid (w.heap.size ≤ w3.heap.size) := (below_step HB2.out hb3).size
  have HSt : Hid (∀ o, Calls Try.prog 38 #[.pointer (some ⟨g, 0, none⟩), .int .i64 2, .int .i64 (-n - 1)] (w3.alloc o) fun e w' => e = .returned (.tuple #[]) ∧ LeafAt w' g ⟨0, 0, x - n - 1, y⟩ p ∧ (w3.alloc o).grownBy w' (some g)) := fun o => by
    have hh := HH.out
    have he : (⟨0, 0, x, y⟩ : Box).str 2 (-n - 1) = ⟨0, 0, x - n - 1, y⟩ := by
      unfold Box.str
      simp
      omega
    have := leaf_stretches g ⟨0, 0, x, y⟩ p 2 (-n - 1) (w3.alloc o) (HL3.out o) ⟨by show _ ≤ x; omega, by show x ≤ _; omega⟩ ⟨by show _ ≤ y; omega, by show y ≤ _; omega⟩ (by omega)
    rw [he] at this
    exact this
  clear hb3 HL2 HB2 HE2 HWi HL3 HW HC
  go_wp2_with fail
  refine (HSt.out _).mono ?_
  rintro e w5 ⟨rfl, hL5, hg5⟩
  have HN5 : Hid (LeafAt w5 w3.heap.size ⟨0, 0, n, y⟩ id) := by
    refine (hg5.block w3.heap.size (by simp) ?_).trans HN3.out
    have := HG3.out
    simp
    omega
  have HB5 : Hid (Below w.heap.size w w5) := below_grown (HB3.out _) hg5 HG.out
  have HL5 : Hid (LeafAt w5 g ⟨0, 0, x - n - 1, y⟩ p) := hL5
  have HJ5 : Hid (Calls Try.prog 40 _ _ _) := HJ.out g w3.heap.size w5 hL5 HN5.out (by have := HG3.out; omega)
  have HO5 : Hid (Calls Try.prog 41 #[.iface 48 (.pointer (some ⟨g, 0, none⟩)), .iface 48 (.pointer (some ⟨w3.heap.size, 0, none⟩)), .bool false] w5 fun e w' => e = .returned (.slice (some ⟨w5.heap.size, 0, none⟩) 2 2) ∧ w' = w5.alloc (.cells #[leafI g, leafI w3.heap.size] 45)) := inOrder_any _ _ g w3.heap.size false w5
  clear hL5 hg5 HSt HN3 HB3 HJ HN5 HL5
  go_wp2_with (go_at_call 41; refine HO5.out.mono ?_; rintro e w6 ⟨rfl, h6⟩; subst h6)
  refine HJ5.out.mono ?_
  rintro e w7 ⟨rfl, hl7⟩
  have HL7 : Hid (Calls Try.prog 23 #[splitI (w5.heap.size + 1)] w7 _) := hl7
  have HRp : Hid (Calls Try.prog 39 #[.iface 48 (.pointer (some ⟨g, 0, none⟩)), .slice none 0 0, splitI (w5.heap.size + 1)] w7 fun e w' => e = .returned (splitI (w5.heap.size + 1)) ∧ w7 = w') := replace_root _ _ none 0 w7
  unfold splitI at HL7 HRp
  clear hl7 HJ5 HO5
  go_wp2_with (go_at_call 39; refine HRp.out.mono ?_; rintro e w8 ⟨rfl, rfl⟩)
  refine HL7.out.mono ?_
  rintro e w9 ⟨u, rfl, hu, hbut⟩
  have HU : Hid (CeOwns w9 w5.heap.size u l1) := hu
  have HBt : Hid (But [g, w3.heap.size] w5 w9) := hbut
  clear hu hbut HL7 HRp
  go_wp2
  go_ret2
  have hB := HB5.out
  have hbt := HBt.out
  have hgg := HG.out
  have h3s := HSz.out
  refine ⟨u, rfl, HU.out.lower HB5.out.size, ⟨hbt.os.trans hB.os, hbt.tape.trans hB.tape, hbt.output.trans hB.output, Nat.le_trans hB.size hbt.size, fun q hq => (hbt.block q (by have := hB.size; omega) fun hm => ?_).trans (hB.block q hq)⟩⟩
  simp only [List.mem_cons, List.not_mem_nil, or_false] at hm
  rcases hm with hm | hm <;> omega

end Go.Proofs.Ytlaelkcmeaiajaa
