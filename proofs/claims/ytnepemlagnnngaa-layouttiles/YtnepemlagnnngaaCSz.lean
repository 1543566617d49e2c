/-
  Layouts: Split in the program: the two panes are made and put where the one stood.
  Layouts: Split in the program, where the pane is too small and where it is cut.
-/
import Derived.Test.YtnepemlagnnngaaCSp
import Derived.Test.YtnepemlagnnngaaCCz
namespace Go.Proofs.Ytnepemlagnnngaa
open Go.RowKit Go.Lib
set_option linter.unusedVariables false
set_option maxRecDepth 20000

theorem pair_join {Z : World} {q k n id : Int} {bf : Bool} {bl : Box} (hk : k = 2 ∨ k = 3) (hC : CutOk q k n id bf bl) {gl gf : Nat} (hl : LeafAt Z gl (bl.str k (-n - 1)) q) (hf : LeafAt Z gf (bl.with k n) id) :
    Calls Try.prog 33 #[.int .i64 k, .slice (some ⟨Z.heap.size, 0, none⟩) 2 2] (Z.alloc (.cells (if bf then #[leafI gf, leafI gl] else #[leafI gl, leafI gf]) 56)) fun e Z' => ∃ sl : Value, e = .returned (.pointer (some ⟨Z.heap.size + 1, 0, none⟩)) ∧ (cutT q k n id bf bl).At Z' 0 (splitI (Z.heap.size + 1)) ((Z.heap.size + 1) :: (sl.ownBlock.toList ++ (if bf then [gf, gl] else [gl, gf]))) ∧ (∀ y ∈ sl.ownBlock.toList, Z.heap.size + 2 ≤ y) ∧ Below Z.heap.size Z Z' := by
  have hB := hC.beside
  obtain ⟨C, hCo⟩ : ∃ o, Obj.cells (if bf then #[leafI gf, leafI gl] else #[leafI gl, leafI gf]) 56 = o := ⟨_, rfl⟩
  have s1 : (Z.alloc C).heap.size = Z.heap.size + 1 := by simp
  have b1 : Below Z.heap.size Z (Z.alloc C) := (Below.refl _ _).alloc (Nat.le_refl _) _
  have hnew := heap_alloc_new Z C
  rw [hCo]
  obtain ⟨W, hW⟩ : ∃ W, Z.alloc C = W := ⟨_, rfl⟩
  rw [hW] at s1 b1 hnew ⊢
  have hlS : ∀ x ∈ besideL k bf (.leaf (bl.str k (-n - 1)) q) (.leaf (bl.with k n) id), x.sound = true := fun x hx => (soundAll_in (aroundB (besideL k bf (.leaf (bl.str k (-n - 1)) q) (.leaf (bl.with k n) id)) k) k _ (by
      have := hB.sound
      unfold besideT Tree.sound at this
      simp only [Bool.and_eq_true, decide_eq_true_eq] at this
      exact this.2.1) x hx).1
  have hl1 : (Tree.leaf (bl.str k (-n - 1)) q).sound = true := hlS _ (by unfold besideL; cases bf <;> simp [flatT])
  have hf1 : (Tree.leaf (bl.with k n) id).sound = true := hlS _ (by unfold besideL; cases bf <;> simp [flatT])
  have hAl : (Tree.leaf (bl.str k (-n - 1)) q).At W 0 (leafI gl) [gl] := ⟨_, rfl, hl.below b1, rfl⟩
  have hAf : (Tree.leaf (bl.with k n) id).At W 0 (leafI gf) [gf] := ⟨_, rfl, hf.below b1, rfl⟩
  obtain ⟨u1, f1, hu1, _, _⟩ := flat_of (k := k) (t := .leaf (bl.str k (-n - 1)) q) hAl trivial hl1
  have e1 : u1 = [leafI gl] := hu1.no rfl
  subst e1
  obtain ⟨u2, f2, hu2, _, _⟩ := flat_of (k := k) (t := .leaf (bl.with k n) id) hAf trivial hf1
  have e2 : u2 = [leafI gf] := hu2.no rfl
  subst e2
  have hrow : ∀ (i : Nat) u, (if bf then [leafI gf, leafI gl] else [leafI gl, leafI gf])[i]? = some u → W.cell? ⟨Z.heap.size, i, none⟩ = some u := by
    intro i u hu
    rw [← hCo] at hnew
    rw [cell_atL hnew]
    cases bf <;> simpa using hu
  have hP : partsAt W 0 (besideL k bf (.leaf (bl.str k (-n - 1)) q) (.leaf (bl.with k n) id)) (if bf then [[leafI gf], [leafI gl]] else [[leafI gl], [leafI gf]]).flatten (if bf then [gf, gl] else [gl, gf]) := by
    cases bf with
    | true => exact ⟨leafI gf, [leafI gl], [gf], [gl], rfl, hAf, ⟨leafI gl, [], [gl], [], rfl, hAl, ⟨rfl, rfl⟩, rfl⟩, rfl⟩
    | false => exact ⟨leafI gl, [leafI gf], [gl], [gf], rfl, hAl, ⟨leafI gf, [], [gf], [], rfl, hAf, ⟨rfl, rfl⟩, rfl⟩, rfl⟩
  obtain ⟨c, cs, hcs⟩ : ∃ c cs, besideL k bf (.leaf (bl.str k (-n - 1)) q) (.leaf (bl.with k n) id) = c :: cs := by
    cases h : besideL k bf (.leaf (bl.str k (-n - 1)) q) (.leaf (bl.with k n) id) with
    | nil => exact absurd h hB.ne
    | cons c cs => exact ⟨c, cs, rfl⟩
  have hj := join_flat k hk Z.heap.size 2 2 (if bf then [leafI gf, leafI gl] else [leafI gl, leafI gf]) (if bf then [[leafI gf], [leafI gl]] else [[leafI gl], [leafI gf]]) (if bf then [gf, gl] else [gl, gf]) (if bf then [.leaf (bl.with k n) id, .leaf (bl.str k (-n - 1)) q] else [.leaf (bl.str k (-n - 1)) q, .leaf (bl.with k n) id]) c cs W hrow (by
    intro i x hx
    cases bf with
    | true =>
      match i, hx with
      | 0, hx => cases hx; exact ⟨_, _, rfl, rfl, hu2⟩
      | 1, hx => cases hx; exact ⟨_, _, rfl, rfl, hu1⟩
    | false =>
      match i, hx with
      | 0, hx => cases hx; exact ⟨_, _, rfl, rfl, hu1⟩
      | 1, hx => cases hx; exact ⟨_, _, rfl, rfl, hu2⟩) (by rw [← hcs]; exact hP) (by rw [← hcs]; exact hB.small) (by cases bf <;> rfl) (by cases bf <;> rfl) (by decide)
  rw [s1] at hj
  refine hj.mono ?_
  rintro e w' ⟨sl, he, hS, hO, hbw⟩
  rw [← hcs] at hS
  have hbw' : Below W.heap.size W w' := hbw.mono (by omega)
  refine ⟨sl, he, ⟨Z.heap.size + 1, sl, _, _, rfl, hS, ?_, hP.below hbw', rfl⟩, fun y hy => (World.ownsRow.lt hO y (by simpa using hy)).1, below_step b1 hbw'⟩
  rcases hO with ⟨a, b | ⟨g, cap, cur, e, _, c⟩⟩
  · exact ⟨a, .inl b⟩
  · exact ⟨a, .inr ⟨g, cap, cur, e, Nat.zero_le _, c⟩⟩

/-- What the walk of Split leans on, from the way on. -/
structure SplitD (w : World) (T' : List CellV) (w2 : World) (r : Value) (gl : Nat) (wv : Value) (k n id E : Int) (bf : Bool) (fb : Box) : Prop where
  ext : ∀ X, Below w2.heap.size w2 X → Calls Try.prog 27 #[.pointer (some ⟨gl, 0, none⟩), .int .i64 k] X fun e w' => e = .returned (.int .i64 E) ∧ X = w'
  wth : ∀ X, Below w2.heap.size w2 X → Calls Try.prog 29 #[.pointer (some ⟨gl, 0, none⟩), .int .i64 k, .int .i64 n] X fun e w' => e = .returned (.agg #[.int .i64 fb.x, .int .i64 fb.y, .int .i64 fb.w, .int .i64 fb.h]) ∧ Below X.heap.size X w'
  str : ∀ Y gf, Below w2.heap.size w2 Y → LeafAt Y gf fb id → w2.heap.size ≤ gf → Calls Try.prog 30 #[.pointer (some ⟨gl, 0, none⟩), .int .i64 k, .int .i64 (-n - 1)] Y fun e Z => e = .returned (.tuple #[]) ∧ Calls Try.prog 33 #[.int .i64 k, .slice (some ⟨Z.heap.size, 0, none⟩) 2 2] (Z.alloc (.cells (if bf then #[leafI gf, leafI gl] else #[leafI gl, leafI gf]) 56)) fun e Z1 => ∃ p, e = .returned (.pointer (some ⟨p, 0, none⟩)) ∧ ∀ m, Calls Try.prog 32 #[r, wv, splitI p] (Z1.drewN m) fun e Z2 => ∃ T3 g3, e = .returned (.iface T3 (.pointer (some ⟨g3, 0, none⟩))) ∧ Calls Try.prog 31 #[.iface T3 (.pointer (some ⟨g3, 0, none⟩))] Z2 (Fin T' w)

theorem split_data {w w1 w2 : World} {t t' : Tree} {T : TypeId} {g0 : Nat} {fp ps : List Nat} {st : List (Nat × Nat)} {wv : Value} {gl : Nat} {q k n id : Int} {bf : Bool} {bl : Box} (hb : Below w.heap.size w w1) (hA : t.At w1 0 (.iface T (.pointer (some ⟨g0, 0, none⟩))) fp) (hnd : fp.Nodup) (hge : ∀ x ∈ fp, w.heap.size ≤ x) (hb2 : Below w1.heap.size w1 w2) (hr : Reach w1 (.iface T (.pointer (some ⟨g0, 0, none⟩))) ps (leafI gl) st) (hst : Steps w2 w1.heap.size wv st) (hs : t.sound = true) (hkt : t.kinds) (hz : t.size ≤ 63) (hk : k = 2 ∨ k = 3) (hsub : t.subAt ps = some (.leaf bl q)) (hC : CutOk q k n id bf bl) (hn : 1 ≤ n ∧ n ≤ bl.ext k - 2) (hS : SplitOk q (cutT q k n id bf) bl t ps t') :
    SplitD w (laidL t') w2 (.iface T (.pointer (some ⟨g0, 0, none⟩))) gl wv k n id (bl.ext k) bf (bl.with k n) := by
  have hz2 : t'.size ≤ 200 := by have := hS.size; omega
  have hls : (Tree.leaf bl q).sound = true := (sub_sane ps t _ hsub hs hkt).1
  have hsd := (Tree.leaf bl q).sound_sides hls
  change (1 ≤ bl.w ∧ bl.w ≤ 1000) ∧ (1 ≤ bl.h ∧ bl.h ≤ 1000) at hsd
  have hse := sides_ext bl k hsd
  have hw2 : w.heap.size ≤ w2.heap.size := Nat.le_trans hb.size hb2.size
  have key : LeafAt w1 gl bl q → gl ∈ fp → (∀ Y Z Z1 p fS m, Below w2.heap.size w2 Y → But [gl] Y Z → Below Z.heap.size Z Z1 → (cutT q k n id bf bl).At Z1 0 (splitI p) fS → fS.Nodup → (∀ y ∈ fS, y = gl ∨ w2.heap.size ≤ y) → Calls Try.prog 32 #[.iface T (.pointer (some ⟨g0, 0, none⟩)), wv, splitI p] (Z1.drewN m) fun e Z2 => ∃ T3 g3, e = .returned (.iface T3 (.pointer (some ⟨g3, 0, none⟩))) ∧ Calls Try.prog 31 #[.iface T3 (.pointer (some ⟨g3, 0, none⟩))] Z2 (Fin (laidL t') w)) → SplitD w (laidL t') w2 (.iface T (.pointer (some ⟨g0, 0, none⟩))) gl wv k n id (bl.ext k) bf (bl.with k n) := by
    intro hlf hgl hrep
    have hl2 : LeafAt w2 gl bl q := hlf.below hb2
    have hgl1 : gl < w1.heap.size := hA.lt gl hgl
    refine ⟨fun X hX => box_extent gl bl k X (hl2.below hX).box, fun X hX => box_with gl bl k n X (hl2.below hX).box (by omega) (by omega) (by omega), fun Y gf hY hgf hfr => ?_⟩
    refine (leaf_stretches gl bl q k (-n - 1) Y (hl2.below hY) (by omega) (by omega) (by omega)).mono fun e Z h => ⟨h.1, ?_⟩
    have hbu : But [gl] Y Z := But.grown h.2.2
    have hne : gf ≠ gl := by have := hb2.size; omega
    have hgfZ : LeafAt Z gf (bl.with k n) id := (hbu.block gf (lt_of_block hgf) (by simpa using hne)).trans hgf
    refine (pair_join hk hC h.2.1 hgfZ).mono fun e Z1 h1 => ?_
    obtain ⟨sl, he, hAt, hown, hbZ⟩ := h1
    refine ⟨Z.heap.size + 1, he, fun m => hrep Y Z Z1 (Z.heap.size + 1) _ m hY hbu hbZ hAt ?_ ?_⟩
    · have hgZ : gf < Z.heap.size := lt_of_block hgfZ
      have hlZ : gl < Z.heap.size := lt_of_block h.2.1
      have hlt : ∀ y ∈ (if bf then [gf, gl] else [gl, gf]), y < Z.heap.size := fun y hy => by
        cases bf <;> simp at hy <;> rcases hy with rfl | rfl <;> assumption
      refine List.nodup_cons.2 ⟨fun h => ?_, List.nodup_append.2 ⟨?_, ?_, fun a ha b hb' e => ?_⟩⟩
      · rcases List.mem_append.1 h with h | h
        · have := hown _ h
          omega
        · have := hlt _ h
          omega
      · cases sl.ownBlock <;> simp
      · cases bf <;> simp [hne, Ne.symm hne]
      · have h1 := hown a ha
        have h2 := hlt b hb'
        omega
    · intro y hy
      have hYZ : w2.heap.size ≤ Z.heap.size := Nat.le_trans hY.size hbu.size
      rcases List.mem_cons.1 hy with h | h
      · exact .inr (by omega)
      · rcases List.mem_append.1 h with h | h
        · have := hown y h
          exact .inr (by omega)
        · have hyy : y = gl ∨ y = gf := by cases bf <;> simp at h <;> omega
          rcases hyy with rfl | rfl
          · exact .inl rfl
          · exact .inr hfr
  cases hS.split with
  | root bl' e =>
    subst e
    obtain ⟨y4, y5⟩ := hr
    unfold Tree.subAt at hsub
    cases hsub
    obtain ⟨gl', e1, hlf, e2⟩ := hA
    have e3 := y4.trans e1
    cases e3
    subst e2 y5
    refine key hlf (by simp) (fun Y Z Z1 p fS m hY hbu hZ1 hAt hfn hfS => ?_)
    obtain ⟨a', c', e0⟩ := own_sl5 hst
    subst e0
    refine (replace_root _ _ _ _ _).mono ?_
    rintro e Z' ⟨rfl, rfl⟩
    have hbY : Below w.heap.size w Y := below_step (below_step hb hb2) hY
    have hbZ : Below w.heap.size w Z1 := below_step (below_but hbY hbu hge) hZ1
    refine ⟨_, _, rfl, fin_end (below_drewN hbZ m) (fun y hy => ?_) hfn (hAt.below (below_drewN (Below.refl _ _) m)) hS.sound hS.kinds hz2⟩
    rcases hfS y hy with h | h
    · exact hge y (by simp [h])
    · omega
  | «at» qs a b k' ts bl' x1 x2 =>
    have hbl : bl' = bl := by
      have := sub_snoc qs t b k' ts a _ x1 x2
      rw [hsub] at this
      injection this with this
      injection this with this
      exact this.symm
    subst hbl
    obtain ⟨g, st', pg, cap, vs, f1, f2, R, e0, _, hI⟩ := in_at hA hnd hr x1 x2
    have hglm : gl ∈ fp := hI.perm.mem_iff.2 (by simp)
    refine key hI.lf hglm (fun Y Z Z1 p fS m hY hbu hZ1 hAt hfn hfS => ?_)
    have hI2 := hI.below hA hb2
    have hlt := hI.lt hA
    obtain ⟨a1, a2⟩ := List.nodup_cons.1 hI.nd
    obtain ⟨a3, a4⟩ := List.nodup_cons.1 a2
    obtain ⟨a5, a6⟩ := List.nodup_cons.1 a4
    obtain ⟨c1, c2, c3⟩ := List.nodup_append.1 a6
    have hgl1 := hA.lt gl hglm
    have hkeep : ∀ y, y < w2.heap.size → y ≠ gl → (Z1.drewN m).heap[y]? = w2.heap[y]? := fun y hy hn' => by
      have h1 : y < Y.heap.size := Nat.lt_of_lt_of_le hy hY.size
      have h2 : y < Z.heap.size := Nat.lt_of_lt_of_le h1 hbu.size
      exact (hZ1.block y h2).trans ((hbu.block y h1 (by simpa using hn')).trans (hY.block y hy))
    have hmm : ∀ y, y ∈ g :: pg :: (f1 ++ (f2 ++ R)) → y < w1.heap.size ∧ y ≠ gl := fun y hy => by
      refine ⟨hlt y ?_, fun e => ?_⟩
      · rcases List.mem_cons.1 hy with h | h
        · simp [h]
        · rcases List.mem_cons.1 h with h | h
          · simp [h]
          · exact List.mem_cons_of_mem _ (List.mem_cons_of_mem _ (List.mem_cons_of_mem _ h))
      · subst e
        rcases List.mem_cons.1 hy with h | h
        · exact a1 (by simp [h])
        · rcases List.mem_cons.1 h with h | h
          · exact a3 (by simp [h])
          · exact a5 h
    have hk9 : ∀ y, y ∈ g :: pg :: (f1 ++ (f2 ++ R)) → (Z1.drewN m).heap[y]? = w2.heap[y]? := fun y hy => hkeep y (Nat.lt_of_lt_of_le (hmm y hy).1 hb2.size) (hmm y hy).2
    obtain ⟨wg, wc, e3, s1, s2, s3, s4, s5⟩ := step_cells hst (by rw [e0]; simp)
    subst e3
    have hup := s5 0 (g, a) (by rw [e0]; rfl)
    have hwgk : ∀ o, (Z1.drewN m).cell? ⟨wg, o, none⟩ = w2.cell? ⟨wg, o, none⟩ := fun o => World.cell?_of_block (w' := Z1.drewN m) (w := w2) (a := ⟨wg, o, none⟩) (hkeep wg s2 (by omega))
    have hst1 : 1 ≤ st.length := by rw [e0]; simp
    have hal : a < ts.length := (List.getElem?_eq_some_iff.1 x2).1
    have htl := length_sizes ts
    obtain ⟨n1, n2, n3⟩ := sub_sane qs t _ x1 hs hkt
    have hz3 : 1 + sizes ts ≤ 63 := by
      change 1 + sizes ts ≤ t.size at n3
      omega
    have hfd : ∀ y ∈ fS, y ∉ g :: pg :: (f1 ++ (f2 ++ R)) := fun y hy hin => by
      have h1 := hmm y hin
      rcases hfS y hy with h | h
      · exact h1.2 h
      · have := hb2.size
        omega
    have hgr := replace_graft t (.iface T (.pointer (some ⟨g0, 0, none⟩))) fp qs b k' ts g pg ts.length cap a vs f1 f2 R (cutT q k n id bf bl') (splitI p) fS wg 0 st.length wc (Z1.drewN m)
      (by rw [hwgk]; exact hup.1) (by rw [hwgk]; exact hup.2) hst1
      ((hk9 g (by simp)).trans hI2.own) (own_kept hI2.row fun y hy => hk9 y (by
        have : y = pg := by simpa [Value.ownBlock] using hy
        simp [this])) hal (by omega)
      (hI2.ahead.keep fun y hy => hk9 y (by simp [hy])) (hI2.behind.keep fun y hy => hk9 y (by simp [hy])) hI2.one
      (fun W' s' f'' hs' hk' => hI2.put W' s' f'' hs' fun y hy => (hk' y hy).trans (hk9 y (by simp [hy])))
      (fun y hy => Nat.lt_of_lt_of_le (hmm y (by simp [hy])).1 (Nat.le_trans hb2.size (Nat.le_trans hY.size (Nat.le_trans hbu.size hZ1.size))))
      (hAt.below (below_drewN (Below.refl _ _) m)) hC.sound (kinds_fine _ hC.kinds (by have := hC.size; omega)) (by have := hC.size; omega)
      (by
        refine List.nodup_cons.2 ⟨fun h => ?_, List.nodup_cons.2 ⟨fun h => ?_, List.nodup_append.2 ⟨c1, List.nodup_append.2 ⟨hfn, c2, fun d1 hd1 d2 hd2 e => hfd d1 hd1 (by rw [e]; simp [hd2])⟩, fun d1 hd1 d2 hd2 e => ?_⟩⟩⟩
        · rcases List.mem_cons.1 h with h | h
          · exact a1 (by simp [h])
          · rcases List.mem_append.1 h with h | h
            · exact a1 (by simp [h])
            · rcases List.mem_append.1 h with h | h
              · exact hfd _ h (by simp)
              · exact a1 (List.mem_cons_of_mem _ (List.mem_cons_of_mem _ (List.mem_append_right _ h)))
        · rcases List.mem_append.1 h with h | h
          · exact a3 (by simp [h])
          · rcases List.mem_append.1 h with h | h
            · exact hfd _ h (by simp)
            · exact a3 (List.mem_cons_of_mem _ (List.mem_append_right _ h))
        · rcases List.mem_append.1 hd2 with h | h
          · exact hfd d2 h (by rw [← e]; simp [hd1])
          · exact c3 d1 hd1 d2 h e)
      (fun y hy => hI.perm.mem_iff.2 (by
        rcases hy with h | h | h | h | h <;> simp [h]))
    refine hgr.mono ?_
    rintro e Z' ⟨rfl, fp', hA', hn', hin', hbu'⟩
    have hbY : Below w.heap.size w Y := below_step (below_step hb hb2) hY
    have hbZ : Below w.heap.size w (Z1.drewN m) := below_drewN (below_step (below_but hbY hbu (fun y hy => hge y (by
      have : y = gl := by simpa using hy
      rw [this]
      exact hglm))) hZ1) m
    refine ⟨T, g0, rfl, fin_end (below_but hbZ hbu' hge) (fun y hy => ?_) hn' hA' hS.sound hS.kinds hz2⟩
    rcases hin' y hy with h | h | h
    · exact hge y h
    · rcases hfS y h with h | h
      · rw [h]
        exact hge gl hglm
      · omega
    · exact Nat.le_trans hbZ.size h

end Go.Proofs.Ytnepemlagnnngaa

namespace Go.Proofs.Ytnepemlagnnngaa
open Go.RowKit Go.Lib
set_option linter.unusedVariables false
set_option maxRecDepth 100000

theorem reach_leafS {w : World} {t : Tree} {v : Value} {fp ps : List Nat} {st : List (Nat × Nat)} {gl : Nat} {bl : Box} {q : Int} (hA : t.At w 0 v fp) (hr : Reach w v ps (leafI gl) st) (hsub : t.subAt ps = some (.leaf bl q)) : LeafAt w gl bl q := by
  obtain ⟨s, f', R, hS⟩ := Tree.At.reach ps hA hr
  have hs : s = .leaf bl q := by
    have := hS.sub
    rw [hsub] at this
    exact (Option.some.inj this).symm
  subst hs
  obtain ⟨gl', e, hl, _⟩ := hS.here
  cases e
  exact hl

set_option maxHeartbeats 1000000 in
theorem splP_small (v : Value) (l : List CellV) (q k z id : Int) (bf : Bool) (w : World) (h : CellsIn w v l) {t : Tree} (hF : readF l = some t) (hk : k = 2 ∨ k = 3) {ps : List Nat} {bl : Box} (hp : t.path q = some ps) (hsub : t.subAt ps = some (.leaf bl q)) (hj : joinE l id = 0) (h3 : bl.ext k < 3) : Calls Try.prog 8 #[v, .int .i64 q, .int .i64 k, .int .i64 z, .bool bf, .int .i64 id] w (Ans2 44 [] w) := by
  have HR : Hid (Calls Try.prog 24 #[v] w (ReadYes t w)) := read_yes v l w h hF
  have HC : Hid (∀ W, Calls Try.prog 25 #[.int .i64 k] W fun e w' => e = .returned (.bool true) ∧ W = w') := fun W => (decide_eq_true hk) ▸ isCut_any k W
  have hl63 := (read_lenS (by rw [hF]; rfl : (readF l).isSome = true)).1
  have HJ : Hid (∀ X, Below w.heap.size w X → Calls Try.prog 26 #[v, .int .i64 id] X fun e w' => e = .returned (.int .i64 0) ∧ Below X.heap.size X w') := fun X hX => hj ▸ mayJoin_any v l id X (h.below hX) (by omega)
  have hl := readF_lay hF
  have hz := lay_size hl
  obtain ⟨E, hE⟩ : ∃ x, bl.ext k = x := ⟨_, rfl⟩
  rw [hE] at h3
  have HW : Hid (∀ T g fp w1, t.At w1 0 (.iface T (.pointer (some ⟨g, 0, none⟩))) fp → ∃ Fw, (∀ W, (method 279 T (.pointer (some ⟨g, 0, none⟩)) "mullion/layout.way").run Try.prog W = .ok (Fw, .pointer (some ⟨g, 0, none⟩)) W) ∧ (∀ a c W, (callFunc Fw #[a, c]).run Try.prog W = .ok (.enter Fw #[a, c]) W) ∧ Calls Try.prog Fw #[.pointer (some ⟨g, 0, none⟩), .int .i64 q] w1 fun e w' => Below w1.heap.size w1 w' ∧ ∃ gl sa sn sc, e = .returned (.tuple #[.slice sa sn sc, .pointer (some ⟨gl, 0, none⟩)]) ∧ ∀ X, Below w'.heap.size w' X → Calls Try.prog 27 #[.pointer (some ⟨gl, 0, none⟩), .int .i64 k] X fun e w' => e = .returned (.int .i64 E) ∧ X = w') := fun T g fp w1 hA => by
    obtain ⟨Fw, m1, m2, hc⟩ := way_root hA hl.sound (by omega) q
    refine ⟨Fw, m1, m2, (hc w1 (Below.refl _ _)).mono fun e w' h => ?_⟩
    obtain ⟨hb, ⟨h1, _⟩ | ⟨ps', gl, st, sa, sn, sc, h1, h2, he, h3⟩⟩ := h
    · rw [hp] at h1
      cases h1
    · rw [hp] at h1
      cases h1
      exact ⟨hb, gl, sa, sn, sc, he, fun X hX => hE ▸ box_extent gl bl k X (((reach_leafS hA h2 hsub).below hb).below hX).box⟩
  clear h hF hk hl63 hl hz hp hsub hj hE
  go_enter Try.func8, Try.ntmps8
  go_wp2_with fail
  refine HR.out.mono ?_
  rintro e w1 ⟨T, g, fp, rfl, hAt, hnd, hge, hb⟩
  have HB : Hid (Below w.heap.size w w1) := hb
  obtain ⟨Fw, m1, m2, hc⟩ := HW.out T g fp w1 hAt
  have HF := hiddenS hc
  clear hAt hnd hge hb hc HR HW
  go_wp2_with fail
  refine (HC.out _).mono ?_
  rintro e w9 ⟨rfl, rfl⟩
  go_wp2_with fail
  refine HF.out.mono ?_
  rintro e w8 ⟨hb8, gl, sa, sn, sc, rfl, hx⟩
  have HB8 : Hid (Below w.heap.size w w8) := below_step HB.out hb8
  have HX := hiddenS hx
  clear hb8 HF hx
  go_wp2_with fail
  refine (HJ.out _ HB8.out).mono ?_
  rintro e w2 ⟨rfl, hb2⟩
  have HB2 : Hid (Below w.heap.size w w2) := below_step HB8.out hb2
  have HX2 := hiddenS (HX.out w2 hb2)
  clear hb2 HX
  go_wp2_with fail
  refine HX2.out.mono ?_
  rintro e w3 ⟨rfl, rfl⟩
  go_wp2
  go_ret2
  exact ⟨_, rfl, World.ownsRow_nil _ _ _ _, HB2.out⟩

set_option maxHeartbeats 1000000 in
theorem splP_ok (v : Value) (l : List CellV) (q k z id : Int) (bf : Bool) (w : World) (h : CellsIn w v l) {t t' : Tree} (hF : readF l = some t) (hk : k = 2 ∨ k = 3) {ps : List Nat} {bl : Box} {n : Int} (hp : t.path q = some ps) (hsub : t.subAt ps = some (.leaf bl q)) (hj : joinE l id = 0) (h3 : 3 ≤ bl.ext k) (hn : n = min (wantedF z (bl.ext k)) (bl.ext k - 2)) (hn1 : 1 ≤ n) (hC : CutOk q k n id bf bl) (hS : SplitOk q (cutT q k n id bf) bl t ps t') : Calls Try.prog 8 #[v, .int .i64 q, .int .i64 k, .int .i64 z, .bool bf, .int .i64 id] w (Ans2 0 (laidL t') w) := by
  have HR : Hid (Calls Try.prog 24 #[v] w (ReadYes t w)) := read_yes v l w h hF
  have HC : Hid (∀ W, Calls Try.prog 25 #[.int .i64 k] W fun e w' => e = .returned (.bool true) ∧ W = w') := fun W => (decide_eq_true hk) ▸ isCut_any k W
  have hl63 := (read_lenS (by rw [hF]; rfl : (readF l).isSome = true)).1
  have HJ : Hid (∀ X, Below w.heap.size w X → Calls Try.prog 26 #[v, .int .i64 id] X fun e w' => e = .returned (.int .i64 0) ∧ Below X.heap.size X w') := fun X hX => hj ▸ mayJoin_any v l id X (h.below hX) (by omega)
  have hl := readF_lay hF
  have hz := lay_size hl
  have hls : (Tree.leaf bl q).sound = true := (sub_sane ps t _ hsub hl.sound hl.kinds).1
  have hse := sides_ext bl k ((Tree.leaf bl q).sound_sides hls)
  have hnb : n ≤ bl.ext k - 2 := by rw [hn]; exact Int.min_le_right _ _
  obtain ⟨LT, hLT⟩ : ∃ x, laidL t' = x := ⟨_, rfl⟩
  obtain ⟨fb, hfb⟩ : ∃ x, bl.with k n = x := ⟨_, rfl⟩
  obtain ⟨E, hE⟩ : ∃ x, bl.ext k = x := ⟨_, rfl⟩
  have HW : Hid (∀ T g fp w1, t.At w1 0 (.iface T (.pointer (some ⟨g, 0, none⟩))) fp → fp.Nodup → (∀ x ∈ fp, w.heap.size ≤ x) → Below w.heap.size w w1 → ∃ Fw, (∀ W, (method 279 T (.pointer (some ⟨g, 0, none⟩)) "mullion/layout.way").run Try.prog W = .ok (Fw, .pointer (some ⟨g, 0, none⟩)) W) ∧ (∀ a c W, (callFunc Fw #[a, c]).run Try.prog W = .ok (.enter Fw #[a, c]) W) ∧ Calls Try.prog Fw #[.pointer (some ⟨g, 0, none⟩), .int .i64 q] w1 fun e w2 => Below w1.heap.size w1 w2 ∧ ∃ gl sa sn sc, e = .returned (.tuple #[.slice sa sn sc, .pointer (some ⟨gl, 0, none⟩)]) ∧ SplitD w LT w2 (.iface T (.pointer (some ⟨g, 0, none⟩))) gl (.slice sa sn sc) k n id E bf fb) := fun T g fp w1 hA hnd hge hb => by
    obtain ⟨Fw, m1, m2, hc⟩ := way_root hA hl.sound (by omega) q
    refine ⟨Fw, m1, m2, (hc w1 (Below.refl _ _)).mono fun e w2 h => ?_⟩
    obtain ⟨hb2, ⟨h1, _⟩ | ⟨ps', gl, st, sa, sn, sc, h1, h2, he, h3⟩⟩ := h
    · rw [hp] at h1
      cases h1
    · rw [hp] at h1
      cases h1
      refine ⟨hb2, gl, sa, sn, sc, he, ?_⟩
      rw [← hLT, ← hE, ← hfb]
      exact split_data hb hA hnd hge hb2 h2 h3 hl.sound hl.kinds (by omega) hk hsub hC ⟨hn1, hnb⟩ hS
  rw [hE] at hn hse hnb h3
  have HWt : Hid (∀ W, Calls Try.prog 28 #[.int .i64 z, .int .i64 E] W fun e w' => e = .returned (.int .i64 (wantedF z E)) ∧ W = w') := fun W => wanted_any z E W (by omega)
  obtain ⟨wt, hwt⟩ : ∃ r, wantedF z E = r := ⟨_, rfl⟩
  rw [hwt] at HWt hn
  have HMin : Hid (min wt (E - 2) = n) := hn.symm
  have hw1 : IntKind.i64.wrap (E - 2) = E - 2 := by rw [IntKind.wrap_i64]; omega
  have hw2 : IntKind.i64.wrap (-n) = -n := by rw [IntKind.wrap_i64]; omega
  have hw3 : IntKind.i64.wrap (-n - 1) = -n - 1 := by rw [IntKind.wrap_i64]; omega
  have hEl : ¬ E < 3 := by omega
  have HIo : Hid (∀ T1 T2 g1 g2 W, Calls Try.prog 34 #[.iface T1 (.pointer (some ⟨g1, 0, none⟩)), .iface T2 (.pointer (some ⟨g2, 0, none⟩)), .bool bf] W fun e w' => e = .returned (.slice (some ⟨W.heap.size, 0, none⟩) 2 2) ∧ w' = W.alloc (.cells (if bf then #[.iface T2 (.pointer (some ⟨g2, 0, none⟩)), .iface T1 (.pointer (some ⟨g1, 0, none⟩))] else #[.iface T1 (.pointer (some ⟨g1, 0, none⟩)), .iface T2 (.pointer (some ⟨g2, 0, none⟩))]) 56)) := fun T1 T2 g1 g2 W => inOrder_any T1 T2 g1 g2 bf W
  rw [hLT]
  obtain ⟨fx, fy, fw, fh⟩ := fb
  clear h hF hk hl63 hl hz hp hsub hj hE hls hse hnb hn h3 hn1 hC hS hwt hLT hfb
  go_enter Try.func8, Try.ntmps8
  go_wp2_with fail
  refine HR.out.mono ?_
  rintro e w1 ⟨T, g, fp, rfl, hAt, hnd, hge, hb⟩
  have HB : Hid (Below w.heap.size w w1) := hb
  obtain ⟨Fw, m1, m2, hc⟩ := HW.out T g fp w1 hAt hnd hge hb
  have HF := hiddenS hc
  clear hAt hnd hge hb hc HR HW
  go_wp2_with fail
  refine (HC.out _).mono ?_
  rintro e w9 ⟨rfl, rfl⟩
  go_wp2_with fail
  refine HF.out.mono ?_
  rintro e w2 ⟨hb8, gl, sa, sn, sc, rfl, hD⟩
  have HB8 : Hid (Below w.heap.size w w2) := below_step HB.out hb8
  have HD := hiddenS hD
  clear hb8 HF hD m1 m2
  go_wp2_with fail
  refine (HJ.out _ HB8.out).mono ?_
  rintro e w3 ⟨rfl, hb3⟩
  have HB3 : Hid (Below w2.heap.size w2 w3) := hb3
  have HX2 := hiddenS (HD.out.ext w3 hb3)
  clear hb3 HJ HC
  go_wp2_with fail
  refine HX2.out.mono ?_
  rintro e w9 ⟨rfl, rfl⟩
  go_wp2_with fail
  refine (HWt.out _).mono ?_
  rintro e w9 ⟨rfl, rfl⟩
  have HWi := hiddenS (HD.out.wth w3 HB3.out)
  clear HX2 HWt
  go_wp2_with fail
  rw [HMin.out]
  refine HWi.out.mono ?_
  rintro e w4 ⟨rfl, hb4⟩
  have HSt := hiddenS (HD.out.str (w4.alloc (.cells (leafV ⟨fx, fy, fw, fh⟩ id) 68)) w4.heap.size (below_step (below_step HB3.out hb4) ((Below.refl _ _).alloc (Nat.le_refl _) _)) (heap_alloc_new _ _) (Nat.le_trans HB3.out.size hb4.size))
  unfold leafV at HSt
  clear hb4 HWi HD
  go_wp2_with fail
  refine HSt.out.mono ?_
  rintro e Z ⟨rfl, hJ⟩
  have HJn := hiddenS hJ
  clear hJ HSt
  cases bf
  all_goals (
    simp only [Bool.false_eq_true, if_false, if_true] at HJn HIo
    go_wp2_with fail
    refine (HIo.out _ _ _ _ _).mono ?_
    rintro e w7 ⟨rfl, rfl⟩
    go_wp2_with fail
    refine HJn.out.mono ?_
    rintro e Z1 ⟨p, rfl, hRp⟩
    have HRp := hiddenS (hRp 0)
    clear hRp HJn
    go_wp2_with fail
    refine HRp.out.mono ?_
    rintro e Z2 ⟨T3, g3, rfl, hL⟩
    have HL := hiddenS hL
    clear hL HRp
    go_wp2_with fail
    refine HL.out.mono ?_
    rintro e w9 ⟨u, rfl, hu, hb9⟩
    have HU : Hid (CeOwns w9 w.heap.size u LT) := hu
    have HB9 : Hid (Below w.heap.size w w9) := hb9
    clear hu hb9 HL
    go_wp2
    go_ret2
    exact ⟨u, rfl, HU.out, HB9.out⟩)

end Go.Proofs.Ytnepemlagnnngaa
