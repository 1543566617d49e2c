/-
  Layouts: a pane that was cut is closed again: the tree that there was.
-/
import Derived.Test.YtnepemlagnnngaaCSp
import Derived.Test.YtnepemlagnnngaaCWa
import Derived.Test.YtnepemlagnnngaaCFi
namespace Go.Proofs.Ytnepemlagnnngaa
open Go.RowKit
set_option linter.unusedVariables false
set_option maxRecDepth 20000

/-! What is laid down is a layout again. -/
theorem idl_movedB (t : Tree) (x y : Int) (hk : t.kinds) : (t.moved x y).idl = t.idl := by
  have h1 := ids_told t 0 hk
  have h2 := ids_told (t.moved x y) 0 (kinds_moved t x y hk)
  rw [node_moved] at h2
  rw [idl_told t 0 hk, idl_told (t.moved x y) 0 (kinds_moved t x y hk), ← h1, ← h2]
theorem laid_lay {t : Tree} (hs : t.sound = true) (hk : t.kinds) (hf : fewB t.idl = true) : IsLay (laidL t) (t.moved 0 0) := by
  refine ⟨kinds_moved t 0 0 hk, sound_moved t 0 0 hk hs, moved_moved t 0 0 0 0, rfl, ?_⟩
  have : idsOf (laidL t) = t.idl := by
    unfold laidL
    rw [← idl_told (t.moved 0 0) 0 (kinds_moved t 0 0 hk), idl_movedB t 0 0 hk]
  rw [this]
  exact hf
theorem laid_of {l : List CellV} {t : Tree} (h : IsLay l t) : laidL t = l := by
  unfold laidL
  rw [h.moved, h.tell]

/-! The cut, level by level. -/
theorem cutd_ok {q : Int} {c : Box → Tree} {bl : Box} (h1 : (c bl).sound = true) (h2 : (c bl).kinds) (h3 : (c bl).box.w = bl.w ∧ (c bl).box.h = bl.h) {t t' : Tree} (h : Cutd q c bl t t') : t.sound = true → t.kinds → t'.sound = true ∧ t'.kinds ∧ t'.box.w = t.box.w ∧ t'.box.h = t.box.h := by
  induction h with
  | keep t _ => exact fun hs hk => ⟨hs, hk, rfl, rfl⟩
  | here => exact fun _ _ => ⟨h1, h2, h3⟩
  | deep b k ts i s s' hi hS hoth ih =>
    intro hs hk
    have hs0 := hs
    unfold Tree.sound at hs
    simp only [Bool.and_eq_true, decide_eq_true_eq] at hs
    have hsd := soundAll_at ts b k i s hi hs.2.1
    simp only [Bool.and_eq_true, decide_eq_true_eq] at hsd
    obtain ⟨g1, g2, g3⟩ := ih hsd.1 (kindsAll_at ts i s hi hk.2)
    obtain ⟨hf, _⟩ := splice_fits b k ts i s s' hi g1 g2 g3 hk.1 hs0
    exact ⟨hf.sound hs0, hf.kinds hk, rfl, rfl⟩
/-- Which panes there are. -/
theorem cutd_ids {q : Int} {c : Box → Tree} {bl : Box} {zs : List Int} (hc : (c bl).idl = zs) {t t' : Tree} (h : Cutd q c bl t t') : q ∈ t.idl → ∃ l1 l2, t.idl = l1 ++ q :: l2 ∧ t'.idl = l1 ++ (zs ++ l2) := by
  induction h with
  | keep t hq => exact fun h => absurd h hq
  | here => exact fun _ => ⟨[], [], rfl, by rw [hc]; simp⟩
  | deep b k ts i s s' hi hS hoth ih =>
    intro hq
    have hqs : q ∈ s.idl := Classical.byContradiction fun hn => by
      have hq' : q ∈ idls ts := hq
      rw [mid_eq hi, idls_append] at hq'
      rcases List.mem_append.1 hq' with h | h
      · obtain ⟨j, u, hj, hu, hqu⟩ := idls_mem (ts.take i) h
        have hji : j < i := by have := (List.getElem?_eq_some_iff.1 hj).1; simp at this; omega
        rw [List.getElem?_take_of_lt hji] at hj
        exact hoth j u (by omega) hj hqu
      · change q ∈ s.idl ++ idls (ts.drop (i + 1)) at h
        rcases List.mem_append.1 h with h | h
        · exact hn h
        · obtain ⟨j, u, hj, hu, hqu⟩ := idls_mem (ts.drop (i + 1)) h
          rw [List.getElem?_drop] at hj
          exact hoth (i + 1 + j) u (by omega) hj hqu
    obtain ⟨l1, l2, e1, e2⟩ := ih hqs
    refine ⟨idls (ts.take i) ++ l1, l2 ++ idls (ts.drop (i + 1)), ?_, ?_⟩
    · show idls ts = _
      conv => lhs; rw [mid_eq hi]
      rw [idls_append]
      show idls (ts.take i) ++ (s.idl ++ idls (ts.drop (i + 1))) = _
      rw [e1]
      simp
    · show idls (ts.take i ++ (flatT k s' ++ ts.drop (i + 1))) = _
      rw [idls_append, idls_append, flat_idls, e2]
      simp
where
  idls_mem {q : Int} : ∀ (ts : List Tree), q ∈ idls ts → ∃ (j : Nat) (u : Tree), ts[j]? = some u ∧ u ∈ ts ∧ q ∈ u.idl
  | [], h => by cases h
  | t :: ts, h => by
    have h' : q ∈ t.idl ++ idls ts := h
    rcases List.mem_append.1 h' with h | h
    · exact ⟨0, t, rfl, by simp, h⟩
    · obtain ⟨j, u, h1, h2, h3⟩ := idls_mem ts h
      exact ⟨j + 1, u, h1, by simp [h2], h3⟩

/-! Places. -/
theorem movedAll_append (k : Int) : ∀ (ts us : List Tree) (x y : Int), movedAll (ts ++ us) k x y = movedAll ts k x y ++ (if k = 2 then movedAll us k (x + (extAll ts k + 1)) y else movedAll us k x (y + (extAll ts k + 1)))
  | [], us, x, y => by
    show movedAll us k x y = [] ++ (if k = 2 then movedAll us k (x + (-1 + 1)) y else movedAll us k x (y + (-1 + 1)))
    simp
  | t :: ts, us, x, y => by
    show t.moved x y :: (if k = 2 then movedAll (ts ++ us) k (x + (t.box.ext k + 1)) y else movedAll (ts ++ us) k x (y + (t.box.ext k + 1))) = t.moved x y :: (if k = 2 then movedAll ts k (x + (t.box.ext k + 1)) y else movedAll ts k x (y + (t.box.ext k + 1))) ++ (if k = 2 then movedAll us k (x + (t.box.ext k + 1 + extAll ts k + 1)) y else movedAll us k x (y + (t.box.ext k + 1 + extAll ts k + 1)))
    by_cases hk : k = 2
    · rw [if_pos hk, if_pos hk, if_pos hk, movedAll_append k ts, if_pos hk, show x + (t.box.ext k + 1) + (extAll ts k + 1) = x + (t.box.ext k + 1 + extAll ts k + 1) by omega]
      rfl
    · rw [if_neg hk, if_neg hk, if_neg hk, movedAll_append k ts, if_neg hk, show y + (t.box.ext k + 1) + (extAll ts k + 1) = y + (t.box.ext k + 1 + extAll ts k + 1) by omega]
      rfl
theorem flat_moved (k : Int) (t : Tree) (us : List Tree) (x y : Int) (hs : t.sound = true) : movedAll (flatT k t ++ us) k x y = flatT k (t.moved x y) ++ (if k = 2 then movedAll us k (x + (t.box.ext k + 1)) y else movedAll us k x (y + (t.box.ext k + 1))) := by
  cases hk : t.kindIs k with
  | false =>
    rw [flatT_no hk, flatT_no (by rw [kindIs_moved]; exact hk)]
    rfl
  | true =>
    cases t with
    | leaf b p => cases hk
    | split b k' ts =>
      have e : k' = k := by simpa [Tree.kindIs] using hk
      subst e
      unfold Tree.sound at hs
      simp only [Bool.and_eq_true, decide_eq_true_eq] at hs
      have e1 : flatT k' (.split b k' ts) = ts := if_pos rfl
      have e2 : flatT k' ((Tree.split b k' ts).moved x y) = movedAll ts k' x y := if_pos rfl
      rw [e1, e2, movedAll_append, hs.2.2]
      rfl
theorem splice_moved (k : Int) (s s' : Tree) (hs : s'.sound = true) (he : s'.box.ext k = s.box.ext k) : ∀ (ts : List Tree) (i : Nat) (x y : Int), ts[i]? = some s → ∃ xi yi, (movedAll ts k x y)[i]? = some (s.moved xi yi) ∧ movedAll (spliceT k ts i s') k x y = spliceT k (movedAll ts k x y) i (s'.moved xi yi)
  | [], i, x, y, h => by simp at h
  | t :: ts, 0, x, y, h => by
    have e : t = s := by simpa using h
    subst e
    refine ⟨x, y, rfl, ?_⟩
    show movedAll ([] ++ (flatT k s' ++ ts)) k x y = [] ++ (flatT k (s'.moved x y) ++ (if k = 2 then movedAll ts k (x + (t.box.ext k + 1)) y else movedAll ts k x (y + (t.box.ext k + 1))))
    rw [List.nil_append, List.nil_append, flat_moved k s' ts x y hs, he]
  | t :: ts, i + 1, x, y, h => by
    have h' : ts[i]? = some s := by simpa using h
    by_cases hk : k = 2
    · obtain ⟨xi, yi, g1, g2⟩ := splice_moved k s s' hs he ts i (x + (t.box.ext k + 1)) y h'
      refine ⟨xi, yi, ?_, ?_⟩
      · show (t.moved x y :: (if k = 2 then movedAll ts k (x + (t.box.ext k + 1)) y else movedAll ts k x (y + (t.box.ext k + 1))))[i + 1]? = _
        rw [if_pos hk]
        simpa using g1
      · show t.moved x y :: (if k = 2 then movedAll (spliceT k ts i s') k (x + (t.box.ext k + 1)) y else movedAll (spliceT k ts i s') k x (y + (t.box.ext k + 1))) = spliceT k (t.moved x y :: (if k = 2 then movedAll ts k (x + (t.box.ext k + 1)) y else movedAll ts k x (y + (t.box.ext k + 1)))) (i + 1) (s'.moved xi yi)
        rw [if_pos hk, if_pos hk, g2]
        rfl
    · obtain ⟨xi, yi, g1, g2⟩ := splice_moved k s s' hs he ts i x (y + (t.box.ext k + 1)) h'
      refine ⟨xi, yi, ?_, ?_⟩
      · show (t.moved x y :: (if k = 2 then movedAll ts k (x + (t.box.ext k + 1)) y else movedAll ts k x (y + (t.box.ext k + 1))))[i + 1]? = _
        rw [if_neg hk]
        simpa using g1
      · show t.moved x y :: (if k = 2 then movedAll (spliceT k ts i s') k (x + (t.box.ext k + 1)) y else movedAll (spliceT k ts i s') k x (y + (t.box.ext k + 1))) = spliceT k (t.moved x y :: (if k = 2 then movedAll ts k (x + (t.box.ext k + 1)) y else movedAll ts k x (y + (t.box.ext k + 1)))) (i + 1) (s'.moved xi yi)
        rw [if_neg hk, if_neg hk, g2]
        rfl
/-- What is cut stands in its place. -/
theorem cutd_moved {q : Int} {c : Box → Tree} {bl : Box} (h1 : (c bl).sound = true) (h2 : (c bl).kinds) (h3 : (c bl).box.w = bl.w ∧ (c bl).box.h = bl.h) {t t' : Tree} (h : Cutd q c bl t t') : t.sound = true → t.kinds → ∀ x y, t.moved x y = t → Cutd q (fun b => (c b).moved b.x b.y) bl t (t'.moved x y) := by
  induction h with
  | keep t hq =>
    intro _ _ x y hm
    rw [hm]
    exact .keep t hq
  | here =>
    intro _ _ x y hm
    have e : (⟨x, y, bl.w, bl.h⟩ : Box) = bl := by
      change Tree.leaf { bl with x := x, y := y } q = .leaf bl q at hm
      injection hm
    have ex : bl.x = x := by rw [← e]
    have ey : bl.y = y := by rw [← e]
    rw [← ex, ← ey]
    exact .here
  | deep b k ts i s s' hi hS hoth ih =>
    intro hs hk x y hm
    have hs0 := hs
    unfold Tree.sound at hs
    simp only [Bool.and_eq_true, decide_eq_true_eq] at hs
    have hsd := soundAll_at ts b k i s hi hs.2.1
    simp only [Bool.and_eq_true, decide_eq_true_eq] at hsd
    have hks := kindsAll_at ts i s hi hk.2
    obtain ⟨g1, g2, g3⟩ := cutd_ok h1 h2 h3 hS hsd.1 hks
    change Tree.split { b with x := x, y := y } k (movedAll ts k x y) = .split b k ts at hm
    injection hm with m1 m2 m3
    obtain ⟨xi, yi, e1, e2⟩ := splice_moved k s s' g1 (Box.ext_of g3 k) ts i x y hi
    rw [m3] at e1 e2
    have hsm : s.moved xi yi = s := by
      rw [hi] at e1
      exact (Option.some.inj e1).symm
    show Cutd q _ bl (.split b k ts) (.split { b with x := x, y := y } k (movedAll (spliceT k ts i s') k x y))
    rw [m1, e2]
    exact .deep b k ts i s _ hi (ih hsd.1 hks xi yi hsm) hoth

/-! Back. -/
theorem pathB_at (q : Int) : ∀ (ts : List Tree) (i : Nat) (s : Tree) (ps : List Nat) (m : Nat), ts[i]? = some s → s.path q = some ps → (∀ (j : Nat) u, j < i → ts[j]? = some u → q ∉ u.idl) → pathAll ts q m = some ((m + i) :: ps)
  | [], i, s, ps, m, h, _, _ => by simp at h
  | t :: ts, 0, s, ps, m, h, hp, _ => by
    have e : t = s := by simpa using h
    subst e
    unfold pathAll
    rw [hp]
    rfl
  | t :: ts, i + 1, s, ps, m, h, hp, ho => by
    unfold pathAll
    rw [(path_mem t q).2 (ho 0 t (by omega) rfl)]
    have := pathB_at q ts i s ps (m + 1) (by simpa using h) hp (fun j u hj hu => ho (j + 1) u (by omega) (by simpa using hu))
    rw [show m + (i + 1) = m + 1 + i by omega]
    exact this

/-- What is put in the pane's place: the pane and the new one, which is closed. -/
structure PairB (q k id : Int) (bl : Box) (s : Tree) : Prop where
  shape : ∃ bx A B, s = .split bx k [.leaf A q, .leaf B id] ∧ Str (.leaf A q) k (B.ext k + 1) (.leaf bl q) ∧ Grew (.leaf A q) k (B.ext k + 1) (.leaf bl q)
  ne : id ≠ q

theorem PairB.gone {q k id : Int} {bl : Box} {A B : Box} {l1 l2 : List Tree} (hS : Str (.leaf A q) k (B.ext k + 1) (.leaf bl q)) (hG : Grew (.leaf A q) k (B.ext k + 1) (.leaf bl q)) : Gone k (l1 ++ (.leaf A q :: .leaf B id :: l2)) (l1.length + 1) B id (.leaf A q) (.leaf bl q) (l1 ++ (.leaf bl q :: l2)) := by
  have he : (l1 ++ (Tree.leaf A q :: Tree.leaf B id :: l2)).eraseIdx (l1.length + 1) = l1 ++ (.leaf A q :: l2) := by
    rw [List.eraseIdx_append_of_length_le (by omega), show l1.length + 1 - l1.length = 1 by omega]
    rfl
  refine ⟨?_, ?_, hS, hG, ?_⟩
  · rw [List.getElem?_append_right (by omega), show l1.length + 1 - l1.length = 1 by omega]
    rfl
  · rw [he, Nat.add_sub_cancel, List.getElem?_append_right (Nat.le_refl _), Nat.sub_self]
    rfl
  · rw [he, Nat.add_sub_cancel, List.set_append_right _ _ (Nat.le_refl _), Nat.sub_self]
    rfl

theorem cutd_back {q k id : Int} {c : Box → Tree} {bl : Box} (hP : PairB q k id bl (c bl)) {t t' : Tree} (h : Cutd q c bl t t') : t.sound = true → q ∈ t.idl → id ∉ t.idl → ∃ ps, ps ≠ [] ∧ t'.path id = some ps ∧ CloseT id t' ps t := by
  obtain ⟨⟨bx, A, B, hsh, hSt, hGr⟩, hne⟩ := hP
  induction h with
  | keep t hq => exact fun _ h => absurd h hq
  | here =>
    intro _ _ _
    refine ⟨[1], by simp, ?_, ?_⟩
    · rw [hsh]
      unfold Tree.path
      exact pathB_at id [.leaf A q, .leaf B id] 1 (.leaf B id) [] 0 rfl (by unfold Tree.path; simp) (fun j u hj hu => by
        have e : j = 0 := by omega
        subst e
        cases hu
        simpa [Tree.idl] using hne)
    · rw [hsh]
      exact .root 1 bx k _ B (.leaf A q) (.leaf bl q) rfl (PairB.gone (l1 := []) (l2 := []) hSt hGr)
  | deep b k' ts i s s' hi hSs hoth ih =>
    intro hs hq hid
    have hs0 := hs
    unfold Tree.sound at hs
    simp only [Bool.and_eq_true, decide_eq_true_eq] at hs
    have hsd := soundAll_at ts b k' i s hi hs.2.1
    simp only [Bool.and_eq_true, decide_eq_true_eq, Bool.not_eq_true'] at hsd
    have hlt := (List.getElem?_eq_some_iff.1 hi).1
    have hidu : ∀ (j : Nat) u, ts[j]? = some u → id ∉ u.idl := fun j u hj h => hid (idls_at id ts j u hj h)
    have hqs : q ∈ s.idl := Classical.byContradiction fun hn => by
      have hq' : q ∈ idls ts := hq
      obtain ⟨j, u, hj, _, hqu⟩ := cutd_ids.idls_mem ts hq'
      by_cases hji : j = i
      · subst hji
        rw [hi] at hj
        cases hj
        exact hn hqu
      · exact hoth j u hji hj hqu
    cases hkd : s'.kindIs k' with
    | false =>
      obtain ⟨ps, hne', hp, hC⟩ := ih hsd.1 hqs (hidu i s hi)
      rw [splice_no hkd hlt]
      have hset : (ts.set i s')[i]? = some s' := by rw [List.getElem?_set_self hlt]
      refine ⟨i :: ps, by simp, ?_, ?_⟩
      · unfold Tree.path
        have := pathB_at id (ts.set i s') i s' ps 0 hset hp (fun j u hj hu => by
          rw [List.getElem?_set_ne (by omega)] at hu
          exact hidu j u hu)
        rw [Nat.zero_add] at this
        exact this
      · have hback : (ts.set i s').set i s = ts := by
          rw [List.set_set]
          exact List.ext_getElem? fun j => by
            by_cases hji : i = j
            · subst hji
              rw [List.getElem?_set_self hlt, hi]
            · rw [List.getElem?_set_ne hji]
        cases hC with
        | many qs a b2 k2 ts2 bl2 x u us g1 g2 g3 =>
          have := CloseT.many (q := id) (t := .split b k' (ts.set i s')) (i :: qs) a b2 k2 ts2 bl2 x u us (sub_cons hset g1) g2 g3
          rw [put_cons hset, hback] at this
          exact this
        | root a b2 k2 ts2 bl2 x _ e g =>
          have := CloseT.up (q := id) (t := .split b k' (ts.set i s')) [] i a b k' (ts.set i s') b2 k2 ts2 bl2 x s rfl (by rw [hset, e]) g
          rw [splice_no hsd.2.1 (by rw [List.length_set]; exact hlt), hback] at this
          exact this
        | up rs j a b3 k3 ts3 b2 k2 ts2 bl2 x u g1 g2 g3 =>
          have := CloseT.up (q := id) (t := .split b k' (ts.set i s')) (i :: rs) j a b3 k3 ts3 b2 k2 ts2 bl2 x u (sub_cons hset g1) g2 g3
          rw [put_cons hset, hback] at this
          exact this
    | true =>
      cases hSs with
      | keep _ hq' => exact absurd hqs hq'
      | here =>
        rw [hsh] at hkd
        have ek : k = k' := by simpa [Tree.kindIs] using hkd
        subst ek
        have e1 : spliceT k ts i (c bl) = ts.take i ++ (.leaf A q :: .leaf B id :: ts.drop (i + 1)) := by
          unfold spliceT
          rw [hsh]
          show _ ++ ((if k = k then _ else _) ++ _) = _
          rw [if_pos rfl]
          rfl
        have hlen : (ts.take i).length = i := by rw [List.length_take]; omega
        have hG := PairB.gone (id := id) (l1 := ts.take i) (l2 := ts.drop (i + 1)) hSt hGr
        rw [hlen, ← mid_eq hi] at hG
        rw [e1]
        refine ⟨[i + 1], by simp, ?_, ?_⟩
        · unfold Tree.path
          have := pathB_at id (ts.take i ++ (.leaf A q :: .leaf B id :: ts.drop (i + 1))) (i + 1) (.leaf B id) [] 0 hG.leaf (by unfold Tree.path; simp) (fun j u hj hu => by
            by_cases hji : j = i
            · subst hji
              rw [List.getElem?_append_right (by omega), hlen, Nat.sub_self] at hu
              cases hu
              simpa [Tree.idl] using hne
            · rw [List.getElem?_append_left (by omega), List.getElem?_take_of_lt (by omega)] at hu
              exact hidu j u hu)
          rw [Nat.zero_add] at this
          exact this
        · exact CloseT.many (q := id) (t := .split b k (ts.take i ++ (.leaf A q :: .leaf B id :: ts.drop (i + 1)))) [] (i + 1) b k _ B (.leaf A q) (.leaf bl q) ts rfl hG hs.1.1
      | deep b2 k2 ts2 i2 s2 s2' _ _ _ =>
        have : (Tree.split b2 k2 ts2).kindIs k' = true := hkd
        rw [hsd.2.1] at this
        cases this

theorem pair_back {q k n id : Int} {bl : Box} (hk : k = 2 ∨ k = 3) (hls : (Tree.leaf bl q).sound = true) (hC : CutOk q k n id false bl) (hn : 1 ≤ n ∧ n ≤ bl.ext k - 2) (hne : id ≠ q) : PairB q k id bl ((cutT q k n id false bl).moved bl.x bl.y) := by
  have hsd := (Tree.leaf bl q).sound_sides hls
  change (1 ≤ bl.w ∧ bl.w ≤ 1000) ∧ (1 ≤ bl.h ∧ bl.h ≤ 1000) at hsd
  have hse := sides_ext bl k hsd
  have hAs : (Tree.leaf (bl.str k (-n - 1)) q).sound = true := by
    have h := hC.beside.sound
    unfold besideT Tree.sound at h
    simp only [Bool.and_eq_true, decide_eq_true_eq] at h
    exact (soundAll_in _ k _ h.2.1 (.leaf (bl.str k (-n - 1)) q) (by unfold besideL; simp [flatT])).1
  have hAe : (bl.str k (-n - 1)).ext k = bl.ext k - n - 1 := by
    rcases hk with rfl | rfl <;> simp [Box.str, Box.ext] <;> omega
  have hback : (bl.str k (-n - 1)).str k (n + 1) = bl := by
    rcases hk with rfl | rfl
    · simp [Box.str]
      cases bl
      simp
      omega
    · simp [Box.str]
      cases bl
      simp
      omega
  obtain ⟨u, h1, h2⟩ := can_str (.leaf (bl.str k (-n - 1)) q) k (n + 1) hk hAs trivial (by show 1 ≤ 900; omega) (by show 0 ≤ (bl.str k (-n - 1)).ext k - 1 + (n + 1); omega) (by show (bl.str k (-n - 1)).ext k + (n + 1) ≤ 1000; omega)
  have hu : u = .leaf bl q := by
    cases h1 with
    | leaf b p j n h => rw [hback]
  subst hu
  have hxy : (⟨bl.x, bl.y, (bl.str k (-n - 1)).w, (bl.str k (-n - 1)).h⟩ : Box) = bl.str k (-n - 1) := by
    unfold Box.str
    split <;> rfl
  have hB : ∀ x y, ({ bl.with k n with x := x, y := y } : Box).ext k = n := fun x y => by
    rcases hk with rfl | rfl <;> simp [Box.with, Box.str, Box.ext] <;> omega
  rcases hk with rfl | rfl
  · refine ⟨⟨{ aroundB (besideL 2 false (.leaf (bl.str 2 (-n - 1)) q) (.leaf (bl.with 2 n) id)) 2 with x := bl.x, y := bl.y }, bl.str 2 (-n - 1), { bl.with 2 n with x := bl.x + ((bl.str 2 (-n - 1)).ext 2 + 1), y := bl.y }, ?_, ?_, ?_⟩, hne⟩
    · have e : (cutT q 2 n id false bl).moved bl.x bl.y = .split { aroundB (besideL 2 false (.leaf (bl.str 2 (-n - 1)) q) (.leaf (bl.with 2 n) id)) 2 with x := bl.x, y := bl.y } 2 [.leaf ⟨bl.x, bl.y, (bl.str 2 (-n - 1)).w, (bl.str 2 (-n - 1)).h⟩ q, .leaf { bl.with 2 n with x := bl.x + ((bl.str 2 (-n - 1)).ext 2 + 1), y := bl.y } id] := rfl
      rw [e, hxy]
    · rw [hB]; exact h1
    · rw [hB]; exact h2
  · refine ⟨⟨{ aroundB (besideL 3 false (.leaf (bl.str 3 (-n - 1)) q) (.leaf (bl.with 3 n) id)) 3 with x := bl.x, y := bl.y }, bl.str 3 (-n - 1), { bl.with 3 n with x := bl.x, y := bl.y + ((bl.str 3 (-n - 1)).ext 3 + 1) }, ?_, ?_, ?_⟩, hne⟩
    · have e : (cutT q 3 n id false bl).moved bl.x bl.y = .split { aroundB (besideL 3 false (.leaf (bl.str 3 (-n - 1)) q) (.leaf (bl.with 3 n) id)) 3 with x := bl.x, y := bl.y } 3 [.leaf ⟨bl.x, bl.y, (bl.str 3 (-n - 1)).w, (bl.str 3 (-n - 1)).h⟩ q, .leaf { bl.with 3 n with x := bl.x, y := bl.y + ((bl.str 3 (-n - 1)).ext 3 + 1) } id] := rfl
      rw [e, hxy]
    · rw [hB]; exact h1
    · rw [hB]; exact h2

end Go.Proofs.Ytnepemlagnnngaa
