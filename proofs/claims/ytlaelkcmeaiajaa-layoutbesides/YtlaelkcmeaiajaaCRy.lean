/-
  Layouts: the document's list of a node.
  Layouts: the document's twice, List; what its Tree finds, by plain functions.
  Layouts: the document's Tree, of every list.
-/
import Derived.Test.YtlaelkcmeaiajaaCRl
import Derived.Test.YtlaelkcmeaiajaaCWo
namespace Go.Proofs.Ytlaelkcmeaiajaa
open Go.RowKit
set_option linter.unusedVariables false
set_option maxRecDepth 100000

def offN (ks : List Node) (k : Int) (j : Nat) : Int := extS (ks.take j) k + j
theorem offN_succ (ks : List Node) (k : Int) (j : Nat) (n : Node) (h : ks[j]? = some n) : offN ks k (j + 1) = offN ks k j + (n.ext k + 1) := by
  unfold offN
  rw [extS_take ks k j n h]
  omega
def xN (ks : List Node) (k x : Int) (j : Nat) : Int := if k = 2 then x + offN ks k j else x
def yN (ks : List Node) (k y : Int) (j : Nat) : Int := if k = 2 then y else y + offN ks k j
theorem layAll_take : ∀ (ks : List Node) (k d x y : Int) (j : Nat) (n : Node), ks[j]? = some n → layAllN (ks.take (j + 1)) k d x y = layAllN (ks.take j) k d x y ++ layN n d (xN ks k x j) (yN ks k y j)
  | [], k, d, x, y, j, n, h => by simp at h
  | a :: ks, k, d, x, y, 0, n, h => by
    simp at h
    subst h
    have hx : xN (a :: ks) k x 0 = x := by
      unfold xN offN
      show (if k = 2 then x + (0 + 0) else x) = x
      split <;> omega
    have hy : yN (a :: ks) k y 0 = y := by
      unfold yN offN
      show (if k = 2 then y else y + (0 + 0)) = y
      split <;> omega
    rw [hx, hy]
    show layN a d x y ++ (if k = 2 then layAllN [] k d _ _ else layAllN [] k d _ _) = [] ++ layN a d x y
    split <;> simp [layAllN]
  | a :: ks, k, d, x, y, j + 1, n, h => by
    have ih := fun x y => layAll_take ks k d x y j n (by simpa using h)
    have ho : offN (a :: ks) k (j + 1) = (a.ext k + 1) + offN ks k j := by
      unfold offN
      show a.ext k + extS (ks.take j) k + ((j + 1 : Nat) : Int) = _
      omega
    show layN a d x y ++ (if k = 2 then layAllN (ks.take (j + 1)) k d (x + (a.ext k + 1)) y else layAllN (ks.take (j + 1)) k d x (y + (a.ext k + 1))) = (layN a d x y ++ (if k = 2 then layAllN (ks.take j) k d (x + (a.ext k + 1)) y else layAllN (ks.take j) k d x (y + (a.ext k + 1)))) ++ layN n d (xN (a :: ks) k x (j + 1)) (yN (a :: ks) k y (j + 1))
    by_cases hk : k = 2
    · have e1 : xN (a :: ks) k x (j + 1) = xN ks k (x + (a.ext k + 1)) j := by unfold xN; rw [if_pos hk, if_pos hk, ho]; omega
      have e2 : yN (a :: ks) k y (j + 1) = yN ks k y j := by unfold yN; rw [if_pos hk, if_pos hk]
      rw [if_pos hk, if_pos hk, ih, e1, e2, List.append_assoc]
    · have e1 : xN (a :: ks) k x (j + 1) = xN ks k x j := by unfold xN; rw [if_neg hk, if_neg hk]
      have e2 : yN (a :: ks) k y (j + 1) = yN ks k (y + (a.ext k + 1)) j := by unfold yN; rw [if_neg hk, if_neg hk, ho]; omega
      rw [if_neg hk, if_neg hk, ih, e1, e2, List.append_assoc]
mutual
theorem layN_length : ∀ (n : Node) (d x y : Int), (layN n d x y).length = n.cnt
  | .mk k w h i ks, d, x, y => by
    show (layAllN ks k (d + 1) x y).length + 1 = 1 + cnts ks
    rw [layAllN_length ks]
    omega
theorem layAllN_length : ∀ (ks : List Node) (k d x y : Int), (layAllN ks k d x y).length = cnts ks
  | [], k, d, x, y => rfl
  | n :: r, k, d, x, y => by
    show (layN n d x y ++ (if k = 2 then layAllN r k d (x + (n.ext k + 1)) y else layAllN r k d x (y + (n.ext k + 1)))).length = n.cnt + cnts r
    rw [List.length_append, layN_length n]
    split
    · rw [layAllN_length r]
    · rw [layAllN_length r]
end
theorem extS_part : ∀ (ks : List Node) (k w h : Int) (j : Nat) (n : Node), ks[j]? = some n → oksAll ks k w h = true → w ≤ 1000 → h ≤ 1000 → 0 ≤ extS (ks.take j) k ∧ extS (ks.take j) k + n.ext k ≤ extS ks k
  | [], k, w, h, j, n, hj, ho, hw, hh => by simp at hj
  | a :: ks, k, w, h, 0, n, hj, ho, hw, hh => by
    simp at hj
    subst hj
    rw [oksAll_cons, Bool.and_eq_true] at ho
    have := extS_bound ks k w h ho.2 hw hh
    show (0 : Int) ≤ 0 ∧ 0 + a.ext k ≤ a.ext k + extS ks k
    omega
  | a :: ks, k, w, h, j + 1, n, hj, ho, hw, hh => by
    rw [oksAll_cons, Bool.and_eq_true] at ho
    have h1 := kid_sides ho.1 hw hh
    have h2 := extS_part ks k w h j n (by simpa using hj) ho.2 hw hh
    show 0 ≤ a.ext k + extS (ks.take j) k ∧ a.ext k + extS (ks.take j) k + n.ext k ≤ a.ext k + extS ks k
    omega

theorem ceCells_one (l : List CellV) : ∀ u ∈ ceCells l, u.oneCell' = true := by
  intro u hu
  unfold ceCells at hu
  obtain ⟨e, _, hu⟩ := List.mem_flatMap.1 hu
  have hu' : u ∈ [Value.int .i64 e.depth, .int .i64 e.kind, .int .i64 e.x, .int .i64 e.y, .int .i64 e.w, .int .i64 e.h, .int .i64 e.p] := hu
  simp only [List.mem_cons, List.not_mem_nil, or_false] at hu'
  rcases hu' with rfl | rfl | rfl | rfl | rfl | rfl | rfl <;> rfl
theorem ceCells_append (a b : List CellV) : ceCells (a ++ b) = ceCells a ++ ceCells b := by unfold ceCells; simp

/-- Where a node may be laid. -/
structure Lays (n : Node) (d x y : Int) : Prop where
  ok : n.ok = true
  w : n.w ≤ 1000
  h : n.h ≤ 1000
  x : -1000000 ≤ x ∧ x + n.w ≤ 1000000
  y : -1000000 ≤ y ∧ y + n.h ≤ 1000000
  d : 0 ≤ d ∧ d + n.cnt ≤ 5000
theorem ok_kids (k wd h i : Int) (ks : List Node) (ho : (Node.mk k wd h i ks).ok = true) (j : Nat) (n : Node) (hj : ks[j]? = some n) : (k = 2 ∨ k = 3) ∧ oksAll ks k wd h = true ∧ extN ks k = (if k = 2 then wd else h) := by
  rw [ok_head] at ho
  simp only [Bool.and_eq_true, decide_eq_true_eq] at ho
  obtain ⟨⟨_, h3, h4⟩, h5⟩ := ho
  by_cases hk : k = 1
  · rw [if_pos hk] at h5
    simp only [Bool.and_eq_true, decide_eq_true_eq] at h5
    have : ks = [] := List.length_eq_zero_iff.1 h5.1
    subst this
    simp at hj
  · rw [if_neg hk] at h5
    simp only [Bool.and_eq_true, decide_eq_true_eq] at h5
    exact ⟨by omega, h5.2.1, h5.2.2⟩
theorem Lays.kid {k wd h i : Int} {ks : List Node} {d x y : Int} (hl : Lays (.mk k wd h i ks) d x y) {j : Nat} {n : Node} (hj : ks[j]? = some n) : Lays n (d + 1) (xN ks k x j) (yN ks k y j) := by
  obtain ⟨hk, ho, he⟩ := ok_kids k wd h i ks hl.ok j n hj
  have hw : wd ≤ 1000 := hl.w
  have hh : h ≤ 1000 := hl.h
  have hkid := oksAll_at ks k wd h j n hj ho
  have hp := extS_part ks k wd h j n hj ho hw hh
  have hjl : j < ks.length := (List.getElem?_eq_some_iff.1 hj).1
  rw [extN_eq] at he
  have hc := cnts_take ks j n hj
  have hcn : (Node.mk k wd h i ks).cnt = 1 + cnts ks := rfl
  have hd := hl.d
  rw [hcn] at hd
  have hx : -1000000 ≤ x ∧ x + wd ≤ 1000000 := hl.x
  have hy : -1000000 ≤ y ∧ y + h ≤ 1000000 := hl.y
  unfold kidOk at hkid
  simp only [Bool.and_eq_true, decide_eq_true_eq] at hkid
  obtain ⟨⟨_, g1, g2⟩, g3, g4⟩ := hkid
  refine ⟨g3, by omega, by omega, ?_, ?_, by omega⟩
  · unfold xN offN
    by_cases h2 : k = 2
    · rw [if_pos h2] at he ⊢
      have : n.ext k = n.w := by unfold Node.ext; rw [if_pos h2]
      omega
    · rw [if_neg h2]
      omega
  · unfold yN offN
    by_cases h2 : k = 2
    · rw [if_pos h2]
      omega
    · rw [if_neg h2] at he ⊢
      have : n.ext k = n.h := by unfold Node.ext; rw [if_neg h2]
      omega

def LayGood (n : Node) : Prop := ∀ sl fp w d x y, n.In w sl fp → Lays n d x y → Calls Try.prog 58 #[.agg (nodeV n sl), .int .i64 d, .int .i64 x, .int .i64 y] w fun e w' => ∃ u, e = .returned u ∧ CeOwns w' w.heap.size u (layN n d x y) ∧ Below w.heap.size w w'

set_option maxHeartbeats 4000000 in
theorem lay_step (k wd h i : Int) (ks : List Node) (hc : cnts ks ≤ 1000) (IH : ∀ n ∈ ks, LayGood n) : LayGood (.mk k wd h i ks) := by
  intro sl fp w d x y hIn hL
  obtain ⟨ad, cap, hsl⟩ := hIn.sl
  obtain ⟨m, hm⟩ : ∃ m, ks.length = m := ⟨_, rfl⟩
  change sl = .slice ad ks.length cap at hsl
  have hm2 := cnts_length ks
  have hm3 : m ≤ 1000 := by omega
  obtain ⟨W, hW⟩ : ∃ W, (w.alloc (.cells #[.int .i64 k, .int .i64 wd, .int .i64 h, .int .i64 i, sl] 58)).alloc (.cells #[.int .i64 d, .int .i64 k, .int .i64 x, .int .i64 y, .int .i64 wd, .int .i64 h, .int .i64 i] 35) = W := ⟨_, rfl⟩
  have hb0 : ∀ o, Below w.heap.size w (w.alloc o) := fun o => (Below.refl _ _).alloc (Nat.le_refl _) o
  have HblkW : W.heap[w.heap.size]? = some (.cells #[.int .i64 k, .int .i64 wd, .int .i64 h, .int .i64 i, sl] 58 (0, 0)) := by
    rw [← hW]
    exact (((Below.refl _ _).alloc (Nat.le_refl _) _).block w.heap.size (by simp)).trans (heap_alloc_new _ _)
  have HbW : Below w.heap.size w W := by rw [← hW]; exact (hb0 _).alloc (by simp) _
  have hWs : W.heap.size = w.heap.size + 2 := by rw [← hW]; simp
  have H0 : Hid (CeOwns W (w.heap.size + 1) (.slice (some ⟨w.heap.size + 1, 0, none⟩) 1 1) [⟨d, k, x, y, wd, h, i⟩]) := by
    rw [← hW]
    exact owns_made _ (w.heap.size + 1) (w.heap.size + 1) (by simp) ⟨d, k, x, y, wd, h, i⟩ (Nat.le_refl _)
  have HBlk : Hid (∀ X, Below (w.heap.size + 1) W X → X.heap[w.heap.size]? = some (.cells #[.int .i64 k, .int .i64 wd, .int .i64 h, .int .i64 i, sl] 58 (0, 0))) := fun X hX => (hX.block _ (by omega)).trans HblkW
  have HB : Hid (∀ X, Below (w.heap.size + 1) W X → Below w.heap.size w X) := fun X hX => HbW.trans (hX.mono (by omega))
  have HI : Hid (∀ X, Below (w.heap.size + 1) W X → (Node.mk k wd h i ks).In X sl fp) := fun X hX => hIn.below (HbW.trans (hX.mono (by omega)))
  have HIH : Hid (∀ n ∈ ks, LayGood n) := IH
  have HM : Hid (ks.length = m) := hm
  have HLs : Hid (Lays (.mk k wd h i ks) d x y) := hL
  have HWs : Hid (W.heap.size = w.heap.size + 2) := hWs
  have HC : Hid (cnts ks ≤ 1000) := hc
  have HW : Hid ((w.alloc (.cells #[.int .i64 k, .int .i64 wd, .int .i64 h, .int .i64 i, sl] 58)).alloc (.cells #[.int .i64 d, .int .i64 k, .int .i64 x, .int .i64 y, .int .i64 wd, .int .i64 h, .int .i64 i] 35) = W) := hW
  have hdd := hL.d
  have hd1 : IntKind.i64.wrap (d + 1) = d + 1 := by rw [IntKind.wrap_i64]; omega
  have HR : Hid (∀ l', layAllN ks k (d + 1) x y = l' → layN (.mk k wd h i ks) d x y = ⟨d, k, x, y, wd, h, i⟩ :: l') := fun l' e => by rw [← e]; rfl
  obtain ⟨R, hR⟩ : ∃ R, layN (.mk k wd h i ks) d x y = R := ⟨_, rfl⟩
  rw [hR] at HR ⊢
  rw [hm] at hsl
  subst hsl
  clear hm2 hIn IH hm hc hb0 HblkW HbW hWs hW hL hR hdd
  show Calls _ _ #[.agg #[.int .i64 k, .int .i64 wd, .int .i64 h, .int .i64 i, .slice ad m cap], _, _, _] _ _
  go_enter Try.func58, Try.ntmps58
  go_wp2
  rw [HW.out]
  go_loopw [2, 3, 9, 10] (fun vx vy u v wr => ∃ j : Nat, j ≤ m ∧ vx = .int .i64 (xN ks k x j) ∧ vy = .int .i64 (yN ks k y j) ∧ v = .int .i64 j ∧ Hid (CeOwns wr (w.heap.size + 1) u (⟨d, k, x, y, wd, h, i⟩ :: layAllN (ks.take j) k (d + 1) x y)) ∧ Hid (Below (w.heap.size + 1) W wr)) (fun _ _ _ v _ => m - (intOf v).toNat)
  case atStart => exact ⟨0, Nat.zero_le _, by unfold xN offN; show _ = Value.int .i64 (if k = 2 then x + (0 + 0) else x); split <;> simp, by unfold yN offN; show _ = Value.int .i64 (if k = 2 then y else y + (0 + 0)); split <;> simp, rfl, H0, Below.refl _ _⟩
  case round =>
    obtain ⟨j, hj, rfl, rfl, rfl, HO, HBr⟩ := hrel
    have hbk := HBlk.out wr HBr.out
    have b0 : wr.cell? ⟨w.heap.size, 0, none⟩ = some (.int .i64 k) := cell_atL hbk 0
    have b4 : wr.cell? ⟨w.heap.size, 4, none⟩ = some (.slice ad m cap) := cell_atL hbk 4
    clear hbk
    by_cases hlt : j < m
    · obtain ⟨n, hn⟩ : ∃ n, ks[j]? = some n := ⟨_, List.getElem?_eq_getElem (by rw [HM.out]; exact hlt)⟩
      obtain ⟨g, cap', e1, e2, e3⟩ := (HI.out wr HBr.out).kids (by intro e; rw [e] at hn; simp at hn)
      rw [HM.out] at e1
      cases e1
      obtain ⟨sl', f', e4, q0, q1, q2, q3, q4⟩ := e3 j n hn
      obtain ⟨ad', c', hsl'⟩ := e4.sl
      subst hsl'
      have hLk := HLs.out.kid hn
      have HT : Hid (layAllN (ks.take (j + 1)) k (d + 1) x y = layAllN (ks.take j) k (d + 1) x y ++ layN n (d + 1) (xN ks k x j) (yN ks k y j)) := layAll_take ks k (d + 1) x y j n hn
      have HCa : Hid (∀ o, Calls Try.prog 58 #[.agg #[.int .i64 n.k, .int .i64 n.w, .int .i64 n.h, .int .i64 n.i, .slice ad' n.ks.length c'], .int .i64 (d + 1), .int .i64 (xN ks k x j), .int .i64 (yN ks k y j)] (wr.alloc o) fun e w' => ∃ u, e = .returned u ∧ CeOwns w' (wr.alloc o).heap.size u (layN n (d + 1) (xN ks k x j) (yN ks k y j)) ∧ Below (wr.alloc o).heap.size (wr.alloc o) w') := fun o => HIH.out n (List.mem_of_getElem? hn) _ f' (wr.alloc o) (d + 1) _ _ (e4.below ((Below.refl _ _).alloc (Nat.le_refl _) o)) hLk
      have HXs : Hid (xN ks k x (j + 1) = if k = 2 then xN ks k x j + n.w + 1 else xN ks k x j) := by
        show _ = _
        unfold xN
        rw [offN_succ ks k j n hn]
        by_cases h2 : k = 2
        · rw [if_pos h2, if_pos h2, if_pos h2]
          have : n.ext k = n.w := by unfold Node.ext; rw [if_pos h2]
          omega
        · rw [if_neg h2, if_neg h2, if_neg h2]
      have HYs : Hid (yN ks k y (j + 1) = if k = 2 then yN ks k y j else yN ks k y j + n.h + 1) := by
        show _ = _
        unfold yN
        rw [offN_succ ks k j n hn]
        by_cases h2 : k = 2
        · rw [if_pos h2, if_pos h2, if_pos h2]
        · rw [if_neg h2, if_neg h2, if_neg h2]
          have : n.ext k = n.h := by unfold Node.ext; rw [if_neg h2]
          omega
      have HLn : Hid ((⟨d, k, x, y, wd, h, i⟩ :: layAllN (ks.take j) k (d + 1) x y : List CellV).length + (layN n (d + 1) (xN ks k x j) (yN ks k y j)).length ≤ 1000000) := by
        have h3 := cnts_take ks j n hn
        have h4 := HC.out
        show _ ≤ _
        rw [List.length_cons, layAllN_length, layN_length]
        omega
      obtain ⟨xj, hxj⟩ : ∃ z, xN ks k x j = z := ⟨_, rfl⟩
      obtain ⟨yj, hyj⟩ : ∃ z, yN ks k y j = z := ⟨_, rfl⟩
      rw [hxj, hyj] at HT HCa HLn hLk
      rw [hxj] at HXs
      rw [hyj] at HYs
      rw [hxj, hyj]
      have hbx := hLk.x
      have hby := hLk.y
      have hsw := ok_sides n hLk.ok
      have w1 : IntKind.i64.wrap (xj + n.w) = xj + n.w := by rw [IntKind.wrap_i64]; omega
      have w2 : IntKind.i64.wrap (xj + n.w + 1) = xj + n.w + 1 := by rw [IntKind.wrap_i64]; omega
      have w3 : IntKind.i64.wrap (yj + n.h) = yj + n.h := by rw [IntKind.wrap_i64]; omega
      have w4 : IntKind.i64.wrap (yj + n.h + 1) = yj + n.h + 1 := by rw [IntKind.wrap_i64]; omega
      have HWr : Hid (w.heap.size + 2 ≤ wr.heap.size) := by have := HBr.out.size; have := HWs.out; show _ ≤ _; omega
      clear e2 e3 e4 hn hxj hyj hLk hbx hby hsw
      go_wp2_with fail
      refine (HCa.out _).mono ?_
      rintro e w5 ⟨u2, rfl, h1, h2⟩
      have hb5 : Below wr.heap.size wr w5 := below_step ((Below.refl _ _).alloc (Nat.le_refl _) _) h2
      have hnew := (h2.block wr.heap.size (by simp)).trans (heap_alloc_new wr (.cells #[.int .i64 n.k, .int .i64 n.w, .int .i64 n.h, .int .i64 n.i, .slice ad' n.ks.length c'] 58))
      have HU2 : Hid (CeOwns w5 wr.heap.size u2 (layN n (d + 1) xj yj)) := h1.lower (by simp)
      have HU : Hid (CeOwns w5 (w.heap.size + 1) u9 (⟨d, k, x, y, wd, h, i⟩ :: layAllN (ks.take j) k (d + 1) x y)) := HO.out.below hb5
      have HB5 : Hid (Below (w.heap.size + 1) W w5) := HBr.out.trans (hb5.mono (by have := HWr.out; omega))
      have HNw : Hid (w5.heap[wr.heap.size]? = some (.cells #[.int .i64 n.k, .int .i64 n.w, .int .i64 n.h, .int .i64 n.i, .slice ad' n.ks.length c'] 58 (0, 0))) := hnew
      have HKp : Hid (∀ q ∈ u9.ownBlock.toList, q < wr.heap.size) := own_lt5 HO.out
      have HSz : Hid (w.heap.size + 1 ≤ w5.heap.size) := by have := HB5.out.size; have := HWs.out; show _ ≤ _; omega
      have HNl : Hid (wr.heap.size < w5.heap.size) := lt_of_block hnew
      clear h1 h2 HCa hb5 hnew HO b0 b4 q0 q1 q2 q3 q4
      by_cases hk2 : k = 2
      · have kk2 : (k == 2) = true := by simpa using hk2
        rw [if_pos hk2] at HXs HYs
        clear hk2
        go_wp2_with (at_builtin; refine wpList_append_row w5 rfl (.tmp 37) (.tmp 43) 22 35 rfl (.agg zeroCell.vals) 7 56 Try.underlying22 infoCe rfl (by decide) (by decide) (w.heap.size + 1) u9 _ _ rfl HU.out wr.heap.size u2 _ _ rfl HU2.out (ceCells_one _) HLn.out HSz.out ?_; intro v' w6 a1 a2; have HB6 : Hid (Below (w.heap.size + 1) W w6) := HB5.out.grown a2 HSz.out (fun q hq => (World.ownsRow.lt HU.out q hq).1); have hnw6 := (a2.block wr.heap.size HNl.out (fun e => by have := HKp.out wr.heap.size (by rw [← e]; simp); omega)).trans HNw.out; have y1 : w6.cell? ⟨wr.heap.size, 1, none⟩ = some (.int .i64 n.w) := cell_atL hnw6 1; have y2 : w6.cell? ⟨wr.heap.size, 2, none⟩ = some (.int .i64 n.h) := cell_atL hnw6 2; have z0 : w6.cell? ⟨w.heap.size, 0, none⟩ = some (.int .i64 k) := cell_atL (HBlk.out w6 HB6.out) 0; have HO6 : Hid (CeOwns w6 (w.heap.size + 1) v' (⟨d, k, x, y, wd, h, i⟩ :: layAllN (ks.take (j + 1)) k (d + 1) x y)) := (by rw [HT.out, ← List.cons_append]; unfold CeOwns; rw [ceCells_append, List.length_append]; exact a1); clear a1 a2 hnw6)
        go_roundw
        case rel => exact ⟨j + 1, by omega, by rw [HXs.out], by rw [HYs.out], by go_num, HO6, HB6⟩
        case measure => simp [intOf]; omega
      · have kk2 : (k == 2) = false := by simpa using hk2
        rw [if_neg hk2] at HXs HYs
        clear hk2
        go_wp2_with (at_builtin; refine wpList_append_row w5 rfl (.tmp 37) (.tmp 43) 22 35 rfl (.agg zeroCell.vals) 7 56 Try.underlying22 infoCe rfl (by decide) (by decide) (w.heap.size + 1) u9 _ _ rfl HU.out wr.heap.size u2 _ _ rfl HU2.out (ceCells_one _) HLn.out HSz.out ?_; intro v' w6 a1 a2; have HB6 : Hid (Below (w.heap.size + 1) W w6) := HB5.out.grown a2 HSz.out (fun q hq => (World.ownsRow.lt HU.out q hq).1); have hnw6 := (a2.block wr.heap.size HNl.out (fun e => by have := HKp.out wr.heap.size (by rw [← e]; simp); omega)).trans HNw.out; have y1 : w6.cell? ⟨wr.heap.size, 1, none⟩ = some (.int .i64 n.w) := cell_atL hnw6 1; have y2 : w6.cell? ⟨wr.heap.size, 2, none⟩ = some (.int .i64 n.h) := cell_atL hnw6 2; have z0 : w6.cell? ⟨w.heap.size, 0, none⟩ = some (.int .i64 k) := cell_atL (HBlk.out w6 HB6.out) 0; have HO6 : Hid (CeOwns w6 (w.heap.size + 1) v' (⟨d, k, x, y, wd, h, i⟩ :: layAllN (ks.take (j + 1)) k (d + 1) x y)) := (by rw [HT.out, ← List.cons_append]; unfold CeOwns; rw [ceCells_append, List.length_append]; exact a1); clear a1 a2 hnw6)
        go_roundw
        case rel => exact ⟨j + 1, by omega, by rw [HXs.out], by rw [HYs.out], by go_num, HO6, HB6⟩
        case measure => simp [intOf]; omega
    · have hjm : j = m := by omega
      subst hjm
      have HO2 : Hid (CeOwns wr (w.heap.size + 1) u9 R) := by
        have h := HO.out
        rw [List.take_of_length_le (by rw [HM.out]; exact Nat.le_refl _)] at h
        rw [HR.out _ rfl]
        exact h
      clear HO
      go_wp2
      go_ret
      exact ⟨_, rfl, HO2.out.lower (by omega), HB.out _ HBr.out⟩

mutual
theorem lay_good : ∀ (n : Node), n.cnt ≤ 1000 → LayGood n
  | .mk k wd h i ks, hc => lay_step k wd h i ks (by unfold Node.cnt at hc; omega) (lay_goods ks (by unfold Node.cnt at hc; omega))
theorem lay_goods : ∀ (ks : List Node), cnts ks ≤ 1000 → ∀ n ∈ ks, LayGood n
  | [], hc => fun n hn => by cases hn
  | a :: ks, hc => fun n hn => by
    unfold cnts at hc
    rcases List.mem_cons.1 hn with e | hn
    · exact e ▸ lay_good a (by omega)
    · exact lay_goods ks (by omega) n hn
end

end Go.Proofs.Ytlaelkcmeaiajaa

namespace Go.Proofs.Ytlaelkcmeaiajaa
open Go.RowKit
set_option linter.unusedVariables false
set_option maxRecDepth 100000

theorem ref_no {l : List CellV} {t : Tree} {c : CellV} {r : List CellV} (hr : readF l = some t) (hl : l = c :: r) : (growF c r).1 = nodeOf t ∧ (growF c r).1.ok = true ∧ (growF c r).1.ids.Nodup ∧ (growF c r).1.ids.length ≤ 32 ∧ layN (growF c r).1 0 0 0 = l := by
  have h := readF_lay hr
  have hg := h.growF hl
  rw [hg]
  have hi := ids_told t 0 h.kinds
  rw [h.tell] at hi
  have hf := few_len h.few
  refine ⟨rfl, sound_ok t h.kinds h.sound, by rw [hi]; exact hf.2, by rw [hi]; exact hf.1, ?_⟩
  rw [lay_told t 0 0 0, h.moved, h.tell]
theorem ref_yes {l : List CellV} {n : Node} (ho : n.ok = true) (hw : n.w ≤ 1000) (hh : n.h ≤ 1000) (hd : n.ids.Nodup) (h32 : n.ids.length ≤ 32) (hl : layN n 0 0 0 = l) : ∃ t, readF l = some t ∧ n = nodeOf t := by
  obtain ⟨t, e1, e2, e3, e4⟩ := ok_tree n ho hw hh
  subst e1
  have hk := kinds_moved t 0 0 e3
  have ht : (t.moved 0 0).tell 0 = l := by rw [← lay_told t 0 0 0]; exact hl
  have hi := ids_told (t.moved 0 0) 0 hk
  rw [node_moved, ht] at hi
  refine ⟨t.moved 0 0, lay_readF ⟨hk, sound_moved t 0 0 e3 e2, moved_moved t 0 0 0 0, ht, ?_⟩, (node_moved t 0 0).symm⟩
  unfold fewB
  rw [← hi]
  simp [hd, h32]
theorem ref_steps {l : List CellV} {t : Tree} {c : CellV} {r : List CellV} (hr : readF l = some t) (hl : l = c :: r) : c.depth = 0 ∧ c.w ≤ 1000 ∧ c.h ≤ 1000 ∧ stepsOk 0 r = true := (readF_lay hr).steps hl
theorem steps_at : ∀ (r : List CellV) (p : Int) (a : Nat) (x y : CellV), (x.depth = p ∧ a = 0 ∨ ∃ b, a = b + 1 ∧ r[b]? = some x) → r[a]? = some y → stepsOk p r = true → 1 ≤ y.depth ∧ y.depth ≤ x.depth + 1
  | [], p, a, x, y, hx, hy, hs => by simp at hy
  | c :: r, p, a, x, y, hx, hy, hs => by
    have hs' : ((decide (1 ≤ c.depth) && decide (c.depth ≤ p + 1)) && stepsOk c.depth r) = true := hs
    simp only [Bool.and_eq_true, decide_eq_true_eq] at hs'
    rcases hx with ⟨h1, rfl⟩ | ⟨b, rfl, h1⟩
    · simp at hy
      subst hy
      omega
    · have hy' : r[b]? = some y := by simpa using hy
      cases b with
      | zero =>
        simp at h1
        subst h1
        exact steps_at r c.depth 0 c y (.inl ⟨rfl, rfl⟩) hy' hs'.2
      | succ b => exact steps_at r c.depth (b + 1) x y (.inr ⟨b, rfl, by simpa using h1⟩) hy' hs'.2
theorem ref_step {l : List CellV} {t : Tree} (hr : readF l = some t) {i : Nat} {x y : CellV} (hx : l[i]? = some x) (hy : l[i + 1]? = some y) : 1 ≤ y.depth ∧ y.depth ≤ x.depth + 1 := by
  cases l with
  | nil => simp at hx
  | cons c r =>
    obtain ⟨h0, _, _, hs⟩ := ref_steps hr rfl
    refine steps_at r 0 i x y ?_ (by simpa using hy) hs
    cases i with
    | zero =>
      simp at hx
      subst hx
      exact .inl ⟨h0, rfl⟩
    | succ i => exact .inr ⟨i, rfl, by simpa using hx⟩

theorem grows_sub : ∀ (m : Nat), (∀ c r, ∀ x ∈ (growT m c r).2, x ∈ r) ∧ (∀ d r, ∀ x ∈ (growAllT m d r).2, x ∈ r)
  | 0 => ⟨fun c r x h => h, fun d r x h => h⟩
  | m + 1 => by
    obtain ⟨i1, i2⟩ := grows_sub m
    refine ⟨fun c r x h => i2 c.depth r x h, fun d r x h => ?_⟩
    cases r with
    | nil => exact h
    | cons c r =>
      unfold growAllT at h
      simp only [] at h
      split at h
      · exact List.mem_cons_of_mem _ (i1 c r x (i2 d _ x h))
      · exact h
theorem grows_all : ∀ (m : Nat) (d : Int) (r : List CellV), r.length ≤ m → (∀ x ∈ r, d < x.depth) → (growAllF d r).2 = []
  | m, d, [], hm, hx => rfl
  | 0, d, c :: r, hm, hx => by simp at hm
  | m + 1, d, c :: r, hm, hx => by
    rw [growAllF_cons, if_pos (hx c (by simp))]
    have hs := growF_shorter c r
    rw [List.length_cons] at hm
    refine grows_all m d (growF c r).2 (by omega) fun x h => ?_
    have : ∀ x ∈ (growF c r).2, x ∈ r := by
      unfold growF
      exact (grows_sub _).1 c r
    exact hx x (List.mem_cons_of_mem _ (this x h))
theorem grows_cnt : ∀ (m : Nat), (∀ c r, (growT m c r).1.cnt + (growT m c r).2.length = r.length + 1) ∧ (∀ d r, cnts (growAllT m d r).1 + (growAllT m d r).2.length = r.length)
  | 0 => by
    refine ⟨fun c r => ?_, fun d r => ?_⟩
    · show (1 + 0) + r.length = r.length + 1
      omega
    · show 0 + r.length = r.length
      omega
  | m + 1 => by
    obtain ⟨i1, i2⟩ := grows_cnt m
    refine ⟨fun c r => ?_, fun d r => ?_⟩
    · have := i2 c.depth r
      show (1 + cnts (growAllT m c.depth r).1) + (growAllT m c.depth r).2.length = r.length + 1
      omega
    · cases r with
      | nil => rfl
      | cons c r =>
        unfold growAllT
        simp only []
        split
        · have h1 := i1 c r
          have h2 := i2 d (growT m c r).2
          show ((growT m c r).1.cnt + cnts (growAllT m d (growT m c r).2).1) + (growAllT m d (growT m c r).2).2.length = (c :: r).length
          rw [List.length_cons]
          omega
        · show 0 + (c :: r).length = (c :: r).length
          omega
theorem grow_cnt (c : CellV) (r : List CellV) : (growF c r).1.cnt + (growF c r).2.length = r.length + 1 := (grows_cnt _).1 c r

/-- No number stands there twice, up to a place. -/
def NoTw (zs : List Int) (i : Nat) : Prop := ∀ (a b : Nat) (x y : Int), a < b → b < i → zs[a]? = some x → zs[b]? = some y → x ≠ y
def NoTw1 (zs : List Int) (i j : Nat) : Prop := ∀ (a : Nat) (x y : Int), a < j → zs[a]? = some x → zs[i]? = some y → x ≠ y
theorem noTw_nodup (zs : List Int) (h : NoTw zs zs.length) : zs.Nodup := by
  refine List.pairwise_iff_getElem.2 fun i j hi hj hij => ?_
  exact h i j _ _ hij hj (List.getElem?_eq_getElem hi) (List.getElem?_eq_getElem hj)
theorem nodup_ne {zs : List Int} (h : zs.Nodup) {a b : Nat} {x y : Int} (hab : a < b) (hx : zs[a]? = some x) (hy : zs[b]? = some y) : x ≠ y := by
  obtain ⟨ha, rfl⟩ := List.getElem?_eq_some_iff.1 hx
  obtain ⟨hb, rfl⟩ := List.getElem?_eq_some_iff.1 hy
  exact List.pairwise_iff_getElem.1 h a b ha hb hab
theorem NoTw.next {zs : List Int} {i : Nat} (h : NoTw zs i) (h1 : NoTw1 zs i i) : NoTw zs (i + 1) := by
  intro a b x y hab hb hx hy
  by_cases e : b = i
  · subst e
    exact h1 a x y hab hx hy
  · exact h a b x y hab (by omega) hx hy
theorem NoTw1.next {zs : List Int} {i j : Nat} {x y : Int} (h : NoTw1 zs i j) (hx : zs[j]? = some x) (hy : zs[i]? = some y) (hne : x ≠ y) : NoTw1 zs i (j + 1) := by
  intro a x' y' ha hx' hy'
  by_cases e : a = j
  · subst e
    rw [hx] at hx'
    rw [hy] at hy'
    cases hx'
    cases hy'
    exact hne
  · exact h a x' y' (by omega) hx' hy'

theorem IOwns.at_ {w : World} {B : Nat} {v : Value} {zs : List Int} (h : IOwns w B v zs) : (v = .slice none 0 0 ∧ zs = []) ∨ ∃ g cap, v = .slice (some ⟨g, 0, none⟩) zs.length cap ∧ ∀ (j : Nat) x, zs[j]? = some x → w.cell? ⟨g, j, none⟩ = some (.int .i64 x) := by
  rcases h.2 with ⟨rfl, h0⟩ | ⟨g, cap, cur, rfl, hb, hg, h1, h2, h3, h4⟩
  · exact .inl ⟨rfl, List.length_eq_zero_iff.1 h0⟩
  · refine .inr ⟨g, cap, rfl, fun j x hj => ?_⟩
    have hlt := (List.getElem?_eq_some_iff.1 hj).1
    rw [cell_atL hg]
    have : (cur.toList.take (zs.length * 1))[j]? = (zs.map (Value.int .i64))[j]? := by rw [h4]
    rw [List.getElem?_take_of_lt (by omega)] at this
    rw [← Array.getElem?_toList, this, List.getElem?_map, hj]
    rfl

theorem twice_none (w : World) : Calls Try.prog 48 #[.slice none 0 0] w fun e w' => e = .returned (.bool false) ∧ w = w' := by
  go_enter Try.func48, Try.ntmps48
  go_wp2
  go_loopw [3] (fun v wr => v = .int .i64 0 ∧ w = wr) (fun _ _ => 0)
  case atStart => exact ⟨rfl, rfl⟩
  case round =>
    obtain ⟨rfl, rfl⟩ := hrel
    go_wp2
    go_ret
    exact ⟨rfl, rfl⟩

set_option maxHeartbeats 2000000 in
theorem twice_some (g n cap : Nat) (zs : List Int) (w : World) (hc : ∀ (j : Nat) x, zs[j]? = some x → w.cell? ⟨g, j, none⟩ = some (.int .i64 x)) (hn : zs.length = n) (hn1 : n ≤ 1000) : Calls Try.prog 48 #[.slice (some ⟨g, 0, none⟩) n cap] w fun e w' => e = .returned (.bool (!decide zs.Nodup)) ∧ Below w.heap.size w w' := by
  have HC : Hid (∀ X, Below w.heap.size w X → ∀ (j : Nat) x, zs[j]? = some x → X.cell? ⟨g, j, none⟩ = some (.int .i64 x)) := fun X hX j x hj => (hX.cell (p := ⟨g, j, none⟩) (World.block_lt_of_cell? w _ (hc j x hj))).trans (hc j x hj)
  have HN : Hid (zs.length = n) := hn
  obtain ⟨r, hr⟩ : ∃ r, (!decide zs.Nodup) = r := ⟨_, rfl⟩
  have HF : Hid (NoTw zs n → r = false) := by
    intro h
    rw [← hr, decide_eq_true (noTw_nodup zs (by rw [hn]; exact h))]
    rfl
  have HT : Hid (¬ zs.Nodup → r = true) := by
    intro h
    rw [← hr, decide_eq_false h]
    rfl
  rw [hr]
  clear hc hn hr
  go_enter Try.func48, Try.ntmps48
  go_wp2
  go_loopw [3] (fun v wr => ∃ i : Nat, i ≤ n ∧ v = .int .i64 i ∧ Hid (NoTw zs i) ∧ Hid (Below w.heap.size w wr)) (fun v _ => n - (intOf v).toNat)
  case atStart => exact ⟨0, Nat.zero_le _, rfl, fun a b x y _ hb => by omega, Below.refl _ _⟩
  case round =>
    obtain ⟨i, hi, rfl, HI, HB⟩ := hrel
    by_cases hlt : i < n
    · obtain ⟨y, hy⟩ : ∃ y, zs[i]? = some y := ⟨_, List.getElem?_eq_getElem (by rw [HN.out]; exact hlt)⟩
      have HY : Hid (zs[i]? = some y) := hy
      clear hy
      go_wp2
      go_loopw [4] (fun v wr => ∃ j : Nat, j ≤ i ∧ v = .int .i64 j ∧ Hid (NoTw1 zs i j) ∧ Hid (Below w.heap.size w wr)) (fun v _ => i - (intOf v).toNat)
      case atStart => exact ⟨0, Nat.zero_le _, rfl, fun a x y ha => by omega, HB⟩
      case round =>
        obtain ⟨j, hj, rfl, HJ, HB2⟩ := hrel
        by_cases hlj : j < i
        · obtain ⟨x, hx⟩ : ∃ x, zs[j]? = some x := ⟨_, List.getElem?_eq_getElem (by rw [HN.out]; omega)⟩
          have c1 := HC.out _ HB2.out j x hx
          have c2 := HC.out _ HB2.out i y HY.out
          have HX : Hid (zs[j]? = some x) := hx
          have hjn : j < n := by omega
          clear hx
          by_cases hxy : x = y
          · have hxy' : (x == y) = true := by simpa using hxy
            have HR : Hid (r = true) := HT.out fun h => nodup_ne h hlj HX.out HY.out hxy
            clear hxy
            go_wp2
            go_quiet (fail)
            go_wp2
            go_ret
            exact ⟨by rw [HR.out]; rfl, below_drewN HB2.out _⟩
          · have hxy' : (x == y) = false := by simpa using hxy
            have HXY : Hid (x ≠ y) := hxy
            clear hxy
            go_wp2
            go_quiet (fail)
            go_wp2
            go_roundw
            case rel => exact ⟨j + 1, by omega, by go_num, HJ.out.next HX.out HY.out HXY.out, below_drewN HB2.out _⟩
            case measure => simp [intOf]; omega
        · have hji : j = i := by omega
          subst hji
          go_wp2
          exact ⟨⟨j + 1, by omega, by go_num, HI.out.next HJ.out, HB2⟩, by simp [intOf]; omega⟩
    · have hin : i = n := by omega
      subst hin
      have HR : Hid (r = false) := HF.out HI.out
      go_wp2
      go_ret
      exact ⟨by rw [HR.out]; rfl, HB.out⟩

end Go.Proofs.Ytlaelkcmeaiajaa

namespace Go.Proofs.Ytlaelkcmeaiajaa
open Go.RowKit
set_option linter.unusedVariables false
set_option maxRecDepth 100000

def zeroN : Array Value := #[.int .i64 0, .int .i64 0, .int .i64 0, .int .i64 0, .slice none 0 0]
/-- What Tree leaves. -/
def TreeGood (l : List CellV) (w : World) (e : Ending) (w' : World) : Prop :=
  Below w.heap.size w w' ∧ ((readF l = none ∧ e = .returned (.tuple #[.agg zeroN, .bool false])) ∨
  (∃ t sa sn sc fp, readF l = some t ∧ e = .returned (.tuple #[.agg (nodeV (nodeOf t) (.slice sa sn sc)), .bool true]) ∧ (nodeOf t).In w' (.slice sa sn sc) fp))

theorem twice_any (u : Value) (zs : List Int) (B : Nat) (w : World) (h : IOwns w B u zs) (hn : zs.length ≤ 1000) : Calls Try.prog 48 #[u] w fun e w' => e = .returned (.bool (!decide zs.Nodup)) ∧ Below w.heap.size w w' := by
  rcases h.at_ with ⟨rfl, rfl⟩ | ⟨g, cap, rfl, hc⟩
  · exact (twice_none w).mono fun e w' h => ⟨by rw [h.1]; simp, h.2 ▸ Below.refl _ _⟩
  · exact twice_some g zs.length cap zs w hc rfl hn
theorem ref_list (n : Node) (hc : n.cnt ≤ 1000) (ho : n.ok = true) (hw : n.w ≤ 1000) (hh : n.h ≤ 1000) (sa : Option Addr) (sn sc : Nat) (fp : List Nat) (w : World) (hIn : n.In w (.slice sa sn sc) fp) : Calls Try.prog 49 #[.agg (nodeV n (.slice sa sn sc))] w fun e w' => ∃ u, e = .returned u ∧ CeOwns w' w.heap.size u (layN n 0 0 0) ∧ Below w.heap.size w w' := by
  have HL : Hid (∀ o, Calls Try.prog 58 #[.agg #[.int .i64 n.k, .int .i64 n.w, .int .i64 n.h, .int .i64 n.i, .slice sa sn sc], .int .i64 0, .int .i64 0, .int .i64 0] (w.alloc o) fun e w' => ∃ u, e = .returned u ∧ CeOwns w' w.heap.size u (layN n 0 0 0) ∧ Below w.heap.size w w') := fun o => (lay_good n hc _ fp (w.alloc o) 0 0 0 (hIn.below ((Below.refl _ _).alloc (Nat.le_refl _) o)) ⟨ho, hw, hh, by omega, by omega, by omega⟩).mono fun e w' ⟨u, h1, h2, h3⟩ => ⟨u, h1, h2.lower (by simp), below_step ((Below.refl _ _).alloc (Nat.le_refl _) _) h3⟩
  obtain ⟨L, hL⟩ : ∃ L, layN n 0 0 0 = L := ⟨_, rfl⟩
  rw [hL] at HL ⊢
  unfold nodeV
  clear hIn hL hc ho hw hh
  go_enter Try.func49, Try.ntmps49
  go_wp2_with fail
  refine (HL.out _).mono ?_
  rintro e w1 ⟨u, rfl, hu, hb⟩
  have HU : Hid (CeOwns w1 w.heap.size u L) := hu
  clear hu
  go_wp2
  go_ret
  exact ⟨u, rfl, HU.out, hb⟩

/-- The result's own block. -/
structure ResIn (w : World) (W : World) : Prop where
  r0 : W.cell? ⟨w.heap.size, 0, none⟩ = some (.int .i64 0)
  r1 : W.cell? ⟨w.heap.size, 1, none⟩ = some (.int .i64 0)
  r2 : W.cell? ⟨w.heap.size, 2, none⟩ = some (.int .i64 0)
  r3 : W.cell? ⟨w.heap.size, 3, none⟩ = some (.int .i64 0)
  r4 : W.cell? ⟨w.heap.size, 4, none⟩ = some (.slice none 0 0)
  f0 : W.frozen? ⟨w.heap.size, 0, none⟩ = false
  f1 : W.frozen? ⟨w.heap.size, 1, none⟩ = false
  f2 : W.frozen? ⟨w.heap.size, 2, none⟩ = false
  f3 : W.frozen? ⟨w.heap.size, 3, none⟩ = false
  f4 : W.frozen? ⟨w.heap.size, 4, none⟩ = false
theorem resIn (w X : World) (h : Below (w.alloc (.cells zeroN 58)).heap.size (w.alloc (.cells zeroN 58)) X) : ResIn w X := by
  have hb : X.heap[w.heap.size]? = some (.cells zeroN 58 (0, 0)) := (h.block w.heap.size (by simp)).trans (heap_alloc_new _ _)
  exact ⟨cell_atL hb 0, cell_atL hb 1, cell_atL hb 2, cell_atL hb 3, cell_atL hb 4, free_atL hb 0, free_atL hb 1, free_atL hb 2, free_atL hb 3, free_atL hb 4⟩

theorem tree_none {l : List CellV} {w X : World} (hr : readF l = none) (hb : Below w.heap.size w X) (v0 v1 v2 v3 v4 : Value) : TreeGood l w (.returned (.tuple #[.agg #[.int .i64 0, .int .i64 0, .int .i64 0, .int .i64 0, .slice none 0 0], .bool false])) (set5 X w.heap.size v0 v1 v2 v3 v4) := ⟨set5_below hb _ (Nat.le_refl _) _ _ _ _ _, .inl ⟨hr, rfl⟩⟩

theorem tree_empty (ad : Option Addr) (cap : Nat) (w : World) : Calls Try.prog 24 #[.slice ad 0 cap] w (TreeGood [] w) := by
  have HF : Hid (∀ X, Below w.heap.size w X → TreeGood [] w (.returned (.tuple #[.agg #[.int .i64 0, .int .i64 0, .int .i64 0, .int .i64 0, .slice none 0 0], .bool false])) X) := fun X hX => ⟨hX, .inl ⟨(readF_none (takeF_nil 0)), rfl⟩⟩
  go_enter Try.func24, Try.ntmps24
  go_wp2
  exact bodyPost_ret (v := .tuple #[.agg #[.int .i64 0, .int .i64 0, .int .i64 0, .int .i64 0, .slice none 0 0], .bool false]) (by simp [results, Try.results24, go_sem]) rfl (HF.out _ ((Below.refl _ _).alloc (Nat.le_refl _) _))

theorem tree_early (c : CellV) (r : List CellV) (b off n cap : Nat) (w : World) (hs : SeenIn w b off (c :: r)) (hn : (c :: r).length = n) (hr : readF (c :: r) = none) (hb : 64 < n ∨ c.depth ≠ 0 ∨ 1000 < c.w ∨ 1000 < c.h) : Calls Try.prog 24 #[.slice (some ⟨b, off, none⟩) n cap] w (TreeGood (c :: r) w) := by
  have HF : Hid (∀ X, Below w.heap.size w X → TreeGood (c :: r) w (.returned (.tuple #[.agg #[.int .i64 0, .int .i64 0, .int .i64 0, .int .i64 0, .slice none 0 0], .bool false])) X) := fun X hX => ⟨hX, .inl ⟨hr, rfl⟩⟩
  have hq : ∀ o, HeadIn (w.alloc o) b off c := fun o => (hs.below ((Below.refl _ _).alloc (Nat.le_refl _) o)).at0
  have q0 := fun o => (hq o).q0
  have q4 := fun o => (hq o).q4
  have q5 := fun o => (hq o).q5
  have hn0 : ((n : Int) == 0) = false := by rw [← hn]; simp; omega
  have hnp : 0 < n := by rw [← hn]; simp
  obtain ⟨L, hL⟩ : ∃ L, c :: r = L := ⟨_, rfl⟩
  rw [hL] at HF ⊢
  clear hs hq hr hn hL
  by_cases h1 : (64 : Int) < n
  · clear hb
    go_enter Try.func24, Try.ntmps24
    go_wp2
    exact bodyPost_ret (v := .tuple #[.agg #[.int .i64 0, .int .i64 0, .int .i64 0, .int .i64 0, .slice none 0 0], .bool false]) (by simp [results, Try.results24, go_sem]) rfl (HF.out _ ((Below.refl _ _).alloc (Nat.le_refl _) _))
  · by_cases h2 : c.depth = 0
    · have h2' : (c.depth != 0) = false := by simpa using h2
      by_cases h3 : 1000 < c.w
      · clear hb h2
        go_enter Try.func24, Try.ntmps24
        go_wp2
        exact bodyPost_ret (v := .tuple #[.agg #[.int .i64 0, .int .i64 0, .int .i64 0, .int .i64 0, .slice none 0 0], .bool false]) (by simp [results, Try.results24, go_sem]) rfl (HF.out _ ((Below.refl _ _).alloc (Nat.le_refl _) _))
      · have h4 : 1000 < c.h := by omega
        clear hb h2
        go_enter Try.func24, Try.ntmps24
        go_wp2
        exact bodyPost_ret (v := .tuple #[.agg #[.int .i64 0, .int .i64 0, .int .i64 0, .int .i64 0, .slice none 0 0], .bool false]) (by simp [results, Try.results24, go_sem]) rfl (HF.out _ ((Below.refl _ _).alloc (Nat.le_refl _) _))
    · have h2' : (c.depth != 0) = true := by simpa using h2
      clear hb h2
      go_enter Try.func24, Try.ntmps24
      go_wp2
      exact bodyPost_ret (v := .tuple #[.agg #[.int .i64 0, .int .i64 0, .int .i64 0, .int .i64 0, .slice none 0 0], .bool false]) (by simp [results, Try.results24, go_sem]) rfl (HF.out _ ((Below.refl _ _).alloc (Nat.le_refl _) _))

end Go.Proofs.Ytlaelkcmeaiajaa
