/-
  The document's queue: laid.
-/
import Derived.Test.YtkpnolkbheoocaaQRefB
import Derived.WalkKit
import Derived.Deep.RegionLaw
namespace Go.Proofs.Ytkpnolkbheoocaa
open Go.RowKit
set_option linter.unusedVariables false
set_option maxRecDepth 100000

theorem Src.row {P : Program} {tx e' : TypeId} (hk : P.underlying tx = some (.slice e')) {w : World} {T : TypeId} {k : Nat} {v : Value} {n : Nat} {xs : List Value} (h : Row w T k v n xs) (h1 : xs.all (fun u => u.oneCell') = true) : Src P k tx v n xs w := by
  obtain ⟨hl, ⟨rfl, rfl⟩ | ⟨g, o, cap, cur, rfl, hg, h2, h3, h4, h5⟩⟩ := h
  · have hx : xs = [] := List.eq_nil_of_length_eq_zero (by simpa using hl)
    subst hx
    exact Src.ofNil _ hk 0
  · refine Src.ofSlice _ hk _ n cap xs hl (fun j u hu => ?_) (fun u hu => List.all_eq_true.1 h1 u hu)
    rw [show (⟨g, o, none⟩ : Addr).add j = ⟨g, o + j, none⟩ by unfold Addr.add; split <;> simp_all, cell_atT hg]
    exact h5 j u hu
/-- A row of this call's own, in a later world. -/
structure Mine (w wr : World) (T : TypeId) (k : Nat) (v : Value) (n : Nat) (xs : List Value) : Prop where
  row : Row wr T k v n xs
  below : Below w.heap.size w wr
  young : ∀ g, v.ownBlock = some g → w.heap.size ≤ g
theorem Mine.nil {w wr : World} {T : TypeId} {k : Nat} (h : Below w.heap.size w wr) : Mine w wr T k (.slice none 0 0) 0 [] := ⟨Row.nil _ _ _, h, fun g hg => by cases hg⟩
theorem Mine.more {w wr w' : World} {T : TypeId} {k : Nat} {v : Value} {n : Nat} {xs : List Value} (h : Mine w wr T k v n xs) (hb : Below wr.heap.size wr w') : Mine w w' T k v n xs := ⟨h.row.below hb, h.below.trans (hb.mono h.below.size), h.young⟩
theorem Mine.grown {w wr X w' : World} {T : TypeId} {k : Nat} {v v' : Value} {n n' : Nat} {xs xs' : List Value} (h : Mine w wr T k v n xs) (hX : Below wr.heap.size wr X) (hr : Row w' T k v' n' xs') (hg : Grown X w' v v' v.ownBlock.toList) : Mine w w' T k v' n' xs' := by
  refine ⟨hr, hg.but.under (h.more hX).below (h.more hX).below.size (fun g hh => h.young g (by simpa using hh)), fun g hh => ?_⟩
  rcases hg.own with e | e
  · exact h.young g (e ▸ hh)
  · rw [e] at hh
    cases hh
    exact (h.more hX).below.size
theorem Mine.cast {w wr : World} {T : TypeId} {k : Nat} {v : Value} {n n' : Nat} {xs xs' : List Value} (h : Mine w wr T k v n xs) (hn : n = n') (hx : xs = xs') : Mine w wr T k v n' xs' := by subst hn hx; exact h

/-- Three cells stored. -/
theorem stored3 {w : World} {R : Nat} {a b c x y z : Value} {t : TypeId} (h : w.heap[R]? = some (.cells #[a, b, c] t (0, 0))) :
    (((w.setCell ⟨R, 0, none⟩ x).setCell ⟨R, 1, none⟩ y).setCell ⟨R, 2, none⟩ z).heap[R]? = some (.cells #[x, y, z] t (0, 0)) ∧
    (∀ k, k ≠ R → (((w.setCell ⟨R, 0, none⟩ x).setCell ⟨R, 1, none⟩ y).setCell ⟨R, 2, none⟩ z).heap[k]? = w.heap[k]?) ∧
    ∀ B, B ≤ R → Below B w (((w.setCell ⟨R, 0, none⟩ x).setCell ⟨R, 1, none⟩ y).setCell ⟨R, 2, none⟩ z) := by
  refine ⟨?_, fun k hk => ?_, fun B hB => (((Below.refl B w).setCell (p := ⟨R, 0, none⟩) hB _).setCell (p := ⟨R, 1, none⟩) hB _).setCell (p := ⟨R, 2, none⟩) hB _⟩
  · rw [heap_setCell_same _ R 2 _ _ _ (heap_setCell_same _ R 1 _ _ _ (heap_setCell_same _ R 0 _ _ _ h))]
    rfl
  · rw [Below.heap_setCell _ _ _ _ hk, Below.heap_setCell _ _ _ _ hk, Below.heap_setCell _ _ _ _ hk]

def newI (o : Int × Int) (ls : List (List UInt8)) : List Item := ls.map fun l => ⟨l ++ [10], o⟩
theorem newI_take (o : Int × Int) (ls : List (List UInt8)) {i : Nat} {l : List UInt8} (h : ls[i]? = some l) : newI o (ls.take (i + 1)) = newI o (ls.take i) ++ [⟨l ++ [10], o⟩] := by
  unfold newI
  rw [List.take_add_one, h]
  simp
theorem newI_texts (o : Int × Int) (ls : List (List UInt8)) : textsI (newI o ls) = flatF ls := by
  unfold newI textsI flatF
  rw [List.flatMap_map]
theorem newI_spread (o : Int × Int) (ls : List (List UInt8)) : spread Item.o (fun i => i.x.length) (newI o ls) = List.replicate (sumF ls) o := by
  induction ls with
  | nil => rfl
  | cons l ls ih =>
    have h : newI o (l :: ls) = ⟨l ++ [10], o⟩ :: newI o ls := rfl
    rw [h, spread_cons, ih]
    have h2 : sumF (l :: ls) = (l.length + 1) + sumF ls := by simp [sumF]
    rw [h2, ← List.replicate_append_replicate]
    simp
theorem newI_pos (o : Int × Int) (ls : List (List UInt8)) : ∀ i ∈ newI o ls, 0 < i.x.length := by
  intro i hi
  obtain ⟨l, _, rfl⟩ := List.mem_map.1 hi
  simp
theorem its_append (a b : List Item) : itsV (a ++ b) = itsV a ++ itsV b := List.flatMap_append
theorem len_sum (ls : List (List UInt8)) : ls.length ≤ sumF ls := by
  induction ls with
  | nil => exact Nat.le_refl _
  | cons l ls ih => simp only [sumF, List.map_cons, List.sum_cons, List.length_cons] at ih ⊢; omega

theorem mem_sum {ls : List (List UInt8)} {i : Nat} {l : List UInt8} (h : ls[i]? = some l) : l.length + 1 ≤ sumF ls := by
  induction ls generalizing i with
  | nil => simp at h
  | cons x ls ih =>
    simp only [sumF, List.map_cons, List.sum_cons] at ih ⊢
    cases i with
    | zero =>
      simp at h
      subst h
      omega
    | succ i =>
      have := ih (i := i) (by simpa using h)
      omega
set_option maxHeartbeats 4000000 in
theorem refLaid_any {w : World} {vi v : Value} {its : List Item} {q : Qs} {ls : List (List UInt8)} (h : RIn w vi its q) (hq : q.Ok) (hs : Strs w v ls) (p t : Int) (hsm : q.bs.length + sumF ls ≤ 1000000) :
    Calls Try.prog 45 #[refV q vi, v, .int .i64 p, .int .i64 t] w fun e w' => ∃ vi', e = .returned (refV q vi') ∧ RIn w' vi' (its ++ newI (p, t) ls) (layF q (p, t) ls) ∧ Below w.heap.size w w' ∧ ∀ g, vi'.ownBlock = some g → w.heap.size ≤ g := by
  obtain ⟨ai, ni, ci, hvi, hni, -⟩ := h.shape
  subst hvi
  obtain ⟨ad, n, cap, rfl, hn, hn1, hcell⟩ := hs.shape
  have hlen := h.few hq
  have hnS : n ≤ sumF ls := by rw [← hn]; exact len_sum ls
  obtain ⟨l0, hl0⟩ : ∃ l0, q.lim = l0 := ⟨_, rfl⟩
  obtain ⟨cl, hcl⟩ : ∃ cl, q.cl = cl := ⟨_, rfl⟩
  obtain ⟨W0, hW0⟩ : ∃ W0, (w.alloc (.cells #[.int .i64 (l0 : Int), .slice ai ni ci, .bool cl] 26)).alloc (.cells #[.int .i64 0, .slice none 0 0, .bool false] 26) = W0 := ⟨_, rfl⟩
  obtain ⟨N0, hN0⟩ : ∃ N0, w.heap.size = N0 := ⟨_, rfl⟩
  have HW0 : Hid ((w.alloc (.cells #[.int .i64 (l0 : Int), .slice ai ni ci, .bool cl] 26)).alloc (.cells #[.int .i64 0, .slice none 0 0, .bool false] 26) = W0) := hW0
  have HN0 : Hid (w.heap.size = N0) := hN0
  obtain ⟨t1, t2, t3, t4⟩ := heap_two w (.cells #[.int .i64 (l0 : Int), .slice ai ni ci, .bool cl] 26) (.cells #[.int .i64 0, .slice none 0 0, .bool false] 26)
  rw [hW0, hN0] at t1 t2 t3
  have hb0 : Below w.heap.size w W0 := by rw [← hW0]; exact t4
  have HP : Hid (∀ W, Below W0.heap.size W0 W → W.cell? ⟨N0, 0, none⟩ = some (.int .i64 (l0 : Int)) ∧ W.cell? ⟨N0, 1, none⟩ = some (.slice ai ni ci) ∧ W.cell? ⟨N0, 2, none⟩ = some (.bool cl)) := fun W hW => by
    have h2 := (hW.block N0 (by omega)).trans t1
    exact ⟨cell_atT h2 0, cell_atT h2 1, cell_atT h2 2⟩
  have HZ : Hid (∀ W, Below W0.heap.size W0 W → W.heap[N0 + 1]? = some (.cells #[.int .i64 0, .slice none 0 0, .bool false] 26 (0, 0))) := fun W hW => (hW.block (N0 + 1) (by omega)).trans t2
  have HFi : Hid (∀ W, Below W0.heap.size W0 W → Below w.heap.size w W) := fun W hW => hb0.trans (hW.mono (by omega))
  have HS0 : Hid (N0 + 2 = W0.heap.size) := t3.symm
  have HC : Hid (∀ W, Below W0.heap.size W0 W → ∀ (i : Nat) (l : List UInt8), ls[i]? = some l → ∃ g o, ad = some ⟨g, o, none⟩ ∧ l.length ≤ 9223372036854775807 ∧ W.cell? ⟨g, o + i, none⟩ = some (.string (str l))) := fun W hW i l hl => by
    obtain ⟨g, o, e, _, h1, h2⟩ := hcell W (fun g _ hg => (HFi.out W hW).block g hg) i l hl
    exact ⟨g, o, e, h1, h2⟩
  have HR : Hid (RIn ((w.alloc (.cells #[.int .i64 (l0 : Int), .slice ai ni ci, .bool cl] 26)).alloc (.cells #[.int .i64 0, .slice none 0 0, .bool false] 26)) (.slice ai ni ci) its q) := h.below t4
  have HN : Hid (ls.length = n) := hn
  have HNi : Hid (its.length = ni) := hni
  unfold refV
  rw [hl0, hcl]
  rw [hni] at hlen
  clear h hcell hn t1 t2 t3 t4 hW0 hN0 hl0 hs hb0 hni hcl
  go_enter Try.func45, Try.ntmps45
  go_wp2_with (refine wpList_append_row _ rfl _ _ 24 24 rfl underIts infoIt rfl (v := .slice none 0 0) (by simp [Act.eval]) (u := .slice ai ni ci) (by simp [Act.eval]) (Row.nil _ _ _) (Src.row underIts HR.out.row (its_one _)) ?x1 ?x2 ?x3)
  case x1 => rw [HNi.out]; omega
  case x2 => rw [HNi.out]; unfold maxLen; omega
  case x3 =>
    intro v1 w1 hr1 hg1
    rw [HW0.out] at hg1
    have HM1 : Hid (Mine W0 w1 68 3 v1 its.length (itsV its)) := ((Mine.nil (Below.refl _ _)).grown (Below.refl _ _) hr1.out hg1.out).cast (by first | rfl | exact Nat.zero_add _) (by first | rfl | simp)
    rw [HN0.out]
    clear hr1 hg1
    go_wp2_with fail
    go_loopw [9, 10] (fun s9 s10 wr => ∃ i : Nat, i ≤ n ∧ s10 = .int .i64 i ∧ Hid (Mine W0 wr 68 3 s9 (its ++ newI (p, t) (ls.take i)).length (itsV (its ++ newI (p, t) (ls.take i))))) (fun _ v _ => n - (intOf v).toNat)
    case atStart => exact ⟨0, Nat.zero_le _, rfl, HM1.out.cast (by simp [newI]) (by simp [newI])⟩
    case round =>
      obtain ⟨i, hi, rfl, HM⟩ := hrel
      obtain ⟨si, hsi⟩ : ∃ si, u9 = si := ⟨_, rfl⟩
      rw [hsi] at HM ⊢
      clear hsi
      by_cases hlt : i < n
      · obtain ⟨l, hl⟩ : ∃ l, ls[i]? = some l := ⟨_, List.getElem?_eq_getElem (by rw [HN.out]; exact hlt)⟩
        obtain ⟨g, o, rfl, hll, hc⟩ := HC.out wr HM.out.below i l hl
        have HT : Hid (newI (p, t) (ls.take (i + 1)) = newI (p, t) (ls.take i) ++ [⟨l ++ [10], (p, t)⟩]) := newI_take _ _ hl
        have hln : (its ++ newI (p, t) (ls.take i)).length ≤ 2000000 := by
          rw [List.length_append, HNi.out]
          unfold newI
          rw [List.length_map, List.length_take, HN.out]
          omega
        obtain ⟨z, hz⟩ : ∃ z, str l = z := ⟨_, rfl⟩
        have HZz : Hid (str (l ++ [10]) = z ++ ⟨#[10]⟩) := by
          show _ = _
          rw [← hz]
          rfl
        have hzs : z.size ≤ 1000000 := by
          have h1 := mem_sum hl
          have h2 : z.size = l.length := by rw [← hz]; rfl
          omega
        rw [hz] at hc
        clear hl hz HM1
        go_wp2_with (refine wpList_append_row _ rfl _ _ 24 24 rfl underIts infoIt rfl (v := si) (by simp [Act.eval]) (u := .slice (some ⟨wr.heap.size, 0, none⟩) 1 1) (by simp [Act.eval]) (HM.out.row.below ((Below.refl _ _).alloc (Nat.le_refl _) _)) (Src.block underIts _ _ (itV ⟨l ++ [10], (p, t)⟩) _ 3 (by show _ = _; unfold itV; rw [HZz.out]; exact heap_alloc_new wr _) rfl rfl) ?y1 ?y2 ?y3)
        case y1 => omega
        case y2 => unfold maxLen; omega
        case y3 =>
          intro v2 w2 hr2 hg2
          have HM2 : Hid (Mine W0 w2 68 3 v2 (its ++ newI (p, t) (ls.take (i + 1))).length (itsV (its ++ newI (p, t) (ls.take (i + 1))))) := (HM.out.grown ((Below.refl _ _).alloc (Nat.le_refl _) _) hr2.out hg2.out).cast (by rw [HT.out]; simp only [List.length_append, List.length_singleton]; omega) (by rw [HT.out, ← List.append_assoc, its_snoc])
          clear hr2 hg2 hc HM
          go_wp2
          go_roundw
          case rel => exact ⟨i + 1, by omega, by go_num, HM2⟩
          case measure => simp [intOf]; omega
      · obtain rfl : i = n := by omega
        have htk : ls.take i = ls := List.take_of_length_le (by rw [HN.out]; omega)
        rw [htk] at HM
        obtain ⟨a3, c3, hsl, -, -, -, -⟩ := HM.out.row.shape
        obtain ⟨p0, p1, p2⟩ := HP.out wr HM.out.below
        have hz := HZ.out wr HM.out.below
        subst hsl
        have z0 : wr.cell? ⟨N0 + 1, 0, none⟩ = some (.int .i64 0) := cell_atT hz 0
        have z1 : wr.cell? ⟨N0 + 1, 1, none⟩ = some (.slice none 0 0) := cell_atT hz 1
        have z2 : wr.cell? ⟨N0 + 1, 2, none⟩ = some (.bool false) := cell_atT hz 2
        have zf := free_atT hz
        clear hz htk
        go_wp2
        all_goals refine bodyPost_ret (v := .agg #[.int .i64 (l0 : Int), .slice a3 (its ++ newI (p, t) ls).length c3, .bool cl]) (by simp [results, Try.results45, go_sem, z0, z1, z2]) rfl ?_
        have ST := fun y => stored3 (x := .int .i64 (l0 : Int)) (y := y) (z := .bool cl) (HZ.out wr HM.out.below)
        have hne : ∀ g, (Value.slice a3 (its ++ newI (p, t) ls).length c3).ownBlock = some g → g ≠ N0 + 1 := fun g hg e => by
          obtain ⟨cur, hc⟩ := HM.out.row.block hg
          rw [e, HZ.out wr HM.out.below] at hc
          simp at hc
        have hw := HFi.out W0 (Below.refl _ _)
        refine ⟨_, rfl, ⟨HM.out.row.keep fun g hg => (ST _).2.1 g (hne g hg), ?_, ?_, ?_⟩, (HFi.out wr HM.out.below).trans ((ST _).2.2 w.heap.size (by rw [HN0.out]; omega)), fun g hg => Nat.le_trans hw.size (HM.out.young g hg)⟩
        · intro x hx
          rcases List.mem_append.1 hx with hx | hx
          · exact HR.out.pos x hx
          · exact newI_pos _ _ x hx
        · show textsI (its ++ newI (p, t) ls) = q.bs ++ flatF ls
          rw [← newI_texts (p, t) ls, ← HR.out.bs]
          exact List.flatMap_append
        · show spread _ _ (its ++ newI (p, t) ls) = q.os ++ List.replicate (sumF ls) (p, t)
          rw [spread_append, newI_spread, HR.out.os]

end Go.Proofs.Ytkpnolkbheoocaa
