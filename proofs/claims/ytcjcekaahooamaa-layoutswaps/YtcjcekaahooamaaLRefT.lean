/-
  Layouts: the document's twice, List; what its Tree finds, by plain functions.
-/
import Derived.Test.YtcjcekaahooamaaLRefY
namespace Go.Proofs.Ytcjcekaahooamaa
open Go.RowKit
set_option linter.unusedVariables false
set_option maxRecDepth 100000

theorem ref_no {l : List CellV} {t : Tree} {c : CellV} {r : List CellV} (hr : readF l = some t) (hl : l = c :: r) : (growF c r).1 = nodeOf t ∧ (growF c r).1.ok = true ∧ (growF c r).1.ids.Nodup ∧ (growF c r).1.ids.length ≤ 32 ∧ layN (growF c r).1 0 0 0 = l := by
  have h := readF_lay hr
  have hg := h.growF hl
  rw [hg]
  have hi := ids_told t 0 h.kinds
  rw [h.tell] at hi
  have hf := few_len h.few
  refine ⟨rfl, sound_ok t h.kinds h.sound, by rw [hi]; exact hf.2, by rw [hi]; exact hf.1, ?_⟩
  rw [lay_told t 0 0 0, h.moved, h.tell]
theorem ref_yes {l : List CellV} {n : Node} (ho : n.ok = true) (hw : n.w ≤ 1000) (hh : n.h ≤ 1000) (hd : n.ids.Nodup) (h32 : n.ids.length ≤ 32) (hl : layN n 0 0 0 = l) : ∃ t, readF l = some t ∧ n = nodeOf t := by
  obtain ⟨t, e1, e2, e3, e4⟩ := ok_tree n ho hw hh
  subst e1
  have hk := kinds_moved t 0 0 e3
  have ht : (t.moved 0 0).tell 0 = l := by rw [← lay_told t 0 0 0]; exact hl
  have hi := ids_told (t.moved 0 0) 0 hk
  rw [node_moved, ht] at hi
  refine ⟨t.moved 0 0, lay_readF ⟨hk, sound_moved t 0 0 e3 e2, moved_moved t 0 0 0 0, ht, ?_⟩, (node_moved t 0 0).symm⟩
  unfold fewB
  rw [← hi]
  simp [hd, h32]
theorem ref_steps {l : List CellV} {t : Tree} {c : CellV} {r : List CellV} (hr : readF l = some t) (hl : l = c :: r) : c.depth = 0 ∧ c.w ≤ 1000 ∧ c.h ≤ 1000 ∧ stepsOk 0 r = true := (readF_lay hr).steps hl
theorem steps_at : ∀ (r : List CellV) (p : Int) (a : Nat) (x y : CellV), (x.depth = p ∧ a = 0 ∨ ∃ b, a = b + 1 ∧ r[b]? = some x) → r[a]? = some y → stepsOk p r = true → 1 ≤ y.depth ∧ y.depth ≤ x.depth + 1
  | [], p, a, x, y, hx, hy, hs => by simp at hy
  | c :: r, p, a, x, y, hx, hy, hs => by
    have hs' : ((decide (1 ≤ c.depth) && decide (c.depth ≤ p + 1)) && stepsOk c.depth r) = true := hs
    simp only [Bool.and_eq_true, decide_eq_true_eq] at hs'
    rcases hx with ⟨h1, rfl⟩ | ⟨b, rfl, h1⟩
    · simp at hy
      subst hy
      omega
    · have hy' : r[b]? = some y := by simpa using hy
      cases b with
      | zero =>
        simp at h1
        subst h1
        exact steps_at r c.depth 0 c y (.inl ⟨rfl, rfl⟩) hy' hs'.2
      | succ b => exact steps_at r c.depth (b + 1) x y (.inr ⟨b, rfl, by simpa using h1⟩) hy' hs'.2
theorem ref_step {l : List CellV} {t : Tree} (hr : readF l = some t) {i : Nat} {x y : CellV} (hx : l[i]? = some x) (hy : l[i + 1]? = some y) : 1 ≤ y.depth ∧ y.depth ≤ x.depth + 1 := by
  cases l with
  | nil => simp at hx
  | cons c r =>
    obtain ⟨h0, _, _, hs⟩ := ref_steps hr rfl
    refine steps_at r 0 i x y ?_ (by simpa using hy) hs
    cases i with
    | zero =>
      simp at hx
      subst hx
      exact .inl ⟨h0, rfl⟩
    | succ i => exact .inr ⟨i, rfl, by simpa using hx⟩

theorem grows_sub : ∀ (m : Nat), (∀ c r, ∀ x ∈ (growT m c r).2, x ∈ r) ∧ (∀ d r, ∀ x ∈ (growAllT m d r).2, x ∈ r)
  | 0 => ⟨fun c r x h => h, fun d r x h => h⟩
  | m + 1 => by
    obtain ⟨i1, i2⟩ := grows_sub m
    refine ⟨fun c r x h => i2 c.depth r x h, fun d r x h => ?_⟩
    cases r with
    | nil => exact h
    | cons c r =>
      unfold growAllT at h
      simp only [] at h
      split at h
      · exact List.mem_cons_of_mem _ (i1 c r x (i2 d _ x h))
      · exact h
theorem grows_all : ∀ (m : Nat) (d : Int) (r : List CellV), r.length ≤ m → (∀ x ∈ r, d < x.depth) → (growAllF d r).2 = []
  | m, d, [], hm, hx => rfl
  | 0, d, c :: r, hm, hx => by simp at hm
  | m + 1, d, c :: r, hm, hx => by
    rw [growAllF_cons, if_pos (hx c (by simp))]
    have hs := growF_shorter c r
    rw [List.length_cons] at hm
    refine grows_all m d (growF c r).2 (by omega) fun x h => ?_
    have : ∀ x ∈ (growF c r).2, x ∈ r := by
      unfold growF
      exact (grows_sub _).1 c r
    exact hx x (List.mem_cons_of_mem _ (this x h))
theorem grows_cnt : ∀ (m : Nat), (∀ c r, (growT m c r).1.cnt + (growT m c r).2.length = r.length + 1) ∧ (∀ d r, cnts (growAllT m d r).1 + (growAllT m d r).2.length = r.length)
  | 0 => by
    refine ⟨fun c r => ?_, fun d r => ?_⟩
    · show (1 + 0) + r.length = r.length + 1
      omega
    · show 0 + r.length = r.length
      omega
  | m + 1 => by
    obtain ⟨i1, i2⟩ := grows_cnt m
    refine ⟨fun c r => ?_, fun d r => ?_⟩
    · have := i2 c.depth r
      show (1 + cnts (growAllT m c.depth r).1) + (growAllT m c.depth r).2.length = r.length + 1
      omega
    · cases r with
      | nil => rfl
      | cons c r =>
        unfold growAllT
        simp only []
        split
        · have h1 := i1 c r
          have h2 := i2 d (growT m c r).2
          show ((growT m c r).1.cnt + cnts (growAllT m d (growT m c r).2).1) + (growAllT m d (growT m c r).2).2.length = (c :: r).length
          rw [List.length_cons]
          omega
        · show 0 + (c :: r).length = (c :: r).length
          omega
theorem grow_cnt (c : CellV) (r : List CellV) : (growF c r).1.cnt + (growF c r).2.length = r.length + 1 := (grows_cnt _).1 c r

/-- No number stands there twice, up to a place. -/
def NoTw (zs : List Int) (i : Nat) : Prop := ∀ (a b : Nat) (x y : Int), a < b → b < i → zs[a]? = some x → zs[b]? = some y → x ≠ y
def NoTw1 (zs : List Int) (i j : Nat) : Prop := ∀ (a : Nat) (x y : Int), a < j → zs[a]? = some x → zs[i]? = some y → x ≠ y
theorem noTw_nodup (zs : List Int) (h : NoTw zs zs.length) : zs.Nodup := by
  refine List.pairwise_iff_getElem.2 fun i j hi hj hij => ?_
  exact h i j _ _ hij hj (List.getElem?_eq_getElem hi) (List.getElem?_eq_getElem hj)
theorem nodup_ne {zs : List Int} (h : zs.Nodup) {a b : Nat} {x y : Int} (hab : a < b) (hx : zs[a]? = some x) (hy : zs[b]? = some y) : x ≠ y := by
  obtain ⟨ha, rfl⟩ := List.getElem?_eq_some_iff.1 hx
  obtain ⟨hb, rfl⟩ := List.getElem?_eq_some_iff.1 hy
  exact List.pairwise_iff_getElem.1 h a b ha hb hab
theorem NoTw.next {zs : List Int} {i : Nat} (h : NoTw zs i) (h1 : NoTw1 zs i i) : NoTw zs (i + 1) := by
  intro a b x y hab hb hx hy
  by_cases e : b = i
  · subst e
    exact h1 a x y hab hx hy
  · exact h a b x y hab (by omega) hx hy
theorem NoTw1.next {zs : List Int} {i j : Nat} {x y : Int} (h : NoTw1 zs i j) (hx : zs[j]? = some x) (hy : zs[i]? = some y) (hne : x ≠ y) : NoTw1 zs i (j + 1) := by
  intro a x' y' ha hx' hy'
  by_cases e : a = j
  · subst e
    rw [hx] at hx'
    rw [hy] at hy'
    cases hx'
    cases hy'
    exact hne
  · exact h a x' y' (by omega) hx' hy'

theorem IOwns.at_ {w : World} {B : Nat} {v : Value} {zs : List Int} (h : IOwns w B v zs) : (v = .slice none 0 0 ∧ zs = []) ∨ ∃ g cap, v = .slice (some ⟨g, 0, none⟩) zs.length cap ∧ ∀ (j : Nat) x, zs[j]? = some x → w.cell? ⟨g, j, none⟩ = some (.int .i64 x) := by
  rcases h.2 with ⟨rfl, h0⟩ | ⟨g, cap, cur, rfl, hb, hg, h1, h2, h3, h4⟩
  · exact .inl ⟨rfl, List.length_eq_zero_iff.1 h0⟩
  · refine .inr ⟨g, cap, rfl, fun j x hj => ?_⟩
    have hlt := (List.getElem?_eq_some_iff.1 hj).1
    rw [cell_atL hg]
    have : (cur.toList.take (zs.length * 1))[j]? = (zs.map (Value.int .i64))[j]? := by rw [h4]
    rw [List.getElem?_take_of_lt (by omega)] at this
    rw [← Array.getElem?_toList, this, List.getElem?_map, hj]
    rfl

theorem twice_none (w : World) : Calls Try.prog 24 #[.slice none 0 0] w fun e w' => e = .returned (.bool false) ∧ w = w' := by
  go_enter Try.func24, Try.ntmps24
  go_wp2
  go_loopw [3] (fun v wr => v = .int .i64 0 ∧ w = wr) (fun _ _ => 0)
  case atStart => exact ⟨rfl, rfl⟩
  case round =>
    obtain ⟨rfl, rfl⟩ := hrel
    go_wp2
    go_ret
    exact ⟨rfl, rfl⟩

set_option maxHeartbeats 2000000 in
theorem twice_some (g n cap : Nat) (zs : List Int) (w : World) (hc : ∀ (j : Nat) x, zs[j]? = some x → w.cell? ⟨g, j, none⟩ = some (.int .i64 x)) (hn : zs.length = n) (hn1 : n ≤ 1000) : Calls Try.prog 24 #[.slice (some ⟨g, 0, none⟩) n cap] w fun e w' => e = .returned (.bool (!decide zs.Nodup)) ∧ Below w.heap.size w w' := by
  have HC : Hid (∀ X, Below w.heap.size w X → ∀ (j : Nat) x, zs[j]? = some x → X.cell? ⟨g, j, none⟩ = some (.int .i64 x)) := fun X hX j x hj => (hX.cell (p := ⟨g, j, none⟩) (World.block_lt_of_cell? w _ (hc j x hj))).trans (hc j x hj)
  have HN : Hid (zs.length = n) := hn
  obtain ⟨r, hr⟩ : ∃ r, (!decide zs.Nodup) = r := ⟨_, rfl⟩
  have HF : Hid (NoTw zs n → r = false) := by
    intro h
    rw [← hr, decide_eq_true (noTw_nodup zs (by rw [hn]; exact h))]
    rfl
  have HT : Hid (¬ zs.Nodup → r = true) := by
    intro h
    rw [← hr, decide_eq_false h]
    rfl
  rw [hr]
  clear hc hn hr
  go_enter Try.func24, Try.ntmps24
  go_wp2
  go_loopw [3] (fun v wr => ∃ i : Nat, i ≤ n ∧ v = .int .i64 i ∧ Hid (NoTw zs i) ∧ Hid (Below w.heap.size w wr)) (fun v _ => n - (intOf v).toNat)
  case atStart => exact ⟨0, Nat.zero_le _, rfl, fun a b x y _ hb => by omega, Below.refl _ _⟩
  case round =>
    obtain ⟨i, hi, rfl, HI, HB⟩ := hrel
    by_cases hlt : i < n
    · obtain ⟨y, hy⟩ : ∃ y, zs[i]? = some y := ⟨_, List.getElem?_eq_getElem (by rw [HN.out]; exact hlt)⟩
      have HY : Hid (zs[i]? = some y) := hy
      clear hy
      go_wp2
      go_loopw [4] (fun v wr => ∃ j : Nat, j ≤ i ∧ v = .int .i64 j ∧ Hid (NoTw1 zs i j) ∧ Hid (Below w.heap.size w wr)) (fun v _ => i - (intOf v).toNat)
      case atStart => exact ⟨0, Nat.zero_le _, rfl, fun a x y ha => by omega, HB⟩
      case round =>
        obtain ⟨j, hj, rfl, HJ, HB2⟩ := hrel
        by_cases hlj : j < i
        · obtain ⟨x, hx⟩ : ∃ x, zs[j]? = some x := ⟨_, List.getElem?_eq_getElem (by rw [HN.out]; omega)⟩
          have c1 := HC.out _ HB2.out j x hx
          have c2 := HC.out _ HB2.out i y HY.out
          have HX : Hid (zs[j]? = some x) := hx
          have hjn : j < n := by omega
          clear hx
          by_cases hxy : x = y
          · have hxy' : (x == y) = true := by simpa using hxy
            have HR : Hid (r = true) := HT.out fun h => nodup_ne h hlj HX.out HY.out hxy
            clear hxy
            go_wp2
            go_quiet (fail)
            go_wp2
            go_ret
            exact ⟨by rw [HR.out]; rfl, below_drewN HB2.out _⟩
          · have hxy' : (x == y) = false := by simpa using hxy
            have HXY : Hid (x ≠ y) := hxy
            clear hxy
            go_wp2
            go_quiet (fail)
            go_wp2
            go_roundw
            case rel => exact ⟨j + 1, by omega, by go_num, HJ.out.next HX.out HY.out HXY.out, below_drewN HB2.out _⟩
            case measure => simp [intOf]; omega
        · have hji : j = i := by omega
          subst hji
          go_wp2
          exact ⟨⟨j + 1, by omega, by go_num, HI.out.next HJ.out, HB2⟩, by simp [intOf]; omega⟩
    · have hin : i = n := by omega
      subst hin
      have HR : Hid (r = false) := HF.out HI.out
      go_wp2
      go_ret
      exact ⟨by rw [HR.out]; rfl, HB.out⟩

end Go.Proofs.Ytcjcekaahooamaa
