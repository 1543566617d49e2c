/-
  The queue: Panes.
-/
import Derived.Test.YtkpnolkbheoocaaQRefC
import Derived.Test.YtkpnolkbheoocaaQOld
import Derived.Test.YtkpnolkbheoocaaShelf
import Derived.WalkKit
import Derived.Deep.RegionLaw
import Derived.Sort.OwnSorted
import Derived.Sort.Grow
import Derived.Lib.OwnBridge
import Derived.Lib.SlicesCompact
import Derived.Lib.RowBridge
import Derived.Maps.AppendAt
namespace Go.Proofs.Ytkpnolkbheoocaa
open Go.RowKit
set_option linter.unusedVariables false
set_option maxRecDepth 100000

theorem infoIntQ : (Try.prog.info? 3).map (fun i => (i.zero, i.size, i.bytes)) = some (some (.int .i64 0), 1, 8) := by kernel_rfl
theorem underInts : Try.prog.underlying 41 = some (.slice 3) := by kernel_rfl
/-- A row of numbers. -/
def Ints (w : World) (v : Value) (zs : List Int) : Prop := Row w 3 1 v zs.length (zs.map (Value.int .i64))

/-- The panes of pieces that are output, in their order. -/
def panesL (ps : List Pc) : List Int := (ps.filter fun p => decide (p.o.1 ≠ 0)).map fun p => p.o.1
theorem panesL_take (ps : List Pc) {i : Nat} {p : Pc} (h : ps[i]? = some p) : panesL (ps.take (i + 1)) = panesL (ps.take i) ++ (if p.o.1 = 0 then [] else [p.o.1]) := by
  unfold panesL
  rw [List.take_add_one, h, List.filter_append, List.map_append]
  congr 1
  by_cases hk : p.o.1 = 0 <;> simp [hk]
theorem panesL_len (ps : List Pc) : (panesL ps).length ≤ ps.length := by
  unfold panesL
  rw [List.length_map]
  exact List.length_filter_le _ _
theorem panesL_mem {ps : List Pc} (h : ∀ p ∈ ps, OwnOk p.o) (hp : ∀ p ∈ ps, 0 < p.n) (x : Int) : x ∈ panesL ps ↔ waits (spread Pc.o Pc.n ps) x := by
  unfold panesL waits
  rw [List.mem_map]
  constructor
  · rintro ⟨p, hp1, rfl⟩
    obtain ⟨h1, h2⟩ := List.mem_filter.1 hp1
    have h3 := (h p h1).p0
    have h4 : p.o.1 ≠ 0 := of_decide_eq_true h2
    exact ⟨by omega, p.o, (spread_mem hp _).2 ⟨p, h1, rfl⟩, rfl⟩
  · rintro ⟨h1, o, h2, rfl⟩
    obtain ⟨p, h3, rfl⟩ := (spread_mem hp _).1 h2
    exact ⟨p, List.mem_filter.2 ⟨h3, decide_eq_true (by omega)⟩, rfl⟩
def sortI (zs : List Int) : List Int := zs.mergeSort fun x y => decide (x ≤ y)
theorem sortI_length (zs : List Int) : (sortI zs).length = zs.length := List.length_mergeSort zs
theorem sortI_perm (zs : List Int) : (sortI zs).Perm zs := List.mergeSort_perm zs _
theorem sortI_sorted (zs : List Int) : (sortI zs).Pairwise (· ≤ ·) := by
  have h := List.pairwise_mergeSort (le := fun x y : Int => decide (x ≤ y)) (fun a b c h1 h2 => by simp at *; omega) (fun a b => by simp; omega) zs
  exact h.imp fun h => by simpa using h
theorem getI {zs : List Int} {j : Nat} (h : j < zs.length) : zs.toArray[j]! = zs[j] := by
  rw [getElem!_pos zs.toArray j (by simpa using h)]
  simp
/-- Sorted and without repetition: rising. -/
theorem compact_rising (l : List Int) (hs : l.Pairwise (· ≤ ·)) : Rising (Lib.compact l) ∧ ∀ x, x ∈ Lib.compact l ↔ x ∈ l := by
  have hs' := List.pairwise_iff_getElem.1 hs
  have key : ∀ m, m ≤ l.length → Rising (Lib.compactUpTo l.toArray m) ∧ ∀ x, x ∈ Lib.compactUpTo l.toArray m ↔ ∃ j, ∃ h : j < l.length, j < m ∧ l[j] = x := by
    intro m
    induction m with
    | zero => intro _; exact ⟨List.Pairwise.nil, fun x => ⟨fun h => by simp [Lib.compactUpTo] at h, fun ⟨j, _, h, _⟩ => by omega⟩⟩
    | succ m ih =>
      intro hm
      obtain ⟨h1, h2⟩ := ih (by omega)
      rw [Lib.compactUpTo_succ]
      by_cases hk : Lib.keeps l.toArray m = true
      · rw [if_pos hk, getI (by omega)]
        refine ⟨?_, fun x => ?_⟩
        · unfold Rising
          rw [List.pairwise_append]
          refine ⟨h1, by simp, fun x hx y hy => ?_⟩
          rw [List.mem_singleton.1 hy]
          obtain ⟨j, hj, hjm, rfl⟩ := (h2 x).1 hx
          unfold Lib.keeps at hk
          rw [decide_eq_true_eq, getI (by omega), getI (by omega)] at hk
          rcases hk with hk | hk
          · omega
          · have h3 := hs' (m - 1) m (by omega) (by omega) (by omega)
            by_cases e : j = m - 1
            · subst e; omega
            · have := hs' j (m - 1) (by omega) (by omega) (by omega)
              omega
        · rw [List.mem_append, h2, List.mem_singleton]
          constructor
          · rintro (⟨j, hj, hjm, e⟩ | e)
            · exact ⟨j, hj, by omega, e⟩
            · exact ⟨m, by omega, by omega, e.symm⟩
          · rintro ⟨j, hj, hjm, e⟩
            by_cases h : j < m
            · exact .inl ⟨j, hj, h, e⟩
            · obtain rfl : j = m := by omega
              exact .inr e.symm
      · rw [if_neg hk, List.append_nil]
        refine ⟨h1, fun x => ?_⟩
        rw [h2]
        constructor
        · rintro ⟨j, hj, hjm, e⟩
          exact ⟨j, hj, by omega, e⟩
        · rintro ⟨j, hj, hjm, e⟩
          by_cases h : j < m
          · exact ⟨j, hj, h, e⟩
          · obtain rfl : j = m := by omega
            unfold Lib.keeps at hk
            rw [decide_eq_true_eq, getI (by omega), getI (by omega)] at hk
            have h3 : ¬ (j = 0) ∧ l[j] = l[j - 1] := by
              constructor
              · exact fun e => hk (.inl e)
              · exact Classical.byContradiction fun e => hk (.inr e)
            exact ⟨j - 1, by omega, by omega, h3.2 ▸ e⟩
  obtain ⟨h1, h2⟩ := key l.length (Nat.le_refl _)
  refine ⟨h1, fun x => (h2 x).trans ⟨fun ⟨j, hj, _, e⟩ => e ▸ List.getElem_mem hj, fun hx => ?_⟩⟩
  obtain ⟨j, hj, e⟩ := List.mem_iff_getElem.1 hx
  exact ⟨j, hj, hj, e⟩

/-- A row of numbers of this call's own. -/
def IOwns (w : World) (B : Nat) (v : Value) (zs : List Int) : Prop := w.ownsRow B 3 1 v zs.length (zs.map (Value.int .i64))
theorem IOwns.below {w w' : World} {B : Nat} {v : Value} {zs : List Int} (h : IOwns w B v zs) (hb : Below w.heap.size w w') : IOwns w' B v zs :=
  World.ownsRow.kept (row := none) h ⟨hb.os, hb.tape, hb.output, hb.size, fun k hk _ => hb.block k hk⟩ (by cases v.ownBlock <;> simp)
theorem IOwns.row {w : World} {B : Nat} {v : Value} {zs : List Int} (h : IOwns w B v zs) : Ints w v zs := by
  refine ⟨by simp, ?_⟩
  rcases h.2 with ⟨rfl, h0⟩ | ⟨g, cap, cur, rfl, hb, hg, h1, h2, h3, h4⟩
  · exact .inl ⟨rfl, h0⟩
  · refine .inr ⟨g, 0, cap, cur, rfl, hg, h1, h2, by omega, fun j u hu => ?_⟩
    have hj := (List.getElem?_eq_some_iff.1 hu).1
    rw [← h4, List.getElem?_take_of_lt (by simpa using hj), Array.getElem?_toList] at hu
    rwa [Nat.zero_add]
theorem IOwns.young {w : World} {B : Nat} {v : Value} {zs : List Int} (h : IOwns w B v zs) : ∀ g, v.ownBlock = some g → B ≤ g := fun g hg => (World.ownsRow.lt h g hg).1
theorem IOwns.grown {w w' : World} {B : Nat} {v : Value} {zs : List Int} {o : Obj} (hg : (w.alloc o).grownBy w' v.ownBlock) (hv : IOwns w B v zs) (W : World) (hb : Below B W w) (hB : B ≤ w.heap.size) : Below B W w' := by
  have hlt := World.ownsRow.lt hv
  have h1 : Below B W (w.alloc o) := hb.alloc hB o
  refine ⟨hg.os.trans h1.os, hg.tape.trans h1.tape, hg.output.trans h1.output, Nat.le_trans h1.size hg.size, fun k hk => ?_⟩
  refine (hg.block k ?_ ?_).trans (h1.block k hk)
  · have : (w.alloc o).heap.size = w.heap.size + 1 := by simp
    omega
  · intro e
    have := (hlt k e.symm).1
    omega
theorem wpList_append_int {ops : Array Oper} {rest : List Oper} {o : Oper} {a : Act} {Q : Exit → Act → World → Prop} (w : World) (hgd : o.guard = none) (s x : Operand)
    (ho : o.op = .call { callee := .builtin .append, args := #[s, x], argTypes := #[41, 41] })
    (B : Nat) (v : Value) (zs : List Int) (p : Int) (hs : a.eval s = v) (hown : IOwns w B v zs) (hx : a.eval x = .slice (some ⟨w.heap.size, 0, none⟩) 1 1) (hlen : zs.length ≤ 16777216) (hB : B ≤ w.heap.size)
    (h : ∀ v' w', Hid (IOwns w' B v' (zs ++ [p])) → Hid ((w.alloc (.cells #[.int .i64 p] 3)).grownBy w' v.ownBlock) → wpList Try.prog ops Q rest (a.put o.dst v') w') : wpList Try.prog ops Q (o :: rest) a (w.alloc (.cells #[.int .i64 p] 3)) := by
  obtain ⟨i0, hi, hz0, hz1, hz2⟩ := info_parts infoIntQ
  refine wpList_append_own_at _ hgd s x 41 ho B 3 i0 (.int .i64 0) 1 8 underInts hi hz0 hz1 hz2 rfl (by decide) v zs.length (zs.map (Value.int .i64)) hs (World.ownsRow.alloc hown _) ⟨w.heap.size, 0, none⟩ 1 1 [.int .i64 p] hx rfl ?_ ?_ ?_ ?_ ?_ ?_
  · intro j u hu
    rw [show (⟨w.heap.size, 0, none⟩ : Addr).add j = ⟨w.heap.size, j, none⟩ by unfold Addr.add; split <;> simp_all, cell_atT (heap_alloc_new w _)]
    simpa using hu
  · intro u hu
    simp only [List.mem_cons, List.not_mem_nil, or_false] at hu
    subst hu
    rfl
  · unfold maxLen; omega
  · omega
  · have : (w.alloc (.cells #[.int .i64 p] 3)).heap.size = w.heap.size + 1 := by simp
    omega
  · intro v' w' h2 h3 _ _
    refine h v' w' ?_ h3
    show World.ownsRow _ _ _ _ _ _ _
    rw [List.map_append, List.length_append]
    simpa using h2

/-- slices.Sort, slices.Compact of such a row. -/
theorem sort_own {w : World} {B : Nat} {v : Value} {zs : List Int} (h : IOwns w B v zs) (hsm : zs.length ≤ 1000000) (w0 : World) (hw : Below B w0 w) (hB : B ≤ w.heap.size) :
    Calls Try.prog 28 #[v] w fun e w' => e = .returned (.tuple #[]) ∧ IOwns w' B v (sortI zs) ∧ Below B w0 w' := by
  by_cases hv : v = .slice none 0 0
  · subst hv
    refine (Try.slices_Sort_int_none none 0 w).mono ?_
    rintro e w' ⟨rfl, rfl⟩
    have h0 : zs = [] := by
      rcases h.2 with ⟨_, h0⟩ | ⟨g, cap, cur, hh, _⟩
      · exact List.length_eq_zero_iff.1 h0
      · cases hh
    subst h0
    have e0 : sortI [] = [] := by simp [sortI]
    rw [e0]
    exact ⟨rfl, h, hw⟩
  · obtain ⟨g, cap, rfl, hbg, hgl, hncap, hcm, hlen, hH⟩ := Go.Lib.holds_of_ownsRow h hv
    refine (Try.slices_Sort_int g 0 cap zs w hH hgl (by omega)).mono ?_
    rintro e w1 ⟨rfl, q, os, rfl⟩
    have h1 := Go.Lib.ownsRow_putRow (q := q) (ys := sortI zs) (k := zs.length) h (sortI_length zs) (Nat.le_refl _)
    have h2 := World.ownsRow.kept (row := none) (w' := Go.Sort.grow (Go.Sort.putRow (Value.int .i64) (Go.Sort.ahead w q) g 0 (sortI zs).toArray) os) h1 ⟨rfl, rfl, rfl, by simp [Go.Sort.grow], fun k hk _ => Go.Sort.heap_grow_old _ _ hk⟩ (.inr (by simp [Value.ownBlock]))
    have h3 := Go.Lib.below_putRow (enc := Value.int .i64) (q := q) (d := (sortI zs).toArray) hw hbg
    refine ⟨rfl, ?_, ⟨h3.os, h3.tape, h3.output, Nat.le_trans h3.size (by simp [Go.Sort.grow]), fun k hk => (Go.Sort.heap_grow_old _ _ (by have := h3.size; simp [Go.Sort.putRow, Go.Sort.mapBlock, Go.Sort.ahead]; omega)).trans (h3.block k hk)⟩⟩
    show World.ownsRow _ _ _ _ _ _ _
    rw [sortI_length]
    rw [List.take_of_length_le (by rw [sortI_length]; exact Nat.le_refl _)] at h2
    exact h2
theorem compact_own {w : World} {B : Nat} {v : Value} {zs : List Int} (h : IOwns w B v zs) (hsm : zs.length ≤ 1000000) (w0 : World) (hw : Below B w0 w) (hB : B ≤ w.heap.size) :
    Calls Try.prog 29 #[v] w fun e w' => ∃ v', e = .returned v' ∧ IOwns w' B v' (Lib.compact zs) ∧ Below B w0 w' := by
  by_cases hv : v = .slice none 0 0
  · subst hv
    refine (Try.slices_Compact_int_empty none 0 w).mono ?_
    rintro e w' ⟨rfl, rfl⟩
    have h0 : zs = [] := by
      rcases h.2 with ⟨_, h0⟩ | ⟨g, cap, cur, hh, _⟩
      · exact List.length_eq_zero_iff.1 h0
      · cases hh
    subst h0
    exact ⟨_, rfl, h, hw⟩
  · obtain ⟨g, cap, rfl, hbg, hgl, hncap, hcm, hlen, hH⟩ := Go.Lib.holds_of_ownsRow h hv
    refine (Try.slices_Compact_int g 0 cap zs w hH (by omega) hncap).mono ?_
    rintro e w1 ⟨rfl, q, rfl⟩
    have hl : (Lib.compact zs).length ≤ zs.length := Lib.compact_length_le zs
    have h1 := Go.Lib.ownsRow_putRow (q := q) (ys := Lib.compact zs ++ List.replicate (zs.length - (Lib.compact zs).length) 0) (k := (Lib.compact zs).length) h (by simp; omega) hl
    rw [List.take_left] at h1
    exact ⟨_, rfl, h1, Go.Lib.below_putRow hw hbg⟩

/-- What Panes tells. -/
def Told (w w' : World) (os : List (Int × Int)) (v : Value) : Prop := ∃ zs, Ints w' v zs ∧ Rising zs ∧ (∀ x, x ∈ zs ↔ waits os x) ∧ Below w.heap.size w w' ∧ (∀ g, v.ownBlock = some g → w.heap.size ≤ g) ∧ zs.length ≤ 1000000

set_option maxHeartbeats 4000000 in
theorem panes_any {w : World} {F : List Nat} {b : Nat} {q : Qs} (hq : QAt w F b q) :
    Calls Try.prog 13 #[.pointer (some ⟨b, 0, none⟩)] w fun e w' => ∃ v, e = .returned v ∧ Told w w' q.os v := by
  obtain ⟨vb, vp, ps, hraw, hpos, hspr, hqok, rfl⟩ := hq
  have c3 := hraw.c3
  obtain ⟨ad, cap, rfl, hc1, hc2, hnil, hsome⟩ := hraw.pieces.shape
  obtain ⟨n, hn⟩ : ∃ n, ps.length = n := ⟨_, rfl⟩
  rw [hn] at c3 hc1 hnil hsome
  have hfew : n ≤ 106497 := by
    have h1 := spread_few (o := Pc.o) hpos
    rw [hspr, hqok.len, hn] at h1
    have := hqok.few
    omega
  have HOk : Hid (∀ p ∈ ps, OwnOk p.o) := fun p hp => hqok.own _ (by rw [← hspr]; exact (spread_mem hpos _).2 ⟨p, hp, rfl⟩)
  have HPos : Hid (∀ p ∈ ps, 0 < p.n) := hpos
  have HSp : Hid (spread Pc.o Pc.n ps = q.os) := hspr
  have HN : Hid (ps.length = n) := hn
  have HC : Hid (∀ W, Below w.heap.size w W → ∀ (i : Nat) (p : Pc), ps[i]? = some p → ∃ g o, ad = some ⟨g, o, none⟩ ∧ W.cell? ⟨g, o + i * 3, none⟩ = some (.int .i64 p.o.1) ∧ W.cell? ⟨g, o + i * 3 + 1, none⟩ = some (.int .i64 p.o.2) ∧ W.cell? ⟨g, o + i * 3 + 2, none⟩ = some (.int .i64 (p.n : Int))) := fun W hW i p hp => by
    cases ad with
    | none =>
      have := (hnil rfl).1
      have hl := (List.getElem?_eq_some_iff.1 hp).1
      omega
    | some a =>
      obtain ⟨g, o, rfl, h5, h6, h7⟩ := hsome a rfl
      obtain ⟨g0, g1, g2⟩ := pcs_get hp
      obtain ⟨h8, _⟩ := h7 W (hW.block g h6)
      exact ⟨g, o, rfl, h8 _ _ g0, by rw [Nat.add_assoc]; exact h8 _ _ g1, by rw [Nat.add_assoc]; exact h8 _ _ g2⟩
  have HIs : Hid (∀ (p t : Int) (W : World), Calls Try.prog 27 #[.agg #[.int .i64 p, .int .i64 t]] W fun x w' => x = .returned (.bool (!(decide (p = 0) && decide (t = 0)))) ∧ Below W.heap.size W w') := isOutput_any
  clear hraw hpos hspr hqok hnil hsome hn
  go_enter Try.func13, Try.ntmps13
  go_wp2_with fail
  go_loopw [3, 11] (fun s3 s11 wr => ∃ i : Nat, i ≤ n ∧ s11 = .int .i64 i ∧ Hid (IOwns wr w.heap.size s3 (panesL (ps.take i))) ∧ Hid (Below w.heap.size w wr)) (fun _ v _ => n - (intOf v).toNat)
  case atStart => exact ⟨0, Nat.zero_le _, rfl, World.ownsRow_nil _ _ _ _, Below.refl _ _⟩
  case round =>
    obtain ⟨i, hi, rfl, HO, HB⟩ := hrel
    by_cases hlt : i < n
    · obtain ⟨p, hp⟩ : ∃ p, ps[i]? = some p := ⟨_, List.getElem?_eq_getElem (by rw [HN.out]; exact hlt)⟩
      obtain ⟨g, o, rfl, q0, q1, q2⟩ := HC.out wr HB.out i p hp
      have hpo := HOk.out p (List.mem_of_getElem? hp)
      have HTk : Hid (panesL (ps.take (i + 1)) = panesL (ps.take i) ++ (if p.o.1 = 0 then [] else [p.o.1])) := panesL_take ps hp
      have hln : (panesL (ps.take i)).length ≤ 16777216 := by
        have := panesL_len (ps.take i)
        rw [List.length_take, HN.out] at this
        omega
      obtain ⟨⟨a, t⟩, m⟩ := p
      have ht0 : a = 0 → t = 0 := hpo.nobody
      have HI2 := HIs.out a t
      have HB1 : Hid (∀ W, Below (wr.alloc (.cells #[.int .i64 a, .int .i64 t, .int .i64 (m : Int)] 64)).heap.size (wr.alloc (.cells #[.int .i64 a, .int .i64 t, .int .i64 (m : Int)] 64)) W → Below w.heap.size w W ∧ IOwns W w.heap.size u3 (panesL (ps.take i)) ∧ W.cell? ⟨wr.heap.size, 0, none⟩ = some (.int .i64 a) ∧ W.cell? ⟨wr.heap.size, 1, none⟩ = some (.int .i64 t)) := fun W hW => by
        have h1 := heap_alloc_new wr (.cells #[.int .i64 a, .int .i64 t, .int .i64 (m : Int)] 64)
        have h2 := (hW.block wr.heap.size (by simp)).trans h1
        exact ⟨(HB.out.alloc HB.out.size _).trans (hW.mono (by have := HB.out.size; simp; omega)), (HO.out.below ((Below.refl _ _).alloc (Nat.le_refl _) _)).below hW, cell_atT h2 0, cell_atT h2 1⟩
      have q0' : wr.cell? ⟨g, o + i * 3, none⟩ = some (.int .i64 a) := q0
      have q1' : wr.cell? ⟨g, o + i * 3 + 1, none⟩ = some (.int .i64 t) := q1
      have q2' : wr.cell? ⟨g, o + i * 3 + 2, none⟩ = some (.int .i64 (m : Int)) := q2
      clear hp hpo q0 q1 q2
      by_cases hz : a = 0
      · have ht := ht0 hz
        subst hz ht
        rw [if_pos rfl, List.append_nil] at HTk
        go_wp2_with fail
        refine (HI2 _).mono ?_
        rintro y w1 ⟨rfl, hb1⟩
        obtain ⟨b1, b2, -, -⟩ := HB1.out w1 hb1
        have HB2 : Hid (Below w.heap.size w w1 ∧ IOwns w1 w.heap.size u3 (panesL (ps.take (i + 1)))) := ⟨b1, by rw [HTk.out]; exact b2⟩
        clear b1 b2 hb1 HB1
        go_wp2_with fail
        go_roundw
        case rel => exact ⟨i + 1, by omega, by go_num, HB2.out.2, HB2.out.1⟩
        case measure => simp [intOf]; omega
      · have hdec : (!(decide (a = 0) && decide (t = 0))) = true := by simp [hz]
        rw [hdec] at HI2
        rw [if_neg hz] at HTk
        go_wp2_with fail
        refine (HI2 _).mono ?_
        rintro y w1 ⟨rfl, hb1⟩
        obtain ⟨b1, b2, r0, r1⟩ := HB1.out w1 hb1
        have HB2 : Hid (Below w.heap.size w w1) := b1
        have HO2 : Hid (IOwns w1 w.heap.size u3 (panesL (ps.take i))) := b2
        clear b1 b2 hb1 HB1
        go_wp2_with (refine wpList_append_int w1 rfl _ _ rfl w.heap.size u3 (panesL (ps.take i)) a (by simp [Act.eval]) HO2.out (by simp [Act.eval]) hln HB2.out.size ?x3)
        case x3 =>
          intro v' w' h1 h2
          have HO' : Hid (IOwns w' w.heap.size v' (panesL (ps.take (i + 1)))) := by
            show IOwns _ _ _ _
            rw [HTk.out]
            exact h1.out
          have HB' : Hid (Below w.heap.size w w') := IOwns.grown h2.out HO2.out w HB2.out HB2.out.size
          clear h1 h2 r0 r1
          go_wp2
          go_roundw
          case rel => exact ⟨i + 1, by omega, by go_num, HO', HB'⟩
          case measure => simp [intOf]; omega
    · obtain rfl : i = n := by omega
      have htk : ps.take i = ps := List.take_of_length_le (by rw [HN.out]; omega)
      rw [htk] at HO
      have hl2 : (panesL ps).length ≤ 1000000 := by
        have := panesL_len ps
        rw [HN.out] at this
        omega
      have HS : Hid (Calls Try.prog 28 #[u3] wr fun e w' => e = .returned (.tuple #[]) ∧ IOwns w' w.heap.size u3 (sortI (panesL ps)) ∧ Below w.heap.size w w') := sort_own HO.out hl2 w HB.out HB.out.size
      have HF : Hid (∀ w' v', IOwns w' w.heap.size v' (Lib.compact (sortI (panesL ps))) → Below w.heap.size w w' → Told w w' q.os v') := fun w' v' h1 h2 => by
        obtain ⟨k1, k2⟩ := compact_rising (sortI (panesL ps)) (sortI_sorted _)
        refine ⟨_, h1.row, k1, fun x => ?_, h2, h1.young, ?_⟩
        · rw [k2, (sortI_perm _).mem_iff, panesL_mem HOk.out HPos.out, HSp.out]
        · have := Lib.compact_length_le (sortI (panesL ps))
          rw [sortI_length] at this
          omega
      have hsl : (sortI (panesL ps)).length ≤ 1000000 := by rw [sortI_length]; exact hl2
      clear htk
      go_wp2_with fail
      refine HS.out.mono ?_
      rintro y w1 ⟨rfl, h1, h2⟩
      have HCo : Hid (Calls Try.prog 29 #[u3] w1 fun e w' => ∃ v', e = .returned v' ∧ Told w w' q.os v') := (compact_own h1 hsl w h2 h2.size).mono fun e w' ⟨v', e1, e2, e3⟩ => ⟨v', e1, HF.out w' v' e2 e3⟩
      clear h1 h2
      go_wp2_with fail
      refine HCo.out.mono ?_
      rintro y w2 ⟨v', rfl, hT⟩
      have HT : Hid (Told w w2 q.os v') := hT
      clear hT
      go_wp2_with fail
      all_goals go_ret
      all_goals exact ⟨v', rfl, HT.out⟩

end Go.Proofs.Ytkpnolkbheoocaa
