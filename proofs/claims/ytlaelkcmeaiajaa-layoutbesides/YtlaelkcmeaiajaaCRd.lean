/-
  Layouts: the panes of a list; whether they are few and distinct.
  Layouts: the tree that a list lays down, read.
-/
import Derived.Test.YtlaelkcmeaiajaaCTk
import Derived.Test.YtlaelkcmeaiajaaCPa
import Derived.Test.YtlaelkcmeaiajaaCSh
import Derived.Sort.OwnSorted
import Derived.Sort.Grow
import Derived.Lib.OwnBridge
namespace Go.Proofs.Ytlaelkcmeaiajaa
open Go.RowKit
set_option linter.unusedVariables false
set_option maxRecDepth 100000

/-- The panes' ids, in order. -/
def idsOf (l : List CellV) : List Int := (l.filter fun c => decide (c.kind = 1)).map fun c => c.p
def IOwns (w : World) (B : Nat) (v : Value) (zs : List Int) : Prop := w.ownsRow B 3 1 v zs.length (zs.map (Value.int .i64))
theorem IOwns.below {w w' : World} {B : Nat} {v : Value} {zs : List Int} (h : IOwns w B v zs) (hb : Below w.heap.size w w') : IOwns w' B v zs := own_below h hb
theorem IOwns.grown {w w' : World} {B : Nat} {v : Value} {zs : List Int} {o : Obj} (hg : (w.alloc o).grownBy w' v.ownBlock) (hv : IOwns w B v zs) (W : World) (hb : Below B W w) (hB : B ≤ w.heap.size) : Below B W w' := by
  have hlt := World.ownsRow.lt hv
  have h1 : Below B W (w.alloc o) := hb.alloc hB o
  refine ⟨hg.os.trans h1.os, hg.tape.trans h1.tape, hg.output.trans h1.output, Nat.le_trans h1.size hg.size, fun k hk => ?_⟩
  refine (hg.block k ?_ ?_).trans (h1.block k hk)
  · have : (w.alloc o).heap.size = w.heap.size + 1 := by simp
    omega
  · intro e
    have := (hlt k e.symm).1
    omega

theorem infoInt : (Try.prog.info? 3).map (fun i => (i.zero, i.size, i.bytes)) = some (some (.int .i64 0), 1, 8) := by kernel_rfl
theorem wpList_append_int {ops : Array Oper} {rest : List Oper} {o : Oper} {a : Act} {Q : Exit → Act → World → Prop} (w : World) (hgd : o.guard = none) (s x : Operand)
    (ho : o.op = .call { callee := .builtin .append, args := #[s, x], argTypes := #[61, 61] })
    (B : Nat) (v : Value) (zs : List Int) (p : Int) (hs : a.eval s = v) (hown : IOwns w B v zs) (hx : a.eval x = .slice (some ⟨w.heap.size, 0, none⟩) 1 1) (hlen : zs.length ≤ 16777216) (hB : B ≤ w.heap.size)
    (h : ∀ v' w', IOwns w' B v' (zs ++ [p]) → (w.alloc (.cells #[.int .i64 p] 3)).grownBy w' v.ownBlock → wpList Try.prog ops Q rest (a.put o.dst v') w') : wpList Try.prog ops Q (o :: rest) a (w.alloc (.cells #[.int .i64 p] 3)) := by
  obtain ⟨i0, hi, hz0, hz1, hz2⟩ := info_partsL infoInt
  refine wpList_append_own_at _ hgd s x 61 ho B 3 i0 (.int .i64 0) 1 8 Try.underlying61 hi hz0 hz1 hz2 rfl (by decide) v zs.length (zs.map (Value.int .i64)) hs (World.ownsRow.alloc hown _) ⟨w.heap.size, 0, none⟩ 1 1 [.int .i64 p] hx rfl ?_ ?_ ?_ ?_ ?_ ?_
  · intro j u hu
    rw [show (⟨w.heap.size, 0, none⟩ : Addr).add j = ⟨w.heap.size, j, none⟩ by unfold Addr.add; split <;> simp_all, cell_newL]
    simpa using hu
  · intro u hu
    simp only [List.mem_cons, List.not_mem_nil, or_false] at hu
    subst hu
    rfl
  · unfold maxLen; omega
  · omega
  · have : (w.alloc (.cells #[.int .i64 p] 3)).heap.size = w.heap.size + 1 := by simp
    omega
  · intro v' w' h2 h3 _ _
    refine h v' w' ?_ h3
    unfold IOwns
    rw [List.map_append, List.length_append]
    simpa using h2

theorem idsOf_take (l : List CellV) (i : Nat) (c : CellV) (h : l[i]? = some c) : idsOf (l.take (i + 1)) = idsOf (l.take i) ++ (if c.kind = 1 then [c.p] else []) := by
  unfold idsOf
  rw [List.take_add_one, h, List.filter_append, List.map_append]
  congr 1
  by_cases hk : c.kind = 1 <;> simp [hk]
theorem idsOf_length (l : List CellV) : (idsOf l).length ≤ l.length := by
  unfold idsOf
  rw [List.length_map]
  exact List.length_filter_le _ _

set_option maxHeartbeats 1000000 in
theorem paneIds_seen (b off cap n : Nat) (l : List CellV) (w : World) (h : SeenIn w b off l) (hn : l.length = n) (hn1 : n ≤ 1000000) :
    Calls Try.prog 45 #[.slice (some ⟨b, off, none⟩) n cap] w fun e w' => ∃ u, e = .returned u ∧ IOwns w' w.heap.size u (idsOf l) ∧ Below w.heap.size w w' := by
  have H1 : Hid (SeenIn w b off l) := h
  have HN : Hid (l.length = n) := hn
  clear h hn
  go_enter Try.func45, Try.ntmps45
  go_wp2
  go_loopw [3, 8] (fun u v wr => ∃ i : Nat, i ≤ n ∧ v = .int .i64 i ∧ Hid (IOwns wr w.heap.size u (idsOf (l.take i))) ∧ Hid (Below w.heap.size w wr)) (fun _ v _ => n - (intOf v).toNat)
  case atStart => exact ⟨0, Nat.zero_le _, rfl, World.ownsRow_nil _ _ _ _, Below.refl _ _⟩
  case round =>
    obtain ⟨i, hi, rfl, HO, HB⟩ := hrel
    by_cases hlt : i < n
    · obtain ⟨x, hx⟩ : ∃ x, l[i]? = some x := ⟨_, List.getElem?_eq_getElem (by rw [HN.out]; exact hlt)⟩
      obtain ⟨q0, q1, q2, q3, q4, q5, q6⟩ := (H1.out.below HB.out) i x hx
      have HT : Hid (idsOf (l.take (i + 1)) = idsOf (l.take i) ++ (if x.kind = 1 then [x.p] else [])) := idsOf_take l i x hx
      clear hx
      have HL : Hid ((idsOf (l.take i)).length ≤ 16777216) := by
        have := idsOf_length (l.take i)
        rw [List.length_take, HN.out] at this
        show _ ≤ _
        omega
      have hsz := HB.out.size
      have HA : Hid (∀ o, Below wr.heap.size wr (wr.alloc o)) := fun o => (Below.refl _ _).alloc (Nat.le_refl _) o
      by_cases hk : x.kind = 1
      · go_wp2_with (refine wpList_append_int _ rfl (.tmp 15) (.tmp 18) rfl w.heap.size _ _ x.p (by simp [Act.eval]) (HO.out.below ?x1) (by simp [Act.eval]) HL.out ?x2 ?x3)
        case x1 => exact HA.out _
        case x2 => exact Nat.le_trans hsz (HA.out _).size
        case x3 =>
          intro v' w' h1 h2
          have HO' : Hid (IOwns w' w.heap.size v' (idsOf (l.take (i + 1)))) := by
            rw [HT.out, if_pos hk]
            exact h1
          have HB' : Hid (Below w.heap.size w w') := IOwns.grown h2 (HO.out.below (HA.out _)) w (HB.out.alloc hsz _) (Nat.le_trans hsz (HA.out _).size)
          clear h1 h2
          go_wp2
          go_roundw
          case rel => exact ⟨i + 1, by omega, by go_num, HO', HB'⟩
          case measure => simp [intOf]; omega
      · go_wp2
        go_roundw
        case rel => exact ⟨i + 1, by omega, by go_num, by rw [HT.out, if_neg hk, List.append_nil]; exact HO.out.below (HA.out _), HB.out.alloc hsz _⟩
        case measure => simp [intOf]; omega
    · go_wp2
      go_ret
      have h : IOwns wr w.heap.size u3 (idsOf l) := by
        have h := HO.out
        rwa [List.take_of_length_le (by rw [HN.out]; omega)] at h
      exact ⟨_, rfl, h, HB.out⟩

theorem paneIds_none (a : Option Addr) (cap : Nat) (w : World) :
    Calls Try.prog 45 #[.slice a 0 cap] w fun e w' => e = .returned (.slice none 0 0) ∧ w = w' := by
  go_enter Try.func45, Try.ntmps45
  go_wp2
  go_loopw [3, 8] (fun u v wr => u = .slice none 0 0 ∧ v = .int .i64 0 ∧ w = wr) (fun _ _ _ => 0)
  case atStart => exact ⟨rfl, rfl, rfl⟩
  case round =>
    obtain ⟨rfl, rfl, rfl⟩ := hrel
    go_wp2
    go_ret
    exact ⟨rfl, rfl⟩
theorem paneIds_any (v : Value) (l : List CellV) (w : World) (h : CellsIn w v l) (hn : l.length ≤ 1000000) :
    Calls Try.prog 45 #[v] w fun e w' => ∃ u, e = .returned u ∧ IOwns w' w.heap.size u (idsOf l) ∧ Below w.heap.size w w' := by
  by_cases h0 : l = []
  · subst h0
    obtain ⟨a, c, rfl⟩ := h.nil
    exact (paneIds_none a c w).mono fun e w' h => ⟨_, h.1, World.ownsRow_nil _ _ _ _, h.2 ▸ Below.refl _ _⟩
  · obtain ⟨b, off, cap, rfl, _, k⟩ := h.seen h0
    exact paneIds_seen b off cap l.length l w k rfl hn

/-- Few and distinct. -/
def fewB (zs : List Int) : Bool := decide (zs.length ≤ 32) && decide zs.Nodup
theorem few_none (a : Option Addr) (c : Nat) (w : World) : Calls Try.prog 44 #[.slice a 0 c] w fun e w' => e = .returned (.bool true) ∧ w = w' := by
  have H1 : Hid (∀ W, Calls Try.prog 55 #[.slice a 0 c] W fun e w' => e = .returned (.tuple #[]) ∧ w' = W) := fun W => Try.slices_Sort_int_none a c W
  have H2 : Hid (∀ W, Calls Try.prog 56 #[.slice a 0 c] W fun e w' => e = .returned (.slice a 0 c) ∧ w' = W) := fun W => Try.slices_Compact_int_empty a c W
  go_enter Try.func44, Try.ntmps44
  go_wp2_with (first | (go_at_call 55; refine (H1.out _).mono ?_; rintro e w1 ⟨rfl, h⟩; subst h) | (go_at_call 56; refine (H2.out _).mono ?_; rintro e w1 ⟨rfl, h⟩; subst h))
  go_ret
  exact ⟨rfl, rfl⟩
theorem few_some (g cap n : Nat) (zs : List Int) (B : Nat) (w0 w : World) (h : w.ownsRow B 3 1 (.slice (some ⟨g, 0, none⟩) n cap) n (zs.map (Value.int .i64))) (hn : zs.length = n) (hw : Below B w0 w) (hsm : n ≤ 1000000) : Calls Try.prog 44 #[.slice (some ⟨g, 0, none⟩) n cap] w fun e w' => e = .returned (.bool (fewB zs)) ∧ Below B w0 w' := by
  obtain ⟨g', cap', e, hbg, hgl, hncap, hcm, hlen, hH⟩ := Go.Lib.holds_of_ownsRow h (by intro e; cases e)
  cases e
  have H1 : Hid (Calls Try.prog 55 #[.slice (some ⟨g, 0, none⟩) n cap] w fun e w' => e = .returned (.tuple #[]) ∧ Below B w0 w' ∧
      Calls Try.prog 56 #[.slice (some ⟨g, 0, none⟩) n cap] w' fun e w'' => e = .returned (.slice (some ⟨g, 0, none⟩) (Go.Lib.compact (sortI zs)).length cap) ∧ Below B w0 w'') := by
    have h1 := Try.slices_Sort_int g 0 cap zs w hH hgl (by omega)
    rw [hn] at h1
    refine h1.mono ?_
    rintro e w1 ⟨rfl, q, os, rfl⟩
    have hsz : (sortI zs).length = n := (sortI_length zs).trans hn
    have hgr : w.grownBy (Go.Sort.grow (Go.Sort.putRow (Value.int .i64) (Go.Sort.ahead w q) g 0 (sortI zs).toArray) os) (some g) := by
      refine ⟨rfl, rfl, rfl, by simp, fun k hk hne => ?_⟩
      rw [Go.Sort.heap_grow_old _ _ (by simpa using hk)]
      have : g ≠ k := fun e => hne (by rw [e])
      simp [Go.Sort.putRow, Go.Sort.mapBlock, Go.Sort.ahead, Array.getElem?_modify, this]
    have hbel : Below B w0 (Go.Sort.grow (Go.Sort.putRow (Value.int .i64) (Go.Sort.ahead w q) g 0 (sortI zs).toArray) os) := hw.grown hgr (by omega) (fun j hj => by cases hj; exact hbg)
    refine ⟨rfl, hbel, ?_⟩
    have hH2 : Go.Sort.Holds (Value.int .i64) (Go.Sort.grow (Go.Sort.putRow (Value.int .i64) (Go.Sort.ahead w q) g 0 (sortI zs).toArray) os) g 0 (sortI zs).toArray :=
      Go.Sort.holds_grow (Value.int .i64) _ os g 0 _ (by simpa [Go.Sort.putRow, Go.Sort.mapBlock, Go.Sort.ahead] using hgl) (Go.Sort.holds_putRow (Value.int .i64) _ g 0 _ _ (Go.Sort.holds_ahead (Value.int .i64) w q g 0 _ hH) (by simp [sortI_length]))
    have h2 := Try.slices_Compact_int g 0 cap (sortI zs) _ hH2 (by omega) (by omega)
    rw [hsz] at h2
    refine h2.mono ?_
    rintro e w2 ⟨rfl, q2, rfl⟩
    exact ⟨rfl, Go.Lib.below_putRow hbel hbg⟩
  obtain ⟨m, hm⟩ : ∃ m, (Go.Lib.compact (sortI zs)).length = m := ⟨_, rfl⟩
  obtain ⟨r, hr⟩ : ∃ r, fewB zs = r := ⟨_, rfl⟩
  have HR : Hid (r = (decide (n ≤ 32) && decide (m = n))) := by
    show r = _
    rw [← hr, ← hm]
    unfold fewB
    rw [hn, ← compact_nodup, sortI_length, hn]
  rw [hr]
  rw [hm] at H1
  clear h hw hgl hncap hcm hlen hH hr hm hn hbg
  by_cases h32 : n ≤ 32
  · have hi : ((n : Int) ≤ 32) := by omega
    have HR2 : Hid (r = decide (m = n)) := by
      show r = _
      rw [HR.out]
      simp [h32]
    have hmn : ((m : Int) == n) = decide (m = n) := by
      by_cases e : m = n
      · simp [e]
      · simp [e]
        omega
    clear HR h32
    obtain ⟨s, hs⟩ : ∃ s, decide (m = n) = s := ⟨_, rfl⟩
    rw [hs] at HR2 hmn
    clear hs
    go_enter Try.func44, Try.ntmps44
    go_wp2_with (first | (go_at_call 55; refine H1.out.mono ?_; rintro e w1 ⟨rfl, hb1, hc⟩; have HC : Hid (Calls Try.prog 56 #[.slice (some ⟨g, 0, none⟩) n cap] w1 _) := hc; clear hc hb1) | (go_at_call 56; refine HC.out.mono ?_; rintro e w2 ⟨rfl, hb2⟩))
    go_ret
    exact ⟨by rw [HR2.out]; rfl, hb2⟩
  · have hi : ¬ ((n : Int) ≤ 32) := by omega
    have HR2 : Hid (r = false) := by
      show r = _
      rw [HR.out]
      simp [h32]
    clear HR h32
    go_enter Try.func44, Try.ntmps44
    go_wp2_with (go_at_call 55; refine H1.out.mono ?_; rintro e w1 ⟨rfl, hb1, hc⟩; clear hc)
    go_ret
    exact ⟨by rw [HR2.out]; rfl, hb1⟩

end Go.Proofs.Ytlaelkcmeaiajaa

namespace Go.Proofs.Ytlaelkcmeaiajaa
open Go.RowKit
set_option linter.unusedVariables false
set_option maxRecDepth 100000

/-- The tree of a list; none, if it is no layout. -/
def readF (l : List CellV) : Option Tree :=
  if 63 < l.length then none else
  match takeF l 0 with
  | none => none
  | some (t, _) => if t.sound = true ∧ (t.moved 0 0).tell 0 = l ∧ fewB (idsOf l) = true then some (t.moved 0 0) else none

def ReadGood (l : List CellV) (w : World) (e : Ending) (w' : World) : Prop :=
  (readF l = none ∧ e = .returned nilPart ∧ Below w.heap.size w w') ∨
  (∃ t T g fp, readF l = some t ∧ e = .returned (.iface T (.pointer (some ⟨g, 0, none⟩))) ∧ t.At w' 0 (.iface T (.pointer (some ⟨g, 0, none⟩))) fp ∧ fp.Nodup ∧ (∀ q ∈ fp, w.heap.size ≤ q) ∧ Below w.heap.size w w')

theorem readF_long {l : List CellV} (h : 63 < l.length) : readF l = none := by unfold readF; rw [if_pos h]
theorem readF_none {l : List CellV} (h : takeF l 0 = none) : readF l = none := by
  unfold readF
  split
  · rfl
  · rw [h]
theorem readF_some {l : List CellV} {t : Tree} {r : List CellV} (h0 : ¬ 63 < l.length) (h : takeF l 0 = some (t, r)) : readF l = if t.sound = true ∧ (t.moved 0 0).tell 0 = l ∧ fewB (idsOf l) = true then some (t.moved 0 0) else none := by
  unfold readF
  rw [if_neg h0, h]

theorem read_long (v : Value) (l : List CellV) (w : World) (h : CellsIn w v l) (hl : 63 < l.length) : Calls Try.prog 22 #[v] w (ReadGood l w) := by
  obtain ⟨ad, cap, rfl⟩ := h.length
  have HF : Hid (ReadGood l w (.returned nilPart) w) := .inl ⟨readF_long hl, rfl, Below.refl _ _⟩
  obtain ⟨n, hn⟩ : ∃ n, l.length = n := ⟨_, rfl⟩
  rw [hn] at hl ⊢
  have hi : (63 : Int) < n := by omega
  clear hn h hl
  go_enter Try.func22, Try.ntmps22
  go_wp2
  go_ret
  exact HF.out

theorem few_any (u : Value) (zs : List Int) (w0 w : World) (B : Nat) (h : IOwns w B u zs) (hw : Below B w0 w) (hn : zs.length ≤ 1000000) : Calls Try.prog 44 #[u] w fun e w' => e = .returned (.bool (fewB zs)) ∧ Below B w0 w' := by
  rcases h.2 with ⟨rfl, h0⟩ | ⟨g, cap, cur, rfl, hb, r⟩
  · have : zs = [] := List.length_eq_zero_iff.1 h0
    subst this
    exact (few_none none 0 w).mono fun e w' h => ⟨h.1, h.2 ▸ hw⟩
  · exact few_some g cap zs.length zs B w0 w h rfl hw hn

/-- What the tree does, one call behind the other. -/
structure Behind (l : List CellV) (v : Value) (t : Tree) (T : TypeId) (g : Nat) (fp : List Nat) (w w1 : World) (Fs : FuncId) : Prop where
  mS : ∀ W, (method 248 T (.pointer (some ⟨g, 0, none⟩)) "mullion/layout.sound").run Try.prog W = .ok (Fs, .pointer (some ⟨g, 0, none⟩)) W
  fS : ∀ a W, (callFunc Fs #[a]).run Try.prog W = .ok (.enter Fs #[a]) W
  cS : Calls Try.prog Fs #[.pointer (some ⟨g, 0, none⟩)] w1 fun e w2 => e = .returned (.bool t.sound) ∧ Below w1.heap.size w1 w2
  cL : ∀ w2, Below w1.heap.size w1 w2 → t.sound = true → Calls Try.prog 23 #[.iface T (.pointer (some ⟨g, 0, none⟩))] w2 fun e w3 => ∃ u, e = .returned u ∧ Below w.heap.size w w3 ∧
    Calls Try.prog 43 #[u, v] w3 fun e w4 => e = .returned (.bool (decide ((t.moved 0 0).tell 0 = l))) ∧ Below w.heap.size w w4 ∧
    Calls Try.prog 45 #[v] w4 fun e w5 => ∃ z, e = .returned z ∧ Below w.heap.size w w5 ∧
    Calls Try.prog 44 #[z] w5 fun e w6 => e = .returned (.bool (fewB (idsOf l))) ∧ Below w.heap.size w w6 ∧ (t.moved 0 0).At w6 0 (.iface T (.pointer (some ⟨g, 0, none⟩))) fp

theorem behind (l : List CellV) (v : Value) (t : Tree) (T : TypeId) (g : Nat) (fp : List Nat) (w w1 : World) (hv : CellsIn w v l) (hl : ¬ 63 < l.length) (r : List CellV) (hF : takeF l 0 = some (t, r)) (hAt : t.At w1 0 (.iface T (.pointer (some ⟨g, 0, none⟩))) fp) (hnd : fp.Nodup) (hge : ∀ q ∈ fp, w.heap.size ≤ q) (hb : Below w.heap.size w w1) : ∃ Fs, Behind l v t T g fp w w1 Fs := by
  obtain ⟨hfi, hsz⟩ := (takes_fine l.length l 0 (Nat.le_refl _) (by omega)).1 t r hF
  obtain ⟨T', gi, Fs, Fa, hp⟩ := hAt.partS hfi
  have e := hp.val
  cases e
  refine ⟨Fs, hp.mS, hp.fS, hp.cS w1 (Below.refl _ _), fun w2 h2 hs => ?_⟩
  have hAt2 := hAt.below h2
  refine (lay_any t 0 _ fp w2 hAt2 hnd hs hfi (by omega)).mono ?_
  rintro e w3 ⟨u, rfl, hu, hAt3, hbut⟩
  have hb2 : Below w.heap.size w w2 := below_step hb h2
  have hb3 : Below w.heap.size w w3 := ⟨hbut.os.trans hb2.os, hbut.tape.trans hb2.tape, hbut.output.trans hb2.output, Nat.le_trans hb2.size hbut.size, fun q hq => (hbut.block q (by have := hb2.size; omega) (fun e => by have := hge q e; omega)).trans (hb2.block q hq)⟩
  refine ⟨u, rfl, hb3, ?_⟩
  refine (equal_any u v _ l w3 hu.cellsIn (hv.below hb3) (by rw [Tree.tell_length, Tree.size_moved]; omega)).mono ?_
  rintro e w4 ⟨rfl, h4⟩
  have hb4 := below_step hb3 h4
  refine ⟨rfl, hb4, ?_⟩
  refine (paneIds_any v l w4 (hv.below hb4) (by omega)).mono ?_
  rintro e w5 ⟨z, rfl, hz, h5⟩
  refine ⟨z, rfl, below_step hb4 h5, ?_⟩
  refine (few_any z _ w4 w5 w4.heap.size hz h5 (by have := idsOf_length l; omega)).mono ?_
  rintro e w6 ⟨rfl, h6⟩
  exact ⟨rfl, below_step hb4 h6, (hAt3.below h4).below h6⟩

set_option maxHeartbeats 1000000 in
theorem read_short (v : Value) (l : List CellV) (w : World) (h : CellsIn w v l) (hl : ¬ 63 < l.length) : Calls Try.prog 22 #[v] w (ReadGood l w) := by
  have HT : Hid (Calls Try.prog 42 #[v, .int .i64 0] w (TakeGood w l v 0 w)) := take_any l.length l v 0 w w (Nat.le_refl _) (by omega) (Below.refl _ _) h
  have HV : Hid (CellsIn w v l) := h
  have HL : Hid (¬ 63 < l.length) := hl
  obtain ⟨ad, cap, hvv⟩ := h.length
  obtain ⟨n, hn⟩ : ∃ n, l.length = n := ⟨_, rfl⟩
  rw [hn] at hvv
  have hi : ¬ ((63 : Int) < n) := by omega
  subst hvv
  clear hn h hl
  go_enter Try.func22, Try.ntmps22
  go_wp2_with fail
  refine HT.out.mono ?_
  rintro e w1 (⟨hF, rfl, hb⟩ | ⟨t, r, T, g, fp, v', hF, rfl, hAt, hnd, hge, hc, hb⟩)
  · have HG : Hid (ReadGood l w (.returned nilPart) w1) := .inl ⟨readF_none hF, rfl, hb⟩
    clear hF hb
    unfold nilPart at HG ⊢
    go_wp2
    go_ret
    exact HG.out
  · have HRF : Hid (readF l = _) := readF_some HL.out hF
    obtain ⟨Fs, HBe⟩ := behind l _ t T g fp w w1 HV.out HL.out r hF hAt hnd hge hb
    have HP : Hid (Behind l _ t T g fp w w1 Fs) := HBe
    have m1 := HBe.mS
    have m2 := HBe.fS
    have HND : Hid (fp.Nodup ∧ (∀ q ∈ fp, w.heap.size ≤ q)) := ⟨hnd, hge⟩
    have HB1 : Hid (Below w.heap.size w w1) := hb
    clear hF hAt hnd hge hc hb HBe
    go_wp2_with fail
    refine HP.out.cS.mono ?_
    rintro e w2 ⟨rfl, hb2⟩
    have HcL : Hid (t.sound = true → _) := HP.out.cL w2 hb2
    have HB2 : Hid (Below w.heap.size w w2) := below_step HB1.out hb2
    obtain ⟨sd, hsd⟩ : ∃ s, t.sound = s := ⟨_, rfl⟩
    rw [hsd] at HRF HcL
    rw [hsd]
    clear HP hb2 HB1 hsd m1 m2
    cases sd
    · have HG : Hid (ReadGood l w (.returned nilPart) w2) := .inl ⟨by rw [HRF.out]; simp, rfl, HB2.out⟩
      unfold nilPart at HG
      go_wp2
      go_ret
      exact HG.out
    · have HcL2 : Hid (Calls Try.prog 23 _ w2 _) := HcL.out rfl
      clear HcL
      go_wp2_with fail
      refine HcL2.out.mono ?_
      rintro e w3 ⟨u, rfl, hb3, hc3⟩
      have HC3 : Hid (Calls Try.prog 43 _ w3 _) := hc3
      clear hb3 hc3
      go_wp2_with fail
      refine HC3.out.mono ?_
      rintro e w4 ⟨rfl, hb4, hc4⟩
      have HB4 : Hid (Below w.heap.size w w4) := hb4
      have HC4 : Hid (Calls Try.prog 45 _ w4 _) := hc4
      obtain ⟨q, hq⟩ : ∃ q, decide ((t.moved 0 0).tell 0 = l) = q := ⟨_, rfl⟩
      rw [hq]
      have HQ : Hid (decide ((t.moved 0 0).tell 0 = l) = q) := hq
      clear hb4 hc4 hq
      cases q
      · have HG : Hid (ReadGood l w (.returned nilPart) w4) := .inl ⟨by rw [HRF.out, if_neg (fun h => (of_decide_eq_false HQ.out) h.2.1)], rfl, HB4.out⟩
        unfold nilPart at HG
        go_wp2
        go_ret
        exact HG.out
      · go_wp2_with fail
        refine HC4.out.mono ?_
        rintro e w5 ⟨z, rfl, hb5, hc5⟩
        have HC5 : Hid (Calls Try.prog 44 _ w5 _) := hc5
        clear hb5 hc5
        go_wp2_with fail
        refine HC5.out.mono ?_
        rintro e w6 ⟨rfl, hb6, hat6⟩
        obtain ⟨f, hf⟩ : ∃ f, fewB (idsOf l) = f := ⟨_, rfl⟩
        rw [hf]
        cases f
        · have HG : Hid (ReadGood l w (.returned nilPart) w6) := .inl ⟨by rw [HRF.out, hf]; simp, rfl, hb6⟩
          unfold nilPart at HG
          clear hb6 hat6 hf
          go_wp2
          go_ret
          exact HG.out
        · have HG : Hid (ReadGood l w (.returned (.iface T (.pointer (some ⟨g, 0, none⟩)))) w6) := .inr ⟨t.moved 0 0, T, g, fp, by rw [HRF.out, hf, if_pos (by simp [of_decide_eq_true HQ.out])], rfl, hat6, HND.out.1, HND.out.2, hb6⟩
          clear hb6 hat6 hf
          go_wp2
          go_ret
          exact HG.out

theorem read_any (v : Value) (l : List CellV) (w : World) (h : CellsIn w v l) : Calls Try.prog 22 #[v] w (ReadGood l w) := by
  by_cases hl : 63 < l.length
  · exact read_long v l w h hl
  · exact read_short v l w h hl

def checkE (l : List CellV) : Int := if (readF l).isNone then 40 else 0
theorem check_any (v : Value) (l : List CellV) (w : World) (h : CellsIn w v l) : Calls Try.prog 20 #[v] w fun e w' => e = .returned (.int .i64 (checkE l)) ∧ Below w.heap.size w w' := by
  have HR : Hid (Calls Try.prog 22 #[v] w (ReadGood l w)) := read_any v l w h
  clear h
  go_enter Try.func20, Try.ntmps20
  go_wp2_with fail
  refine HR.out.mono ?_
  rintro e w1 (⟨hF, rfl, hb⟩ | ⟨t, T, g, fp, hF, rfl, hAt, hnd, hge, hb⟩)
  · have HE : Hid (checkE l = 40) := by show checkE l = 40; unfold checkE; rw [hF]; rfl
    unfold nilPart
    clear hF
    go_wp2
    go_ret
    exact ⟨by rw [HE.out]; rfl, hb⟩
  · have HE : Hid (checkE l = 0) := by show checkE l = 0; unfold checkE; rw [hF]; rfl
    clear hF hAt hnd hge
    go_wp2
    go_ret
    exact ⟨by rw [HE.out]; rfl, hb⟩

end Go.Proofs.Ytlaelkcmeaiajaa
