/-
  Layouts: the panes of a list; whether they are few and distinct.
  Layouts: takeAll, the walk.
  Layouts: take, of every list.
  Layouts: the trees that lists lay down are fine, and as large as the cells that they take.
-/
import Derived.Test.YtglncninkocgaabGreatDoorCF
import Derived.Test.YtglncninkocgaabGreatDoorCG
import Derived.Test.YtglncninkocgaabGreatDoorCH
import Derived.Test.YtglncninkocgaabGreatDoorCC
import Derived.Test.YtglncninkocgaabGreatDoorCA
import Derived.Sort.OwnSorted
import Derived.Sort.Grow
import Derived.Lib.OwnBridge
namespace Go.Proofs.YtglncninkocgaabGreatDoor
open Go.RowKit
set_option linter.unusedVariables false
set_option maxRecDepth 100000

/-- The panes' ids, in order. -/
def idsOf (l : List CellV) : List Int := (l.filter fun c => decide (c.kind = 1)).map fun c => c.p
def IOwns (w : World) (B : Nat) (v : Value) (zs : List Int) : Prop := w.ownsRow B 3 1 v zs.length (zs.map (Value.int .i64))
theorem IOwns.below {w w' : World} {B : Nat} {v : Value} {zs : List Int} (h : IOwns w B v zs) (hb : Below w.heap.size w w') : IOwns w' B v zs := own_below h hb
theorem IOwns.grown {w w' : World} {B : Nat} {v : Value} {zs : List Int} {o : Obj} (hg : (w.alloc o).grownBy w' v.ownBlock) (hv : IOwns w B v zs) (W : World) (hb : Below B W w) (hB : B ≤ w.heap.size) : Below B W w' := by
  have hlt := World.ownsRow.lt hv
  have h1 : Below B W (w.alloc o) := hb.alloc hB o
  refine ⟨hg.os.trans h1.os, hg.tape.trans h1.tape, hg.output.trans h1.output, Nat.le_trans h1.size hg.size, fun k hk => ?_⟩
  refine (hg.block k ?_ ?_).trans (h1.block k hk)
  · have : (w.alloc o).heap.size = w.heap.size + 1 := by simp
    omega
  · intro e
    have := (hlt k e.symm).1
    omega

theorem infoInt : (Tryz.prog.info? 3).map (fun i => (i.zero, i.size, i.bytes)) = some (some (.int .i64 0), 1, 8) := by kernel_rfl
theorem wpList_append_int {ops : Array Oper} {rest : List Oper} {o : Oper} {a : Act} {Q : Exit → Act → World → Prop} (w : World) (hgd : o.guard = none) (s x : Operand)
    (ho : o.op = .call { callee := .builtin .append, args := #[s, x], argTypes := #[23, 23] })
    (B : Nat) (v : Value) (zs : List Int) (p : Int) (hs : a.eval s = v) (hown : IOwns w B v zs) (hx : a.eval x = .slice (some ⟨w.heap.size, 0, none⟩) 1 1) (hlen : zs.length ≤ 16777216) (hB : B ≤ w.heap.size)
    (h : ∀ v' w', IOwns w' B v' (zs ++ [p]) → (w.alloc (.cells #[.int .i64 p] 3)).grownBy w' v.ownBlock → wpList Tryz.prog ops Q rest (a.put o.dst v') w') : wpList Tryz.prog ops Q (o :: rest) a (w.alloc (.cells #[.int .i64 p] 3)) := by
  obtain ⟨i0, hi, hz0, hz1, hz2⟩ := info_partsL infoInt
  refine wpList_append_own_at _ hgd s x 23 ho B 3 i0 (.int .i64 0) 1 8 Tryz.underlying23 hi hz0 hz1 hz2 rfl (by decide) v zs.length (zs.map (Value.int .i64)) hs (World.ownsRow.alloc hown _) ⟨w.heap.size, 0, none⟩ 1 1 [.int .i64 p] hx rfl ?_ ?_ ?_ ?_ ?_ ?_
  · intro j u hu
    rw [show (⟨w.heap.size, 0, none⟩ : Addr).add j = ⟨w.heap.size, j, none⟩ by unfold Addr.add; split <;> simp_all, cell_newL]
    simpa using hu
  · intro u hu
    simp only [List.mem_cons, List.not_mem_nil, or_false] at hu
    subst hu
    rfl
  · unfold maxLen; omega
  · omega
  · have : (w.alloc (.cells #[.int .i64 p] 3)).heap.size = w.heap.size + 1 := by simp
    omega
  · intro v' w' h2 h3 _ _
    refine h v' w' ?_ h3
    unfold IOwns
    rw [List.map_append, List.length_append]
    simpa using h2

theorem idsOf_take (l : List CellV) (i : Nat) (c : CellV) (h : l[i]? = some c) : idsOf (l.take (i + 1)) = idsOf (l.take i) ++ (if c.kind = 1 then [c.p] else []) := by
  unfold idsOf
  rw [List.take_add_one, h, List.filter_append, List.map_append]
  congr 1
  by_cases hk : c.kind = 1 <;> simp [hk]
theorem idsOf_length (l : List CellV) : (idsOf l).length ≤ l.length := by
  unfold idsOf
  rw [List.length_map]
  exact List.length_filter_le _ _

set_option maxHeartbeats 1000000 in
theorem paneIds_seen (b off cap n : Nat) (l : List CellV) (w : World) (h : SeenIn w b off l) (hn : l.length = n) (hn1 : n ≤ 1000000) :
    Calls Tryz.prog 38 #[.slice (some ⟨b, off, none⟩) n cap] w fun e w' => ∃ u, e = .returned u ∧ IOwns w' w.heap.size u (idsOf l) ∧ Below w.heap.size w w' := by
  have H1 : Hid (SeenIn w b off l) := h
  have HN : Hid (l.length = n) := hn
  clear h hn
  go_enter Tryz.func38, Tryz.ntmps38
  go_wp2
  go_loopw [3, 8] (fun u v wr => ∃ i : Nat, i ≤ n ∧ v = .int .i64 i ∧ Hid (IOwns wr w.heap.size u (idsOf (l.take i))) ∧ Hid (Below w.heap.size w wr)) (fun _ v _ => n - (intOf v).toNat)
  case atStart => exact ⟨0, Nat.zero_le _, rfl, World.ownsRow_nil _ _ _ _, Below.refl _ _⟩
  case round =>
    obtain ⟨i, hi, rfl, HO, HB⟩ := hrel
    by_cases hlt : i < n
    · obtain ⟨x, hx⟩ : ∃ x, l[i]? = some x := ⟨_, List.getElem?_eq_getElem (by rw [HN.out]; exact hlt)⟩
      obtain ⟨q0, q1, q2, q3, q4, q5, q6⟩ := (H1.out.below HB.out) i x hx
      have HT : Hid (idsOf (l.take (i + 1)) = idsOf (l.take i) ++ (if x.kind = 1 then [x.p] else [])) := idsOf_take l i x hx
      clear hx
      have HL : Hid ((idsOf (l.take i)).length ≤ 16777216) := by
        have := idsOf_length (l.take i)
        rw [List.length_take, HN.out] at this
        show _ ≤ _
        omega
      have hsz := HB.out.size
      have HA : Hid (∀ o, Below wr.heap.size wr (wr.alloc o)) := fun o => (Below.refl _ _).alloc (Nat.le_refl _) o
      by_cases hk : x.kind = 1
      · go_wp2_with (refine wpList_append_int _ rfl (.tmp 15) (.tmp 18) rfl w.heap.size _ _ x.p (by simp [Act.eval]) (HO.out.below ?x1) (by simp [Act.eval]) HL.out ?x2 ?x3)
        case x1 => exact HA.out _
        case x2 => exact Nat.le_trans hsz (HA.out _).size
        case x3 =>
          intro v' w' h1 h2
          have HO' : Hid (IOwns w' w.heap.size v' (idsOf (l.take (i + 1)))) := by
            rw [HT.out, if_pos hk]
            exact h1
          have HB' : Hid (Below w.heap.size w w') := IOwns.grown h2 (HO.out.below (HA.out _)) w (HB.out.alloc hsz _) (Nat.le_trans hsz (HA.out _).size)
          clear h1 h2
          go_wp2
          go_roundw
          case rel => exact ⟨i + 1, by omega, by go_num, HO', HB'⟩
          case measure => simp [intOf]; omega
      · go_wp2
        go_roundw
        case rel => exact ⟨i + 1, by omega, by go_num, by rw [HT.out, if_neg hk, List.append_nil]; exact HO.out.below (HA.out _), HB.out.alloc hsz _⟩
        case measure => simp [intOf]; omega
    · go_wp2
      go_ret
      have h : IOwns wr w.heap.size u3 (idsOf l) := by
        have h := HO.out
        rwa [List.take_of_length_le (by rw [HN.out]; omega)] at h
      exact ⟨_, rfl, h, HB.out⟩

theorem paneIds_none (a : Option Addr) (cap : Nat) (w : World) :
    Calls Tryz.prog 38 #[.slice a 0 cap] w fun e w' => e = .returned (.slice none 0 0) ∧ w = w' := by
  go_enter Tryz.func38, Tryz.ntmps38
  go_wp2
  go_loopw [3, 8] (fun u v wr => u = .slice none 0 0 ∧ v = .int .i64 0 ∧ w = wr) (fun _ _ _ => 0)
  case atStart => exact ⟨rfl, rfl, rfl⟩
  case round =>
    obtain ⟨rfl, rfl, rfl⟩ := hrel
    go_wp2
    go_ret
    exact ⟨rfl, rfl⟩
theorem paneIds_any (v : Value) (l : List CellV) (w : World) (h : CellsIn w v l) (hn : l.length ≤ 1000000) :
    Calls Tryz.prog 38 #[v] w fun e w' => ∃ u, e = .returned u ∧ IOwns w' w.heap.size u (idsOf l) ∧ Below w.heap.size w w' := by
  by_cases h0 : l = []
  · subst h0
    obtain ⟨a, c, rfl⟩ := h.nil
    exact (paneIds_none a c w).mono fun e w' h => ⟨_, h.1, World.ownsRow_nil _ _ _ _, h.2 ▸ Below.refl _ _⟩
  · obtain ⟨b, off, cap, rfl, _, k⟩ := h.seen h0
    exact paneIds_seen b off cap l.length l w k rfl hn

/-- Few and distinct. -/
def fewB (zs : List Int) : Bool := decide (zs.length ≤ 32) && decide zs.Nodup
theorem few_none (a : Option Addr) (c : Nat) (w : World) : Calls Tryz.prog 53 #[.slice a 0 c] w fun e w' => e = .returned (.bool true) ∧ w = w' := by
  have H1 : Hid (∀ W, Calls Tryz.prog 63 #[.slice a 0 c] W fun e w' => e = .returned (.tuple #[]) ∧ w' = W) := fun W => Tryz.slices_Sort_int_none a c W
  have H2 : Hid (∀ W, Calls Tryz.prog 64 #[.slice a 0 c] W fun e w' => e = .returned (.slice a 0 c) ∧ w' = W) := fun W => Tryz.slices_Compact_int_empty a c W
  go_enter Tryz.func53, Tryz.ntmps53
  go_wp2_with (first | (go_at_call 63; refine (H1.out _).mono ?_; rintro e w1 ⟨rfl, h⟩; subst h) | (go_at_call 64; refine (H2.out _).mono ?_; rintro e w1 ⟨rfl, h⟩; subst h))
  go_ret
  exact ⟨rfl, rfl⟩
theorem few_some (g cap n : Nat) (zs : List Int) (B : Nat) (w0 w : World) (h : w.ownsRow B 3 1 (.slice (some ⟨g, 0, none⟩) n cap) n (zs.map (Value.int .i64))) (hn : zs.length = n) (hw : Below B w0 w) (hsm : n ≤ 1000000) : Calls Tryz.prog 53 #[.slice (some ⟨g, 0, none⟩) n cap] w fun e w' => e = .returned (.bool (fewB zs)) ∧ Below B w0 w' := by
  obtain ⟨g', cap', e, hbg, hgl, hncap, hcm, hlen, hH⟩ := Go.Lib.holds_of_ownsRow h (by intro e; cases e)
  cases e
  have H1 : Hid (Calls Tryz.prog 63 #[.slice (some ⟨g, 0, none⟩) n cap] w fun e w' => e = .returned (.tuple #[]) ∧ Below B w0 w' ∧
      Calls Tryz.prog 64 #[.slice (some ⟨g, 0, none⟩) n cap] w' fun e w'' => e = .returned (.slice (some ⟨g, 0, none⟩) (Go.Lib.compact (sortI zs)).length cap) ∧ Below B w0 w'') := by
    have h1 := Tryz.slices_Sort_int g 0 cap zs w hH hgl (by omega)
    rw [hn] at h1
    refine h1.mono ?_
    rintro e w1 ⟨rfl, q, os, rfl⟩
    have hsz : (sortI zs).length = n := (sortI_length zs).trans hn
    have hgr : w.grownBy (Go.Sort.grow (Go.Sort.putRow (Value.int .i64) (Go.Sort.ahead w q) g 0 (sortI zs).toArray) os) (some g) := by
      refine ⟨rfl, rfl, rfl, by simp, fun k hk hne => ?_⟩
      rw [Go.Sort.heap_grow_old _ _ (by simpa using hk)]
      have : g ≠ k := fun e => hne (by rw [e])
      simp [Go.Sort.putRow, Go.Sort.mapBlock, Go.Sort.ahead, Array.getElem?_modify, this]
    have hbel : Below B w0 (Go.Sort.grow (Go.Sort.putRow (Value.int .i64) (Go.Sort.ahead w q) g 0 (sortI zs).toArray) os) := hw.grown hgr (by omega) (fun j hj => by cases hj; exact hbg)
    refine ⟨rfl, hbel, ?_⟩
    have hH2 : Go.Sort.Holds (Value.int .i64) (Go.Sort.grow (Go.Sort.putRow (Value.int .i64) (Go.Sort.ahead w q) g 0 (sortI zs).toArray) os) g 0 (sortI zs).toArray :=
      Go.Sort.holds_grow (Value.int .i64) _ os g 0 _ (by simpa [Go.Sort.putRow, Go.Sort.mapBlock, Go.Sort.ahead] using hgl) (Go.Sort.holds_putRow (Value.int .i64) _ g 0 _ _ (Go.Sort.holds_ahead (Value.int .i64) w q g 0 _ hH) (by simp [sortI_length]))
    have h2 := Tryz.slices_Compact_int g 0 cap (sortI zs) _ hH2 (by omega) (by omega)
    rw [hsz] at h2
    refine h2.mono ?_
    rintro e w2 ⟨rfl, q2, rfl⟩
    exact ⟨rfl, Go.Lib.below_putRow hbel hbg⟩
  obtain ⟨m, hm⟩ : ∃ m, (Go.Lib.compact (sortI zs)).length = m := ⟨_, rfl⟩
  obtain ⟨r, hr⟩ : ∃ r, fewB zs = r := ⟨_, rfl⟩
  have HR : Hid (r = (decide (n ≤ 32) && decide (m = n))) := by
    show r = _
    rw [← hr, ← hm]
    unfold fewB
    rw [hn, ← compact_nodup, sortI_length, hn]
  rw [hr]
  rw [hm] at H1
  clear h hw hgl hncap hcm hlen hH hr hm hn hbg
  by_cases h32 : n ≤ 32
  · have hi : ((n : Int) ≤ 32) := by omega
    have HR2 : Hid (r = decide (m = n)) := by
      show r = _
      rw [HR.out]
      simp [h32]
    have hmn : ((m : Int) == n) = decide (m = n) := by
      by_cases e : m = n
      · simp [e]
      · simp [e]
        omega
    clear HR h32
    obtain ⟨s, hs⟩ : ∃ s, decide (m = n) = s := ⟨_, rfl⟩
    rw [hs] at HR2 hmn
    clear hs
    go_enter Tryz.func53, Tryz.ntmps53
    go_wp2_with (first | (go_at_call 63; refine H1.out.mono ?_; rintro e w1 ⟨rfl, hb1, hc⟩; have HC : Hid (Calls Tryz.prog 64 #[.slice (some ⟨g, 0, none⟩) n cap] w1 _) := hc; clear hc hb1) | (go_at_call 64; refine HC.out.mono ?_; rintro e w2 ⟨rfl, hb2⟩))
    go_ret
    exact ⟨by rw [HR2.out]; rfl, hb2⟩
  · have hi : ¬ ((n : Int) ≤ 32) := by omega
    have HR2 : Hid (r = false) := by
      show r = _
      rw [HR.out]
      simp [h32]
    clear HR h32
    go_enter Tryz.func53, Tryz.ntmps53
    go_wp2_with (go_at_call 63; refine H1.out.mono ?_; rintro e w1 ⟨rfl, hb1, hc⟩; clear hc)
    go_ret
    exact ⟨by rw [HR2.out]; rfl, hb1⟩

end Go.Proofs.YtglncninkocgaabGreatDoor

namespace Go.Proofs.YtglncninkocgaabGreatDoor
open Go.RowKit
set_option linter.unusedVariables false
set_option maxRecDepth 100000

def lenOf : Value → Nat
  | .slice _ n _ => n
  | _ => 0
theorem CellsIn.lenOf {w : World} {v : Value} {l : List CellV} (h : CellsIn w v l) : Go.Proofs.YtglncninkocgaabGreatDoor.lenOf v = l.length := by
  obtain ⟨ad, cap, e, _⟩ := h.shape
  subst e
  rfl
theorem own_slice {w : World} {B : Nat} {t : TypeId} {v : Value} {n : Nat} {vs : List Value} (h : w.ownsRow B t 1 v n vs) : ∃ sa sn sc, v = .slice sa sn sc := by
  rcases h.2 with ⟨h0, _⟩ | ⟨g, cap, cur, e, _⟩
  · exact ⟨_, _, _, h0⟩
  · exact ⟨_, _, _, e⟩
/-- What takeAll leaves. -/
def AllGood (W0 : World) (l : List CellV) (d : Int) (w : World) (e : Ending) (w' : World) : Prop := ∃ sa sn sc v', e = .returned (.tuple #[.slice sa sn sc, v']) ∧ AllTo W0 l d w (.slice sa sn sc) v' (takeAllF l d).1 (takeAllF l d).2 w'

set_option maxHeartbeats 1000000 in
theorem takeAll_any (l : List CellV) (v : Value) (d : Int) (W0 w : World) (hv : CellsIn W0 v l) (hl : l.length ≤ 1000)
    (HT : ∀ r v' X, r.length ≤ l.length → Below w.heap.size w X → CellsIn W0 v' r → Calls Tryz.prog 50 #[v', .int .i64 d] X (TakeGood W0 r v' d X)) :
    Calls Tryz.prog 62 #[v, .int .i64 d] w (AllGood W0 l d w) := by
  have H : Hid (∀ r v' X, r.length ≤ l.length → Below w.heap.size w X → CellsIn W0 v' r → Calls Tryz.prog 50 #[v', .int .i64 d] X (TakeGood W0 r v' d X)) := HT
  have H0 : Hid (AllTo W0 l d w (.slice none 0 0) v [] l w) := ⟨⟨[], [], World.ownsRow_nil _ _ _ _, ⟨rfl, rfl⟩, by simp [Value.ownBlock], by simp [Value.ownBlock]⟩, by simp, hv, Below.refl _ _, by simp⟩
  clear HT hv
  go_enter Tryz.func62, Tryz.ntmps62
  go_wp2_with fail
  go_loopw [0, 6] (fun v sl wr => ∃ (r : List CellV) (ts : List Tree) (sa : Option Addr) (sn sc : Nat), sl = .slice sa sn sc ∧ Hid (AllTo W0 l d w (.slice sa sn sc) v ts r wr)) (fun v _ _ => lenOf v)
  case atStart => exact ⟨l, [], none, 0, 0, rfl, H0⟩
  case round =>
    obtain ⟨r, ts, sa, sn, sc, rfl, HA⟩ := hrel
    have hlen := HA.out.len
    have HC : Hid (Calls Tryz.prog 50 #[u0, .int .i64 d] wr (TakeGood W0 r u0 d wr)) := H.out r u0 wr (by omega) HA.out.below HA.out.rest
    have hlo := HA.out.rest.lenOf
    have Hlo : Hid (lenOf u0 = r.length) := hlo
    clear hlen hlo H0
    go_wp2_with fail
    refine HC.out.mono ?_
    rintro e w2 (⟨hn, rfl, hb⟩ | ⟨t, r', T, g, fp, v', ht, rfl, hAt, hnd, hfp, hc, hb⟩)
    · obtain ⟨k1, k2⟩ := HA.out.none hn hb
      have HK : Hid (AllTo W0 l d w (.slice sa sn sc) u0 (takeAllF l d).1 (takeAllF l d).2 w2) := by rw [k2]; exact k1
      clear k1 k2 hn hb
      unfold nilPart
      go_wp2
      go_ret2
      exact ⟨_, _, _, _, rfl, HK.out⟩
    · obtain ⟨vs, k1, k2, k3⟩ := HA.out.next ht hAt hnd hfp hc hb
      have hsh := takeF_shorter r d t r' ht
      have HO : Hid (w2.ownsRow 0 72 1 (.slice sa sn sc) vs.length vs) := k1
      have HK := k3 (.cells #[.iface T (.pointer (some ⟨g, 0, none⟩))] 72)
      have HK2 : Hid (∀ sl' w3, w3.ownsRow 0 72 1 sl' (vs.length + 1) (vs ++ [.iface T (.pointer (some ⟨g, 0, none⟩))]) → (w2.alloc (.cells #[.iface T (.pointer (some ⟨g, 0, none⟩))] 72)).grownBy w3 (Value.slice sa sn sc).ownBlock → (sl'.ownBlock = (Value.slice sa sn sc).ownBlock ∨ sl'.ownBlock = some (w2.alloc (.cells #[.iface T (.pointer (some ⟨g, 0, none⟩))] 72)).heap.size) → AllTo W0 l d w sl' v' (ts ++ [t]) r' w3) := HK
      have hvs : vs.length ≤ 16777216 := by omega
      have Hsh : Hid (r'.length < r.length) := hsh
      clear k1 k2 k3 HK ht hAt hnd hfp hc hb hsh
      go_wp2_with (at_builtin; refine wpList_append_part w2 rfl (.tmp 19) (.tmp 21) rfl (.slice sa sn sc) vs T g rfl HO.out rfl hvs ?_; intro sl' w3 a1 a2 a3; have HN : Hid (AllTo W0 l d w sl' v' (ts ++ [t]) r' w3) := HK2.out sl' w3 a1 a2 a3; have hsl := own_slice a1; clear a1 a2 a3)
      obtain ⟨sa', sn', sc', rfl⟩ := hsl
      go_roundw
      case rel => exact ⟨r', ts ++ [t], sa', sn', sc', rfl, HN⟩
      case measure =>
        rw [HN.out.rest.lenOf, Hlo.out]
        exact Hsh.out

end Go.Proofs.YtglncninkocgaabGreatDoor

namespace Go.Proofs.YtglncninkocgaabGreatDoor
open Go.RowKit
set_option linter.unusedVariables false
set_option maxRecDepth 100000

theorem take_any : ∀ (m : Nat) (l : List CellV) (v : Value) (d : Int) (W0 w : World), l.length ≤ m → (0 ≤ d ∧ d + l.length ≤ 1000) → Below W0.heap.size W0 w → CellsIn W0 v l → Calls Tryz.prog 50 #[v, .int .i64 d] w (TakeGood W0 l v d w)
  | m, [], v, d, W0, w, hm, hd, hW, hv => by
    exact (take_none v [] d w (hv.below hW) (.inl rfl)).mono fun e w' h => .inl ⟨takeF_nil d, h.1, h.2 ▸ Below.refl _ _⟩
  | 0, c :: l, v, d, W0, w, hm, hd, hW, hv => by
    simp at hm
  | m + 1, c :: l, v, d, W0, w, hm, hd, hW, hv => by
    have hF := takeF_cons c l d
    rw [List.length_cons] at hm hd
    by_cases hdep : c.depth = d
    · rw [if_pos hdep] at hF
      subst hdep
      by_cases h1 : c.kind = 1
      · rw [if_pos h1] at hF
        refine (take_leaf v c l W0 w hW hv h1).mono fun e w' h => ?_
        obtain ⟨g, v', e1, e2, e3, e4, e5⟩ := h
        exact .inr ⟨_, _, _, g, [g], v', hF, e1, ⟨g, rfl, e3, rfl⟩, by simp, by simpa using e2, e4, e5⟩
      · rw [if_neg h1] at hF
        by_cases h23 : c.kind = 2 ∨ c.kind = 3
        · rw [if_pos h23] at hF
          refine (take_split v c l W0 w hW (fun sl v' X w2 => AllTo W0 l (c.depth + 1) X sl v' (takeAllF l (c.depth + 1)).1 (takeAllF l (c.depth + 1)).2 w2) hv h23 (by omega) ?_).mono ?_
          · intro X v1 hX hv1
            refine (takeAll_any l v1 (c.depth + 1) W0 X hv1 (by omega) ?_).mono ?_
            · intro r v' X' hr hX' hv'
              exact take_any m r v' (c.depth + 1) W0 X' (by omega) (by omega) (below_step hW (below_step hX hX')) hv'
            · rintro e w' ⟨sa, sn, sc, v', e1, e2⟩
              exact ⟨sa, sn, sc, v', e1, e2, e2.below⟩
          · rintro e w' ⟨g, sl, v', X, w2, e1, e2, e3, e4, e5, e6, e7⟩
            obtain ⟨vs, fs, k1, k2, k3, k4⟩ := e3.row
            have hXs := e2.size
            have h2s := e4.size
            refine .inr ⟨_, _, _, g, g :: (sl.ownBlock.toList ++ fs), v', hF, e1, ⟨g, sl, vs, fs, rfl, e6, own_below k1 e7, k2.below e7, rfl⟩, ?_, ?_, e3.rest, below_step e2 (below_step e4 e7)⟩
            · refine List.nodup_cons.2 ⟨fun hm => ?_, k3⟩
              rcases List.mem_append.1 hm with hm | hm
              · have := own_lt k1 g hm; omega
              · have := k2.lt g hm; omega
            · intro q hq
              rcases List.mem_cons.1 hq with rfl | hq
              · omega
              · have := k4 q hq; omega
        · rw [if_neg h23] at hF
          exact (take_other v c l w (hv.below hW) ⟨h1, fun e => h23 (.inl e), fun e => h23 (.inr e)⟩).mono fun e w' h => .inl ⟨hF, h.1, h.2⟩
    · rw [if_neg hdep] at hF
      exact (take_none v (c :: l) d w (hv.below hW) (.inr ⟨c, l, rfl, hdep⟩)).mono fun e w' h => .inl ⟨hF, h.1, h.2 ▸ Below.refl _ _⟩

end Go.Proofs.YtglncninkocgaabGreatDoor

namespace Go.Proofs.YtglncninkocgaabGreatDoor
open Go.RowKit
set_option linter.unusedVariables false

theorem takes_fine : ∀ (m : Nat) (l : List CellV) (d : Int), l.length ≤ m → l.length ≤ 200 → (∀ t r, takeF l d = some (t, r) → t.fine ∧ t.size + r.length = l.length) ∧ (fines (takeAllF l d).1 ∧ sizes (takeAllF l d).1 + (takeAllF l d).2.length = l.length ∧ (takeAllF l d).1.length + (takeAllF l d).2.length ≤ l.length) := by
  intro m
  induction m with
  | zero =>
    intro l d hm _
    have : l = [] := List.length_eq_zero_iff.1 (by omega)
    subst this
    refine ⟨fun t r h => ?_, ?_⟩
    · rw [takeF_nil] at h; cases h
    · rw [takeAllF_eq, takeF_nil]
      exact ⟨trivial, rfl, Nat.le_refl _⟩
  | succ m ih =>
    intro l d hm h200
    have one : ∀ t r, takeF l d = some (t, r) → t.fine ∧ t.size + r.length = l.length := by
      intro t r h
      cases l with
      | nil => rw [takeF_nil] at h; cases h
      | cons c l =>
        rw [List.length_cons] at hm h200
        obtain ⟨_, k1, k2, k3⟩ := ih l (d + 1) (by omega) (by omega)
        rw [takeF_cons] at h
        split at h
        · split at h
          · cases h
            exact ⟨trivial, by show 1 + _ = _; rw [List.length_cons]; omega⟩
          · split at h
            · rename_i h23
              cases h
              refine ⟨⟨h23, by omega, k1⟩, ?_⟩
              show 1 + sizes _ + _ = _
              rw [List.length_cons]
              omega
            · cases h
        · cases h
    refine ⟨one, ?_⟩
    rw [takeAllF_eq]
    cases h : takeF l d with
    | none => exact ⟨trivial, by show 0 + l.length = l.length; omega, by show 0 + l.length ≤ l.length; omega⟩
    | some p =>
      obtain ⟨t, r⟩ := p
      have hr := takeF_shorter l d t r h
      obtain ⟨a1, a2⟩ := one t r h
      obtain ⟨_, k1, k2, k3⟩ := ih r d (by omega) (by omega)
      refine ⟨⟨a1, k1⟩, ?_, ?_⟩
      · show t.size + sizes _ + (takeAllF r d).2.length = l.length
        omega
      · show (takeAllF r d).1.length + 1 + (takeAllF r d).2.length ≤ l.length
        omega

end Go.Proofs.YtglncninkocgaabGreatDoor
