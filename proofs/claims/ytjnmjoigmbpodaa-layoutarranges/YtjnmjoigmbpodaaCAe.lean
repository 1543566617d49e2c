/-
  Layouts: panes side by side, by shares, in the program.
-/
import Derived.Test.YtjnmjoigmbpodaaCAa
import Derived.Deep.RegionLaw
namespace Go.Proofs.Ytjnmjoigmbpodaa
open Go.RowKit
set_option linter.unusedVariables false
set_option maxRecDepth 100000

/-- A box that is handed in, in a block of its own. -/
theorem box_handed (w : World) (b : Box) : BoxAt (w.alloc (.cells #[.int .i64 b.x, .int .i64 b.y, .int .i64 b.w, .int .i64 b.h] 53)) w.heap.size b := by
  have hn := heap_alloc_new w (.cells #[.int .i64 b.x, .int .i64 b.y, .int .i64 b.w, .int .i64 b.h] 53)
  exact ⟨cell_atL hn 0, cell_atL hn 1, cell_atL hn 2, cell_atL hn 3, fun o _ => free_atL hn o⟩
def boxV (b : Box) : Value := .agg #[.int .i64 b.x, .int .i64 b.y, .int .i64 b.w, .int .i64 b.h]

set_option maxHeartbeats 2000000 in
theorem even_one (k : Int) (z : Int) (b : Box) (v : Value) (w : World) (hI : IdsIn w v [z]) : Calls Try.prog 61 #[.int .i64 k, v, boxV b] w (ReadYes (.leaf b z) w) := by
  obtain ⟨g, o, cap, rfl, hcap, hz⟩ := hI
  clear hcap
  obtain ⟨W, hW⟩ : ∃ x, w.alloc (.cells #[.int .i64 b.x, .int .i64 b.y, .int .i64 b.w, .int .i64 b.h] 53) = x := ⟨_, rfl⟩
  have hB : BoxAt W w.heap.size b := by rw [← hW]; exact box_handed w b
  have hbW : Below w.heap.size w W := by rw [← hW]; exact (Below.refl _ _).alloc (Nat.le_refl _) _
  obtain ⟨c0, c1, c2, c3, _⟩ := hB
  have h0 := hz 0 z rfl
  have d0 : W.cell? ⟨g, o, none⟩ = some (.int .i64 z) := (hbW.cell (p := ⟨g, o, none⟩) (World.block_lt_of_cell? w _ h0)).trans h0
  have HW : Hid (w.alloc (.cells #[.int .i64 b.x, .int .i64 b.y, .int .i64 b.w, .int .i64 b.h] 53) = W) := hW
  have HBW : Hid (Below w.heap.size w W) := hbW
  unfold boxV
  clear hW hbW hz h0
  go_enter Try.func61, Try.ntmps61
  go_upto_region 1 with fail
  rw [HW.out]
  go_wp2
  go_region
  have HL : Hid (ReadYes (.leaf b z) w (.returned (.iface 47 (.pointer (some ⟨W.heap.size, 0, none⟩)))) (W.alloc (.cells #[.int .i64 b.x, .int .i64 b.y, .int .i64 b.w, .int .i64 b.h, .int .i64 z] 55)).drew) :=
    ⟨_, _, [W.heap.size], rfl, ⟨_, rfl, heap_alloc_new _ _, rfl⟩, by simp, fun q hq => by rw [List.mem_singleton.1 hq]; exact HBW.out.size, (alloc_below HBW.out _).drew⟩
  go_wp2
  go_ret
  exact HL.out

theorem leaf_made {w wr X : World} {B' : Box} {z : Int} (hl : w.heap.size + 2 ≤ wr.heap.size) (hX : Below wr.heap.size wr X) : Below wr.heap.size wr (X.alloc (.cells #[.int .i64 B'.x, .int .i64 B'.y, .int .i64 B'.w, .int .i64 B'.h, .int .i64 z] 55)) ∧ w.heap.size + 2 ≤ (X.alloc (.cells #[.int .i64 B'.x, .int .i64 B'.y, .int .i64 B'.w, .int .i64 B'.h, .int .i64 z] 55)).heap.size ∧ (Tree.leaf B' z).At (X.alloc (.cells #[.int .i64 B'.x, .int .i64 B'.y, .int .i64 B'.w, .int .i64 B'.h, .int .i64 z] 55)) 0 (.iface 47 (.pointer (some ⟨X.heap.size, 0, none⟩))) [X.heap.size] := by
  have h1 := alloc_below hX (.cells #[.int .i64 B'.x, .int .i64 B'.y, .int .i64 B'.w, .int .i64 B'.h, .int .i64 z] 55)
  exact ⟨h1, Nat.le_trans hl h1.size, ⟨_, rfl, heap_alloc_new _ _, rfl⟩⟩
theorem part_kept {w X : World} {p : Addr} {v : Value} (h : w.cell? p = some v) (hb : Below w.heap.size w X) : X.cell? p = some v ∧ (∀ o, (X.alloc o).cell? p = some v) ∧ ∀ o o', ((X.alloc o).alloc o').cell? p = some v := by
  have hl := World.block_lt_of_cell? w p h
  have h1 : X.cell? p = some v := (hb.cell hl).trans h
  have h2 : ∀ o, (X.alloc o).cell? p = some v := fun o => (((Below.refl X.heap.size X).alloc (Nat.le_refl _) o).cell (Nat.lt_of_lt_of_le hl hb.size)).trans h1
  refine ⟨h1, h2, fun o o' => ?_⟩
  have hz : X.heap.size ≤ (X.alloc o).heap.size := by simp
  exact (((Below.refl (X.alloc o).heap.size (X.alloc o)).alloc (Nat.le_refl _) o').cell (Nat.lt_of_lt_of_le hl (Nat.le_trans hb.size hz))).trans (h2 o)
theorem take_more {α : Type} (l : List α) (i : Nat) (x : α) (h : l[i]? = some x) : l.take (i + 1) = l.take i ++ [x] := by
  rw [List.take_add_one, h]
  rfl
set_option maxHeartbeats 4000000 in
theorem even_many (k : Int) (hk : k = 2 ∨ k = 3) (zs : List Int) (b : Box) (v : Value) (w : World) (hI : IdsIn w v zs) (h2 : 2 ≤ zs.length) (h3 : zs.length ≤ 400) (hw : -1000 ≤ b.w ∧ b.w ≤ 1000) (hh : -1000 ≤ b.h ∧ b.h ≤ 1000) : Calls Try.prog 61 #[.int .i64 k, v, boxV b] w (ReadYes (.split b k (shareL k b zs.length zs 0)) w) := by
  obtain ⟨g, o, cap, rfl, hcap, hz⟩ := hI
  clear hcap
  obtain ⟨W, hW⟩ : ∃ x, w.alloc (.cells #[.int .i64 b.x, .int .i64 b.y, .int .i64 b.w, .int .i64 b.h] 53) = x := ⟨_, rfl⟩
  have hB : BoxAt W w.heap.size b := by rw [← hW]; exact box_handed w b
  have hWs : W.heap.size = w.heap.size + 1 := by rw [← hW]; simp
  obtain ⟨c0, c1, c2, c3, _⟩ := hB
  obtain ⟨V, hV⟩ : ∃ x, W.alloc (.cells #[.int .i64 b.x, .int .i64 b.y, .int .i64 b.w, .int .i64 b.h, .int .i64 k, .slice none 0 0] 84) = x := ⟨_, rfl⟩
  have HS0 : Hid (EvenTo w k b [] (.slice none 0 0) [] [] V) := by rw [← hV, ← hW]; exact EvenTo.start w k b
  have HW : Hid (w.alloc (.cells #[.int .i64 b.x, .int .i64 b.y, .int .i64 b.w, .int .i64 b.h] 53) = W) := hW
  have HV : Hid (W.alloc (.cells #[.int .i64 b.x, .int .i64 b.y, .int .i64 b.w, .int .i64 b.h, .int .i64 k, .slice none 0 0] 84) = V) := hV
  have hbe : -1000 ≤ b.ext k ∧ b.ext k ≤ 1000 := by unfold Box.ext; split <;> assumption
  obtain ⟨n, hn⟩ : ∃ n, zs.length = n := ⟨_, rfl⟩
  have HN : Hid (zs.length = n) := hn
  rw [hn] at h2 h3 ⊢
  obtain ⟨ts, hts⟩ : ∃ ts, shareL k b n zs 0 = ts := ⟨_, rfl⟩
  have HTl : Hid (ts.length = n) := by show _ = _; rw [← hts, shareL_length, hn]
  have HT : Hid (∀ (i : Nat) z, zs[i]? = some z → ts[i]? = some (.leaf (b.with k (shareF (b.ext k) n i)) z)) := fun i z h => by
    rw [← hts]
    have := shareL_get k b n zs 0 i z h
    rw [Int.zero_add] at this
    exact this
  rw [hts]
  have HZ : Hid (∀ (i : Nat) z, zs[i]? = some z → w.cell? ⟨g, o + i, none⟩ = some (.int .i64 z)) := hz
  obtain ⟨E, hE⟩ : ∃ e, b.ext k = e := ⟨_, rfl⟩
  have HEx : Hid (∀ X, BoxAt X w.heap.size b → Calls Try.prog 19 #[.pointer (some ⟨w.heap.size, 0, none⟩), .int .i64 k] X fun e w' => e = .returned (.int .i64 E) ∧ X = w') := fun X hX => by rw [← hE]; exact box_extent _ b k X hX
  have HSh : Hid (∀ (i : Nat) X, Calls Try.prog 74 #[.int .i64 E, .int .i64 n, .int .i64 i] X fun e w' => e = .returned (.int .i64 (shareF E n i)) ∧ X = w') := fun i X => share_any E n i X (by omega) (by omega)
  have HWi : Hid (∀ (i : Nat) X, BoxAt X w.heap.size b → Calls Try.prog 21 #[.pointer (some ⟨w.heap.size, 0, none⟩), .int .i64 k, .int .i64 (shareF E n i)] X fun e w' => e = .returned (.agg #[.int .i64 (b.with k (shareF E n i)).x, .int .i64 (b.with k (shareF E n i)).y, .int .i64 (b.with k (shareF E n i)).w, .int .i64 (b.with k (shareF E n i)).h]) ∧ Below X.heap.size X w') := fun i X hX => box_withG _ b k _ X hX (by omega) (by omega) (by have := share_small (wh := E) (n := n) (i := i) (by omega) (by omega); omega)
  rw [hE] at HT
  have hn1 : ((n : Int) == 1) = false := by
    have : (n : Int) ≠ 1 := by omega
    simpa using this
  unfold boxV
  clear hW hV hz hn hts hE hw hh hbe hk
  go_enter Try.func61, Try.ntmps61
  go_upto_region 1 with fail
  rw [HW.out]
  go_upto_region 4 with fail
  rw [HV.out]
  go_wp2
  go_loopw [26] (fun vi wr => ∃ i : Nat, i ≤ n ∧ vi = .int .i64 i ∧ ∃ sl vs fs, Hid (EvenTo w k b (ts.take i) sl vs fs wr)) (fun vi _ => n - (intOf vi).toNat)
  case atStart => exact ⟨0, Nat.zero_le _, rfl, _, _, _, HS0⟩
  case round =>
    obtain ⟨i, hi, rfl, sl, vs, fs, HJ⟩ := hrel
    by_cases hlt : i < n
    · obtain ⟨z, hz⟩ : ∃ z, zs[i]? = some z := ⟨_, List.getElem?_eq_getElem (by rw [HN.out]; exact hlt)⟩
      have hzc := HZ.out i z hz
      have dz : wr.cell? ⟨g, o + i, none⟩ = some (.int .i64 z) := (HJ.out.below.cell (p := ⟨g, o + i, none⟩) (World.block_lt_of_cell? w _ hzc)).trans hzc
      have HTk : Hid (ts.take (i + 1) = ts.take i ++ [.leaf (b.with k (shareF E n i)) z]) := take_more _ _ _ (HT.out i z hz)
      have d5 : wr.cell? ⟨w.heap.size + 1, 5, none⟩ = some sl := cell_atL HJ.out.own 5
      obtain ⟨sa, sn, sc, hsl⟩ := own_slice HJ.out.row
      subst hsl
      obtain ⟨B', hB'⟩ : ∃ B', b.with k (shareF E n i) = B' := ⟨_, rfl⟩
      obtain ⟨q, hq⟩ : ∃ q, shareF E n i = q := ⟨_, rfl⟩
      have HSi : Hid (∀ X, Calls Try.prog 74 #[.int .i64 E, .int .i64 n, .int .i64 i] X fun e w' => e = .returned (.int .i64 q) ∧ X = w') := fun X => by rw [← hq]; exact HSh.out i X
      have HWI : Hid (∀ X, BoxAt X w.heap.size b → Calls Try.prog 21 #[.pointer (some ⟨w.heap.size, 0, none⟩), .int .i64 k, .int .i64 q] X fun e w' => e = .returned (.agg #[.int .i64 B'.x, .int .i64 B'.y, .int .i64 B'.w, .int .i64 B'.h]) ∧ Below X.heap.size X w') := fun X hX => by rw [← hB', ← hq]; exact HWi.out i X hX
      rw [hB'] at HTk
      have HBd : Hid (BoxAt wr.drew w.heap.size b) := by obtain ⟨x0, x1, x2, x3, x4⟩ := HJ.out.box; exact ⟨x0, x1, x2, x3, x4⟩
      have HLv : Hid (vs.length = i) := by
        show _ = _
        rw [HJ.out.parts.length, List.length_take, HTl.out]
        omega
      have hlen : vs.length ≤ 1000000 := by rw [HLv.out]; omega
      have HD5 : Hid (wr.drew.cell? ⟨w.heap.size + 1, 5, none⟩ = some (.slice sa sn sc)) := d5
      clear hz hzc hB' hq
      go_wp2
      go_region_law (first
        | (refine step_append_partB (X.alloc (.cells #[.int .i64 B'.x, .int .i64 B'.y, .int .i64 B'.w, .int .i64 B'.h, .int .i64 z] 55)) rfl (.tmp 35) (.tmp 48) rfl (w.heap.size + 2) (.slice sa sn sc) vs 47 X.heap.size (by simp [Act.eval]) (HJ.out.below' HX.out.1).row (by simp [Act.eval]) hlen HX.out.2.1 ?_; intro sl' w3 a1 a2 a3; have hsl := own_slice a1; have hj := HJ.out.next HX.out.1 HX.out.2.2 (by simp) (fun q hq => by rw [List.mem_singleton.1 hq]; exact HXs.out) a1 a2 a3; have c5 : w3.cell? ⟨w.heap.size + 1, 5, none⟩ = some (.slice sa sn sc) := cell_atL hj.1 5; have f5 : w3.frozen? ⟨w.heap.size + 1, 5, none⟩ = false := free_atL hj.1 5; have HJ3 : Hid (EvenTo w k b (ts.take i ++ [.leaf B' z]) sl' (vs ++ [.iface 47 (.pointer (some ⟨X.heap.size, 0, none⟩))]) (fs ++ [X.heap.size]) (w3.setCell ⟨w.heap.size + 1, 5, none⟩ sl')) := hj.2; clear a1 a2 a3 hj; obtain ⟨sa', sn', sc', hsl'⟩ := hsl; subst hsl')
        | (go_simp; go_at_call 19; refine (HEx.out _ HBd.out).mono ?_; rintro e w1 ⟨rfl, rfl⟩)
        | (go_simp; go_at_call 74; refine (HSi.out _).mono ?_; rintro e w1 ⟨rfl, rfl⟩)
        | (go_simp; go_at_call 21; refine (HWI.out _ HBd.out).mono ?_; rintro e X ⟨rfl, hbX⟩; have HX : Hid (Below wr.heap.size wr (X.alloc (.cells #[.int .i64 B'.x, .int .i64 B'.y, .int .i64 B'.w, .int .i64 B'.h, .int .i64 z] 55)) ∧ w.heap.size + 2 ≤ (X.alloc (.cells #[.int .i64 B'.x, .int .i64 B'.y, .int .i64 B'.w, .int .i64 B'.h, .int .i64 z] 55)).heap.size ∧ (Tree.leaf B' z).At (X.alloc (.cells #[.int .i64 B'.x, .int .i64 B'.y, .int .i64 B'.w, .int .i64 B'.h, .int .i64 z] 55)) 0 (.iface 47 (.pointer (some ⟨X.heap.size, 0, none⟩))) [X.heap.size]) := leaf_made HJ.out.lt ⟨hbX.os, hbX.tape, hbX.output, hbX.size, hbX.block⟩; have HXs : Hid (wr.heap.size ≤ X.heap.size) := hbX.size; obtain ⟨dX, dXa, dXb⟩ := part_kept HD5.out hbX; clear hbX))
      all_goals (
        go_wp2
        go_roundw
        case rel => exact ⟨i + 1, by omega, by go_num, _, _, _, by rw [HTk.out]; exact HJ3⟩
        case measure => simp [intOf]; omega)
    · have HM : Hid (ReadYes (.split b k ts) w (.returned (splitI (w.heap.size + 1))) wr) := by
        have h := HJ.out.made
        rw [List.take_of_length_le (by rw [HTl.out]; omega)] at h
        exact h
      unfold splitI at HM
      go_wp2
      go_ret
      exact HM.out

end Go.Proofs.Ytjnmjoigmbpodaa
