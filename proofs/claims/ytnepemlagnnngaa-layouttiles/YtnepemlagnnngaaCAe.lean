/-
  Layouts: panes side by side, by shares, in the program.
  Layouts: a first pane and the others in the program.
-/
import Derived.Test.YtnepemlagnnngaaCAa
import Derived.Deep.RegionLaw
namespace Go.Proofs.Ytnepemlagnnngaa
open Go.RowKit
set_option linter.unusedVariables false
set_option maxRecDepth 100000

/-- A box that is handed in, in a block of its own. -/
theorem box_handed (w : World) (b : Box) : BoxAt (w.alloc (.cells #[.int .i64 b.x, .int .i64 b.y, .int .i64 b.w, .int .i64 b.h] 66)) w.heap.size b := by
  have hn := heap_alloc_new w (.cells #[.int .i64 b.x, .int .i64 b.y, .int .i64 b.w, .int .i64 b.h] 66)
  exact ⟨cell_atL hn 0, cell_atL hn 1, cell_atL hn 2, cell_atL hn 3, fun o _ => free_atL hn o⟩
def boxV (b : Box) : Value := .agg #[.int .i64 b.x, .int .i64 b.y, .int .i64 b.w, .int .i64 b.h]

set_option maxHeartbeats 2000000 in
theorem even_one (k : Int) (z : Int) (b : Box) (v : Value) (w : World) (hI : IdsIn w v [z]) : Calls Try.prog 87 #[.int .i64 k, v, boxV b] w (ReadYes (.leaf b z) w) := by
  obtain ⟨g, o, cap, rfl, hcap, hz⟩ := hI
  clear hcap
  obtain ⟨W, hW⟩ : ∃ x, w.alloc (.cells #[.int .i64 b.x, .int .i64 b.y, .int .i64 b.w, .int .i64 b.h] 66) = x := ⟨_, rfl⟩
  have hB : BoxAt W w.heap.size b := by rw [← hW]; exact box_handed w b
  have hbW : Below w.heap.size w W := by rw [← hW]; exact (Below.refl _ _).alloc (Nat.le_refl _) _
  obtain ⟨c0, c1, c2, c3, _⟩ := hB
  have h0 := hz 0 z rfl
  have d0 : W.cell? ⟨g, o, none⟩ = some (.int .i64 z) := (hbW.cell (p := ⟨g, o, none⟩) (World.block_lt_of_cell? w _ h0)).trans h0
  have HW : Hid (w.alloc (.cells #[.int .i64 b.x, .int .i64 b.y, .int .i64 b.w, .int .i64 b.h] 66) = W) := hW
  have HBW : Hid (Below w.heap.size w W) := hbW
  unfold boxV
  clear hW hbW hz h0
  go_enter Try.func87, Try.ntmps87
  go_upto_region 1 with fail
  rw [HW.out]
  go_wp2
  go_region
  have HL : Hid (ReadYes (.leaf b z) w (.returned (.iface 60 (.pointer (some ⟨W.heap.size, 0, none⟩)))) (W.alloc (.cells #[.int .i64 b.x, .int .i64 b.y, .int .i64 b.w, .int .i64 b.h, .int .i64 z] 68)).drew) :=
    ⟨_, _, [W.heap.size], rfl, ⟨_, rfl, heap_alloc_new _ _, rfl⟩, by simp, fun q hq => by rw [List.mem_singleton.1 hq]; exact HBW.out.size, (alloc_below HBW.out _).drew⟩
  go_wp2
  go_ret
  exact HL.out

theorem leaf_made {w wr X : World} {B' : Box} {z : Int} (hl : w.heap.size + 2 ≤ wr.heap.size) (hX : Below wr.heap.size wr X) : Below wr.heap.size wr (X.alloc (.cells #[.int .i64 B'.x, .int .i64 B'.y, .int .i64 B'.w, .int .i64 B'.h, .int .i64 z] 68)) ∧ w.heap.size + 2 ≤ (X.alloc (.cells #[.int .i64 B'.x, .int .i64 B'.y, .int .i64 B'.w, .int .i64 B'.h, .int .i64 z] 68)).heap.size ∧ (Tree.leaf B' z).At (X.alloc (.cells #[.int .i64 B'.x, .int .i64 B'.y, .int .i64 B'.w, .int .i64 B'.h, .int .i64 z] 68)) 0 (.iface 60 (.pointer (some ⟨X.heap.size, 0, none⟩))) [X.heap.size] := by
  have h1 := alloc_below hX (.cells #[.int .i64 B'.x, .int .i64 B'.y, .int .i64 B'.w, .int .i64 B'.h, .int .i64 z] 68)
  exact ⟨h1, Nat.le_trans hl h1.size, ⟨_, rfl, heap_alloc_new _ _, rfl⟩⟩
theorem part_kept {w X : World} {p : Addr} {v : Value} (h : w.cell? p = some v) (hb : Below w.heap.size w X) : X.cell? p = some v ∧ (∀ o, (X.alloc o).cell? p = some v) ∧ ∀ o o', ((X.alloc o).alloc o').cell? p = some v := by
  have hl := World.block_lt_of_cell? w p h
  have h1 : X.cell? p = some v := (hb.cell hl).trans h
  have h2 : ∀ o, (X.alloc o).cell? p = some v := fun o => (((Below.refl X.heap.size X).alloc (Nat.le_refl _) o).cell (Nat.lt_of_lt_of_le hl hb.size)).trans h1
  refine ⟨h1, h2, fun o o' => ?_⟩
  have hz : X.heap.size ≤ (X.alloc o).heap.size := by simp
  exact (((Below.refl (X.alloc o).heap.size (X.alloc o)).alloc (Nat.le_refl _) o').cell (Nat.lt_of_lt_of_le hl (Nat.le_trans hb.size hz))).trans (h2 o)
theorem take_more {α : Type} (l : List α) (i : Nat) (x : α) (h : l[i]? = some x) : l.take (i + 1) = l.take i ++ [x] := by
  rw [List.take_add_one, h]
  rfl
set_option maxHeartbeats 4000000 in
theorem even_many (k : Int) (hk : k = 2 ∨ k = 3) (zs : List Int) (b : Box) (v : Value) (w : World) (hI : IdsIn w v zs) (h2 : 2 ≤ zs.length) (h3 : zs.length ≤ 400) (hw : -1000 ≤ b.w ∧ b.w ≤ 1000) (hh : -1000 ≤ b.h ∧ b.h ≤ 1000) : Calls Try.prog 87 #[.int .i64 k, v, boxV b] w (ReadYes (.split b k (shareL k b zs.length zs 0)) w) := by
  obtain ⟨g, o, cap, rfl, hcap, hz⟩ := hI
  clear hcap
  obtain ⟨W, hW⟩ : ∃ x, w.alloc (.cells #[.int .i64 b.x, .int .i64 b.y, .int .i64 b.w, .int .i64 b.h] 66) = x := ⟨_, rfl⟩
  have hB : BoxAt W w.heap.size b := by rw [← hW]; exact box_handed w b
  have hWs : W.heap.size = w.heap.size + 1 := by rw [← hW]; simp
  obtain ⟨c0, c1, c2, c3, _⟩ := hB
  obtain ⟨V, hV⟩ : ∃ x, W.alloc (.cells #[.int .i64 b.x, .int .i64 b.y, .int .i64 b.w, .int .i64 b.h, .int .i64 k, .slice none 0 0] 101) = x := ⟨_, rfl⟩
  have HS0 : Hid (EvenTo w k b [] (.slice none 0 0) [] [] V) := by rw [← hV, ← hW]; exact EvenTo.start w k b
  have HW : Hid (w.alloc (.cells #[.int .i64 b.x, .int .i64 b.y, .int .i64 b.w, .int .i64 b.h] 66) = W) := hW
  have HV : Hid (W.alloc (.cells #[.int .i64 b.x, .int .i64 b.y, .int .i64 b.w, .int .i64 b.h, .int .i64 k, .slice none 0 0] 101) = V) := hV
  have hbe : -1000 ≤ b.ext k ∧ b.ext k ≤ 1000 := by unfold Box.ext; split <;> assumption
  obtain ⟨n, hn⟩ : ∃ n, zs.length = n := ⟨_, rfl⟩
  have HN : Hid (zs.length = n) := hn
  rw [hn] at h2 h3 ⊢
  obtain ⟨ts, hts⟩ : ∃ ts, shareL k b n zs 0 = ts := ⟨_, rfl⟩
  have HTl : Hid (ts.length = n) := by show _ = _; rw [← hts, shareL_length, hn]
  have HT : Hid (∀ (i : Nat) z, zs[i]? = some z → ts[i]? = some (.leaf (b.with k (shareF (b.ext k) n i)) z)) := fun i z h => by
    rw [← hts]
    have := shareL_get k b n zs 0 i z h
    rw [Int.zero_add] at this
    exact this
  rw [hts]
  have HZ : Hid (∀ (i : Nat) z, zs[i]? = some z → w.cell? ⟨g, o + i, none⟩ = some (.int .i64 z)) := hz
  obtain ⟨E, hE⟩ : ∃ e, b.ext k = e := ⟨_, rfl⟩
  have HEx : Hid (∀ X, BoxAt X w.heap.size b → Calls Try.prog 27 #[.pointer (some ⟨w.heap.size, 0, none⟩), .int .i64 k] X fun e w' => e = .returned (.int .i64 E) ∧ X = w') := fun X hX => by rw [← hE]; exact box_extent _ b k X hX
  have HSh : Hid (∀ (i : Nat) X, Calls Try.prog 93 #[.int .i64 E, .int .i64 n, .int .i64 i] X fun e w' => e = .returned (.int .i64 (shareF E n i)) ∧ X = w') := fun i X => share_any E n i X (by omega) (by omega)
  have HWi : Hid (∀ (i : Nat) X, BoxAt X w.heap.size b → Calls Try.prog 29 #[.pointer (some ⟨w.heap.size, 0, none⟩), .int .i64 k, .int .i64 (shareF E n i)] X fun e w' => e = .returned (.agg #[.int .i64 (b.with k (shareF E n i)).x, .int .i64 (b.with k (shareF E n i)).y, .int .i64 (b.with k (shareF E n i)).w, .int .i64 (b.with k (shareF E n i)).h]) ∧ Below X.heap.size X w') := fun i X hX => box_withG _ b k _ X hX (by omega) (by omega) (by have := share_small (wh := E) (n := n) (i := i) (by omega) (by omega); omega)
  rw [hE] at HT
  have hn1 : ((n : Int) == 1) = false := by
    have : (n : Int) ≠ 1 := by omega
    simpa using this
  unfold boxV
  clear hW hV hz hn hts hE hw hh hbe hk
  go_enter Try.func87, Try.ntmps87
  go_upto_region 1 with fail
  rw [HW.out]
  go_upto_region 4 with fail
  rw [HV.out]
  go_wp2
  go_loopw [26] (fun vi wr => ∃ i : Nat, i ≤ n ∧ vi = .int .i64 i ∧ ∃ sl vs fs, Hid (EvenTo w k b (ts.take i) sl vs fs wr)) (fun vi _ => n - (intOf vi).toNat)
  case atStart => exact ⟨0, Nat.zero_le _, rfl, _, _, _, HS0⟩
  case round =>
    obtain ⟨i, hi, rfl, sl, vs, fs, HJ⟩ := hrel
    by_cases hlt : i < n
    · obtain ⟨z, hz⟩ : ∃ z, zs[i]? = some z := ⟨_, List.getElem?_eq_getElem (by rw [HN.out]; exact hlt)⟩
      have hzc := HZ.out i z hz
      have dz : wr.cell? ⟨g, o + i, none⟩ = some (.int .i64 z) := (HJ.out.below.cell (p := ⟨g, o + i, none⟩) (World.block_lt_of_cell? w _ hzc)).trans hzc
      have HTk : Hid (ts.take (i + 1) = ts.take i ++ [.leaf (b.with k (shareF E n i)) z]) := take_more _ _ _ (HT.out i z hz)
      have d5 : wr.cell? ⟨w.heap.size + 1, 5, none⟩ = some sl := cell_atL HJ.out.own 5
      obtain ⟨sa, sn, sc, hsl⟩ := own_slice HJ.out.row
      subst hsl
      obtain ⟨B', hB'⟩ : ∃ B', b.with k (shareF E n i) = B' := ⟨_, rfl⟩
      obtain ⟨q, hq⟩ : ∃ q, shareF E n i = q := ⟨_, rfl⟩
      have HSi : Hid (∀ X, Calls Try.prog 93 #[.int .i64 E, .int .i64 n, .int .i64 i] X fun e w' => e = .returned (.int .i64 q) ∧ X = w') := fun X => by rw [← hq]; exact HSh.out i X
      have HWI : Hid (∀ X, BoxAt X w.heap.size b → Calls Try.prog 29 #[.pointer (some ⟨w.heap.size, 0, none⟩), .int .i64 k, .int .i64 q] X fun e w' => e = .returned (.agg #[.int .i64 B'.x, .int .i64 B'.y, .int .i64 B'.w, .int .i64 B'.h]) ∧ Below X.heap.size X w') := fun X hX => by rw [← hB', ← hq]; exact HWi.out i X hX
      rw [hB'] at HTk
      have HBd : Hid (BoxAt wr.drew w.heap.size b) := by obtain ⟨x0, x1, x2, x3, x4⟩ := HJ.out.box; exact ⟨x0, x1, x2, x3, x4⟩
      have HLv : Hid (vs.length = i) := by
        show _ = _
        rw [HJ.out.parts.length, List.length_take, HTl.out]
        omega
      have hlen : vs.length ≤ 1000000 := by rw [HLv.out]; omega
      have HD5 : Hid (wr.drew.cell? ⟨w.heap.size + 1, 5, none⟩ = some (.slice sa sn sc)) := d5
      clear hz hzc hB' hq
      go_wp2
      go_region_law (first
        | (refine step_append_partB (X.alloc (.cells #[.int .i64 B'.x, .int .i64 B'.y, .int .i64 B'.w, .int .i64 B'.h, .int .i64 z] 68)) rfl (.tmp 35) (.tmp 48) rfl (w.heap.size + 2) (.slice sa sn sc) vs 60 X.heap.size (by simp [Act.eval]) (HJ.out.below' HX.out.1).row (by simp [Act.eval]) hlen HX.out.2.1 ?_; intro sl' w3 a1 a2 a3; have hsl := own_slice a1; have hj := HJ.out.next HX.out.1 HX.out.2.2 (by simp) (fun q hq => by rw [List.mem_singleton.1 hq]; exact HXs.out) a1 a2 a3; have c5 : w3.cell? ⟨w.heap.size + 1, 5, none⟩ = some (.slice sa sn sc) := cell_atL hj.1 5; have f5 : w3.frozen? ⟨w.heap.size + 1, 5, none⟩ = false := free_atL hj.1 5; have HJ3 : Hid (EvenTo w k b (ts.take i ++ [.leaf B' z]) sl' (vs ++ [.iface 60 (.pointer (some ⟨X.heap.size, 0, none⟩))]) (fs ++ [X.heap.size]) (w3.setCell ⟨w.heap.size + 1, 5, none⟩ sl')) := hj.2; clear a1 a2 a3 hj; obtain ⟨sa', sn', sc', hsl'⟩ := hsl; subst hsl')
        | (go_simp; go_at_call 27; refine (HEx.out _ HBd.out).mono ?_; rintro e w1 ⟨rfl, rfl⟩)
        | (go_simp; go_at_call 93; refine (HSi.out _).mono ?_; rintro e w1 ⟨rfl, rfl⟩)
        | (go_simp; go_at_call 29; refine (HWI.out _ HBd.out).mono ?_; rintro e X ⟨rfl, hbX⟩; have HX : Hid (Below wr.heap.size wr (X.alloc (.cells #[.int .i64 B'.x, .int .i64 B'.y, .int .i64 B'.w, .int .i64 B'.h, .int .i64 z] 68)) ∧ w.heap.size + 2 ≤ (X.alloc (.cells #[.int .i64 B'.x, .int .i64 B'.y, .int .i64 B'.w, .int .i64 B'.h, .int .i64 z] 68)).heap.size ∧ (Tree.leaf B' z).At (X.alloc (.cells #[.int .i64 B'.x, .int .i64 B'.y, .int .i64 B'.w, .int .i64 B'.h, .int .i64 z] 68)) 0 (.iface 60 (.pointer (some ⟨X.heap.size, 0, none⟩))) [X.heap.size]) := leaf_made HJ.out.lt ⟨hbX.os, hbX.tape, hbX.output, hbX.size, hbX.block⟩; have HXs : Hid (wr.heap.size ≤ X.heap.size) := hbX.size; obtain ⟨dX, dXa, dXb⟩ := part_kept HD5.out hbX; clear hbX))
      all_goals (
        go_wp2
        go_roundw
        case rel => exact ⟨i + 1, by omega, by go_num, _, _, _, by rw [HTk.out]; exact HJ3⟩
        case measure => simp [intOf]; omega)
    · have HM : Hid (ReadYes (.split b k ts) w (.returned (splitI (w.heap.size + 1))) wr) := by
        have h := HJ.out.made
        rw [List.take_of_length_le (by rw [HTl.out]; omega)] at h
        exact h
      unfold splitI at HM
      go_wp2
      go_ret
      exact HM.out

end Go.Proofs.Ytnepemlagnnngaa

namespace Go.Proofs.Ytnepemlagnnngaa
open Go.RowKit
set_option linter.unusedVariables false
set_option maxRecDepth 100000

theorem even_any (k : Int) (hk : k = 2 ∨ k = 3) (zs : List Int) (b : Box) (v : Value) (w : World) (hI : IdsIn w v zs) (hne : zs ≠ []) (h3 : zs.length ≤ 400) (hw : -1000 ≤ b.w ∧ b.w ≤ 1000) (hh : -1000 ≤ b.h ∧ b.h ≤ 1000) : Calls Try.prog 87 #[.int .i64 k, v, boxV b] w (ReadYes (evenT k zs b) w) := by
  match zs, hne, hI, h3 with
  | [z], _, hI, _ => exact even_one k z b v w hI
  | x :: y :: zs, _, hI, h3 => exact even_many k hk (x :: y :: zs) b v w hI (by simp) h3 hw hh
theorem IdsIn.cut {w : World} {g o n cap : Nat} {zs : List Int} (h : ∀ (i : Nat) z, zs[i]? = some z → w.cell? ⟨g, o + i, none⟩ = some (.int .i64 z)) (a m : Nat) : ∀ (i : Nat) z, ((zs.drop a).take m)[i]? = some z → w.cell? ⟨g, o + a + i, none⟩ = some (.int .i64 z) := fun i z hz => by
  rw [List.getElem?_take] at hz
  split at hz
  · rw [List.getElem?_drop] at hz
    have := h (a + i) z hz
    rw [show o + a + i = o + (a + i) by omega]
    exact this
  · cases hz
theorem others_small {wh z : Int} (hw : 1 ≤ wh ∧ wh ≤ 1000) : 0 ≤ othersF wh z ∧ othersF wh z ≤ 1000 := by
  unfold othersF halfF
  split
  · omega
  · omega
/-- A split of two parts that were made one behind the other. -/
theorem two_made {w X Y : World} {k : Int} {b B1 : Box} {z0 : Int} {g1 : Nat} {t : Tree} {T : TypeId} {g : Nat} {f : List Nat} (h1 : LeafAt Y g1 B1 z0) (hg : w.heap.size ≤ g1) (hg1 : g1 < X.heap.size) (hA : t.At Y 0 (.iface T (.pointer (some ⟨g, 0, none⟩))) f) (hf : f.Nodup) (hge : ∀ q ∈ f, X.heap.size ≤ q) (hb : Below w.heap.size w Y) :
    ReadYes (.split b k [.leaf B1 z0, t]) w (.returned (.iface 74 (.pointer (some ⟨Y.heap.size + 1, 0, none⟩)))) ((Y.alloc (.cells #[.iface 60 (.pointer (some ⟨g1, 0, none⟩)), .iface T (.pointer (some ⟨g, 0, none⟩))] 56)).alloc (.cells #[.int .i64 b.x, .int .i64 b.y, .int .i64 b.w, .int .i64 b.h, .int .i64 k, .slice (some ⟨Y.heap.size, 0, none⟩) 2 2] 101)) := by
  obtain ⟨Z, hZ⟩ : ∃ Z, Y.alloc (.cells #[.iface 60 (.pointer (some ⟨g1, 0, none⟩)), .iface T (.pointer (some ⟨g, 0, none⟩))] 56) = Z := ⟨_, rfl⟩
  have hZs : Z.heap.size = Y.heap.size + 1 := by rw [← hZ]; simp
  have hZn : Z.heap[Y.heap.size]? = some (.cells #[.iface 60 (.pointer (some ⟨g1, 0, none⟩)), .iface T (.pointer (some ⟨g, 0, none⟩))] 56 (0, 0)) := by rw [← hZ]; exact heap_alloc_new _ _
  have hYZ : Below Y.heap.size Y Z := by rw [← hZ]; exact (Below.refl _ _).alloc (Nat.le_refl _) _
  rw [hZ]
  obtain ⟨V, hV⟩ : ∃ V, Z.alloc (.cells #[.int .i64 b.x, .int .i64 b.y, .int .i64 b.w, .int .i64 b.h, .int .i64 k, .slice (some ⟨Y.heap.size, 0, none⟩) 2 2] 101) = V := ⟨_, rfl⟩
  have hVn : V.heap[Y.heap.size + 1]? = some (.cells #[.int .i64 b.x, .int .i64 b.y, .int .i64 b.w, .int .i64 b.h, .int .i64 k, .slice (some ⟨Y.heap.size, 0, none⟩) 2 2] 101 (0, 0)) := by rw [← hV, ← hZs]; exact heap_alloc_new _ _
  have hZV : Below Z.heap.size Z V := by rw [← hV]; exact (Below.refl _ _).alloc (Nat.le_refl _) _
  rw [hV]
  have hYV : Below Y.heap.size Y V := below_step hYZ hZV
  have hfl := hA.lt
  have h1l := lt_of_block h1
  refine ⟨_, _, (Y.heap.size + 1) :: ([Y.heap.size] ++ ([g1] ++ (f ++ []))), rfl, ⟨Y.heap.size + 1, .slice (some ⟨Y.heap.size, 0, none⟩) 2 2, [.iface 60 (.pointer (some ⟨g1, 0, none⟩)), .iface T (.pointer (some ⟨g, 0, none⟩))], [g1] ++ (f ++ []), rfl, hVn, ⟨rfl, .inr ⟨Y.heap.size, 2, _, rfl, Nat.zero_le _, (hZV.block _ (by omega)).trans hZn, Nat.le_refl _, by unfold maxLen; omega, rfl, rfl⟩⟩, ⟨_, _, [g1], f ++ [], rfl, ⟨g1, rfl, h1.below hYV, rfl⟩, ⟨_, _, f, [], rfl, hA.below hYV, ⟨rfl, rfl⟩, rfl⟩, rfl⟩, rfl⟩, ?_, ?_, below_step hb hYV⟩
  · rw [List.append_nil]
    refine List.nodup_cons.2 ⟨fun hm => ?_, List.nodup_cons.2 ⟨fun hm => ?_, List.nodup_cons.2 ⟨fun hm => ?_, hf⟩⟩⟩
    · rcases List.mem_cons.1 hm with h | hm
      · omega
      · rcases List.mem_cons.1 hm with h | h
        · omega
        · have := hfl _ h; omega
    · rcases List.mem_cons.1 hm with h | h
      · omega
      · have := hfl _ h; omega
    · have := hge _ hm
      omega
  · intro q hq
    rw [List.append_nil] at hq
    have := hb.size
    rcases List.mem_cons.1 hq with h | hq
    · omega
    · rcases List.mem_cons.1 hq with h | hq
      · omega
      · rcases List.mem_cons.1 hq with h | h
        · omega
        · have h4 := hge q h
          omega

set_option maxHeartbeats 4000000 in
theorem first_any (k : Int) (hk : k = 2 ∨ k = 3) (z0 : Int) (zs : List Int) (b : Box) (sz : Int) (v : Value) (w : World) (hI : IdsIn w v (z0 :: zs)) (hne : zs ≠ []) (h3 : zs.length ≤ 300) (hw : 1 ≤ b.w ∧ b.w ≤ 1000) (hh : 1 ≤ b.h ∧ b.h ≤ 1000) (hsz : -9223372036854775808 ≤ sz ∧ sz ≤ 9223372036854775807) : Calls Try.prog 88 #[.int .i64 k, v, boxV b, .int .i64 sz] w (ReadYes (firstT k z0 zs b sz) w) := by
  obtain ⟨g, o, cap, rfl, hcap, hz⟩ := hI
  obtain ⟨W, hW⟩ : ∃ x, w.alloc (.cells #[.int .i64 b.x, .int .i64 b.y, .int .i64 b.w, .int .i64 b.h] 66) = x := ⟨_, rfl⟩
  have hB : BoxAt W w.heap.size b := by rw [← hW]; exact box_handed w b
  have HB : Hid (BoxAt W w.heap.size b) := hB
  have hbW : Below w.heap.size w W := by rw [← hW]; exact (Below.refl _ _).alloc (Nat.le_refl _) _
  have HBW : Hid (Below w.heap.size w W) := hbW
  obtain ⟨c0, c1, c2, c3, _⟩ := hB
  have HW : Hid (w.alloc (.cells #[.int .i64 b.x, .int .i64 b.y, .int .i64 b.w, .int .i64 b.h] 66) = W) := hW
  have hbe : 1 ≤ b.ext k ∧ b.ext k ≤ 1000 := by unfold Box.ext; split <;> assumption
  have hos := others_small (z := sz) hbe
  unfold firstT
  obtain ⟨E, hE⟩ : ∃ e, b.ext k = e := ⟨_, rfl⟩
  rw [hE] at hbe hos ⊢
  obtain ⟨ot, hot⟩ : ∃ x, othersF E sz = x := ⟨_, rfl⟩
  have HOt : Hid (othersF E sz = ot) := hot
  rw [hot] at hos ⊢
  have HEx : Hid (∀ X, BoxAt X w.heap.size b → Calls Try.prog 27 #[.pointer (some ⟨w.heap.size, 0, none⟩), .int .i64 k] X fun e w' => e = .returned (.int .i64 E) ∧ X = w') := fun X hX => by rw [← hE]; exact box_extent _ b k X hX
  have HHa : Hid (∀ X, Calls Try.prog 60 #[.int .i64 E] X fun e w' => e = .returned (.int .i64 (halfF E)) ∧ X = w') := fun X => half_any E X (by omega)
  obtain ⟨hf, hhf⟩ : ∃ x, halfF E = x := ⟨_, rfl⟩
  rw [hhf] at HHa
  obtain ⟨h1, h2, hne2⟩ := across_two k hk
  obtain ⟨j, hj⟩ : ∃ j, acrossK k = j := ⟨_, rfl⟩
  have HAc : Hid (∀ X, Calls Try.prog 70 #[.int .i64 k] X fun e w' => e = .returned (.int .i64 j) ∧ X = w') := fun X => by rw [← hj]; exact across_any k X
  rw [hj] at h2 ⊢
  obtain ⟨B1, hB1⟩ : ∃ x, b.with k (E - 1 - ot) = x := ⟨_, rfl⟩
  obtain ⟨B2, hB2⟩ : ∃ x, b.with k ot = x := ⟨_, rfl⟩
  have HW1 : Hid (∀ X, BoxAt X w.heap.size b → Calls Try.prog 29 #[.pointer (some ⟨w.heap.size, 0, none⟩), .int .i64 k, .int .i64 (E - 1 - ot)] X fun e w' => e = .returned (.agg #[.int .i64 B1.x, .int .i64 B1.y, .int .i64 B1.w, .int .i64 B1.h]) ∧ Below X.heap.size X w') := fun X hX => by rw [← hB1]; exact box_withG _ b k _ X hX (by omega) (by omega) (by omega)
  have HW2 : Hid (∀ X, BoxAt X w.heap.size b → Calls Try.prog 29 #[.pointer (some ⟨w.heap.size, 0, none⟩), .int .i64 k, .int .i64 ot] X fun e w' => e = .returned (.agg #[.int .i64 B2.x, .int .i64 B2.y, .int .i64 B2.w, .int .i64 B2.h]) ∧ Below X.heap.size X w') := fun X hX => by rw [← hB2]; exact box_withG _ b k _ X hX (by omega) (by omega) (by omega)
  have hb2 : (-1000 ≤ B2.w ∧ B2.w ≤ 1000) ∧ (-1000 ≤ B2.h ∧ B2.h ≤ 1000) := by
    rw [← hB2]
    rcases hk with rfl | rfl
    · exact ⟨by show -1000 ≤ b.w + (ot - b.w) ∧ b.w + (ot - b.w) ≤ 1000; omega, by show -1000 ≤ b.h ∧ b.h ≤ 1000; omega⟩
    · exact ⟨by show -1000 ≤ b.w ∧ b.w ≤ 1000; omega, by show -1000 ≤ b.h + (ot - b.h) ∧ b.h + (ot - b.h) ≤ 1000; omega⟩
  obtain ⟨n, hn⟩ : ∃ n, zs.length = n := ⟨_, rfl⟩
  have hzW : ∀ X, Below w.heap.size w X → ∀ (i : Nat) z, (z0 :: zs)[i]? = some z → X.cell? ⟨g, o + i, none⟩ = some (.int .i64 z) := fun X hX i z h => (hX.cell (p := ⟨g, o + i, none⟩) (World.block_lt_of_cell? w _ (hz i z h))).trans (hz i z h)
  have HEv : Hid (∀ c X, n ≤ c → Below w.heap.size w X → Calls Try.prog 87 #[.int .i64 j, .slice (some ⟨g, o + 1, none⟩) n c, .agg #[.int .i64 B2.x, .int .i64 B2.y, .int .i64 B2.w, .int .i64 B2.h]] X (ReadYes (evenT j zs B2) X)) := fun c X hc hX => even_any j h2 zs B2 _ X ⟨g, o + 1, c, by rw [hn], by rw [hn]; exact hc, fun i z h => by have := hzW X hX (i + 1) z (by simpa using h); rw [show o + 1 + i = o + (i + 1) by omega]; exact this⟩ hne (by omega) hb2.1 hb2.2
  rw [hB1, hB2]
  obtain ⟨ET, hET⟩ : ∃ t, evenT j zs B2 = t := ⟨_, rfl⟩
  rw [hET] at HEv ⊢
  have HZ0 : Hid (∀ X, Below w.heap.size w X → X.cell? ⟨g, o, none⟩ = some (.int .i64 z0)) := fun X hX => hzW X hX 0 z0 rfl
  have hn0 : 1 ≤ n := by have := List.length_pos_iff.2 hne; omega
  rw [List.length_cons, hn]
  rw [List.length_cons, hn] at hcap
  have hcap1 : n ≤ cap - 1 := by omega
  have h1n : (1 : Int) ≤ (n : Int) + 1 := by omega
  have hc1 : cap ≠ 1 := by omega
  have w1 : IntKind.i64.wrap (E - 1) = E - 1 := by rw [IntKind.wrap_i64]; omega
  have w2 : IntKind.i64.wrap (E - 1 - ot) = E - 1 - ot := by rw [IntKind.wrap_i64]; omega
  have w3 : 1 ≤ sz → IntKind.i64.wrap (E - 1 - sz) = E - 1 - sz := fun h => by rw [IntKind.wrap_i64]; omega
  unfold boxV
  have hother : (if 1 ≤ sz then max (E - 1 - sz) 1 else hf) = ot := by rw [← hot, ← hhf]; rfl
  clear hW hbW hz hE hot hhf hB1 hB2 hb2 hET hzW hj h1 hne2 hk hbe hos hne hn h2
  by_cases hs : 1 ≤ sz
  · rw [if_pos hs] at hother
    have w3' := w3 hs
    have hd : decide ((1 : Int) ≤ sz) = true := decide_eq_true hs
    clear w3
    go_enter Try.func88, Try.ntmps88
    go_upto_region 1 with fail
    rw [HW.out]
    go_wp2_with fail
    refine (HEx.out _ HB.out).mono ?_
    rintro e w1' ⟨rfl, rfl⟩
    go_wp2_with fail
    refine (HHa.out _).mono ?_
    rintro e w1' ⟨rfl, rfl⟩
    go_wp2_with fail
    have HBd : Hid (BoxAt W.drew w.heap.size b) := by obtain ⟨x0, x1, x2, x3, x4⟩ := HB.out; exact ⟨x0, x1, x2, x3, x4⟩
    have d0 : W.cell? ⟨g, o, none⟩ = some (.int .i64 z0) := HZ0.out W HBW.out
    go_region_law (first
      | (go_simp; go_at_call 29; refine (HW1.out _ HBd.out).mono ?_; rintro e X ⟨rfl, hbX⟩; have HX : Hid (Below w.heap.size w X) := below_step HBW.out ⟨hbX.os, hbX.tape, hbX.output, hbX.size, hbX.block⟩; have dX := HZ0.out X HX.out; have HBx : Hid (BoxAt X w.heap.size b) := HB.out.below ⟨hbX.os, hbX.tape, hbX.output, hbX.size, hbX.block⟩; clear hbX))
    all_goals (
      obtain ⟨Y, hY⟩ : ∃ Y, X.alloc (.cells #[.int .i64 B1.x, .int .i64 B1.y, .int .i64 B1.w, .int .i64 B1.h, .int .i64 z0] 68) = Y := ⟨_, rfl⟩
      have HY1 : Hid (LeafAt Y X.heap.size B1 z0) := by rw [← hY]; exact heap_alloc_new _ _
      have HYb : Hid (Below w.heap.size w Y) := by rw [← hY]; exact alloc_below HX.out _
      have HYx : Hid (BoxAt Y w.heap.size b) := by rw [← hY]; exact HBx.out.below ((Below.refl _ _).alloc (Nat.le_refl _) _)
      rw [hY]
      obtain ⟨y0, y1, y2, y3, _⟩ := HYx.out
      have HYd : Hid (BoxAt Y.drew w.heap.size b) := ⟨y0, y1, y2, y3, fun o ho => HYx.out.free o ho⟩
      have HXY : Hid (w.heap.size ≤ X.heap.size) := HX.out.size
      clear hY c0 c1 c2 c3 d0 dX
      go_wp2_with fail
      go_region_law (first
        | (go_simp; go_at_call 70; refine (HAc.out _).mono ?_; rintro e w9 ⟨rfl, rfl⟩)
        | (go_simp; go_at_call 29; refine (HW2.out _ HYd.out).mono ?_; rintro e X2 ⟨rfl, hb9⟩; have HX2 : Hid (Below Y.heap.size Y X2) := ⟨hb9.os, hb9.tape, hb9.output, hb9.size, hb9.block⟩; clear hb9; obtain ⟨x0, x1, x2, x3, _⟩ := HYx.out.below HX2.out)
        | (go_simp; go_at_call 87; refine (HEv.out _ _ hcap1 (below_step HYb.out HX2.out)).mono ?_; rintro e X3 ⟨T3, g3, f3, rfl, hA3, hnd3, hge3, hb3⟩; have H3 : Hid (ET.At X3 0 (.iface T3 (.pointer (some ⟨g3, 0, none⟩))) f3 ∧ f3.Nodup ∧ (∀ q ∈ f3, X2.heap.size ≤ q) ∧ Below X2.heap.size X2 X3) := ⟨hA3, hnd3, hge3, hb3⟩; obtain ⟨q0, r0, _⟩ := part_kept x0 hb3; obtain ⟨q1, r1, _⟩ := part_kept x1 hb3; obtain ⟨q2, r2, _⟩ := part_kept x2 hb3; obtain ⟨q3, r3, _⟩ := part_kept x3 hb3; clear hA3 hnd3 hge3 hb3))
      all_goals (
        have HM := two_made (b := b) (k := k) (HY1.out.below (below_step HX2.out H3.out.2.2.2)) HXY.out (Nat.lt_of_lt_of_le (lt_of_block HY1.out) HX2.out.size) H3.out.1 H3.out.2.1 H3.out.2.2.1 (below_step (below_step HYb.out HX2.out) H3.out.2.2.2)
        have HMh : Hid (ReadYes _ w _ _) := HM
        clear HM
        go_wp2
        go_ret
        exact HMh.out))
  · rw [if_neg hs] at hother
    subst hother
    have hd : decide ((1 : Int) ≤ sz) = false := decide_eq_false hs
    clear w3
    go_enter Try.func88, Try.ntmps88
    go_upto_region 1 with fail
    rw [HW.out]
    go_wp2_with fail
    refine (HEx.out _ HB.out).mono ?_
    rintro e w1' ⟨rfl, rfl⟩
    go_wp2_with fail
    refine (HHa.out _).mono ?_
    rintro e w1' ⟨rfl, rfl⟩
    go_wp2_with fail
    have HBd : Hid (BoxAt W.drew w.heap.size b) := by obtain ⟨x0, x1, x2, x3, x4⟩ := HB.out; exact ⟨x0, x1, x2, x3, x4⟩
    have d0 : W.cell? ⟨g, o, none⟩ = some (.int .i64 z0) := HZ0.out W HBW.out
    go_region_law (first
      | (go_simp; go_at_call 29; refine (HW1.out _ HBd.out).mono ?_; rintro e X ⟨rfl, hbX⟩; have HX : Hid (Below w.heap.size w X) := below_step HBW.out ⟨hbX.os, hbX.tape, hbX.output, hbX.size, hbX.block⟩; have dX := HZ0.out X HX.out; have HBx : Hid (BoxAt X w.heap.size b) := HB.out.below ⟨hbX.os, hbX.tape, hbX.output, hbX.size, hbX.block⟩; clear hbX))
    all_goals (
      obtain ⟨Y, hY⟩ : ∃ Y, X.alloc (.cells #[.int .i64 B1.x, .int .i64 B1.y, .int .i64 B1.w, .int .i64 B1.h, .int .i64 z0] 68) = Y := ⟨_, rfl⟩
      have HY1 : Hid (LeafAt Y X.heap.size B1 z0) := by rw [← hY]; exact heap_alloc_new _ _
      have HYb : Hid (Below w.heap.size w Y) := by rw [← hY]; exact alloc_below HX.out _
      have HYx : Hid (BoxAt Y w.heap.size b) := by rw [← hY]; exact HBx.out.below ((Below.refl _ _).alloc (Nat.le_refl _) _)
      rw [hY]
      obtain ⟨y0, y1, y2, y3, _⟩ := HYx.out
      have HYd : Hid (BoxAt Y.drew w.heap.size b) := ⟨y0, y1, y2, y3, fun o ho => HYx.out.free o ho⟩
      have HXY : Hid (w.heap.size ≤ X.heap.size) := HX.out.size
      clear hY c0 c1 c2 c3 d0 dX
      go_wp2_with fail
      go_region_law (first
        | (go_simp; go_at_call 70; refine (HAc.out _).mono ?_; rintro e w9 ⟨rfl, rfl⟩)
        | (go_simp; go_at_call 29; refine (HW2.out _ HYd.out).mono ?_; rintro e X2 ⟨rfl, hb9⟩; have HX2 : Hid (Below Y.heap.size Y X2) := ⟨hb9.os, hb9.tape, hb9.output, hb9.size, hb9.block⟩; clear hb9; obtain ⟨x0, x1, x2, x3, _⟩ := HYx.out.below HX2.out)
        | (go_simp; go_at_call 87; refine (HEv.out _ _ hcap1 (below_step HYb.out HX2.out)).mono ?_; rintro e X3 ⟨T3, g3, f3, rfl, hA3, hnd3, hge3, hb3⟩; have H3 : Hid (ET.At X3 0 (.iface T3 (.pointer (some ⟨g3, 0, none⟩))) f3 ∧ f3.Nodup ∧ (∀ q ∈ f3, X2.heap.size ≤ q) ∧ Below X2.heap.size X2 X3) := ⟨hA3, hnd3, hge3, hb3⟩; obtain ⟨q0, r0, _⟩ := part_kept x0 hb3; obtain ⟨q1, r1, _⟩ := part_kept x1 hb3; obtain ⟨q2, r2, _⟩ := part_kept x2 hb3; obtain ⟨q3, r3, _⟩ := part_kept x3 hb3; clear hA3 hnd3 hge3 hb3))
      all_goals (
        have HM := two_made (b := b) (k := k) (HY1.out.below (below_step HX2.out H3.out.2.2.2)) HXY.out (Nat.lt_of_lt_of_le (lt_of_block HY1.out) HX2.out.size) H3.out.1 H3.out.2.1 H3.out.2.2.1 (below_step (below_step HYb.out HX2.out) H3.out.2.2.2)
        have HMh : Hid (ReadYes _ w _ _) := HM
        clear HM
        go_wp2
        go_ret
        exact HMh.out))

end Go.Proofs.Ytnepemlagnnngaa
