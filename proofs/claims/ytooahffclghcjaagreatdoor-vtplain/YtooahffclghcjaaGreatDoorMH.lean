/-
  The document's rows, one below the other; its tab stops.
  The document's tab stops.
  The document's screen in memory.
-/
import Derived.Test.YtooahffclghcjaaGreatDoorVRef
import Derived.Test.YtooahffclghcjaaGreatDoorVReadB
import Derived.OwnWalk
import Derived.Deep.RegionHeld3
namespace Go.Proofs.YtooahffclghcjaaGreatDoor
open Go.RowKit
set_option linter.unusedVariables false
set_option maxRecDepth 100000

theorem infoSl : (Tryz.prog.info? 71).map (fun i => (i.zero, i.size, i.bytes)) = some (some (.slice none 0 0), 1, 24) := by kernel_rfl
theorem underSls : Tryz.prog.underlying 65 = some (.slice 71) := by kernel_rfl
/-- Rows of blanks. -/
structure RRs (w wr : World) (v : Value) (vs : List Value) (n : Nat) : Prop where
  mine : Mine w wr 71 1 v vs.length vs
  each : ∀ r ∈ vs, Row wr 76 5 r n (tgsV (blks n)) ∧ ∀ g, r.ownBlock = some g → w.heap.size ≤ g
theorem RRs.more {w wr w' : World} {v : Value} {vs : List Value} {n : Nat} (h : RRs w wr v vs n) (hb : Below wr.heap.size wr w') : RRs w w' v vs n := ⟨h.mine.more hb, fun r hr => ⟨(h.each r hr).1.below hb, (h.each r hr).2⟩⟩
theorem RRs.add {w wr X w' : World} {v v' r : Value} {vs : List Value} {n : Nat} (h : RRs w wr v vs n) (hX : Below wr.heap.size wr X) (hr1 : Row X 76 5 r n (tgsV (blks n))) (hr2 : ∀ g, r.ownBlock = some g → w.heap.size ≤ g) (hr : Row w' 71 1 v' (vs.length + 1) (vs ++ [r])) (hg : Grown X w' v v' v.ownBlock.toList) : RRs w w' v' (vs ++ [r]) n := by
  have hk : ∀ q, Row X 76 5 q n (tgsV (blks n)) → Row w' 76 5 q n (tgsV (blks n)) := fun q hq => hq.but hg.but (fun g hgq hm => by
    obtain ⟨cur, hc⟩ := hq.block hgq
    obtain ⟨cur2, hc2⟩ := ((h.more hX).mine.row).block (by simpa using hm : v.ownBlock = some g)
    rw [hc] at hc2
    simp at hc2)
  refine ⟨(h.mine.grown hX hr hg).cast (by simp) rfl, fun q hq => ?_⟩
  rcases List.mem_append.1 hq with hq | hq
  · exact ⟨hk q ((h.more hX).each q hq).1, (h.each q hq).2⟩
  · obtain rfl : q = r := by simpa using hq
    exact ⟨hk q hr1, hr2⟩
set_option maxHeartbeats 2000000 in
theorem refRows_any (n m : Nat) (hn : n ≤ 1000) (hm : m ≤ 1000) (w : World) : Calls Tryz.prog 28 #[.int .i64 (n : Int), .int .i64 (m : Int), .agg #[.int .i64 0, .int .i64 0, .int .i64 0]] w fun r w' => ∃ v vs, r = .returned v ∧ vs.length = m ∧ RRs w w' v vs n := by
  obtain ⟨W, hW⟩ : ∃ W, w.alloc (.cells #[.int .i64 0, .int .i64 0, .int .i64 0] 42) = W := ⟨_, rfl⟩
  have HW := hidK hW
  obtain ⟨B, hB⟩ : ∃ B, w.heap.size = B := ⟨_, rfl⟩
  have HB := hidK hB
  have hX : W.heap[B]? = some (.cells #[.int .i64 0, .int .i64 0, .int .i64 0] 42 (0, 0)) := by rw [← hB, ← hW]; exact heap_alloc_new w _
  have HX := hidK hX
  have HBW : Hid (Below w.heap.size w W) := by rw [← hW]; exact (Below.refl _ _).alloc (Nat.le_refl _) _
  have HR : Hid (∀ W, Calls Tryz.prog 48 #[.int .i64 (n : Int), .agg #[.int .i64 0, .int .i64 0, .int .i64 0]] W fun r w' => ∃ v, r = .returned v ∧ Mine W w' 76 5 v n (tgsV (blks n))) := refRow_any n hn
  clear hW hB hX
  go_enter Tryz.func28, Tryz.ntmps28
  go_wp2_with fail
  rw [HW.out, HB.out]
  go_loopw [7, 8] (fun v i wr => ∃ vs : List Value, vs.length ≤ m ∧ i = .int .i64 (vs.length : Int) ∧ Hid (RRs W wr v vs n)) (fun _ i _ => m - (intOf i).toNat)
  case atStart => exact ⟨[], Nat.zero_le _, rfl, Mine.nil (Below.refl _ _), fun r hr => by cases hr⟩
  case round =>
    obtain ⟨vs, hk, rfl, HM⟩ := hrel
    by_cases hlt : vs.length < m
    · have hbx := (HM.out.mine.below.block B (lt_of_block HX.out)).trans HX.out
      have x0 := cell_atT hbx 0
      have x1 := cell_atT hbx 1
      have x2 := cell_atT hbx 2
      simp at x0 x1 x2
      clear hbx
      go_wp2_with fail
      refine (HR.out _).mono ?_
      rintro e w1 ⟨r, rfl, hr1⟩
      have HR1 := hidK hr1
      obtain ⟨ra, rc, hre, _, _, _, _⟩ := hr1.row.shape
      clear hr1 x0 x1 x2
      subst hre
      go_wp2_with (refine wpList_append_row (w1.alloc (.cells #[.slice ra n rc] 71)) rfl _ _ 65 65 rfl underSls infoSl rfl (v := u7) (by simp [Act.eval]) (u := .slice (some ⟨w1.heap.size, 0, none⟩) 1 1) (by simp [Act.eval]) ((HM.out.mine.more HR1.out.below).more ((Below.refl _ _).alloc (Nat.le_refl _) _)).row (Src.block underSls _ _ [.slice ra n rc] 71 1 (heap_alloc_new w1 _) rfl rfl) ?x1 ?x2 ?x3)
      case x1 => omega
      case x2 => unfold maxLen; omega
      intro v2 w2 hr2 hg2
      go_wp2_with fail
      go_roundw
      case rel =>
        have ha : Below w1.heap.size w1 (w1.alloc (.cells #[.slice ra n rc] 71)) := (Below.refl _ _).alloc (Nat.le_refl _) _
        refine ⟨vs ++ [.slice ra n rc], by simp; omega, by simp, (HM.out.more HR1.out.below).add ha (HR1.out.row.below ha) (fun g hg => ?_) hr2.out hg2.out⟩
        exact Nat.le_trans HM.out.mine.below.size (HR1.out.young g hg)
      case measure => simp [intOf]; omega
    · go_wp2_with fail
      go_ret
      have h1 := HBW.out.size
      refine ⟨u7, vs, rfl, by omega, ⟨HM.out.mine.row, HBW.out.trans (HM.out.mine.below.mono h1), fun g hg => Nat.le_trans h1 (HM.out.mine.young g hg)⟩, fun r hr => ⟨(HM.out.each r hr).1, fun g hg => Nat.le_trans h1 ((HM.out.each r hr).2 g hg)⟩⟩
end Go.Proofs.YtooahffclghcjaaGreatDoor
namespace Go.Proofs.YtooahffclghcjaaGreatDoor
open Go.RowKit
set_option linter.unusedVariables false
set_option maxRecDepth 100000

theorem infoBoolV : (Tryz.prog.info? 4).map (fun i => (i.zero, i.size, i.bytes)) = some (some (.bool false), 1, 1) := by kernel_rfl
set_option maxHeartbeats 2000000 in
theorem tabs_any (n : Nat) (hn : n ≤ 1000) (w : World) : Calls Tryz.prog 29 #[.int .i64 (n : Int)] w fun r w' => ∃ ad cap, r = .returned (.slice ad n cap) ∧ Below w.heap.size w w' := by
  go_enter Tryz.func29, Tryz.ntmps29
  go_wp2_with fail
  go_loopw [3, 4] (fun v i wr => ∃ k : Nat, k ≤ n ∧ i = .int .i64 (k : Int) ∧ ∃ xs, Hid (Mine w wr 4 1 v k xs) ∧ (k = 0 → v = .slice none 0 0)) (fun _ i _ => n - (intOf i).toNat)
  case atStart => exact ⟨0, Nat.zero_le _, rfl, [], Mine.nil (Below.refl _ _), fun _ => rfl⟩
  case round =>
    obtain ⟨k, hk, rfl, xs, HM, hk0⟩ := hrel
    by_cases hlt : k < n
    · obtain ⟨bb, hbb⟩ : ∃ bb : Bool, (decide (0 < (k : Int)) && ((k : Int) % 8 == 0)) = bb := ⟨_, rfl⟩
      by_cases h0 : 0 < (k : Int)
      · clear hbb hk0
        go_wp2_with (at_builtin; refine wpList_append_row (wr.alloc (.cells #[.bool _] 4)) rfl _ _ 60 60 rfl underBools infoBoolV rfl (v := u3) (by simp [Act.eval]) (u := .slice (some ⟨wr.heap.size, 0, none⟩) 1 1) (by simp [Act.eval]) (HM.out.more ((Below.refl _ _).alloc (Nat.le_refl _) _)).row (Src.block underBools _ _ [.bool _] 4 1 (heap_alloc_new wr _) rfl rfl) ?x1 ?x2 ?x3)
        case x1 => omega
        case x2 => unfold maxLen; omega
        intro v2 w2 hr2 hg2
        go_wp2_with fail
        go_roundw
        case rel => exact ⟨k + 1, by omega, by go_num, _, HM.out.grown ((Below.refl _ _).alloc (Nat.le_refl _) _) hr2.out hg2.out, fun h => by omega⟩
        case measure => simp [intOf]; omega
      · clear hbb
        obtain rfl : k = 0 := by omega
        have hv0 := hk0 rfl
        subst hv0
        clear hk0
        go_wp2_with fail
        go_roundw
        case rel =>
          have hge := grownCap_ge wr 1 0 4
          have hcm := grownCap_le_maxLen wr 1 0 4 (by unfold maxLen; omega)
          have hnew := heap_alloc_new (wr.alloc (.cells #[.bool false] 4)) (.cells (#[.bool false] ++ Builtin.zeroCells #[.bool false] ((Question.appendCap 1 0 4).cut (wr.tape wr.drawn (Question.appendCap 1 0 4)) - 1)) 4)
          rw [World.size_alloc] at hnew
          refine ⟨1, by omega, by go_num, [.bool false], ⟨⟨rfl, .inr ⟨_, 0, _, _, rfl, hnew, hge, hcm, ?_, fun j u hu => ?_⟩⟩, ?_, fun g hg => ?_⟩, fun h => by omega⟩
          · simp [size_zeroCells]
            omega
          · have hj : j = 0 := by have := (List.getElem?_eq_some_iff.1 hu).1; simp at this; omega
            subst hj
            rw [Array.getElem?_append_left (by simp)]
            simpa using hu
          · exact ((HM.out.below.alloc HM.out.below.size _).alloc (by have := HM.out.below.size; simp; omega) _).drew
          · cases hg
            have := HM.out.below.size
            simp
            omega
        case measure => simp [intOf]; omega
    · obtain rfl : k = n := by omega
      clear hk0
      obtain ⟨ad, cap, hv, _, _, _, _⟩ := HM.out.row.shape
      subst hv
      go_wp2_with fail
      go_ret
      exact ⟨ad, cap, rfl, HM.out.below⟩
end Go.Proofs.YtooahffclghcjaaGreatDoor
namespace Go.Proofs.YtooahffclghcjaaGreatDoor
open Go.RowKit
set_option linter.unusedVariables false
set_option maxRecDepth 100000
attribute [-go_sem] Instr.loadAt
attribute [local go_sem low] open_loadAt
attribute [-go_sem] Instr.storeAt
attribute [local go_sem low] open_storeAtV

def refC (w h l : Int) (rows tabs : Value) (bot : Int) (wrap : Bool) : Array Value := #[.int .i64 w, .int .i64 h, .int .i64 l, rows, .slice none 0 0, .bool false, .slice none 0 0, .int .i64 0, .int .i64 0, .bool false, .int .i64 0, .int .i64 0, .int .i64 0, .int .i64 0, .int .i64 bot, .bool false, .bool false, .bool false, .bool wrap, .bool false, .bool false, .bool false, tabs, .bool false, .bool false, .int .i64 0, .bool false, .int .i64 0, .int .i64 0, .int .i64 0, .int .i64 0, .int .i64 0, .bool false, .bool false, .bool false, .int .i64 0, .bool false, .bool false, .int .i64 0, .int .i64 0, .int .i64 0, .int .i64 0, .int .i64 0, .bool false, .bool false, .bool false, .int .i64 0, .bool false, .string ⟨#[]⟩, .string ⟨#[]⟩, .int .i64 0, .int .i32 0, .int .i64 0, .string ⟨#[]⟩, .bool false]
theorem infoRf : (Tryz.prog.info? 70).map (·.size) = some 55 := by kernel_rfl
def RfAt (W : World) (b : Nat) (w h l : Int) (rows tabs : Value) (bot : Int) (wrap : Bool) : Prop := W.heap[b]? = some (.cells (refC w h l rows tabs bot wrap) 70 (0, 0))
theorem rf_load {W : World} {b : Nat} {w h l : Int} {rows tabs : Value} {bot : Int} {wrap : Bool} (hb : RfAt W b w h l rows tabs bot wrap) : (Instr.loadAt 70 (.pointer (some ⟨b, 0, none⟩))).run Tryz.prog W = .ok (.agg (refC w h l rows tabs bot wrap)) W :=
  run_loadAt_mid W b 0 _ (refC w h l rows tabs bot wrap).toList _ (fun j v hv => by rw [Nat.zero_add, cell_atT hb, ← hv, Array.getElem?_toList]) Tryz.underlying70 rfl infoRf
theorem rf_one (w h l : Int) (ra ta : Option Addr) (rn rc tn tc : Nat) (bot : Int) (wrap : Bool) : (refC w h l (.slice ra rn rc) (.slice ta tn tc) bot wrap).toList.all (fun u => u.oneCell') = true := rfl
theorem rf_store {W : World} {b : Nat} {cur : Array Value} (w h l : Int) (ra ta : Option Addr) (rn rc tn tc : Nat) (bot : Int) (wrap : Bool) (hb : W.heap[b]? = some (.cells cur 70 (0, 0))) (hz : cur.size = 55) : (Instr.storeAt 70 (.pointer (some ⟨b, 0, none⟩)) (.agg (refC w h l (.slice ra rn rc) (.slice ta tn tc) bot wrap))).run Tryz.prog W = .ok () (W.setCells b 0 (refC w h l (.slice ra rn rc) (.slice ta tn tc) bot wrap).toList) ∧ RfAt (W.setCells b 0 (refC w h l (.slice ra rn rc) (.slice ta tn tc) bot wrap).toList) b w h l (.slice ra rn rc) (.slice ta tn tc) bot wrap := by
  refine ⟨run_storeAt_mid W b 0 _ _ (fun j hj => ?_) infoRf (by rw [Array.all_eq_true_iff_forall_mem]; intro x hx; exact List.all_eq_true.1 (rf_one w h l ra ta rn rc tn tc bot wrap) x (by simpa using hx)), ?_⟩
  · have hj2 : j < 55 := hj
    rw [Nat.zero_add, cell_atT hb, free_atT hb]
    exact ⟨by rw [Array.getElem?_eq_getElem (by omega)]; rfl, rfl⟩
  · unfold RfAt
    rw [setCells_all b _ (refC w h l (.slice ra rn rc) (.slice ta tn tc) bot wrap).toList 0 W _ hb (by rw [hz]; rfl), List.take_zero, List.nil_append]
theorem store_new_drew {P : Program} (w : World) (t : TypeId) (c c' : Array Value) (hi : (P.info? t).map (·.size) = some c'.size) (ho : c.size = c'.size) (h1 : c'.toList.all (fun u => u.oneCell') = true) : (Instr.storeAt t (.pointer (some ⟨w.heap.size, 0, none⟩)) (.agg c')).run P (w.alloc (.cells c t)).drew = .ok () (w.alloc (.cells c' t)).drew := store_new (P := P) w.drew t c c' hi ho h1
theorem RfAt.keep {w w' : World} {b : Nat} {nw nh l : Int} {r t : Value} {bot : Int} {wr : Bool} (h : RfAt w b nw nh l r t bot wr) (hk : w'.heap[b]? = w.heap[b]?) : RfAt w' b nw nh l r t bot wr := hk.trans h
theorem RfAt.below {w w' : World} {b : Nat} {nw nh l : Int} {r t : Value} {bot : Int} {wr : Bool} (h : RfAt w b nw nh l r t bot wr) (hb : Below w.heap.size w w') : RfAt w' b nw nh l r t bot wr := h.keep (hb.block b (lt_of_block h))
theorem RfAt.rows {w : World} {b : Nat} {nw nh l : Int} {r t : Value} {bot : Int} {wr : Bool} (h : RfAt w b nw nh l r t bot wr) (v : Value) : RfAt (w.setCell ⟨b, 3, none⟩ v) b nw nh l v t bot wr := put_at h 3 v
theorem RfAt.tabs {w : World} {b : Nat} {nw nh l : Int} {r t : Value} {bot : Int} {wr : Bool} (h : RfAt w b nw nh l r t bot wr) (v : Value) : RfAt (w.setCell ⟨b, 22, none⟩ v) b nw nh l r v bot wr := put_at h 22 v
theorem RfAt.bots {w : World} {b : Nat} {nw nh l : Int} {r t : Value} {bot : Int} {wr : Bool} (h : RfAt w b nw nh l r t bot wr) (v : Int) : RfAt (w.setCell ⟨b, 14, none⟩ (.int .i64 v)) b nw nh l r t v wr := put_at h 14 _
theorem RfAt.wraps {w : World} {b : Nat} {nw nh l : Int} {r t : Value} {bot : Int} {wr : Bool} (h : RfAt w b nw nh l r t bot wr) (v : Bool) : RfAt (w.setCell ⟨b, 18, none⟩ (.bool v)) b nw nh l r t bot v := put_at h 18 _
theorem RRs.base {w X Y : World} {v : Value} {vs : List Value} {n : Nat} (h : RRs X Y v vs n) (hb : Below w.heap.size w X) : RRs w Y v vs n := ⟨⟨h.mine.row, hb.trans (h.mine.below.mono hb.size), fun g hg => Nat.le_trans hb.size (h.mine.young g hg)⟩, fun r hr => ⟨(h.each r hr).1, fun g hg => Nat.le_trans hb.size ((h.each r hr).2 g hg)⟩⟩
theorem RRs.but {w Y Y' : World} {v : Value} {vs : List Value} {n t : Nat} {cs : Array Value} (h : RRs w Y v vs n) (hB : But [t] Y Y') (ht : Y.heap[t]? = some (.cells cs 70 (0, 0))) (hw : w.heap.size ≤ t) : RRs w Y' v vs n := by
  refine ⟨⟨h.mine.row.but hB (fun g hg hm => ?_), hB.under h.mine.below h.mine.below.size (fun k hk => by simp at hk; omega), h.mine.young⟩, fun r hr => ⟨(h.each r hr).1.but hB (fun g hg hm => ?_), (h.each r hr).2⟩⟩
  · obtain rfl : g = t := by simpa using hm
    obtain ⟨cur, hc⟩ := h.mine.row.block hg
    rw [ht] at hc
    simp at hc
  · obtain rfl : g = t := by simpa using hm
    obtain ⟨cur, hc⟩ := (h.each r hr).1.block hg
    rw [ht] at hc
    simp at hc
/-- The document's screen, new. -/
structure RN (w w' : World) (nw nh : Nat) (l : Int) (b : Nat) (v : Value) (vs : List Value) : Prop where
  at_ : ∃ ta tc, RfAt w' b nw nh l v (.slice ta nw tc) ((nh : Int) - 1) true
  len : vs.length = nh
  rows : RRs w w' v vs nw
  old : w.heap.size ≤ b
theorem RN.more {w wr w' : World} {nw nh b : Nat} {l : Int} {v : Value} {vs : List Value} (h : RN w wr nw nh l b v vs) (hb : Below wr.heap.size wr w') : RN w w' nw nh l b v vs := by
  obtain ⟨ta, tc, h1⟩ := h.at_
  exact ⟨⟨ta, tc, h1.below hb⟩, h.len, h.rows.more hb, h.old⟩
theorem RRs.seen {w wr : World} {v : Value} {vs : List Value} {n : Nat} (h : RRs w wr v vs n) : ∃ ad cap, v = .slice ad vs.length cap ∧ ∀ W', Below wr.heap.size wr W' → ∀ (i : Nat) r, vs[i]? = some r → ∃ g o, ad = some ⟨g, o, none⟩ ∧ W'.cell? ⟨g, o + i, none⟩ = some r := by
  obtain ⟨ad, cap, e, h1, h2, h3, h4⟩ := h.mine.row.shape
  refine ⟨ad, cap, e, fun W' hW i x hx => ?_⟩
  have hi := (List.getElem?_eq_some_iff.1 hx).1
  cases ad with
  | none =>
    have := (h3 rfl).1
    omega
  | some a =>
    obtain ⟨g, o, rfl, _, h5, h6⟩ := h4 a rfl
    exact ⟨g, o, rfl, (h6 W' (hW.block g h5)).1 _ _ hx⟩
end Go.Proofs.YtooahffclghcjaaGreatDoor
