/-
  The document's screen in memory.
-/
import Derived.Test.YtklonlgmifgckaaGreatDoorVRefB
import Derived.Test.YtklonlgmifgckaaGreatDoorVTabs
import Derived.Test.YtklonlgmifgckaaGreatDoorVReadB
import Derived.Deep.RegionHeld3
namespace Go.Proofs.YtklonlgmifgckaaGreatDoor
open Go.RowKit
set_option linter.unusedVariables false
set_option maxRecDepth 100000
attribute [-go_sem] Instr.loadAt
attribute [local go_sem low] open_loadAt
attribute [-go_sem] Instr.storeAt
attribute [local go_sem low] open_storeAtV

def refC (w h l : Int) (rows tabs : Value) (bot : Int) (wrap : Bool) : Array Value := #[.int .i64 w, .int .i64 h, .int .i64 l, rows, .slice none 0 0, .bool false, .slice none 0 0, .int .i64 0, .int .i64 0, .bool false, .int .i64 0, .int .i64 0, .int .i64 0, .int .i64 0, .int .i64 bot, .bool false, .bool false, .bool false, .bool wrap, .bool false, .bool false, .bool false, tabs, .bool false, .bool false, .int .i64 0, .bool false, .int .i64 0, .int .i64 0, .int .i64 0, .int .i64 0, .int .i64 0, .bool false, .bool false, .bool false, .int .i64 0, .bool false, .bool false, .int .i64 0, .int .i64 0, .int .i64 0, .int .i64 0, .int .i64 0, .bool false, .bool false, .bool false, .int .i64 0, .bool false, .string ⟨#[]⟩, .string ⟨#[]⟩, .int .i64 0, .int .i32 0, .int .i64 0, .string ⟨#[]⟩, .bool false]
theorem infoRf : (Tryz.prog.info? 58).map (·.size) = some 55 := by kernel_rfl
def RfAt (W : World) (b : Nat) (w h l : Int) (rows tabs : Value) (bot : Int) (wrap : Bool) : Prop := W.heap[b]? = some (.cells (refC w h l rows tabs bot wrap) 58 (0, 0))
theorem rf_load {W : World} {b : Nat} {w h l : Int} {rows tabs : Value} {bot : Int} {wrap : Bool} (hb : RfAt W b w h l rows tabs bot wrap) : (Instr.loadAt 58 (.pointer (some ⟨b, 0, none⟩))).run Tryz.prog W = .ok (.agg (refC w h l rows tabs bot wrap)) W :=
  run_loadAt_mid W b 0 _ (refC w h l rows tabs bot wrap).toList _ (fun j v hv => by rw [Nat.zero_add, cell_atT hb, ← hv, Array.getElem?_toList]) Tryz.underlying58 rfl infoRf
theorem rf_one (w h l : Int) (ra ta : Option Addr) (rn rc tn tc : Nat) (bot : Int) (wrap : Bool) : (refC w h l (.slice ra rn rc) (.slice ta tn tc) bot wrap).toList.all (fun u => u.oneCell') = true := rfl
theorem rf_store {W : World} {b : Nat} {cur : Array Value} (w h l : Int) (ra ta : Option Addr) (rn rc tn tc : Nat) (bot : Int) (wrap : Bool) (hb : W.heap[b]? = some (.cells cur 58 (0, 0))) (hz : cur.size = 55) : (Instr.storeAt 58 (.pointer (some ⟨b, 0, none⟩)) (.agg (refC w h l (.slice ra rn rc) (.slice ta tn tc) bot wrap))).run Tryz.prog W = .ok () (W.setCells b 0 (refC w h l (.slice ra rn rc) (.slice ta tn tc) bot wrap).toList) ∧ RfAt (W.setCells b 0 (refC w h l (.slice ra rn rc) (.slice ta tn tc) bot wrap).toList) b w h l (.slice ra rn rc) (.slice ta tn tc) bot wrap := by
  refine ⟨run_storeAt_mid W b 0 _ _ (fun j hj => ?_) infoRf (by rw [Array.all_eq_true_iff_forall_mem]; intro x hx; exact List.all_eq_true.1 (rf_one w h l ra ta rn rc tn tc bot wrap) x (by simpa using hx)), ?_⟩
  · have hj2 : j < 55 := hj
    rw [Nat.zero_add, cell_atT hb, free_atT hb]
    exact ⟨by rw [Array.getElem?_eq_getElem (by omega)]; rfl, rfl⟩
  · unfold RfAt
    rw [setCells_all b _ (refC w h l (.slice ra rn rc) (.slice ta tn tc) bot wrap).toList 0 W _ hb (by rw [hz]; rfl), List.take_zero, List.nil_append]
theorem store_new_drew {P : Program} (w : World) (t : TypeId) (c c' : Array Value) (hi : (P.info? t).map (·.size) = some c'.size) (ho : c.size = c'.size) (h1 : c'.toList.all (fun u => u.oneCell') = true) : (Instr.storeAt t (.pointer (some ⟨w.heap.size, 0, none⟩)) (.agg c')).run P (w.alloc (.cells c t)).drew = .ok () (w.alloc (.cells c' t)).drew := store_new (P := P) w.drew t c c' hi ho h1
theorem RfAt.keep {w w' : World} {b : Nat} {nw nh l : Int} {r t : Value} {bot : Int} {wr : Bool} (h : RfAt w b nw nh l r t bot wr) (hk : w'.heap[b]? = w.heap[b]?) : RfAt w' b nw nh l r t bot wr := hk.trans h
theorem RfAt.below {w w' : World} {b : Nat} {nw nh l : Int} {r t : Value} {bot : Int} {wr : Bool} (h : RfAt w b nw nh l r t bot wr) (hb : Below w.heap.size w w') : RfAt w' b nw nh l r t bot wr := h.keep (hb.block b (lt_of_block h))
theorem RfAt.rows {w : World} {b : Nat} {nw nh l : Int} {r t : Value} {bot : Int} {wr : Bool} (h : RfAt w b nw nh l r t bot wr) (v : Value) : RfAt (w.setCell ⟨b, 3, none⟩ v) b nw nh l v t bot wr := put_at h 3 v
theorem RfAt.tabs {w : World} {b : Nat} {nw nh l : Int} {r t : Value} {bot : Int} {wr : Bool} (h : RfAt w b nw nh l r t bot wr) (v : Value) : RfAt (w.setCell ⟨b, 22, none⟩ v) b nw nh l r v bot wr := put_at h 22 v
theorem RfAt.bots {w : World} {b : Nat} {nw nh l : Int} {r t : Value} {bot : Int} {wr : Bool} (h : RfAt w b nw nh l r t bot wr) (v : Int) : RfAt (w.setCell ⟨b, 14, none⟩ (.int .i64 v)) b nw nh l r t v wr := put_at h 14 _
theorem RfAt.wraps {w : World} {b : Nat} {nw nh l : Int} {r t : Value} {bot : Int} {wr : Bool} (h : RfAt w b nw nh l r t bot wr) (v : Bool) : RfAt (w.setCell ⟨b, 18, none⟩ (.bool v)) b nw nh l r t bot v := put_at h 18 _
theorem RRs.base {w X Y : World} {v : Value} {vs : List Value} {n : Nat} (h : RRs X Y v vs n) (hb : Below w.heap.size w X) : RRs w Y v vs n := ⟨⟨h.mine.row, hb.trans (h.mine.below.mono hb.size), fun g hg => Nat.le_trans hb.size (h.mine.young g hg)⟩, fun r hr => ⟨(h.each r hr).1, fun g hg => Nat.le_trans hb.size ((h.each r hr).2 g hg)⟩⟩
theorem RRs.but {w Y Y' : World} {v : Value} {vs : List Value} {n t : Nat} {cs : Array Value} (h : RRs w Y v vs n) (hB : But [t] Y Y') (ht : Y.heap[t]? = some (.cells cs 58 (0, 0))) (hw : w.heap.size ≤ t) : RRs w Y' v vs n := by
  refine ⟨⟨h.mine.row.but hB (fun g hg hm => ?_), hB.under h.mine.below h.mine.below.size (fun k hk => by simp at hk; omega), h.mine.young⟩, fun r hr => ⟨(h.each r hr).1.but hB (fun g hg hm => ?_), (h.each r hr).2⟩⟩
  · obtain rfl : g = t := by simpa using hm
    obtain ⟨cur, hc⟩ := h.mine.row.block hg
    rw [ht] at hc
    simp at hc
  · obtain rfl : g = t := by simpa using hm
    obtain ⟨cur, hc⟩ := (h.each r hr).1.block hg
    rw [ht] at hc
    simp at hc
/-- The document's screen, new. -/
structure RN (w w' : World) (nw nh : Nat) (l : Int) (b : Nat) (v : Value) (vs : List Value) : Prop where
  at_ : ∃ ta tc, RfAt w' b nw nh l v (.slice ta nw tc) ((nh : Int) - 1) true
  len : vs.length = nh
  rows : RRs w w' v vs nw
  old : w.heap.size ≤ b
theorem RN.more {w wr w' : World} {nw nh b : Nat} {l : Int} {v : Value} {vs : List Value} (h : RN w wr nw nh l b v vs) (hb : Below wr.heap.size wr w') : RN w w' nw nh l b v vs := by
  obtain ⟨ta, tc, h1⟩ := h.at_
  exact ⟨⟨ta, tc, h1.below hb⟩, h.len, h.rows.more hb, h.old⟩
theorem RRs.seen {w wr : World} {v : Value} {vs : List Value} {n : Nat} (h : RRs w wr v vs n) : ∃ ad cap, v = .slice ad vs.length cap ∧ ∀ W', Below wr.heap.size wr W' → ∀ (i : Nat) r, vs[i]? = some r → ∃ g o, ad = some ⟨g, o, none⟩ ∧ W'.cell? ⟨g, o + i, none⟩ = some r := by
  obtain ⟨ad, cap, e, h1, h2, h3, h4⟩ := h.mine.row.shape
  refine ⟨ad, cap, e, fun W' hW i x hx => ?_⟩
  have hi := (List.getElem?_eq_some_iff.1 hx).1
  cases ad with
  | none =>
    have := (h3 rfl).1
    omega
  | some a =>
    obtain ⟨g, o, rfl, _, h5, h6⟩ := h4 a rfl
    exact ⟨g, o, rfl, (h6 W' (hW.block g h5)).1 _ _ hx⟩
end Go.Proofs.YtklonlgmifgckaaGreatDoor
