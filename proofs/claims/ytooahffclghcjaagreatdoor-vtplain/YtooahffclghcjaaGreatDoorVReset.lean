/-
  The screen made anew.
-/
import Derived.Test.YtooahffclghcjaaGreatDoorVStops
import Derived.BigRegion
import Derived.Deep.MidRow
import Derived.BigQuiet
import Derived.Deep.RegionHeld3
namespace Go.Proofs.YtooahffclghcjaaGreatDoor
open Go.RowKit
set_option linter.unusedVariables false
set_option maxRecDepth 100000

def cu0 : Cu := ⟨0, 0, 0, 0, 0, false, false, false, 0, false⟩
/-- A screen ahead of its rows. -/
def sc0 (s : Sc) : Sc := { w := s.w, h := s.h, rows := .slice none 0 0, kept := cu0, cur := cu0, ins := false, nl := false, wrap := false, app := false, br := false, hid := false, st := 0, held := .slice none 0 0, b0 := 0, b1 := 0, b2 := 0, b3 := 0, hv := 0, wn := 0, main := .pointer none, lim := s.lim, past := s.past, top := 0, bot := 0, stops := .slice none 0 0, last := 0, title := ⟨#[]⟩, bells := s.bells, ans := s.ans }
def overC (w : World) (b : Nat) (cells : Array Value) : World := w.setCells b 0 cells.toList
def scB (w : World) (b : Nat) : Bool := match w.heap[b]? with
  | some (.cells cs _ (0, 0)) => cs.size == 47
  | _ => false
@[go_sem] theorem scB_drew (w : World) (b : Nat) : scB w.drew b = scB w b := rfl
theorem ScAt.b {w : World} {b : Nat} {s : Sc} (h : ScAt w b s) : scB w b = true := by unfold scB; rw [h]; rfl
theorem infoSc : (Tryz.prog.info? 62).map (·.size) = some 47 := by kernel_rfl
def oneB (cells : Array Value) : Bool := cells.toList.all (fun u => u.oneCell')
theorem run_store_sc (w : World) (b : Nat) (cells : Array Value) (h : scB w b = true) (hz : cells.size = 47) (h1 : oneB cells = true) :
    (Instr.storeAt 62 (.pointer (some ⟨b, 0, none⟩)) (.agg cells)).run Tryz.prog w = .ok () (overC w b cells) := by
  refine run_storeAt_mid w b 0 _ cells (fun j hj => ?_) (by rw [hz]; exact infoSc) (by rw [Array.all_eq_true_iff_forall_mem]; intro x hx; exact List.all_eq_true.1 h1 x (by simpa using hx))
  unfold scB at h
  split at h
  · rename_i cs t hb
    rw [Nat.zero_add, cell_atT hb, free_atT hb]
    have : cs.size = 47 := by simpa using h
    exact ⟨by rw [Array.getElem?_eq_getElem (by omega)]; rfl, rfl⟩
  · cases h
attribute [-go_sem] Instr.storeAt
theorem open_storeAt {P : Program} (t : TypeId) (p v : Value) (w : World) : (Instr.storeAt t p v).run P w = (do storeVar t (← Instr.sureAddr p) v : Sem Unit).run P w := rfl
attribute [local go_sem low] open_storeAt
attribute [local go_sem high] run_store_sc
theorem ScAt.over {w : World} {b : Nat} {s : Sc} (h : ScAt w b s) (s' : Sc) : ScAt (overC w.drew b s'.cells) b s' := by
  unfold ScAt overC
  have h9 : w.drew.heap[b]? = some (.cells s.cells 62 (0, 0)) := h
  rw [setCells_all b _ s'.cells.toList 0 w.drew _ h9 (by simp [Sc.cells]), List.take_zero, List.nil_append]
theorem But.overs {b : Nat} : ∀ (vs : List Value) (o : Nat) {w w' : World}, But [b] w w' → But [b] w (w'.setCells b o vs)
  | [], _, _, _, h => h
  | v :: r, o, _, _, h => But.overs r (o + 1) (h.next o v)
theorem But.over (w : World) (b : Nat) (s : Sc) : But [b] w (overC w.drew b s.cells) := But.overs s.cells.toList 0 (But.refl [b] w).drew
set_option maxHeartbeats 4000000 in
theorem reset_any {w : World} {b : Nat} {s : Sc} (h : ScAt w b s) (aa pa : Option Addr) (an ac pn pc : Nat) (ha : s.ans = .slice aa an ac) (hp : s.past = .slice pa pn pc) (hw1 : 1 ≤ s.w) (hw2 : s.w ≤ 1000) (hh1 : 1 ≤ s.h) (hh2 : s.h ≤ 1000) : Calls Tryz.prog 14 #[.pointer (some ⟨b, 0, none⟩)] w fun x w' => x = .returned (.tuple #[]) ∧ ∃ G rs T, ∃ nw nh : Nat, s.w = (nw : Int) ∧ s.h = (nh : Int) ∧ rs.length = nh ∧ RowsAt w' G rs 0 ∧ Alike nw ⟨32, 1, 0, 0, 0⟩ rs ∧ w.heap.size ≤ G ∧ (∀ r ∈ rs, w.heap.size ≤ r.1) ∧ ScAt w' b { sc0 s with rows := .slice (some ⟨G, 0, none⟩) nh nh, wrap := true, top := 0, bot := s.h - 1, stops := .slice (some ⟨T, 0, none⟩) nw nw } ∧ But [b] w w' := by
  have H := hidK h
  have c0 := h.c0
  have c1 := h.c1
  have c38 := h.c38
  have c39 := h.c39
  have c45 := h.c45
  have c46 := h.c46
  rw [ha] at c46
  rw [hp] at c39
  have hB := h.b
  have HE : Hid (sc0 s = { sc0 s with past := .slice pa pn pc, ans := .slice aa an ac }) := by unfold sc0; rw [← ha, ← hp]; exact hidK rfl
  clear h ha hp
  have h1 : oneB #[.int .i64 s.w, .int .i64 s.h, .slice none 0 0, .int .i64 0, .int .i64 0, .int .i64 0, .int .i64 0, .int .i64 0, .bool false, .bool false, .bool false, .int .i64 0, .bool false, .int .i64 0, .int .i64 0, .int .i64 0, .int .i64 0, .int .i64 0, .bool false, .bool false, .bool false, .int .i64 0, .bool false, .bool false, .bool false, .bool false, .bool false, .bool false, .bool false, .int .i64 0, .slice none 0 0, .int .u8 0, .int .u8 0, .int .u8 0, .int .u8 0, .int .i64 0, .int .i64 0, .pointer none, .int .i64 s.lim, .slice pa pn pc, .int .i64 0, .int .i64 0, .slice none 0 0, .int .i32 0, .string ⟨#[]⟩, .int .i64 s.bells, .slice aa an ac] = true := rfl
  go_enter Tryz.func14, Tryz.ntmps14
  go_wp2_with fail
  go_region
  refine gen_exit (fun X => X = overC w.drew b { sc0 s with past := .slice pa pn pc, ans := .slice aa an ac : Sc }.cells) ?_ ?_
  · rfl
  clear c0 c1 c38 c39 c45 c46 hB h1
  intro w1 hwE
  have HS1 : Hid (ScAt w1 b (sc0 s)) := by rw [hwE, HE.out]; exact H.out.over _
  have HB1 : Hid (But [b] w w1) := by rw [hwE]; exact But.over w b _
  clear hwE
  obtain ⟨nw, hnw⟩ : ∃ n : Nat, s.w = (n : Int) := ⟨s.w.toNat, by omega⟩
  obtain ⟨nh, hnh⟩ : ∃ n : Nat, s.h = (n : Int) := ⟨s.h.toNat, by omega⟩
  have HBl : Hid (∀ W, Calls Tryz.prog 25 #[.agg #[.int .i64 0, .int .i64 0, .int .i64 0]] W fun x w' => x = .returned (.agg #[.int .i32 32, .int .i64 1, .int .i64 0, .int .i64 0, .int .i64 0]) ∧ Below W.heap.size W w') := blank_any 0 0 0
  have HRw : Hid (∀ W, Calls Tryz.prog 24 #[.int .i64 (nh : Int), .int .i64 (nw : Int), .agg #[.int .i32 32, .int .i64 1, .int .i64 0, .int .i64 0, .int .i64 0]] W fun r w' => ∃ G rs, r = .returned (.slice (some ⟨G, 0, none⟩) nh nh) ∧ rs.length = nh ∧ RowsAt w' G rs 0 ∧ Alike nw ⟨32, 1, 0, 0, 0⟩ rs ∧ Below W.heap.size W w' ∧ W.heap.size ≤ G ∧ ∀ r ∈ rs, W.heap.size ≤ r.1) := newRows_any nh nw (by omega) (by omega) ⟨32, 1, 0, 0, 0⟩
  have HCell : Hid (∀ W', Below w1.heap.size w1 W' → W'.cell? ⟨b, 0, none⟩ = some (.int .i64 (nw : Int)) ∧ W'.cell? ⟨b, 1, none⟩ = some (.int .i64 (nh : Int)) ∧ (∃ v, W'.cell? ⟨b, 2, none⟩ = some v) ∧ W'.frozen? ⟨b, 2, none⟩ = false) := fun W' h => by
    have h2 := HS1.out.below h
    exact ⟨by rw [← hnw]; exact h2.c0, by rw [← hnh]; exact h2.c1, ⟨_, h2.c2⟩, h2.free 2⟩
  obtain ⟨c0, c1, ⟨v2, c2⟩, f2⟩ := HCell.out w1 (Below.refl _ _)
  have HBx : Hid (Below w1.heap.size w1 w1) := Below.refl _ _
  have Hn := hidK (And.intro hnw hnh)
  clear hnw hnh
  go_wp2_with fail
  go_region_held3 (fun X => X.cell? ⟨b, 0, none⟩ = some (.int .i64 (nw : Int)) ∧ X.cell? ⟨b, 1, none⟩ = some (.int .i64 (nh : Int)) ∧ (∃ v, X.cell? ⟨b, 2, none⟩ = some v) ∧ X.frozen? ⟨b, 2, none⟩ = false) (simp [*, cell_off, World.cell?_setCell_same']) ((first | (go_at_call 25; refine (HBl.out _).mono ?_; rintro e w2 ⟨rfl, hb⟩; have HBn : Hid (Below w1.heap.size w1 w2) := (by first | exact hb | exact (Below.drew (Below.refl _ _)).trans hb); clear hb; clear HBx; have HBx := hidK HBn.out; clear HBn; obtain ⟨m0, m1, ⟨v3, m2⟩, m3⟩ := HCell.out w2 HBx.out) | (go_at_call 24; refine (HRw.out _).mono ?_; rintro e w3 ⟨G, rs, rfl, hl, hr, ha, hb, hG, hrs⟩; have HRs := hidK (And.intro hl (And.intro hr (And.intro ha (And.intro hG hrs)))); have HBn : Hid (Below w1.heap.size w1 w3) := HBx.out.trans (hb.mono HBx.out.size); clear hb; have HB2 := HBx; clear HBx; have HBx := hidK HBn.out; clear HBn; obtain ⟨p0, p1, ⟨v4, p2⟩, p3⟩ := HCell.out w3 HBx.out; clear hl hr ha hG hrs)))
  refine gen_exit (fun X => ∃ G rs, rs.length = nh ∧ RowsAt X G rs 0 ∧ Alike nw ⟨32, 1, 0, 0, 0⟩ rs ∧ w1.heap.size ≤ G ∧ (∀ r ∈ rs, w1.heap.size ≤ r.1) ∧ ScAt X b { sc0 s with rows := .slice (some ⟨G, 0, none⟩) nh nh } ∧ But [b] w1 X) ?_ ?_
  · obtain ⟨hl, hr, ha, hG, hrs⟩ := HRs.out
    have h2 := HB2.out.size
    have h3 : w1.heap.size ≤ G := Nat.le_trans h2 hG
    have h4 := HS1.out.lt
    refine ⟨G, rs, hl, ?_, ha, h3, fun r hh => Nat.le_trans h2 (hrs r hh), .fin (put_at (HS1.out.below HBx.out) 2 _) (by rfl), (But.of HBx.out).next _ _⟩
    exact hr.keep (Below.heap_setCell _ _ _ _ (fun e => by simp only at e; omega)) (fun r hh => Below.heap_setCell _ _ _ _ (fun e => by have := hrs r hh; simp only at e; omega))
  clear HBx HB2 HRs p0 p1 p2 p3 HCell HRw HBl
  rintro w4 ⟨G4, rs4, hl, hr, ha, hG, hrs, hs4, hb4⟩
  obtain ⟨S4, hS4⟩ : ∃ S4 : Sc, { sc0 s with rows := .slice (some ⟨G4, 0, none⟩) nh nh } = S4 := ⟨_, rfl⟩
  rw [hS4] at hs4
  have c25 := hs4.c25
  have f25 := hs4.free 25
  have HS4 := hidK hs4
  have HR4 := hidK (And.intro hl (And.intro hr (And.intro ha (And.intro hG (And.intro hrs hb4)))))
  have HE4 := hidK hS4
  clear hl hr ha hG hrs hb4 hs4 hS4
  have HWh : Hid (∀ W, ScAt W b { S4 with wrap := true } → Calls Tryz.prog 26 #[.pointer (some ⟨b, 0, none⟩)] W fun x w' => x = .returned (.tuple #[]) ∧ ScAt w' b { S4 with wrap := true, top := 0, bot := s.h - 1 } ∧ But [b] W w') := fun W h => by
    have h9 := wholeRegion_any h (by rw [← HE4.out]; exact hh1) (by rw [← HE4.out]; exact hh2)
    have e : S4.h = s.h := by rw [← HE4.out]; rfl
    simp only [e] at h9 ⊢
    exact h9
  have HEi : Hid (∀ W, ScAt W b { S4 with wrap := true, top := 0, bot := s.h - 1 } → Calls Tryz.prog 27 #[.pointer (some ⟨b, 0, none⟩)] W fun x w' => x = .returned (.tuple #[]) ∧ ∃ T, W.heap.size ≤ T ∧ ScAt w' b { S4 with wrap := true, top := 0, bot := s.h - 1, stops := .slice (some ⟨T, 0, none⟩) nw nw } ∧ But [b] W w') := fun W h => eighthStops_any h nw (by have := Hn.out.1; omega) (by rw [← HE4.out]; exact Hn.out.1)
  go_wp2_with fail
  refine (HWh.out _ (.fin (put_at HS4.out 25 _) (by rfl))).mono ?_
  rintro e w5 ⟨rfl, hs5, hb5⟩
  have HS5 := hidK hs5
  have HB5 := hidK hb5
  clear hs5 hb5
  go_wp2_with fail
  refine (HEi.out _ HS5.out).mono ?_
  rintro e w6 ⟨rfl, T, hT, hs6, hb6⟩
  have HS6 := hidK hs6
  have HB6 := hidK hb6
  have HT := hidK hT
  clear hs6 hb6 hT
  go_wp2_with fail
  go_end0
  obtain ⟨hl, hr, ha, hG, hrs, hb4⟩ := HR4.out
  have h45 : But [b] w4 w5 := (But.one 25 _).trans HB5.out
  have h46 := h45.trans HB6.out
  have hz := HB1.out.size
  have hbl := HS1.out.lt
  refine ⟨rfl, G4, rs4, T, nw, nh, Hn.out.1, Hn.out.2, hl, ?_, ha, Nat.le_trans hz hG, fun r hh => Nat.le_trans hz (hrs r hh), ?_, HB1.out.trans (hb4.trans h46)⟩
  · refine hr.but h46 (by simp; omega) (fun r hh => ?_)
    have := hrs r hh
    simp
    omega
  · rw [← HE4.out] at HS6
    exact HS6.out
end Go.Proofs.YtooahffclghcjaaGreatDoor
