/-
  Plans: Parse, where the reader does not give up.
-/
import Derived.Test.YtglncninkocgaabGreatDoorCZ
import Derived.Deep.RegionHeld3
namespace Go.Proofs.YtglncninkocgaabGreatDoor
open Go.RowKit
set_option linter.unusedVariables false
set_option maxRecDepth 20000

theorem parse_idle (p q : Addr) (w : World) : CallsD Tryz.prog 18 #[.pointer (some p), .pointer (some q)] .returning w fun e u' w' => e = .returned (.tuple #[]) ∧ u' = .returning ∧ w' = w := by
  refine callsD_of_wpS Tryz.func18 rfl fun c₀ cs hu => ?_
  apply wpS_seq
  apply wpS_region
  simp [wpOpsS, go_sem, recoverD, hu, Tryz.ntmps18, Exit.thenS]
  refine wpS_cond (t := false) (by simp [Act.eval, Array.replicate]) ?_
  simp only [Bool.false_eq_true, if_false]
  refine wpS_of_wp (wp_skip ?_)
  cases c₀
  simp_all [bodyPostS, results, Tryz.results18]

/-- The two results' variables, not yet written. -/
structure ResAt (w X : World) : Prop where
  l : X.heap[w.heap.size]? = some (.cells #[.slice none 0 0] 22 (0, 0))
  e : X.heap[w.heap.size + 1]? = some (.cells #[.int .i64 0] 29 (0, 0))
  b : Below w.heap.size w X
theorem ResAt.first (w : World) : ResAt w ((w.alloc (.cells #[.slice none 0 0] 22)).alloc (.cells #[.int .i64 0] 29)) := by
  have h1 := (MapKept.heap_alloc w (.cells #[.slice none 0 0] 22)).1
  have hs : (w.alloc (.cells #[.slice none 0 0] 22)).heap.size = w.heap.size + 1 := by simp
  have h2 := (MapKept.heap_alloc (w.alloc (.cells #[.slice none 0 0] 22)) (.cells #[.int .i64 0] 29)).1
  rw [hs] at h2
  have hb : Below (w.heap.size + 1) (w.alloc (.cells #[.slice none 0 0] 22)) ((w.alloc (.cells #[.slice none 0 0] 22)).alloc (.cells #[.int .i64 0] 29)) := (Below.refl _ _).alloc (by omega) _
  refine ⟨(hb.block w.heap.size (by omega)).trans h1, h2, ?_⟩
  have h0 : Below w.heap.size w (w.alloc (.cells #[.slice none 0 0] 22)) := (Below.refl _ _).alloc (Nat.le_refl _) _
  exact h0.trans (hb.mono (by omega))
theorem ResAt.below {w X Y : World} (h : ResAt w X) (hb : Below X.heap.size X Y) : ResAt w Y := ⟨(hb.block _ (lt_of_someN h.l)).trans h.l, (hb.block _ (lt_of_someN h.e)).trans h.e, below_step h.b hb⟩
theorem ResAt.free {w X : World} (h : ResAt w X) : X.cell? ⟨w.heap.size, 0, none⟩ = some (.slice none 0 0) ∧ X.frozen? ⟨w.heap.size, 0, none⟩ = false ∧ X.cell? ⟨w.heap.size + 1, 0, none⟩ = some (.int .i64 0) ∧ X.frozen? ⟨w.heap.size + 1, 0, none⟩ = false := by
  have h1 := h.l
  have h2 := h.e
  exact ⟨by simp [World.cell?, h1], by simp [World.frozen?, h1], by simp [World.cell?, h2], by simp [World.frozen?, h2]⟩
theorem ResAt.out {w X : World} (h : ResAt w X) (a b : Value) (c : Int) : ((X.setCell ⟨w.heap.size, 0, none⟩ a).setCell ⟨w.heap.size + 1, 0, none⟩ (.int .i64 c)).cell? ⟨w.heap.size, 0, none⟩ = some a ∧ ((X.setCell ⟨w.heap.size, 0, none⟩ a).setCell ⟨w.heap.size + 1, 0, none⟩ (.int .i64 c)).cell? ⟨w.heap.size + 1, 0, none⟩ = some (.int .i64 c) ∧ (X.setCell ⟨w.heap.size, 0, none⟩ a).cell? ⟨w.heap.size + 1, 0, none⟩ = some (.int .i64 0) ∧ (X.setCell ⟨w.heap.size, 0, none⟩ a).frozen? ⟨w.heap.size + 1, 0, none⟩ = false ∧ Below w.heap.size w ((X.setCell ⟨w.heap.size, 0, none⟩ a).setCell ⟨w.heap.size + 1, 0, none⟩ (.int .i64 c)) ∧
    (∀ k, k ≠ w.heap.size → k ≠ w.heap.size + 1 → ((X.setCell ⟨w.heap.size, 0, none⟩ a).setCell ⟨w.heap.size + 1, 0, none⟩ (.int .i64 c)).heap[k]? = X.heap[k]?) := by
  have l1 := lt_of_someN h.l
  have l2 := lt_of_someN h.e
  have k1 : (X.setCell ⟨w.heap.size, 0, none⟩ a).heap[w.heap.size]? = some (.cells #[a] 22 (0, 0)) := by
    show (X.heap.modify w.heap.size _)[w.heap.size]? = _
    have h' : X.heap[w.heap.size] = .cells #[.slice none 0 0] 22 (0, 0) := by have := h.l; simpa [Array.getElem?_eq_getElem l1] using this
    rw [Array.getElem?_eq_getElem (by simpa using l1), Array.getElem_modify_self, h']
    rfl
  have k2 : (X.setCell ⟨w.heap.size, 0, none⟩ a).heap[w.heap.size + 1]? = some (.cells #[.int .i64 0] 29 (0, 0)) := (Below.heap_setCell _ _ _ _ (by simp)).trans h.e
  have l3 := lt_of_someN k2
  have k3 : ((X.setCell ⟨w.heap.size, 0, none⟩ a).setCell ⟨w.heap.size + 1, 0, none⟩ (.int .i64 c)).heap[w.heap.size + 1]? = some (.cells #[.int .i64 c] 29 (0, 0)) := by
    show ((X.setCell ⟨w.heap.size, 0, none⟩ a).heap.modify (w.heap.size + 1) _)[w.heap.size + 1]? = _
    have h' : (X.setCell ⟨w.heap.size, 0, none⟩ a).heap[w.heap.size + 1] = .cells #[.int .i64 0] 29 (0, 0) := by simpa [Array.getElem?_eq_getElem l3] using k2
    rw [Array.getElem?_eq_getElem (by simpa using l3), Array.getElem_modify_self, h']
    rfl
  have k4 : ((X.setCell ⟨w.heap.size, 0, none⟩ a).setCell ⟨w.heap.size + 1, 0, none⟩ (.int .i64 c)).heap[w.heap.size]? = some (.cells #[a] 22 (0, 0)) := (Below.heap_setCell _ _ _ _ (by simp)).trans k1
  have hk : ∀ k, k ≠ w.heap.size → k ≠ w.heap.size + 1 → ((X.setCell ⟨w.heap.size, 0, none⟩ a).setCell ⟨w.heap.size + 1, 0, none⟩ (.int .i64 c)).heap[k]? = X.heap[k]? := fun k n1 n2 => (Below.heap_setCell _ _ _ _ (by simpa using n2)).trans (Below.heap_setCell _ _ _ _ (by simpa using n1))
  refine ⟨by simp [World.cell?, k4], by simp [World.cell?, k3], by simp [World.cell?, k2], by simp [World.frozen?, k2], ⟨h.b.os, h.b.tape, h.b.output, ?_, fun k hkk => (hk k (by omega) (by omega)).trans (h.b.block k hkk)⟩, hk⟩
  have := h.b.size
  simpa [World.setCell] using this

set_option maxHeartbeats 4000000 in
theorem parse_long (s : ByteArray) (w : World) (hs : 2048 < s.size) (hs2 : s.size ≤ 9223372036854775807) : Calls Tryz.prog 7 #[.string s] w fun e w' => e = .returned (.tuple #[.slice none 0 0, .int .i64 2]) ∧ Below w.heap.size w w' := by
  have hmf : ∀ (fn : Fn) (first cap : Array Value) (w : World), (Instr.makeFunc fn first cap).run Tryz.prog w = .ok (.func fn first cap) w := fun _ _ _ _ => rfl
  obtain ⟨N, hN⟩ : ∃ N, s.size = N := ⟨_, rfl⟩
  have hz : (2048 : Int) < (N : Int) := by omega
  have HB : Hid (Below w.heap.size w ((w.alloc (.cells #[.slice none 0 0] 22)).alloc (.cells #[.int .i64 2] 29))) := ((Below.refl _ _).alloc (Nat.le_refl _) _).alloc (by simp) _
  go_enter_defers Tryz.func7, Tryz.ntmps7
  go_wp2
  refine leaves_cons (f := 18) (args := #[.pointer (some ⟨w.heap.size, 0, none⟩), .pointer (some ⟨w.heap.size + 1, 0, none⟩)]) (by simp) (by simp [go_sem]) ?_
  refine (parse_idle ⟨w.heap.size, 0, none⟩ ⟨w.heap.size + 1, 0, none⟩ _).mono ?_
  rintro e u' w'' ⟨rfl, rfl, rfl⟩
  simp [Leaves, settle, results, Tryz.results7, go_sem]
  exact HB.out

set_option maxHeartbeats 4000000 in
theorem parse_nohead (s : ByteArray) (w : World) (hs : s.size ≤ 2048) (hh : headB s.data.toList = false) : Calls Tryz.prog 7 #[.string s] w fun e w' => e = .returned (.tuple #[.slice none 0 0, .int .i64 50]) ∧ Below w.heap.size w w' := by
  have hmf : ∀ (fn : Fn) (first cap : Array Value) (w : World), (Instr.makeFunc fn first cap).run Tryz.prog w = .ok (.func fn first cap) w := fun _ _ _ _ => rfl
  obtain ⟨N, hN⟩ : ∃ N, s.size = N := ⟨_, rfl⟩
  have hz : ¬ (2048 : Int) < (N : Int) := by omega
  have HH : Hid (∀ X, Calls Tryz.prog 19 #[.string s] X fun e w' => e = .returned (.bool false) ∧ X = w') := fun X => by rw [← hh]; exact hasHead_any s X hs
  have HB : Hid (Below w.heap.size w ((w.alloc (.cells #[.slice none 0 0] 22)).alloc (.cells #[.int .i64 50] 29))) := ((Below.refl _ _).alloc (Nat.le_refl _) _).alloc (by simp) _
  clear hh
  go_enter_defers Tryz.func7, Tryz.ntmps7
  go_wp2_with (go_at_call 19; refine (HH.out _).mono ?_; rintro e w1 ⟨rfl, rfl⟩)
  refine leaves_cons (f := 18) (args := #[.pointer (some ⟨w.heap.size, 0, none⟩), .pointer (some ⟨w.heap.size + 1, 0, none⟩)]) (by simp) (by simp [go_sem]) ?_
  refine (parse_idle ⟨w.heap.size, 0, none⟩ ⟨w.heap.size + 1, 0, none⟩ _).mono ?_
  rintro e u' w'' ⟨rfl, rfl, rfl⟩
  simp [Leaves, settle, results, Tryz.results7, go_sem]
  exact HB.out

theorem head_size {l : List UInt8} (h : headB l = true) : 5 ≤ l.length := by
  unfold headB at h
  simp only [Bool.and_eq_true, decide_eq_true_eq] at h
  exact h.1
theorem ne_of_toList {a b : ByteArray} (h : a.data.toList ≠ b.data.toList) : (a.toList == b.toList) = false := by
  rw [Lib.toList_data, Lib.toList_data]
  simpa using h

set_option maxHeartbeats 4000000 in
theorem parse_nosum (s : ByteArray) (w : World) (hs : s.size ≤ 2048) (hh : headB s.data.toList = true) (hn : s.data.toList.take 5 ≠ headL (sumS (s.data.toList.drop 5))) : Calls Tryz.prog 7 #[.string s] w fun e w' => e = .returned (.tuple #[.slice none 0 0, .int .i64 51]) ∧ Below w.heap.size w w' := by
  have hmf : ∀ (fn : Fn) (first cap : Array Value) (w : World), (Instr.makeFunc fn first cap).run Tryz.prog w = .ok (.func fn first cap) w := fun _ _ _ _ => rfl
  obtain ⟨N, hN⟩ : ∃ N, s.size = N := ⟨_, rfl⟩
  have hlen : s.data.toList.length = N := by rw [← hN]; exact Array.length_toList
  have h5 := head_size hh
  have hz : ¬ (2048 : Int) < (N : Int) := by omega
  have hz5 : (5 : Int) ≤ (N : Int) := by omega
  have HH : Hid (∀ X, Calls Tryz.prog 19 #[.string s] X fun e w' => e = .returned (.bool true) ∧ X = w') := fun X => by rw [← hh]; exact hasHead_any s X hs
  obtain ⟨bd, hbd⟩ : ∃ b, s.extract 5 N = b := ⟨_, rfl⟩
  have e1 : bd.data.toList = s.data.toList.drop 5 := by rw [← hbd, ← hN, Lib.extract_to_end]
  obtain ⟨hd, hhd⟩ : ∃ b, str (headL (sumS (s.data.toList.drop 5))) = b := ⟨_, rfl⟩
  have HO : Hid (∀ X, Calls Tryz.prog 20 #[.string bd] X fun e w' => e = .returned (.string hd) ∧ Below X.heap.size X w') := fun X => by
    have h := headOf_any bd X (by rw [← hbd]; simp; omega)
    rw [e1, hhd] at h
    exact h
  have hne : ((s.extract 0 5).toList == hd.toList) = false := ne_of_toList (by rw [Lib.extract_from_zero, ← hhd]; exact hn)
  have hne2 : ¬ (s.extract 0 5).toList = hd.toList := by simpa using hne
  have HR0 : Hid (ResAt w ((w.alloc (.cells #[.slice none 0 0] 22)).alloc (.cells #[.int .i64 0] 29))) := ResAt.first w
  clear hh hn hlen e1 hhd hs
  go_enter_defers Tryz.func7, Tryz.ntmps7
  go_wp2_with (go_at_call 19; refine (HH.out _).mono ?_; rintro e w1 ⟨rfl, rfl⟩)
  refine wp_region_noPanic ?_
  go_region_with (go_at_call 20; refine (HO.out _).mono ?_; rintro e w2 ⟨rfl, hb2⟩; have HR2 := hidden ((HR0.out.below (Below.refl _ _).drew).below hb2); clear hb2)
  all_goals (
    obtain ⟨p1, p2, p3, p4⟩ := HR2.out.free
    obtain ⟨y1, y2, y3, y4, y5, _⟩ := HR2.out.out (.slice none 0 0) (.slice none 0 0) 51
    have HY := hidden y5
    clear y5
    simp only [NoPanic]
    go_wp2
    refine leaves_cons (f := 18) (args := #[.pointer (some ⟨w.heap.size, 0, none⟩), .pointer (some ⟨w.heap.size + 1, 0, none⟩)]) (by simp) (by simp [go_sem]) ?_
    refine (parse_idle ⟨w.heap.size, 0, none⟩ ⟨w.heap.size + 1, 0, none⟩ _).mono ?_
    rintro e u' w'' ⟨rfl, rfl, rfl⟩
    simp [Leaves, settle, results, Tryz.results7, go_sem, y1, y2]
    exact HY.out)

theorem ce_out {w X : World} {sl : Value} {l : List CellV} {B : Nat} (h : CeOwns X B sl l) (hB : w.heap.size + 2 ≤ B) (c : Int) (a : Value) : CeOwns ((X.setCell ⟨w.heap.size, 0, none⟩ a).setCell ⟨w.heap.size + 1, 0, none⟩ (.int .i64 c)) (w.heap.size + 2) sl l := by
  have o1 : CeOwns X (w.heap.size + 2) sl l := ⟨h.1, h.2.imp id fun ⟨g, cap, cur, a1, a2, a3⟩ => ⟨g, cap, cur, a1, by omega, a3⟩⟩
  have hn : ∀ k, k < w.heap.size + 2 → sl.ownBlock = none ∨ sl.ownBlock ≠ some k := fun k hk => by
    cases hv : sl.ownBlock with
    | none => exact .inl rfl
    | some j =>
      refine .inr fun e => ?_
      cases e
      have := (World.ownsRow.lt o1 k hv).1
      omega
  exact World.ownsRow.kept (World.ownsRow.kept o1 (grownBy_set _ _ _ _) (hn _ (by omega))) (grownBy_set _ _ _ _) (hn _ (by omega))

theorem headB_head (n : Nat) (T : List UInt8) : headB (headL n ++ T) = true := by
  have key : ∀ k : Fin 16, hexOk (hexB k.val) = true := by decide +kernel
  have hk : ∀ k, hexOk (hexB (k % 16)) = true := fun k => key ⟨k % 16, Nat.mod_lt _ (by decide)⟩
  unfold headB headL
  simp [hk]

set_option maxHeartbeats 4000000 in
theorem parse_ok (t : Tree) (w : World) (hN : NumV w) (ht : t.nums) (hs : t.size ≤ 63) (hl : t.text.length ≤ 2040) (hr : readF (t.tell 0) = some t) : Calls Tryz.prog 7 #[.string (str (planT t))] w fun e w' => ∃ sl, e = .returned (.tuple #[sl, .int .i64 0]) ∧ CeOwns w' (w.heap.size + 2) sl (t.tell 0) ∧ Below w.heap.size w w' := by
  have hmf : ∀ (fn : Fn) (first cap : Array Value) (w : World), (Instr.makeFunc fn first cap).run Tryz.prog w = .ok (.func fn first cap) w := fun _ _ _ _ => rfl
  obtain ⟨s, hsx⟩ : ∃ s, str (planT t) = s := ⟨_, rfl⟩
  obtain ⟨N, hNs⟩ : ∃ N, s.size = N := ⟨_, rfl⟩
  have hlen : N = 5 + t.text.length := by rw [← hNs, ← hsx, str_size]; unfold planT headL; simp; omega
  have hz : ¬ (2048 : Int) < (N : Int) := by omega
  have hz5 : (5 : Int) ≤ (N : Int) := by omega
  have HH : Hid (∀ X, Calls Tryz.prog 19 #[.string s] X fun e w' => e = .returned (.bool true) ∧ X = w') := fun X => by
    have h := hasHead_any s X (by omega)
    have e : headB s.data.toList = true := by rw [← hsx]; exact headB_head _ _
    rw [e] at h
    exact h
  obtain ⟨bd, hbd⟩ : ∃ b, s.extract 5 N = b := ⟨_, rfl⟩
  have e1 : bd = str t.text := by
    rw [← hbd, ← hsx]
    have := str_drop (planT t) 5
    have hp : (planT t).length = N := by rw [← hNs, ← hsx]; rfl
    rw [hp] at this
    rw [this]
    rfl
  obtain ⟨hd, hhd⟩ : ∃ b, str (headL (sumS t.text)) = b := ⟨_, rfl⟩
  have HO : Hid (∀ X, Calls Tryz.prog 20 #[.string bd] X fun e w' => e = .returned (.string hd) ∧ Below X.heap.size X w') := fun X => by
    rw [e1, ← hhd]
    exact headOf_any (str t.text) X (by rw [str_size]; omega)
  have ht5 : s.extract 0 5 = hd := by rw [← hsx, ← hhd, str_take]; rfl
  have HRd : Hid (∀ X, Below w.heap.size w X → Calls Tryz.prog 21 #[.string bd] X fun e w' => ∃ sl, e = .returned sl ∧ CeOwns w' X.heap.size sl (t.tell 0) ∧ Below X.heap.size X w') := fun X hX => by
    rw [e1]
    exact readBody_ok t X (hN.below hX) ht hs (by omega)
  have HCk : Hid (∀ u X, CellsIn X u (t.tell 0) → Calls Tryz.prog 22 #[u] X fun e w' => e = .returned (.int .i64 0) ∧ Below X.heap.size X w') := fun u X hX => by
    have h := check_any u (t.tell 0) X hX
    have e : checkE (t.tell 0) = 0 := by unfold checkE; rw [hr]; rfl
    rw [e] at h
    exact h
  have HR0 : Hid (ResAt w ((w.alloc (.cells #[.slice none 0 0] 22)).alloc (.cells #[.int .i64 0] 29))) := ResAt.first w
  have HZ0 : Hid (((w.alloc (.cells #[.slice none 0 0] 22)).alloc (.cells #[.int .i64 0] 29)).heap.size = w.heap.size + 2) := hidden (by simp)
  rw [hsx]
  clear hN ht hs hl hr hlen e1 hhd hsx
  go_enter_defers Tryz.func7, Tryz.ntmps7
  go_wp2_with (go_at_call 19; refine (HH.out _).mono ?_; rintro e w1 ⟨rfl, rfl⟩)
  refine wp_region_noPanic ?_
  go_region_with (go_at_call 20; refine (HO.out _).mono ?_; rintro e w2 ⟨rfl, hb2⟩; have HR2 := hidden ((HR0.out.below (Below.refl _ _).drew).below hb2); have HS2 : Hid (w.heap.size + 2 ≤ w2.heap.size) := hidden (Nat.le_trans (Nat.le_of_eq HZ0.out.symm) hb2.size); clear hb2)
  all_goals (
    simp only [NoPanic]
    go_wp2_with (first | (go_at_call 21; refine (HRd.out _ HR2.out.b).mono ?_; rintro e w3 ⟨sl, rfl, ho, hb3⟩; obtain ⟨sa, sn, sc, rfl⟩ := ce_slice ho; have HR3 := hidden (HR2.out.below hb3); have HO3 := hidden ho; clear ho hb3) | (go_at_call 22; refine (HCk.out _ _ HO3.out.cellsIn).mono ?_; rintro e w4 ⟨rfl, hb4⟩; have HR4 := hidden (HR3.out.below hb4); have HO4 := hidden (HO3.out.below hb4); have p1 := HR4.out.free.1; have p2 := HR4.out.free.2.1; have p3 := HR4.out.free.2.2.1; have p4 := HR4.out.free.2.2.2; have y1 := (HR4.out.out (.slice sa sn sc) (.slice none 0 0) 0).1; have y2 := (HR4.out.out (.slice sa sn sc) (.slice none 0 0) 0).2.1; have y3 := (HR4.out.out (.slice sa sn sc) (.slice none 0 0) 0).2.2.1; have y4 := (HR4.out.out (.slice sa sn sc) (.slice none 0 0) 0).2.2.2.1; have HY := hidden (HR4.out.out (.slice sa sn sc) (.slice none 0 0) 0).2.2.2.2.1; clear hb4))
    refine leaves_cons (f := 18) (args := #[.pointer (some ⟨w.heap.size, 0, none⟩), .pointer (some ⟨w.heap.size + 1, 0, none⟩)]) (by simp) (by simp [go_sem]) ?_
    refine (parse_idle ⟨w.heap.size, 0, none⟩ ⟨w.heap.size + 1, 0, none⟩ _).mono ?_
    rintro e u' w'' ⟨rfl, rfl, rfl⟩
    have HO5 := hidden (ce_out (w := w) HO4.out HS2.out 0 (.slice sa sn sc))
    simp [Leaves, settle, results, Tryz.results7, go_sem, y1, y2]
    exact ⟨HO5.out, HY.out⟩)
end Go.Proofs.YtglncninkocgaabGreatDoor
