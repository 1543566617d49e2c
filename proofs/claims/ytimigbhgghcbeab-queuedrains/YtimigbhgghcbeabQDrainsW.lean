/-
  The walk of QueueDrains.
-/
import Derived.Test.YtimigbhgghcbeabQGame
import Derived.WalkKit
import Derived.Deep.RegionHeld3
namespace Go.Proofs.Ytimigbhgghcbeab
open Go.RowKit
set_option linter.unusedVariables false
set_option maxRecDepth 100000

/-- The queue has been drained, the document's not yet. -/
structure Half (w W : World) (F : List Nat) (b : Nat) (vi : Value) (q q' : Qs) : Prop where
  play : Play w W F b q'
  ref : ∃ its, RIn W vi its q
  off : ∀ g, vi.ownBlock = some g → w.heap.size ≤ g
theorem Half.more {w W W' : World} {F : List Nat} {b : Nat} {vi : Value} {q q' : Qs} (h : Half w W F b vi q q') (hb : Below W.heap.size W W') : Half w W' F b vi q q' := by
  obtain ⟨its, hr⟩ := h.ref
  exact ⟨h.play.more hb, ⟨its, hr.below hb⟩, h.off⟩
theorem side_drain {w W : World} {F : List Nat} {b : Nat} {vi : Value} {q : Qs} (h : Side w W F b vi q) (n : Int) (h1 : -9223372036854775808 ≤ n) (h2 : n ≤ 9223372036854775807) :
    Calls Try.prog 10 #[.pointer (some ⟨b, 0, none⟩), .int .i64 n] W fun x w' => x = .returned (.string (str (q.bs.take n.toNat))) ∧ ∃ F', Half w w' F' b vi q (drainQ q n.toNat) ∧ But F W w' := by
  refine (drain_any n h.play.at_ h1 h2).mono ?_
  rintro x w' ⟨rfl, hw⟩
  obtain ⟨F2, k1, k2, k3⟩ := id hw
  obtain ⟨its, hr⟩ := h.ref
  exact ⟨rfl, F2, ⟨⟨k1, k2.under h.play.below h.play.below.size h.play.young, fun k hk => by rcases k3 k hk with e | e; exact h.play.young k e; exact Nat.le_trans h.play.below.size e⟩, ⟨its, hr.keep fun g hg => k2.block g (hr.row.lt g hg) (hr.off h.play.at_ g hg)⟩, h.off⟩, k2⟩
theorem half_drain {w W : World} {F : List Nat} {b : Nat} {vi : Value} {q : Qs} (n : Int) (hq : q.Ok) (h : Half w W F b vi q (drainQ q n.toNat)) (h1 : -9223372036854775808 ≤ n) (h2 : n ≤ 9223372036854775807) :
    Calls Try.prog 8 #[.agg #[.int .i64 (q.lim : Int), vi, .bool q.cl], .int .i64 n] W fun x w' => ∃ a m c, x = .returned (.tuple #[.string (str (q.bs.take n.toNat)), .agg #[.int .i64 (q.lim : Int), .slice a m c, .bool q.cl]]) ∧ Side w w' F b (.slice a m c) (drainQ q n.toNat) ∧ Below W.heap.size W w' := by
  obtain ⟨its, hr⟩ := h.ref
  refine (refDrain_any n hr hq h1 h2).mono ?_
  rintro x w' ⟨vi', rfl, its', k1, k2, k3⟩
  obtain ⟨a, m, c, rfl, _⟩ := k1.shape
  exact ⟨a, m, c, rfl, ⟨h.play.more k2, ⟨its', k1⟩, fun g hg => by rcases k3 g hg with e | e; exact h.off g e; exact Nat.le_trans h.play.below.size e⟩, k2⟩
theorem drain_all (q : Qs) (hq : q.Ok) : q.bs.take (1073741824 : Int).toNat = q.bs ∧ (drainQ q (1073741824 : Int).toNat).bs = [] ∧ (drainQ q (1073741824 : Int).toNat).os = [] := by
  have h1 := hq.few
  have h2 := hq.len
  have e : (1073741824 : Int).toNat = 1073741824 := rfl
  rw [e]
  exact ⟨List.take_of_length_le (by omega), List.drop_eq_nil_of_le (by omega), List.drop_eq_nil_of_le (by omega)⟩
theorem Side.ok {w W : World} {F : List Nat} {b : Nat} {vi : Value} {q : Qs} (h : Side w W F b vi q) : q.Ok := h.play.at_.ok
theorem Told.none {w w' : World} {v : Value} (h : Told w w' [] v) : ∃ a c, v = .slice a 0 c := by
  obtain ⟨zs, h1, h2, h3, h4, h5, h6⟩ := h
  have : zs = [] := by
    cases zs with
    | nil => rfl
    | cons z zs =>
      obtain ⟨_, o, ho, _⟩ := (h3 z).1 List.mem_cons_self
      cases ho
  subst this
  obtain ⟨ad, cap, e, _⟩ := Row.shape h1
  exact ⟨ad, cap, e⟩

/-- A box that was just made, in a later world. -/
theorem under_boxQ {W Y : World} {q2 : Qs} {vi2 : Value} (hb : Below (W.alloc (.cells #[.int .i64 (q2.lim : Int), vi2, .bool q2.cl] 29)).heap.size (W.alloc (.cells #[.int .i64 (q2.lim : Int), vi2, .bool q2.cl] 29)) Y) : Y.heap[W.heap.size]? = some (.cells #[.int .i64 (q2.lim : Int), vi2, .bool q2.cl] 29 (0, 0)) :=
  (hb.block W.heap.size (by simp)).trans (heap_alloc_new W _)
theorem box_cells {Y : World} {R : Nat} {q2 : Qs} {vi2 : Value} (h : Y.heap[R]? = some (.cells #[.int .i64 (q2.lim : Int), vi2, .bool q2.cl] 29 (0, 0))) : Y.cell? ⟨R, 0, none⟩ = some (.int .i64 (q2.lim : Int)) ∧ Y.cell? ⟨R, 1, none⟩ = some vi2 ∧ Y.cell? ⟨R, 2, none⟩ = some (.bool q2.cl) := ⟨cell_atT h 0, cell_atT h 1, cell_atT h 2⟩
theorem But.box {w X Y : World} {F : List Nat} {b : Nat} {vi : Value} {q : Qs} {R : Nat} {cs : Array Value} (hR : X.heap[R]? = some (.cells cs 29 (0, 0))) (hb : But F X Y) (h : Side w X F b vi q) : Y.heap[R]? = some (.cells cs 29 (0, 0)) :=
  (hb.block R (lt_of_block hR) (h.play.at_.not_mem hR ⟨by decide, by decide, by decide⟩)).trans hR
theorem side_as {w W : World} {F : List Nat} {b : Nat} {vi : Value} {q : Qs} (h : Side w W F b vi q) (x : Int) : Calls Try.prog 9 #[.pointer (some ⟨b, 0, none⟩), .agg #[.int .i64 (q.lim : Int), vi, .bool q.cl], .int .i64 x] W fun e w' => e = .returned (.bool true) ∧ Side w w' F b vi q ∧ Below W.heap.size W w' := by
  obtain ⟨its, hr⟩ := h.ref
  exact (as_any h.play.at_ hr x).mono fun e w' k => ⟨k.1, h.more k.2, k.2⟩
/-- The document's queue in a box that was just made, behind a call that turns the queue alone. -/
theorem box_kept {w W X Y : World} {F : List Nat} {b : Nat} {vi vi2 : Value} {q q2 : Qs} (h : Side w W F b vi q) (hX : X = W.alloc (.cells #[.int .i64 (q2.lim : Int), vi2, .bool q2.cl] 29)) (hb : But F X Y) : Y.cell? ⟨W.heap.size, 0, none⟩ = some (.int .i64 (q2.lim : Int)) ∧ Y.cell? ⟨W.heap.size, 1, none⟩ = some vi2 ∧ Y.cell? ⟨W.heap.size, 2, none⟩ = some (.bool q2.cl) := by
  subst hX
  have h1 := heap_alloc_new W (.cells #[.int .i64 (q2.lim : Int), vi2, .bool q2.cl] 29)
  have h2 := (hb.block W.heap.size (by simp) (fun hh => by have := h.play.at_.lt _ hh; omega)).trans h1
  exact ⟨cell_atT h2 0, cell_atT h2 1, cell_atT h2 2⟩

set_option maxHeartbeats 4000000 in
theorem queueDrains_walk (lim : Int) (sv : Value) (ops : List OpD) (n : Int) (w : World) (hops : OpsArg w sv ops) (hn1 : -9223372036854775808 ≤ n) (hn2 : n ≤ 9223372036854775807) :
    Calls Try.prog 4 #[.int .i64 lim, sv, .int .i64 n] w fun x w' => x = .returned (.bool true) ∧ Below w.heap.size w w' := by
  have HM := hidK (behind_any lim sv ops w hops)
  obtain ⟨ao, no, co, rfl, -, -, -, -⟩ := hops.open_
  clear hops
  go_enter Try.func4, Try.ntmps4
  go_wp2_with fail
  refine HM.out.mono ?_
  rintro x w1 ⟨hb1, rfl | ⟨F, b, a, m, c, q, rfl, hs⟩⟩
  · have HB1 := hidK hb1
    clear hb1
    go_wp2_with fail
    all_goals go_ret
    all_goals exact ⟨rfl, by have h2 := HB1.out.size; repeat (first | exact HB1.out | apply Below.drew | refine Below.setCell ?_ (by first | omega | (simp <;> omega)) _ | refine Below.alloc ?_ (by first | omega | (simp <;> omega)) _)⟩
  · have HS := hidK hs
    have hok := hs.ok
    have HB1 := hidK hb1
    have HD : Hid (∀ X, Below w1.heap.size w1 X → Calls Try.prog 10 #[.pointer (some ⟨b, 0, none⟩), .int .i64 n] X fun x w' => x = .returned (.string (str (q.bs.take n.toNat))) ∧ ∃ F', Half w w' F' b (.slice a m c) q (drainQ q n.toNat) ∧ But F X w') := fun X hX => side_drain (HS.out.more hX) n hn1 hn2
    have HDr : Hid (∀ X F', Half w X F' b (.slice a m c) q (drainQ q n.toNat) → Calls Try.prog 8 #[.agg #[.int .i64 (q.lim : Int), .slice a m c, .bool q.cl], .int .i64 n] X fun x w' => ∃ a m c, x = .returned (.tuple #[.string (str (q.bs.take n.toNat)), .agg #[.int .i64 (q.lim : Int), .slice a m c, .bool q.cl]]) ∧ Side w w' F' b (.slice a m c) (drainQ q n.toNat) ∧ Below X.heap.size X w') := fun X F' hX => half_drain n hok hX hn1 hn2
    obtain ⟨tx, htx⟩ : ∃ tx, str (q.bs.take n.toNat) = tx := ⟨_, rfl⟩
    rw [htx] at HD HDr
    clear hs hok hb1 htx
    go_wp2_with fail
    refine (HD.out _ ((Below.refl _ _).alloc (Nat.le_refl _) _)).mono ?_
    rintro x w2 ⟨rfl, F2, hh2, hbut2⟩
    obtain ⟨r0, r1, r2⟩ := box_kept HS.out rfl hbut2
    have HH := hidK hh2
    clear hh2 hbut2
    go_wp2_with fail
    refine (HDr.out _ _ HH.out).mono ?_
    rintro x w3 ⟨a3, m3, c3, rfl, hs3, hb3⟩
    obtain ⟨q3, hq3⟩ : ∃ q3, drainQ q n.toNat = q3 := ⟨_, rfl⟩
    have el : q.lim = q3.lim := by rw [← hq3]; rfl
    have ec : q.cl = q3.cl := by rw [← hq3]; rfl
    rw [hq3] at hs3
    rw [el, ec]
    have HS3 := hidK hs3
    have hok3 := hs3.ok
    obtain ⟨k1, k2, k3⟩ := drain_all q3 hok3
    have HAs : Hid (∀ X, Below w3.heap.size w3 X → Calls Try.prog 9 #[.pointer (some ⟨b, 0, none⟩), .agg #[.int .i64 (q3.lim : Int), .slice a3 m3 c3, .bool q3.cl], .int .i64 0] X fun e w' => e = .returned (.bool true) ∧ Side w w' F2 b (.slice a3 m3 c3) q3 ∧ Below X.heap.size X w') := fun X hX => side_as (HS3.out.more hX) 0
    have HD3 : Hid (∀ X, Side w X F2 b (.slice a3 m3 c3) q3 → Calls Try.prog 10 #[.pointer (some ⟨b, 0, none⟩), .int .i64 1073741824] X fun x w' => x = .returned (.string (str q3.bs)) ∧ ∃ F', Half w w' F' b (.slice a3 m3 c3) q3 (drainQ q3 (1073741824 : Int).toNat) ∧ But F2 X w') := fun X hX => by
      have h9 := side_drain hX 1073741824 (by decide) (by decide)
      rw [k1] at h9
      exact h9
    have HE3 : Hid (∀ X F', Half w X F' b (.slice a3 m3 c3) q3 (drainQ q3 (1073741824 : Int).toNat) → Calls Try.prog 8 #[.agg #[.int .i64 (q3.lim : Int), .slice a3 m3 c3, .bool q3.cl], .int .i64 1073741824] X fun x w' => ∃ a m c, x = .returned (.tuple #[.string (str q3.bs), .agg #[.int .i64 (q3.lim : Int), .slice a m c, .bool q3.cl]]) ∧ Side w w' F' b (.slice a m c) (drainQ q3 (1073741824 : Int).toNat) ∧ Below X.heap.size X w') := fun X F' hX => by
      have h9 := half_drain 1073741824 hok3 hX (by decide) (by decide)
      rw [k1] at h9
      exact h9
    have HSi : Hid (∀ X F' vi, Side w X F' b vi (drainQ q3 (1073741824 : Int).toNat) → Calls Try.prog 11 #[.pointer (some ⟨b, 0, none⟩)] X fun x w' => x = .returned (.int .i64 0) ∧ X = w') := fun X F' vi hX => by
      have h9 := size_any hX.play.at_
      rw [k2] at h9
      exact h9
    have HPa : Hid (∀ X F' vi, Side w X F' b vi (drainQ q3 (1073741824 : Int).toNat) → Calls Try.prog 12 #[.pointer (some ⟨b, 0, none⟩)] X fun e w' => ∃ a c, e = .returned (.slice a 0 c) ∧ Below w.heap.size w w') := fun X F' vi hX => by
      have h9 := panes_any hX.play.at_
      rw [k3] at h9
      refine h9.mono ?_
      rintro e w' ⟨v, rfl, hT⟩
      obtain ⟨a, c, rfl⟩ := hT.none
      obtain ⟨zs, _, _, _, k4, _⟩ := hT
      exact ⟨a, c, rfl, hX.play.below.trans (k4.mono hX.play.below.size)⟩
    obtain ⟨t3, ht3⟩ : ∃ t3, str q3.bs = t3 := ⟨_, rfl⟩
    rw [ht3] at HD3 HE3
    clear hs3 hok3 k1 k2 k3 hb3 r0 r1 r2 hq3 el ec ht3 HD HDr HH
    go_wp2_with fail
    refine (HAs.out _ ((Below.refl _ _).alloc (Nat.le_refl _) _)).mono ?_
    rintro x w4 ⟨rfl, hs4, hb4⟩
    have HS4 := hidK hs4
    have hbx := under_boxQ hb4
    have HBX := hidK hbx
    obtain ⟨r0, r1, r2⟩ := box_cells hbx
    clear hs4 hb4 hbx
    go_wp2_with fail
    refine (HD3.out _ HS4.out).mono ?_
    rintro x w5 ⟨rfl, F5, hh5, hbut5⟩
    have hbx := But.box HBX.out hbut5 HS4.out
    obtain ⟨r0, r1, r2⟩ := box_cells hbx
    have HH5 := hidK hh5
    clear hh5 hbut5 hbx
    go_wp2_with fail
    refine (HE3.out _ _ HH5.out).mono ?_
    rintro x w6 ⟨a6, m6, c6, rfl, hs6, hb6⟩
    have HS6 := hidK hs6
    clear hs6 hb6 r0 r1 r2
    go_wp2_with fail
    refine (HSi.out _ _ _ (HS6.out.more (by repeat (first | exact Below.refl _ _ | apply Below.drew | refine Below.alloc ?_ (by first | omega | simp) _)))).mono ?_
    rintro x w7 ⟨rfl, rfl⟩
    go_wp2_with fail
    refine (HPa.out _ _ _ (HS6.out.more (by repeat (first | exact Below.refl _ _ | apply Below.drew | refine Below.alloc ?_ (by first | omega | simp) _)))).mono ?_
    rintro x w8 ⟨a8, c8, rfl, hb8⟩
    have HB8 := hidK hb8
    clear hb8
    go_wp2_with fail
    all_goals go_ret
    all_goals exact ⟨rfl, HB8.out⟩

end Go.Proofs.Ytimigbhgghcbeab
