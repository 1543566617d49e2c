/-
  The queue: Oldest, on both sides.
-/
import Derived.Test.YtkpnolkbheoocaaQRef
import Derived.Test.YtkpnolkbheoocaaQLook
import Derived.WalkKit
namespace Go.Proofs.Ytkpnolkbheoocaa
open Go.RowKit
set_option linter.unusedVariables false
set_option maxRecDepth 100000

theorem oldV_none {os : List (Int × Int)} {x : Int} (h : oldF os x = none) : oldV os x = (0, false) := by unfold oldV; rw [h]
theorem oldV_some {os : List (Int × Int)} {x t : Int} (h : oldF os x = some t) : oldV os x = (t, true) := by unfold oldV; rw [h]
theorem find_take {α : Type} {f : α → Bool} {l : List α} (h : ∀ (j : Nat) (x : α), l[j]? = some x → f x = false) : l.find? f = none := by
  rw [List.find?_eq_none]
  intro x hx
  obtain ⟨i, hi⟩ := List.getElem?_of_mem hx
  simp [h i x hi]

set_option maxHeartbeats 2000000 in
theorem oldest_any {w : World} {F : List Nat} {b : Nat} {q : Qs} (hq : QAt w F b q) (x : Int) :
    Calls Try.prog 32 #[.pointer (some ⟨b, 0, none⟩), .int .i64 x] w fun e w' => e = .returned (.tuple #[.int .i64 (oldV q.os x).1, .bool (oldV q.os x).2]) ∧ Below w.heap.size w w' := by
  obtain ⟨vb, vp, ps, hraw, hpos, hspr, hqok, rfl⟩ := hq
  have c3 := hraw.c3
  obtain ⟨ad, cap, rfl, hc1, hc2, hnil, hsome⟩ := hraw.pieces.shape
  obtain ⟨n, hn⟩ : ∃ n, ps.length = n := ⟨_, rfl⟩
  rw [hn] at c3 hc1 hnil hsome
  have hfew : n ≤ 106497 := by
    have h1 := spread_few (o := Pc.o) hpos
    rw [hspr, hqok.len, hn] at h1
    have := hqok.few
    omega
  have HO : Hid (oldF q.os x = (ps.find? fun p => decide (p.o.1 = x ∧ 0 < x)).map fun p => p.o.2) := by show _ = _; rw [← hspr]; exact spread_old hpos x
  have HOk : Hid (∀ p ∈ ps, OwnOk p.o) := fun p hp => hqok.own _ (by rw [← hspr]; exact (spread_mem hpos _).2 ⟨p, hp, rfl⟩)
  have HN : Hid (ps.length = n) := hn
  have HC : Hid (∀ W, Below w.heap.size w W → ∀ (i : Nat) (p : Pc), ps[i]? = some p → ∃ g o, ad = some ⟨g, o, none⟩ ∧ W.cell? ⟨g, o + i * 3, none⟩ = some (.int .i64 p.o.1) ∧ W.cell? ⟨g, o + i * 3 + 1, none⟩ = some (.int .i64 p.o.2) ∧ W.cell? ⟨g, o + i * 3 + 2, none⟩ = some (.int .i64 (p.n : Int))) := fun W hW i p hp => by
    cases ad with
    | none =>
      have := (hnil rfl).1
      have hl := (List.getElem?_eq_some_iff.1 hp).1
      omega
    | some a =>
      obtain ⟨g, o, rfl, h5, h6, h7⟩ := hsome a rfl
      obtain ⟨g0, g1, g2⟩ := pcs_get hp
      obtain ⟨h8, _⟩ := h7 W (hW.block g h6)
      exact ⟨g, o, rfl, h8 _ _ g0, by rw [Nat.add_assoc]; exact h8 _ _ g1, by rw [Nat.add_assoc]; exact h8 _ _ g2⟩
  have HIs : Hid (∀ (p t : Int) (W : World), Calls Try.prog 27 #[.agg #[.int .i64 p, .int .i64 t]] W fun x w' => x = .returned (.bool (!(decide (p = 0) && decide (t = 0)))) ∧ Below W.heap.size W w') := isOutput_any
  clear hraw hpos hspr hqok hnil hsome hn
  go_enter Try.func32, Try.ntmps32
  go_wp2_with fail
  go_loopw [13] (fun s13 wr => ∃ i : Nat, i ≤ n ∧ s13 = .int .i64 i ∧ Hid (∀ j, j < i → ∀ p, ps[j]? = some p → decide (p.o.1 = x ∧ 0 < x) = false) ∧ Hid (Below w.heap.size w wr)) (fun v _ => n - (intOf v).toNat)
  case atStart => exact ⟨0, Nat.zero_le _, rfl, (fun j hj => by omega), Below.refl _ _⟩
  case round =>
    obtain ⟨i, hi, rfl, HA, HB⟩ := hrel
    by_cases hlt : i < n
    · obtain ⟨p, hp⟩ : ∃ p, ps[i]? = some p := ⟨_, List.getElem?_eq_getElem (by rw [HN.out]; exact hlt)⟩
      obtain ⟨g, o, rfl, q0, q1, q2⟩ := HC.out wr HB.out i p hp
      have hpo := HOk.out p (List.mem_of_getElem? hp)
      have HP : Hid (ps[i]? = some p) := hp
      obtain ⟨⟨a, t⟩, m⟩ := p
      have ha0 : 0 ≤ a := hpo.p0
      have ht0 : a = 0 → t = 0 := hpo.nobody
      have HI2 := HIs.out a t
      have HNext : Hid (¬ (a = x ∧ 0 < x) → ∀ j, j < i + 1 → ∀ p, ps[j]? = some p → decide (p.o.1 = x ∧ 0 < x) = false) := fun hh j hj p' hp' => by
        by_cases hji : j < i
        · exact HA.out j hji p' hp'
        · obtain rfl : j = i := by omega
          rw [HP.out] at hp'
          cases hp'
          exact decide_eq_false hh
      have HB1 : Hid (∀ W, Below (wr.alloc (.cells #[.int .i64 a, .int .i64 t, .int .i64 (m : Int)] 64)).heap.size (wr.alloc (.cells #[.int .i64 a, .int .i64 t, .int .i64 (m : Int)] 64)) W → Below w.heap.size w W ∧ W.cell? ⟨wr.heap.size, 0, none⟩ = some (.int .i64 a) ∧ W.cell? ⟨wr.heap.size, 1, none⟩ = some (.int .i64 t)) := fun W hW => by
        have h1 := heap_alloc_new wr (.cells #[.int .i64 a, .int .i64 t, .int .i64 (m : Int)] 64)
        have h2 := (hW.block wr.heap.size (by simp)).trans h1
        exact ⟨(HB.out.alloc HB.out.size _).trans (hW.mono (by have := HB.out.size; simp; omega)), cell_atT h2 0, cell_atT h2 1⟩
      clear hp hpo
      by_cases hz : a = 0
      · have ht := ht0 hz
        subst hz ht
        have hnx : ¬ (0 = x ∧ 0 < x) := by omega
        go_wp2_with fail
        refine (HI2 _).mono ?_
        rintro y w1 ⟨rfl, hb1⟩
        obtain ⟨b1, r0, r1⟩ := HB1.out w1 hb1
        have HB2 : Hid (Below w.heap.size w w1) := b1
        clear b1 hb1 HB1
        go_wp2_with fail
        go_roundw
        case rel => exact ⟨i + 1, by omega, by go_num, HNext.out hnx, HB2⟩
        case measure => simp [intOf]; omega
      · have hdec : (!(decide (a = 0) && decide (t = 0))) = true := by simp [hz]
        rw [hdec] at HI2
        go_wp2_with fail
        refine (HI2 _).mono ?_
        rintro y w1 ⟨rfl, hb1⟩
        obtain ⟨b1, r0, r1⟩ := HB1.out w1 hb1
        have HB2 : Hid (Below w.heap.size w w1) := b1
        clear b1 hb1 HB1
        by_cases hx : a = x
        · subst hx
          have HV : Hid (oldV q.os a = (t, true)) := by
            refine oldV_some ?_
            rw [HO.out, old_none HA.out HP.out (decide_eq_true ⟨rfl, by show 0 < a; omega⟩)]
            rfl
          go_wp2_with fail
          all_goals go_ret2
          all_goals exact ⟨by rw [HV.out]; rfl, HB2.out⟩
        · go_wp2_with fail
          go_roundw
          case rel => exact ⟨i + 1, by omega, by go_num, HNext.out (fun h => hx h.1), HB2⟩
          case measure => simp [intOf]; omega
    · obtain rfl : i = n := by omega
      have HV : Hid (oldV q.os x = (0, false)) := by
        refine oldV_none ?_
        rw [HO.out, find_take (fun j p hp => HA.out j (by have := (List.getElem?_eq_some_iff.1 hp).1; rw [HN.out] at this; exact this) p hp)]
        rfl
      go_wp2_with fail
      all_goals go_ret2
      all_goals exact ⟨by rw [HV.out]; rfl, HB.out⟩

set_option maxHeartbeats 2000000 in
theorem refOldest_any {w : World} {vi : Value} {its : List Item} {q : Qs} (h : RIn w vi its q) (hq : q.Ok) (x : Int) :
    Calls Try.prog 33 #[refV q vi, .int .i64 x] w fun e w' => e = .returned (.tuple #[.int .i64 (oldV q.os x).1, .bool (oldV q.os x).2]) ∧ Below w.heap.size w w' := by
  obtain ⟨ad, n, cap, rfl, hn, hc⟩ := h.shape
  have hlen := h.few hq
  have HO : Hid (oldF q.os x = (its.find? fun p => decide (p.o.1 = x ∧ 0 < x)).map fun p => p.o.2) := by show _ = _; rw [← h.os]; exact spread_old h.pos x
  have HN : Hid (its.length = n) := hn
  obtain ⟨l0, hl0⟩ : ∃ l0, q.lim = l0 := ⟨_, rfl⟩
  obtain ⟨W0, hW0⟩ : ∃ W0, w.alloc (.cells #[.int .i64 (l0 : Int), .slice ad n cap, .bool q.cl] 26) = W0 := ⟨_, rfl⟩
  obtain ⟨N0, hN0⟩ : ∃ N0, w.heap.size = N0 := ⟨_, rfl⟩
  have HW0 : Hid (w.alloc (.cells #[.int .i64 (l0 : Int), .slice ad n cap, .bool q.cl] 26) = W0) := hW0
  have HN0 : Hid (w.heap.size = N0) := hN0
  have HB0 : Hid (Below w.heap.size w W0) := by show Below _ _ _; rw [← hW0]; exact (Below.refl _ _).alloc (Nat.le_refl _) _
  have hpar : W0.heap[N0]? = some (.cells #[.int .i64 (l0 : Int), .slice ad n cap, .bool q.cl] 26 (0, 0)) := by rw [← hW0, ← hN0]; exact heap_alloc_new w _
  have HC : Hid (∀ (i : Nat) (p : Item), its[i]? = some p → ∃ g o, ad = some ⟨g, o, none⟩ ∧ W0.cell? ⟨g, o + i * 3 + 1, none⟩ = some (.int .i64 p.o.1) ∧ W0.cell? ⟨g, o + i * 3 + 2, none⟩ = some (.int .i64 p.o.2)) := fun i p hp => by
    obtain ⟨g, o, e, _, h1, h2⟩ := hc W0 HB0.out i p hp
    exact ⟨g, o, e, h1, h2⟩
  have p0 : W0.cell? ⟨N0, 1, none⟩ = some (.slice ad n cap) := cell_atT hpar 1
  rw [hn] at hlen
  unfold refV
  rw [hl0]
  clear h hc hn hpar hW0 hN0 hl0
  go_enter Try.func33, Try.ntmps33
  go_wp2_with fail
  rw [HW0.out, HN0.out]
  go_loopw [6] (fun s6 wr => ∃ i : Nat, i ≤ n ∧ s6 = .int .i64 i ∧ Hid (∀ j, j < i → ∀ p, its[j]? = some p → decide (p.o.1 = x ∧ 0 < x) = false) ∧ W0 = wr) (fun v _ => n - (intOf v).toNat)
  case atStart => exact ⟨0, Nat.zero_le _, rfl, (fun j hj => by omega), rfl⟩
  case round =>
    obtain ⟨i, hi, rfl, HA, rfl⟩ := hrel
    by_cases hlt : i < n
    · obtain ⟨p, hp⟩ : ∃ p, its[i]? = some p := ⟨_, List.getElem?_eq_getElem (by rw [HN.out]; exact hlt)⟩
      obtain ⟨g, o, rfl, q1, q2⟩ := HC.out i p hp
      have HP : Hid (its[i]? = some p) := hp
      obtain ⟨xx, ⟨a, t⟩⟩ := p
      have HNext : Hid (¬ (a = x ∧ 0 < x) → ∀ j, j < i + 1 → ∀ p, its[j]? = some p → decide (p.o.1 = x ∧ 0 < x) = false) := fun hh j hj p' hp' => by
        by_cases hji : j < i
        · exact HA.out j hji p' hp'
        · obtain rfl : j = i := by omega
          rw [HP.out] at hp'
          cases hp'
          exact decide_eq_false hh
      have q1' : W0.cell? ⟨g, o + i * 3 + 1, none⟩ = some (.int .i64 a) := q1
      have q2' : W0.cell? ⟨g, o + i * 3 + 2, none⟩ = some (.int .i64 t) := q2
      clear hp q1 q2
      by_cases hx : a = x
      · by_cases h0 : 0 < x
        · have HV : Hid (oldV q.os x = (t, true)) := by
            refine oldV_some ?_
            rw [HO.out, old_none HA.out HP.out (decide_eq_true ⟨hx, h0⟩)]
            rfl
          subst hx
          go_wp2
          all_goals go_ret2
          all_goals exact ⟨by rw [HV.out]; rfl, HB0.out⟩
        · subst hx
          go_wp2
          go_roundw
          case rel => exact ⟨i + 1, by omega, by go_num, HNext.out (fun h => h0 h.2), by first | rfl | trivial⟩
          case measure => simp [intOf]; omega
      · go_wp2
        go_roundw
        case rel => exact ⟨i + 1, by omega, by go_num, HNext.out (fun h => hx h.1), by first | rfl | trivial⟩
        case measure => simp [intOf]; omega
    · obtain rfl : i = n := by omega
      have HV : Hid (oldV q.os x = (0, false)) := by
        refine oldV_none ?_
        rw [HO.out, find_take (fun j p hp => HA.out j (by have := (List.getElem?_eq_some_iff.1 hp).1; rw [HN.out] at this; exact this) p hp)]
        rfl
      go_wp2
      all_goals go_ret2
      all_goals exact ⟨by rw [HV.out]; rfl, HB0.out⟩

end Go.Proofs.Ytkpnolkbheoocaa
