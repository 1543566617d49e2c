/-
  The queue: Put, PutAll, Out, End.
-/
import Derived.Test.YtkpnolkbheoocaaQLay
import Derived.WalkKit
namespace Go.Proofs.Ytkpnolkbheoocaa
open Go.RowKit
set_option linter.unusedVariables false
set_option maxRecDepth 100000

theorem Went.of {w w' : World} {F : List Nat} {b : Nat} {q : Qs} (h : QAt w F b q) (hb : Below w.heap.size w w') : Went w w' F b q := ⟨F, h.below hb, .of hb, fun k hk => .inl hk⟩
theorem Went.trans {w w1 w' : World} {F : List Nat} {b : Nat} {q : Qs} (hb : Below w.heap.size w w1) (h : Went w1 w' F b q) : Went w w' F b q := by
  obtain ⟨F', h1, h2, h3⟩ := h
  exact ⟨F', h1, But.trans (.of hb) h2, fun k hk => (h3 k hk).imp id fun e => Nat.le_trans hb.size e⟩

set_option maxHeartbeats 1000000 in
theorem putAll_any {w : World} {F : List Nat} {b : Nat} {q : Qs} {v : Value} {ls : List (List UInt8)} (hq : QAt w F b q) (hs : Strs w v ls) (hoff : ∀ g, v.ownBlock = some g → g ∉ F) :
    Calls Try.prog 21 #[.pointer (some ⟨b, 0, none⟩), v] w fun x w' => x = .returned (.int .i64 (putE q ls)) ∧ Went w w' F b (putQ q ls) := by
  have hlim := hq.ok.lim
  have HL : Hid (Calls Try.prog 34 #[.pointer (some ⟨b, 0, none⟩), .int .i64 ((q.lim : Int) + 32768), .int .i64 140, .agg #[.int .i64 0, .int .i64 0], v] w fun x w' => Laid w w' F b q ((q.lim : Int) + 32768) 140 (0, 0) ls x) :=
    layWithin_any hq hs hoff _ 140 0 0 own_zero (by decide) (by omega) (by omega) (fun _ h => by omega)
  have HOk : Hid (∀ w', Went0 w w' F b (putQ q ls) → Went w w' F b (putQ q ls)) := fun w' h => h.ok (hq.ok.put ls)
  obtain ⟨vb, vp, ps, hraw, _⟩ := hq
  have c0 := hraw.c0
  obtain ⟨ad, n, cap, rfl, _⟩ := hs.shape
  obtain ⟨L, hL⟩ : ∃ L, q.lim = L := ⟨_, rfl⟩
  rw [hL] at c0 HL hlim
  have HLe : Hid (q.lim = L) := hL
  clear hraw hs hoff hL
  go_enter Try.func21, Try.ntmps21
  go_wp2_with (go_at_call 34; refine HL.out.mono ?_; rintro x w1 ⟨rfl, hw⟩; have HW : Hid (Went0 w w1 F b (layQ q ((L : Int) + 32768) 140 (0, 0) ls)) := hw; clear hw)
  all_goals go_ret
  all_goals exact ⟨by unfold putE; rw [HLe.out]; rfl, HOk.out _ (by unfold putQ; rw [HLe.out]; exact HW.out)⟩

/-- One text in a list of its own. -/
theorem Strs.one {w : World} {l : List UInt8} (hl : l.length ≤ 9223372036854775807) : Strs (w.alloc (.cells #[.string (str l)] 9)) (.slice (some ⟨w.heap.size, 0, none⟩) 1 1) [l] := by
  refine ⟨_, 1, rfl, by simp, by simp, by decide, fun x hx => by rw [List.mem_singleton.1 hx]; exact hl, fun _ => ⟨_, _, rfl, by simp, fun i x hx => ?_⟩⟩
  cases i with
  | zero =>
    simp at hx
    subst hx
    exact cell_atT (heap_alloc_new w _) 0
  | succ i => simp at hx

set_option maxHeartbeats 1000000 in
theorem put_any {w : World} {F : List Nat} {b : Nat} {q : Qs} {l : List UInt8} (hq : QAt w F b q) (hl : l.length ≤ 9223372036854775807) :
    Calls Try.prog 20 #[.pointer (some ⟨b, 0, none⟩), .string (str l)] w fun x w' => x = .returned (.int .i64 (putE q [l])) ∧ Went w w' F b (putQ q [l]) := by
  have HP : Hid (Calls Try.prog 21 #[.pointer (some ⟨b, 0, none⟩), .slice (some ⟨w.heap.size, 0, none⟩) 1 1] (w.alloc (.cells #[.string (str l)] 9)) fun x w' => x = .returned (.int .i64 (putE q [l])) ∧ Went w w' F b (putQ q [l])) :=
    (putAll_any (hq.below ((Below.refl _ _).alloc (Nat.le_refl _) _)) (Strs.one hl) (fun g hg hh => by cases hg; have h9 : w.heap.size < w.heap.size := hq.lt _ hh; omega)).mono fun x w' h => ⟨h.1, Went.trans ((Below.refl _ _).alloc (Nat.le_refl _) _) h.2⟩
  obtain ⟨z, hz⟩ : ∃ z, str l = z := ⟨_, rfl⟩
  rw [hz] at HP ⊢
  clear hq hl hz
  go_enter Try.func20, Try.ntmps20
  go_wp2_with (go_at_call 21; refine HP.out.mono ?_; rintro x w1 ⟨rfl, hw⟩; have HW : Hid (Went w w1 F b (putQ q [l])) := hw; clear hw)
  all_goals go_ret
  all_goals exact ⟨rfl, HW.out⟩

set_option maxHeartbeats 1000000 in
theorem out_any {w : World} {F : List Nat} {b : Nat} {q : Qs} {v : Value} {ls : List (List UInt8)} (p t : Int) (ht : t ≤ 9223372036854775807) (hq : QAt w F b q) (hs : Strs w v ls) (hoff : ∀ g, v.ownBlock = some g → g ∉ F) :
    Calls Try.prog 23 #[.pointer (some ⟨b, 0, none⟩), .int .i64 p, .int .i64 t, v] w fun x w' => x = .returned (.int .i64 (outE q p t ls)) ∧ Went w w' F b (outQ q p t ls) := by
  have HWe : Hid (Went w w F b q) := Went.of hq (Below.refl _ _)
  by_cases hbad : p < 1 ∨ p > 4611686018427387904 ∨ t < 0
  · have HE : Hid (outE q p t ls = 1 ∧ outQ q p t ls = q) := ⟨by unfold outE; rw [if_pos hbad], by unfold outQ; rw [if_pos hbad]⟩
    rw [HE.out.1, HE.out.2]
    obtain ⟨ad, n, cap, rfl, _⟩ := hs.shape
    clear hs hoff hq
    by_cases h1 : p < 1
    · go_enter Try.func23, Try.ntmps23
      go_wp2_with fail
      all_goals go_ret
      all_goals exact ⟨rfl, HWe.out⟩
    · by_cases h2 : p > 4611686018427387904
      · go_enter Try.func23, Try.ntmps23
        go_wp2_with fail
        all_goals go_ret
        all_goals exact ⟨rfl, HWe.out⟩
      · have h3 : t < 0 := by omega
        go_enter Try.func23, Try.ntmps23
        go_wp2_with fail
        all_goals go_ret
        all_goals exact ⟨rfl, HWe.out⟩
  · have hlim := hq.ok.lim
    have HE : Hid (outE q p t ls = layE q (q.lim : Int) 3 ls ∧ outQ q p t ls = layQ q (q.lim : Int) 3 (p, t) ls) := ⟨by unfold outE; rw [if_neg hbad], by unfold outQ; rw [if_neg hbad]⟩
    have ho : OwnOk (p, t) := ⟨by show 0 ≤ p; omega, by show p ≤ _; omega, by show 0 ≤ t; omega, ht, fun hh => by have : p = 0 := hh; omega⟩
    have HL : Hid (Calls Try.prog 34 #[.pointer (some ⟨b, 0, none⟩), .int .i64 (q.lim : Int), .int .i64 3, .agg #[.int .i64 p, .int .i64 t], v] w fun x w' => Laid w w' F b q (q.lim : Int) 3 (p, t) ls x) :=
      layWithin_any hq hs hoff _ 3 p t ho (by decide) (by omega) (by omega) (fun _ h => by omega)
    have HOk : Hid (∀ w', Went0 w w' F b (layQ q (q.lim : Int) 3 (p, t) ls) → Went w w' F b (layQ q (q.lim : Int) 3 (p, t) ls)) := fun w' h => h.ok (by have h := hq.ok.out p t ht ls; rw [HE.out.2] at h; exact h)
    obtain ⟨vb, vp, ps, hraw, _⟩ := hq
    have c0 := hraw.c0
    obtain ⟨ad, n, cap, rfl, _⟩ := hs.shape
    have h1 : ¬ p < 1 := by omega
    have h2 : ¬ p > 4611686018427387904 := by omega
    have h3 : ¬ t < 0 := by omega
    rw [HE.out.1, HE.out.2]
    clear hraw hs hoff hbad ho
    go_enter Try.func23, Try.ntmps23
    go_wp2_with (go_at_call 34; refine HL.out.mono ?_; rintro x w1 ⟨rfl, hw⟩; have HW : Hid (Went w w1 F b (layQ q (q.lim : Int) 3 (p, t) ls)) := HOk.out _ hw; clear hw)
    all_goals go_ret
    all_goals exact ⟨rfl, HW.out⟩

theorem end_lay (q : Qs) (l : List UInt8) (hq : q.Ok) : layE q 9223372036854775807 140 [l] = endE q l ∧ (endE q l = 0 → layQ q 9223372036854775807 140 (0, 0) [l] = ⟨q.lim, q.cl, q.bs ++ (l ++ [10]), q.os ++ List.replicate (l.length + 1) (0, 0)⟩) ∧ (endE q l ≠ 0 → layQ q 9223372036854775807 140 (0, 0) [l] = q) := by
  have h1 := hq.few
  have e1 : layE q 9223372036854775807 140 [l] = endE q l := by
    unfold layE endE
    rw [lines_one, sum_one]
    by_cases hb : lineB l = false
    · rw [if_pos hb, if_pos hb]
    · rw [if_neg hb, if_neg hb]
      have h2 := line_short (l := l) (by cases hh : lineB l <;> simp_all)
      by_cases hc : q.cl = true
      · rw [if_pos hc, if_pos hc]
      · rw [if_neg hc, if_neg hc, if_neg (by omega), if_neg (by omega)]
  refine ⟨e1, fun h => ?_, fun h => ?_⟩
  · unfold layQ
    rw [e1, if_pos h]
    simp [layF, flatF, sum_one]
  · unfold layQ
    rw [e1, if_neg h]

set_option maxHeartbeats 1000000 in
theorem end_any {w : World} {F : List Nat} {b : Nat} {q : Qs} {l : List UInt8} (hq : QAt w F b q) (hl : l.length ≤ 9223372036854775807) :
    Calls Try.prog 24 #[.pointer (some ⟨b, 0, none⟩), .string (str l)] w fun x w' => x = .returned (.int .i64 (endE q l)) ∧ Went w w' F b (endQ q l) := by
  obtain ⟨e1, e2, e3⟩ := end_lay q l hq.ok
  have hok := hq.ok.ende l
  have HOff : Hid (∀ g, (Value.slice (some ⟨w.heap.size, 0, none⟩) 1 1).ownBlock = some g → g ∉ F) := fun g hg hh => by cases hg; have h9 : w.heap.size < w.heap.size := hq.lt _ hh; omega
  have hqb : QAt (w.alloc (.cells #[.string (str l)] 9)) F b q := hq.below ((Below.refl _ _).alloc (Nat.le_refl _) _)
  have HL : Hid (Calls Try.prog 34 #[.pointer (some ⟨b, 0, none⟩), .int .i64 9223372036854775807, .int .i64 140, .agg #[.int .i64 0, .int .i64 0], .slice (some ⟨w.heap.size, 0, none⟩) 1 1] (w.alloc (.cells #[.string (str l)] 9)) fun x w' => x = .returned (.int .i64 (endE q l)) ∧ ∃ F', QIn w' F' b (layQ q 9223372036854775807 140 (0, 0) [l]) ∧ But F w w' ∧ ∀ k ∈ F', k ∈ F ∨ w.heap.size ≤ k) := by
    refine (layWithin_any hqb (Strs.one hl) HOff.out _ 140 0 0 own_zero (by decide) (by decide) (by decide) (fun h _ => ?_)).mono ?_
    · have h1 := line_short (l := l) (by rw [← lines_one]; exact h)
      have h2 := hq.ok.few
      rw [sum_one]
      omega
    · rintro x w' ⟨rfl, F', h1, h2, h3⟩
      rw [e1]
      have hb : Below w.heap.size w (w.alloc (.cells #[.string (str l)] 9)) := (Below.refl _ _).alloc (Nat.le_refl _) _
      exact ⟨rfl, F', h1, But.trans (.of hb) h2, fun k hk => (h3 k hk).imp id fun e => Nat.le_trans hb.size e⟩
  have hqok := hq.ok
  obtain ⟨z, hz⟩ : ∃ z, str l = z := ⟨_, rfl⟩
  rw [hz] at HL ⊢
  obtain ⟨e, he⟩ : ∃ e, endE q l = e := ⟨_, rfl⟩
  have HE : Hid (endE q l = e) := he
  rw [he] at HL e2 e3
  clear hq hqb hz HOff
  by_cases h0 : e = 0
  · subst h0
    have HQ : Hid (endQ q l = ⟨q.lim, true, q.bs ++ (l ++ [10]), q.os ++ List.replicate (l.length + 1) (0, 0)⟩) := by show _ = _; unfold endQ; rw [he, if_pos rfl]
    rw [e2 rfl] at HL
    rw [he]
    rw [HQ.out] at hok ⊢
    have HOk : Hid ((⟨q.lim, true, q.bs ++ (l ++ [10]), q.os ++ List.replicate (l.length + 1) (0, 0)⟩ : Qs).Ok) := hok
    clear hok e2 e3 e1 he
    go_enter Try.func24, Try.ntmps24
    go_wp2_with (go_at_call 34; refine HL.out.mono ?_; rintro x w1 ⟨rfl, F', ⟨vb, vp, ps, hraw, hpos, hspr, rfl⟩, hbut, hfoot⟩; have c1 := hraw.c1; have cf := hraw.free 1; have HFin : Hid (Went w (w1.setCell ⟨b, 1, none⟩ (.bool true)) F b ⟨q.lim, true, q.bs ++ (l ++ [10]), q.os ++ List.replicate (l.length + 1) (0, 0)⟩) := ⟨_, ⟨vb, vp, ps, hraw.shut.1, hpos, hspr, HOk.out, rfl⟩, hbut.chain hraw.shut.2 hfoot, hfoot⟩; clear hraw hpos hspr hbut hfoot)
    all_goals go_ret
    all_goals exact ⟨rfl, HFin.out⟩
  · have HQ : Hid (endQ q l = q) := by show _ = _; unfold endQ; rw [he, if_neg h0]
    rw [e3 h0] at HL
    rw [he, HQ.out]
    have HOk : Hid (∀ w', (∃ F', QIn w' F' b q ∧ But F w w' ∧ ∀ k ∈ F', k ∈ F ∨ w.heap.size ≤ k) → Went w w' F b q) := fun w' h => Went0.ok h hqok
    clear hok e2 e3 e1 he
    go_enter Try.func24, Try.ntmps24
    go_wp2_with (go_at_call 34; refine HL.out.mono ?_; rintro x w1 ⟨rfl, hw⟩; have HFin : Hid (Went w w1 F b q) := HOk.out _ hw; clear hw)
    all_goals go_ret
    all_goals exact ⟨rfl, HFin.out⟩

end Go.Proofs.Ytkpnolkbheoocaa
