/-
  Layouts: deal and stretch of a split, walked.
  Layouts: deal of lines that are given.
  Layouts: stretch of every tree in memory, in place.
-/
import Derived.Test.YtnepemlagnnngaaCSt
import Derived.Test.YtnepemlagnnngaaCJo
namespace Go.Proofs.Ytnepemlagnnngaa
open Go.RowKit
set_option linter.unusedVariables false
set_option maxRecDepth 100000

theorem DealAt.below {w : World} {g : Nat} {b : Box} {k : Int} {sl : Value} {vs : List Value} {fs : List Nat} {B N : Nat} {rs : List Tree} {m : Nat} {i : Nat} {n : Int} {wr X : World} {us : List Tree} (h : DealAt w g b k sl vs fs B N rs m i n wr us) (hb : Below wr.heap.size wr X) : DealAt w g b k sl vs fs B N rs m i n X us := ⟨h.deal, h.at_.below hb, h.small, h.len, h.lt⟩
theorem step_nat (i L : Nat) (hL : 0 < L) (hL2 : L ≤ 1000) (hi : i < L) : IntKind.i64.wrap ((i : Int) + 1) = (i : Int) + 1 ∧ ((i : Int) + 1).tmod L = (((i + 1) % L : Nat) : Int) := by
  refine ⟨by rw [IntKind.wrap_i64]; omega, ?_⟩
  rw [Int.tmod_eq_emod_of_nonneg (by omega)]
  simp
theorem step_val (i L : Nat) : Value.int .i64 (((i : Int) + 1) % (L : Int)) = .int .i64 (((i + 1) % L : Nat) : Int) := by simp

set_option maxHeartbeats 2000000 in
theorem deal_neg (g : Nat) (b : Box) (k : Int) (pg L cap : Nat) (vs : List Value) (fs : List Nat) (B N : Nat) (ts rs : List Tree) (w0 w : World) (m : Nat) (n : Int) (hn : n < 0) (hL : rs.length = L) (hL2 : L ≤ 1000) (hnd : (g :: ((Value.slice (some ⟨pg, 0, none⟩) L cap).ownBlock.toList ++ fs)).Nodup) (IH : ∀ t : Tree, t.size ≤ N → t.Stretches) (h : DealAt w0 g b k (.slice (some ⟨pg, 0, none⟩) L cap) vs fs B N rs m 0 n w ts) :
    Calls Try.prog 137 #[.pointer (some ⟨g, 0, none⟩), .int .i64 n] w fun e w' => e = .returned (.tuple #[]) ∧ StandsX w0 g b k (.slice (some ⟨pg, 0, none⟩) L cap) vs fs B rs w' := by
  have HIH : Hid (∀ t : Tree, t.size ≤ N → t.Stretches) := IH
  have Hnd : Hid ((g :: ((Value.slice (some ⟨pg, 0, none⟩) L cap).ownBlock.toList ++ fs)).Nodup) := hnd
  have HD : Hid (DealAt w0 g b k (.slice (some ⟨pg, 0, none⟩) L cap) vs fs B N rs m 0 n w ts) := h
  have HL : Hid (rs.length = L) := hL
  have HN : Hid (n < 0) := hn
  have hL0 : 0 < L := by have := h.lt; have := h.len; omega
  have h0 : (n < 0) = True := by simp [hn]
  clear h hL hnd IH hn
  go_enter Try.func137, Try.ntmps137
  go_wp2
  clear h0
  go_loopw [1, 5] (fun vn vi wr => DealQ w0 g b k (.slice (some ⟨pg, 0, none⟩) L cap) vs fs B N rs (-1) vn vi wr (leastM (DealQ w0 g b k (.slice (some ⟨pg, 0, none⟩) L cap) vs fs B N rs (-1) vn vi wr))) (fun vn vi wr => leastM (DealQ w0 g b k (.slice (some ⟨pg, 0, none⟩) L cap) vs fs B N rs (-1) vn vi wr))
  case atStart => exact leastM_is ⟨m, 0, n, ts, rfl, rfl, .inr (if_pos HN.out), HD.out⟩
  case round =>
    obtain ⟨i, n, us, rfl, rfl, hs, hD⟩ := hrel
    obtain ⟨M, hM⟩ : ∃ M, leastM (DealQ w0 g b k (.slice (some ⟨pg, 0, none⟩) L cap) vs fs B N rs (-1) (.int .i64 n) (.int .i64 i) wr) = M := ⟨_, rfl⟩
    rw [hM] at hD
    have HM : Hid (leastM (DealQ w0 g b k (.slice (some ⟨pg, 0, none⟩) L cap) vs fs B N rs (-1) (.int .i64 n) (.int .i64 i) wr) = M) := hM
    clear hM
    have r4 := (hD.seen HL.out).kind
    have r5 := (hD.seen HL.out).parts
    by_cases h0 : n = 0
    · subst h0
      have HS : Hid (StandsX w0 g b k (.slice (some ⟨pg, 0, none⟩) L cap) vs fs B rs wr) := by
        rcases deal_cases hD.deal with ⟨_, he⟩ | ⟨_, _, _, he, _⟩ | ⟨_, _, _, _, he, _⟩
        · exact he ▸ hD.at_
        · exact absurd he (by decide)
        · exact absurd rfl he
      clear hD hs
      go_wp2
      exact ⟨rfl, .tuple #[], (by simp [results, Try.results137, go_sem]), rfl, HS.out⟩
    · obtain ⟨m', T, gi, Fx, Fr, r, hm, hO⟩ := deal_next Hnd.out HIH.out hD h0
      have hsn := sg_next n (-1) h0 hs
      have hneg : n < 0 := by
        have := hsn.1
        unfold sg at this
        split at this
        · assumption
        · exact absurd this (by decide)
      have ri := (hD.seen HL.out).row i _ hO.val
      have hi : i < L := by have := hD.lt; have := hD.len; have := HL.out; omega
      have hnn : (n != 0) = true := by simpa using h0
      have m1 := hO.mX
      have m2 := hO.nX
      have m3 := hO.nR
      have m4 := hO.fX
      have m5 := hO.mR
      have m6 := hO.fR
      have hst := step_nat i L hL0 hL2 hi
      have s1 := hst.1
      have s2 := hst.2
      have HcR : Hid (∀ X, Below wr.heap.size wr X → Calls Try.prog Fr #[.pointer (some ⟨gi, 0, none⟩), .int .i64 k] X fun e w' => e = .returned (.int .i64 r) ∧ Below wr.heap.size wr w') := fun X hb => (hO.cR X hb).mono fun e w' h => ⟨h.1, h.2 ▸ hb⟩
      have HK : Hid (∀ X, Below wr.heap.size wr X → X.cell? ⟨g, 4, none⟩ = some (.int .i64 k)) := fun X hb => ((hD.seen HL.out).below hb).kind
      have HQ : Hid (∀ X, Below wr.heap.size wr X → X.cell? ⟨g, 5, none⟩ = some (.slice (some ⟨pg, 0, none⟩) L cap)) := fun X hb => ((hD.seen HL.out).below hb).parts
      have HSk : Hid (r = 0 → ∃ us, DealAt w0 g b k (.slice (some ⟨pg, 0, none⟩) L cap) vs fs B N rs m' ((i + 1) % L) n wr us) := fun h => by have := hO.skip hneg h; rwa [HL.out] at this
      have HGi : Hid (r ≠ 0 → ∀ X, Below wr.heap.size wr X → Calls Try.prog Fx #[.pointer (some ⟨gi, 0, none⟩), .int .i64 k, .int .i64 (-1)] X fun e w' => e = .returned (.tuple #[]) ∧ ∃ us, DealAt w0 g b k (.slice (some ⟨pg, 0, none⟩) L cap) vs fs B N rs m' ((i + 1) % L) (n + 1) w' us) := fun h X hb => by
        have := hO.give (fun _ => h) X hb
        rw [hsn.1, HL.out, show n - -1 = n + 1 by omega] at this
        exact this
      have hw : IntKind.i64.wrap (n + 1) = n + 1 := by have := hO.lim; rw [IntKind.wrap_i64]; omega
      have hs2 : n + 1 = 0 ∨ sg (n + 1) = -1 := by have := hsn.2; rw [hsn.1, show n - -1 = n + 1 by omega] at this; exact this
      have Hs2 : Hid (n + 1 = 0 ∨ sg (n + 1) = -1) := hs2
      have Hs1 : Hid (n = 0 ∨ sg n = -1) := .inr hsn.1
      have Hm : Hid (M = m' + 1) := hm
      clear hO hD hs hst hs2 hm hsn h0 hneg
      by_cases hr : r = 0
      · obtain ⟨us, hN⟩ := HSk.out hr
        have HN2 : Hid (DealAt w0 g b k (.slice (some ⟨pg, 0, none⟩) L cap) vs fs B N rs m' ((i + 1) % L) n wr us) := hN
        subst hr
        clear hN HSk HGi
        go_wp2_with fail
        refine wp_region_qw (fun X => Below wr.heap.size wr X) (by kernel_rfl) (by kernel_rfl) (Below.refl _ _).drew ?_
        repeat (
          refine qw_take (v := ?_) (by rfl) (fun X hX => ?_) ?_
          rotate_left
          · have x4 := HK.out X hX
            go_simp
            all_goals first | with_reducible rfl | with_reducible exact HcR.out X hX
          intro K hK
          go_simp
          refine hK.out _ ?_
          clear hK K)
        refine qw_nil ?_
        intro w4 hB4
        have r5 := HQ.out w4 hB4
        have HN4 : Hid (DealAt w0 g b k (.slice (some ⟨pg, 0, none⟩) L cap) vs fs B N rs m' ((i + 1) % L) n w4 us) := HN2.out.below hB4
        clear hB4 HN2 HK HQ r4 ri
        go_wp2
        rw [step_val]
        exact ⟨leastM_is ⟨m', (i + 1) % L, n, us, rfl, rfl, Hs1.out, HN4.out⟩, Nat.lt_of_le_of_lt (leastM_le ⟨(i + 1) % L, n, us, rfl, rfl, Hs1.out, HN4.out⟩) (by rw [HM.out, Hm.out]; omega)⟩
      · have hr2 : (r == 0) = false := by simpa using hr
        have HG : Hid (∀ X, Below wr.heap.size wr X → Calls Try.prog Fx #[.pointer (some ⟨gi, 0, none⟩), .int .i64 k, .int .i64 (-1)] X fun e w' => e = .returned (.tuple #[]) ∧ ∃ us, DealAt w0 g b k (.slice (some ⟨pg, 0, none⟩) L cap) vs fs B N rs m' ((i + 1) % L) (n + 1) w' us) := HGi.out hr
        clear hr HSk HGi
        go_wp2_with fail
        refine wp_region_qw (fun X => Below wr.heap.size wr X) (by kernel_rfl) (by kernel_rfl) (Below.refl _ _).drew ?_
        repeat (
          refine qw_take (v := ?_) (by rfl) (fun X hX => ?_) ?_
          rotate_left
          · have x4 := HK.out X hX
            go_simp
            all_goals first | with_reducible rfl | with_reducible exact HcR.out X hX
          intro K hK
          go_simp
          refine hK.out _ ?_
          clear hK K)
        refine qw_nil ?_
        intro w4 hB4
        have r4 := HK.out w4 hB4
        have HG4 : Hid (∀ q, Calls Try.prog Fx #[.pointer (some ⟨gi, 0, none⟩), .int .i64 k, .int .i64 (-1)] (w4.drewN q) fun e w' => e = .returned (.tuple #[]) ∧ ∃ us, DealAt w0 g b k (.slice (some ⟨pg, 0, none⟩) L cap) vs fs B N rs m' ((i + 1) % L) (n + 1) w' us) := fun q => HG.out _ (below_drewN hB4 q)
        clear hB4 HG HK HQ HcR r5 ri
        go_wp2_with fail
        refine wp_region_quiet_last 9 _ (by rfl) (by rfl) (by kernel_rfl) (by kernel_rfl) (by kernel_rfl) ?_
        simp only [List.take_succ_cons, List.take_zero]
        repeat (quiet_step ((fail)))
        refine wpQuiet_nil ?_
        intro m7 K hK
        go_simp
        refine (HG4.out m7).mono ?_
        rintro e w5 ⟨rfl, us, hN5⟩
        refine hK _ _ ?_
        clear hK
        clear K
        have HN5 : Hid (DealAt w0 g b k (.slice (some ⟨pg, 0, none⟩) L cap) vs fs B N rs m' ((i + 1) % L) (n + 1) w5 us) := hN5
        have r5 := (hN5.seen HL.out).parts
        clear hN5 r4 HG4
        go_wp2
        rw [step_val]
        exact ⟨leastM_is ⟨m', (i + 1) % L, n + 1, us, rfl, rfl, Hs2.out, HN5.out⟩, Nat.lt_of_le_of_lt (leastM_le ⟨(i + 1) % L, n + 1, us, rfl, rfl, Hs2.out, HN5.out⟩) (by rw [HM.out, Hm.out]; omega)⟩

end Go.Proofs.Ytnepemlagnnngaa

namespace Go.Proofs.Ytnepemlagnnngaa
open Go.RowKit
set_option linter.unusedVariables false
set_option maxRecDepth 100000

set_option maxHeartbeats 2000000 in
theorem deal_pos (g : Nat) (b : Box) (k : Int) (pg L cap : Nat) (vs : List Value) (fs : List Nat) (B N : Nat) (ts rs : List Tree) (w0 w : World) (m : Nat) (n : Int) (hn : 0 ≤ n) (hL : rs.length = L) (hL2 : L ≤ 1000) (hnd : (g :: ((Value.slice (some ⟨pg, 0, none⟩) L cap).ownBlock.toList ++ fs)).Nodup) (IH : ∀ t : Tree, t.size ≤ N → t.Stretches) (h : DealAt w0 g b k (.slice (some ⟨pg, 0, none⟩) L cap) vs fs B N rs m 0 n w ts) :
    Calls Try.prog 137 #[.pointer (some ⟨g, 0, none⟩), .int .i64 n] w fun e w' => e = .returned (.tuple #[]) ∧ StandsX w0 g b k (.slice (some ⟨pg, 0, none⟩) L cap) vs fs B rs w' := by
  have HIH : Hid (∀ t : Tree, t.size ≤ N → t.Stretches) := IH
  have Hnd : Hid ((g :: ((Value.slice (some ⟨pg, 0, none⟩) L cap).ownBlock.toList ++ fs)).Nodup) := hnd
  have HD : Hid (DealAt w0 g b k (.slice (some ⟨pg, 0, none⟩) L cap) vs fs B N rs m 0 n w ts) := h
  have HL : Hid (rs.length = L) := hL
  have HN : Hid (0 ≤ n) := hn
  have hL0 : 0 < L := by have := h.lt; have := h.len; omega
  have h0 : (n < 0) = False := by simp; omega
  clear h hL hnd IH hn
  go_enter Try.func137, Try.ntmps137
  go_wp2
  clear h0
  go_loopw [1, 5] (fun vn vi wr => DealQ w0 g b k (.slice (some ⟨pg, 0, none⟩) L cap) vs fs B N rs 1 vn vi wr (leastM (DealQ w0 g b k (.slice (some ⟨pg, 0, none⟩) L cap) vs fs B N rs 1 vn vi wr))) (fun vn vi wr => leastM (DealQ w0 g b k (.slice (some ⟨pg, 0, none⟩) L cap) vs fs B N rs 1 vn vi wr))
  case atStart => exact leastM_is ⟨m, 0, n, ts, rfl, rfl, .inr (if_neg (by have := HN.out; omega)), HD.out⟩
  case round =>
    obtain ⟨i, n, us, rfl, rfl, hs, hD⟩ := hrel
    obtain ⟨M, hM⟩ : ∃ M, leastM (DealQ w0 g b k (.slice (some ⟨pg, 0, none⟩) L cap) vs fs B N rs 1 (.int .i64 n) (.int .i64 i) wr) = M := ⟨_, rfl⟩
    rw [hM] at hD
    have HM : Hid (leastM (DealQ w0 g b k (.slice (some ⟨pg, 0, none⟩) L cap) vs fs B N rs 1 (.int .i64 n) (.int .i64 i) wr) = M) := hM
    clear hM
    have r4 := (hD.seen HL.out).kind
    have r5 := (hD.seen HL.out).parts
    by_cases h0 : n = 0
    · subst h0
      have HS : Hid (StandsX w0 g b k (.slice (some ⟨pg, 0, none⟩) L cap) vs fs B rs wr) := by
        rcases deal_cases hD.deal with ⟨_, he⟩ | ⟨_, _, _, he, _⟩ | ⟨_, _, _, _, he, _⟩
        · exact he ▸ hD.at_
        · exact absurd he (by decide)
        · exact absurd rfl he
      clear hD hs
      go_wp2
      exact ⟨rfl, .tuple #[], (by simp [results, Try.results137, go_sem]), rfl, HS.out⟩
    · obtain ⟨m', T, gi, Fx, Fr, r, hm, hO⟩ := deal_next Hnd.out HIH.out hD h0
      have hsn := sg_next n 1 h0 hs
      have hpos : 0 < n := by
        have := hsn.1
        unfold sg at this
        split at this
        · exact absurd this (by decide)
        · omega
      have ri := (hD.seen HL.out).row i _ hO.val
      have hi : i < L := by have := hD.lt; have := hD.len; have := HL.out; omega
      have hnn : (n != 0) = true := by simpa using h0
      have m1 := hO.mX
      have m2 := hO.nX
      have m3 := hO.nR
      have m4 := hO.fX
      have m5 := hO.mR
      have m6 := hO.fR
      have hst := step_nat i L hL0 hL2 hi
      have s1 := hst.1
      have s2 := hst.2
      have HcR : Hid (∀ X, Below wr.heap.size wr X → Calls Try.prog Fr #[.pointer (some ⟨gi, 0, none⟩), .int .i64 k] X fun e w' => e = .returned (.int .i64 r) ∧ Below wr.heap.size wr w') := fun X hb => (hO.cR X hb).mono fun e w' h => ⟨h.1, h.2 ▸ hb⟩
      have HK : Hid (∀ X, Below wr.heap.size wr X → X.cell? ⟨g, 4, none⟩ = some (.int .i64 k)) := fun X hb => ((hD.seen HL.out).below hb).kind
      have HQ : Hid (∀ X, Below wr.heap.size wr X → X.cell? ⟨g, 5, none⟩ = some (.slice (some ⟨pg, 0, none⟩) L cap)) := fun X hb => ((hD.seen HL.out).below hb).parts
      have HG : Hid (∀ X, Below wr.heap.size wr X → Calls Try.prog Fx #[.pointer (some ⟨gi, 0, none⟩), .int .i64 k, .int .i64 1] X fun e w' => e = .returned (.tuple #[]) ∧ ∃ us, DealAt w0 g b k (.slice (some ⟨pg, 0, none⟩) L cap) vs fs B N rs m' ((i + 1) % L) (n - 1) w' us) := fun X hb => by
        have := hO.give (fun h => absurd h (by omega)) X hb
        rw [hsn.1, HL.out] at this
        exact this
      have hw : IntKind.i64.wrap (n - 1) = n - 1 := by have := hO.lim; rw [IntKind.wrap_i64]; omega
      have hs2 : n - 1 = 0 ∨ sg (n - 1) = 1 := by have := hsn.2; rw [hsn.1] at this; exact this
      have Hs2 : Hid (n - 1 = 0 ∨ sg (n - 1) = 1) := hs2
      have Hm : Hid (M = m' + 1) := hm
      clear hO hD hs hst hs2 hm hsn h0 hpos HcR m5 m6
      go_wp2_with fail
      refine wp_region_qw (fun X => Below wr.heap.size wr X) (by kernel_rfl) (by kernel_rfl) (Below.refl _ _).drew ?_
      repeat (
        first
        | (refine qw_take (v := ?_) (by rfl) (fun X hX => ?_) ?_
           rotate_left
           · have x4 := HK.out X hX
             go_simp
             all_goals with_reducible rfl
           intro K hK
           go_simp
           refine hK.out _ ?_
           clear hK K)
        | (refine qw_skip (by rfl) ?_
           intro K hK
           go_simp
           refine hK.out _ ?_
           clear hK K))
      refine qw_nil ?_
      intro w4 hB4
      have r4 := HK.out w4 hB4
      have HG4 : Hid (∀ q, Calls Try.prog Fx #[.pointer (some ⟨gi, 0, none⟩), .int .i64 k, .int .i64 1] (w4.drewN q) fun e w' => e = .returned (.tuple #[]) ∧ ∃ us, DealAt w0 g b k (.slice (some ⟨pg, 0, none⟩) L cap) vs fs B N rs m' ((i + 1) % L) (n - 1) w' us) := fun q => HG.out _ (below_drewN hB4 q)
      clear hB4 HG HK HQ r5 ri
      go_wp2_with fail
      refine wp_region_quiet_last 9 _ (by rfl) (by rfl) (by kernel_rfl) (by kernel_rfl) (by kernel_rfl) ?_
      simp only [List.take_succ_cons, List.take_zero]
      repeat (quiet_step ((fail)))
      refine wpQuiet_nil ?_
      intro m7 K hK
      go_simp
      refine (HG4.out m7).mono ?_
      rintro e w5 ⟨rfl, us, hN5⟩
      refine hK _ _ ?_
      clear hK
      clear K
      have HN5 : Hid (DealAt w0 g b k (.slice (some ⟨pg, 0, none⟩) L cap) vs fs B N rs m' ((i + 1) % L) (n - 1) w5 us) := hN5
      have r5 := (hN5.seen HL.out).parts
      clear hN5 r4 HG4
      go_wp2
      rw [step_val]
      exact ⟨leastM_is ⟨m', (i + 1) % L, n - 1, us, rfl, rfl, Hs2.out, HN5.out⟩, Nat.lt_of_le_of_lt (leastM_le ⟨(i + 1) % L, n - 1, us, rfl, rfl, Hs2.out, HN5.out⟩) (by rw [HM.out, Hm.out]; omega)⟩

end Go.Proofs.Ytnepemlagnnngaa

namespace Go.Proofs.Ytnepemlagnnngaa
open Go.RowKit
set_option linter.unusedVariables false
set_option maxRecDepth 100000

theorem deal_len : ∀ (m : Nat) {k : Int} {us : List Tree} {i : Nat} {n : Int} {rs : List Tree}, Deal k m us i n rs → rs.length = us.length
  | 0, k, us, i, n, rs, h => by
    rcases deal_cases h with ⟨_, rfl⟩ | ⟨_, _, h, _⟩ | ⟨_, _, _, h, _⟩
    · rfl
    · cases h
    · cases h
  | m + 1, k, us, i, n, rs, h => by
    rcases deal_cases h with ⟨_, rfl⟩ | ⟨m', _, hm, _, _, _, _, _, _, _, hd⟩ | ⟨m', _, _, hm, _, _, _, _, _, _, _, _, _, hd⟩
    · rfl
    · cases hm
      exact deal_len m hd
    · cases hm
      rw [deal_len m hd, List.length_set]

theorem mixed_get (rs ts : List Tree) (i : Nat) (hl : rs.length = ts.length) (hi : i < ts.length) : (rs.take i ++ ts.drop i)[i]? = ts[i]? := by
  rw [List.getElem?_append_right (by rw [List.length_take]; omega), List.length_take, List.getElem?_drop]
  congr 1
  omega
theorem mixed_set (rs ts : List Tree) (i : Nat) (r : Tree) (hl : rs.length = ts.length) (hr : rs[i]? = some r) : (rs.take i ++ ts.drop i).set i r = rs.take (i + 1) ++ ts.drop (i + 1) := by
  have hi : i < rs.length := (List.getElem?_eq_some_iff.1 hr).1
  have h1 : ts.drop i = ts[i] :: ts.drop (i + 1) := List.drop_eq_getElem_cons (by omega)
  have h2 : rs.take (i + 1) = rs.take i ++ [r] := by
    rw [List.take_add_one, hr]
    rfl
  rw [h1, h2, List.set_append_right _ _ (by rw [List.length_take]; omega), List.length_take, show i - min i rs.length = 0 by omega, List.set_cons_zero, List.append_assoc]
  rfl

theorem deal_all (g : Nat) (b : Box) (k : Int) (pg L cap : Nat) (vs : List Value) (fs : List Nat) (B N : Nat) (ts rs : List Tree) (w0 w : World) (m : Nat) (n : Int) (hL : rs.length = L) (hL2 : L ≤ 1000) (hnd : (g :: ((Value.slice (some ⟨pg, 0, none⟩) L cap).ownBlock.toList ++ fs)).Nodup) (IH : ∀ t : Tree, t.size ≤ N → t.Stretches) (h : DealAt w0 g b k (.slice (some ⟨pg, 0, none⟩) L cap) vs fs B N rs m 0 n w ts) :
    Calls Try.prog 137 #[.pointer (some ⟨g, 0, none⟩), .int .i64 n] w fun e w' => e = .returned (.tuple #[]) ∧ StandsX w0 g b k (.slice (some ⟨pg, 0, none⟩) L cap) vs fs B rs w' := by
  by_cases hn : n < 0
  · exact deal_neg g b k pg L cap vs fs B N ts rs w0 w m n hn hL hL2 hnd IH h
  · exact deal_pos g b k pg L cap vs fs B N ts rs w0 w m n (by omega) hL hL2 hnd IH h

theorem standsX_start {w w' : World} {g : Nat} {b' : Box} {k : Int} {sl : Value} {vs : List Value} {fs : List Nat} {B : Nat} {ts : List Tree} (hR : w.ownsRow B 56 1 sl vs.length vs) (hP : partsAt w B ts vs fs) (hnd : (g :: (sl.ownBlock.toList ++ fs)).Nodup) (h1 : SplitAt w' g b' k sl) (h2 : w.grownBy w' (some g)) : StandsX w g b' k sl vs fs B ts w' := by
  have hb := But.grown h2
  have hnd' := List.nodup_cons.1 hnd
  refine ⟨h1, own_kept hR fun q hq => hb.block q (own_lt hR q hq) ?_, hP.but hb fun q hq e => ?_, hb.mono (by simp)⟩
  · simp only [List.mem_cons, List.not_mem_nil, or_false]
    intro e
    exact hnd'.1 (List.mem_append_left _ (e ▸ hq))
  · simp only [List.mem_cons, List.not_mem_nil, or_false] at e
    exact hnd'.1 (List.mem_append_right _ (e ▸ hq))

set_option maxHeartbeats 1000000 in
theorem stretch_split (g : Nat) (b : Box) (k : Int) (sl : Value) (vs : List Value) (fs : List Nat) (ts : List Tree) (B N : Nat) (w : World) (j n : Int) (t' : Tree) (hS : SplitAt w g b k sl) (hR : w.ownsRow B 56 1 sl vs.length vs) (hP : partsAt w B ts vs fs) (hnd : (g :: (sl.ownBlock.toList ++ fs)).Nodup) (IH : ∀ t : Tree, t.size ≤ N → t.Stretches) (hN : sizes ts ≤ N) (hst : Str (.split b k ts) j n t') :
    ∃ rs, t' = .split (b.str j n) k rs ∧ Calls Try.prog 141 #[.pointer (some ⟨g, 0, none⟩), .int .i64 j, .int .i64 n] w fun e w' => e = .returned (.tuple #[]) ∧ StandsX w g (b.str j n) k sl vs fs B rs w' := by
  have hok := hst.ok
  have hs := hok.sound
  have hsd := (Tree.split b k ts).sound_sides hs
  change (1 ≤ b.w ∧ b.w ≤ 1000) ∧ (1 ≤ b.h ∧ b.h ≤ 1000) at hsd
  have hlo := hok.low
  have hhi := hok.high
  unfold Tree.sound at hs
  simp only [Bool.and_eq_true, decide_eq_true_eq] at hs
  have h2 := hs.1.1
  have hvl := hP.length
  have hsz : sizes ts ≤ 900 := by
    have := hok.size
    change 1 + sizes ts ≤ 900 at this
    omega
  have hll := length_sizes ts
  obtain ⟨pg, cap, hsl, hseen⟩ := seen_of hS hR (by intro e; rw [e] at hvl; simp at hvl; omega)
  rw [hvl] at hsl
  obtain ⟨L, hL⟩ : ∃ L, ts.length = L := ⟨_, rfl⟩
  rw [hL] at hsl hll h2
  have hL9 : L ≤ 900 := by omega
  have HB : Hid (Calls Try.prog 30 #[.pointer (some ⟨g, 0, none⟩), .int .i64 j, .int .i64 n] w fun e w' => e = .returned (.tuple #[]) ∧ StandsX w g (b.str j n) k sl vs fs B ts w') := (split_stretches g b k sl j n w hS (by omega) (by omega) (by omega)).mono fun e w' h => ⟨h.1, standsX_start hR hP hnd h.2.1 h.2.2⟩
  have HS5 : Hid (∀ us wr, us.length = L → StandsX w g (b.str j n) k sl vs fs B us wr → Seen wr g k sl pg vs) := fun us wr hu h => by
    subst hsl
    exact h.seen hu (by omega)
  subst hsl
  have Hnd : Hid ((g :: ((Value.slice (some ⟨pg, 0, none⟩) L cap).ownBlock.toList ++ fs)).Nodup) := hnd
  have HIH : Hid (∀ t : Tree, t.size ≤ N → t.Stretches) := IH
  have HL : Hid (ts.length = L) := hL
  cases hst with
  | across _ _ _ _ _ rs _ hne hlen heach =>
    refine ⟨rs, rfl, ?_⟩
    have hjk : (j == k) = false := by simpa using hne
    have HE : Hid (∀ (i : Nat) (t r : Tree), ts[i]? = some t → rs[i]? = some r → Str t j n r) := heach
    have HLr : Hid (rs.length = L) := hlen.trans hL
    have HNn : Hid (sizes ts ≤ N) := hN
    clear hS hR hP hnd IH hok hs hsd hvl hsz hseen hL heach hlen hne hlo hhi hN
    go_enter Try.func141, Try.ntmps141
    go_wp2_with (go_at_call 30; refine HB.out.mono ?_; rintro e w1 ⟨rfl, hm⟩; have HM1 : Hid (StandsX w g (b.str j n) k (.slice (some ⟨pg, 0, none⟩) L cap) vs fs B ts w1) := hm; have c4 := (HS5.out ts w1 HL.out hm).kind; have c5 := (HS5.out ts w1 HL.out hm).parts; clear hm)
    go_loopw [28] (fun v wr => ∃ i : Nat, i ≤ L ∧ v = .int .i64 i ∧ Hid (StandsX w g (b.str j n) k (.slice (some ⟨pg, 0, none⟩) L cap) vs fs B (rs.take i ++ ts.drop i) wr)) (fun v _ => L - (intOf v).toNat)
    case atStart => exact ⟨0, Nat.zero_le _, rfl, by rw [List.take_zero, List.drop_zero]; exact HM1⟩
    case round =>
      obtain ⟨i, hi, rfl, HMr⟩ := hrel
      clear c4 c5 HM1
      by_cases hlt : i < L
      · obtain ⟨t, ht⟩ : ∃ t, ts[i]? = some t := ⟨_, List.getElem?_eq_getElem (by rw [HL.out]; exact hlt)⟩
        obtain ⟨r, hr⟩ : ∃ r, rs[i]? = some r := ⟨_, List.getElem?_eq_getElem (by rw [HLr.out]; exact hlt)⟩
        have hml : (rs.take i ++ ts.drop i).length = L := by
          have h1 := HL.out
          have h2 := HLr.out
          rw [List.length_append, List.length_take, List.length_drop]
          omega
        have hmg : (rs.take i ++ ts.drop i)[i]? = some t := (mixed_get rs ts i (by rw [HL.out, HLr.out]) (by rw [HL.out]; exact hlt)).trans ht
        obtain ⟨v, f, e1, e2, e3, e4⟩ := HMr.out.one Hnd.out hmg
        obtain ⟨T, gi, Fx, hX⟩ := HIH.out t (by have := sizes_at ts i t ht; have := HNn.out; omega) B v f wr e2 e3
        have hv := hX.val
        subst hv
        have ri := (HS5.out _ wr hml HMr.out).row i _ e1
        have m1 := hX.mX
        have m4 := hX.fX
        have HC : Hid (Calls Try.prog Fx #[.pointer (some ⟨gi, 0, none⟩), .int .i64 j, .int .i64 n] wr fun e w' => e = .returned (.tuple #[]) ∧ StandsX w g (b.str j n) k (.slice (some ⟨pg, 0, none⟩) L cap) vs fs B (rs.take (i + 1) ++ ts.drop (i + 1)) w') := (hX.cX wr j n r e2 (HE.out i t r ht hr)).mono fun e w' h => ⟨h.1, by rw [← mixed_set rs ts i r (by rw [HL.out, HLr.out]) hr]; exact e4 r w' h.2.1 h.2.2⟩
        clear hX e1 e2 e3 e4 hmg hml ht hr HMr
        go_wp2_with fail
        refine HC.out.mono ?_
        rintro e w2 ⟨rfl, hM2⟩
        have HM2 : Hid (StandsX w g (b.str j n) k (.slice (some ⟨pg, 0, none⟩) L cap) vs fs B (rs.take (i + 1) ++ ts.drop (i + 1)) w2) := hM2
        clear hM2 HC
        go_wp2
        go_roundw
        case rel => exact ⟨i + 1, by omega, by go_num, HM2⟩
        case measure => simp [intOf]; omega
      · have hin : i = L := by omega
        subst hin
        have HMe : Hid (StandsX w g (b.str j n) k (.slice (some ⟨pg, 0, none⟩) i cap) vs fs B rs wr) := by
          have h := HMr.out
          rw [List.take_of_length_le (by rw [HLr.out]; exact Nat.le_refl _), List.drop_eq_nil_of_le (by rw [HL.out]; exact Nat.le_refl _), List.append_nil] at h
          exact h
        clear HMr
        go_wp2
        exact ⟨rfl, .tuple #[], (by simp [results, Try.results141, go_sem]), rfl, HMe.out⟩
  | along _ _ _ _ m rs _ hd =>
    refine ⟨rs, rfl, ?_⟩
    have hlr := deal_len m hd
    have HD : Hid (∀ w1, StandsX w g (b.str k n) k (.slice (some ⟨pg, 0, none⟩) L cap) vs fs B ts w1 → Calls Try.prog 137 #[.pointer (some ⟨g, 0, none⟩), .int .i64 n] w1 fun e w' => e = .returned (.tuple #[]) ∧ StandsX w g (b.str k n) k (.slice (some ⟨pg, 0, none⟩) L cap) vs fs B rs w') := by
      intro w1 h1
      refine deal_all g (b.str k n) k pg L cap vs fs B N ts rs w w1 m n (by omega) (by omega) hnd IH ⟨hd, h1, ?_, by omega, by omega⟩
      intro t ht
      obtain ⟨i, hi⟩ := List.getElem?_of_mem ht
      have := sizes_at ts i t hi
      omega
    clear hS hR hP hnd IH hok hs hsd hvl hsz hseen hL hd hlr hlo hhi hN
    go_enter Try.func141, Try.ntmps141
    go_wp2_with (go_at_call 30; refine HB.out.mono ?_; rintro e w1 ⟨rfl, hm⟩; have HM1 : Hid (StandsX w g (b.str k n) k (.slice (some ⟨pg, 0, none⟩) L cap) vs fs B ts w1) := hm; have c4 := (HS5.out ts w1 HL.out hm).kind; clear hm)
    refine (HD.out _ HM1.out).mono ?_
    rintro e w2 ⟨rfl, hM2⟩
    have HM2 : Hid (StandsX w g (b.str k n) k (.slice (some ⟨pg, 0, none⟩) L cap) vs fs B rs w2) := hM2
    clear hM2
    go_wp2
    exact ⟨rfl, .tuple #[], (by simp [results, Try.results141, go_sem]), rfl, HM2.out⟩

/-- Every tree in memory can be stretched in place. -/
theorem stretches_all : ∀ (N : Nat) (t : Tree), t.size ≤ N → t.Stretches := by
  intro N
  induction N with
  | zero =>
    intro t ht
    have := t.size_pos
    omega
  | succ N ih =>
    intro t ht B v fp W h hnd
    cases t with
    | leaf b p =>
      obtain ⟨g, rfl, h2, rfl⟩ := h
      refine ⟨_, g, _, { val := rfl, mX := l_stretch g, nX := l_nX g, nR := l_nR g, fX := l_fX, cX := fun X j n t' hX hst => ?_ }⟩
      obtain ⟨g', e, h3, e'⟩ := hX
      cases e
      have hok := hst.ok
      have hsd := (Tree.leaf b p).sound_sides hok.sound
      change (1 ≤ b.w ∧ b.w ≤ 1000) ∧ (1 ≤ b.h ∧ b.h ≤ 1000) at hsd
      have hlo := hok.low
      have hhi := hok.high
      cases hst with
      | leaf _ _ _ _ _ => exact (leaf_stretches g b p j n X h3 (by omega) (by omega) (by omega)).mono fun e w' h4 => ⟨h4.1, ⟨g, rfl, h4.2.1, rfl⟩, But.grown h4.2.2⟩
    | split b k ts =>
      obtain ⟨g, sl, vs, fs, rfl, h2, h3, h4, rfl⟩ := h
      change 1 + sizes ts ≤ N + 1 at ht
      refine ⟨_, g, _, { val := rfl, mX := s_stretch g, nX := s_nX g, nR := s_nR g, fX := s_fX, cX := fun X j n t' hX hst => ?_ }⟩
      obtain ⟨g', sl', vs', fs', e, k2, k3, k4, e'⟩ := hX
      cases e
      have hnd' := hnd
      rw [e'] at hnd'
      obtain ⟨rs, rfl, hc⟩ := stretch_split g b k sl' vs' fs' ts B N X j n t' k2 k3 k4 hnd' ih (by omega) hst
      refine hc.mono fun e w' h5 => ⟨h5.1, ⟨g, sl', vs', fs', rfl, h5.2.own, h5.2.row, h5.2.parts, e'⟩, h5.2.but.mono fun q hq => ?_⟩
      rw [e']
      rcases List.mem_cons.1 hq with rfl | hq
      · exact List.mem_cons_self
      · exact List.mem_cons_of_mem _ (List.mem_append_right _ hq)
theorem Tree.stretches (t : Tree) : t.Stretches := stretches_all t.size t (Nat.le_refl _)

end Go.Proofs.Ytnepemlagnnngaa
