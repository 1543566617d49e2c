/-
  Layouts: the document's Beside.
  Layouts: the law of Beside.
-/
import Derived.Test.YtlaelkcmeaiajaaCBc
import Derived.Test.YtlaelkcmeaiajaaCOp
namespace Go.Proofs.Ytlaelkcmeaiajaa
open Go.RowKit
set_option linter.unusedVariables false
set_option maxRecDepth 100000

set_option maxHeartbeats 4000000 in
theorem bes_ref (v : Value) (l : List CellV) (pane side y : Int) (b : Bool) (w : World) (h : CellsIn w v l) (hI : BesIs l pane side y b) : Calls Try.prog 7 #[v, .int .i64 pane, .int .i64 side] w fun e w' => e = .returned (.tuple #[.int .i64 y, .bool b]) ∧ Below w.heap.size w w' := by
  obtain ⟨i, c, b1, hF, hR⟩ := hI
  have HF : Hid (Calls Try.prog 17 #[v, .int .i64 pane] w fun x w' => x = .returned (.tuple #[.int .i64 (i : Int), .bool b1]) ∧ Below w.heap.size w w') := find_ref v l pane i c b1 w h hF
  rcases hR with ⟨rfl, rfl, rfl⟩ | ⟨rfl, wh, i2, c2, hwh, hI2, hy⟩
  · clear h hF
    go_enter Try.func7, Try.ntmps7
    go_wp2_with fail
    refine HF.out.mono ?_
    rintro e w1 ⟨rfl, hb⟩
    go_wp2
    go_ret2
    exact ⟨rfl, hb⟩
  · obtain ⟨hs, hfc⟩ : (readF l).isSome = true ∧ FC l (isPane (hasId pane)) i c := by
      rcases hF with ⟨_, _, h⟩ | ⟨_, _, _, h⟩ | ⟨h1, h2, _⟩
      · cases h
      · cases h
      · exact ⟨h1, h2⟩
    obtain ⟨W0, H0, hW0, hH0, hwh0, hin⟩ := lay_within hs
    obtain ⟨e1, e2⟩ := hwh0 wh hwh
    rw [← e1, ← e2] at hin
    obtain ⟨hl63, hne⟩ := read_len hs
    obtain ⟨bk, off, cap, ev, _, hse⟩ := h.seen hne
    obtain ⟨n, hn⟩ : ∃ n, l.length = n := ⟨_, rfl⟩
    have hi : i < n := by have := (List.getElem?_eq_some_iff.1 hfc.1).1; omega
    have h0 : 0 < n := by omega
    have hnd : (idsOf l).Nodup := by
      cases hr : readF l with
      | none => rw [hr] at hs; cases hs
      | some t => exact (lay_ids hr).2.2.2.1
    have hc1 : c.kind = 1 ∧ c.p = pane := by
      have := hfc.2.1
      unfold isPane hasId at this
      simpa using this
    have HId : Hid (∀ (j : Nat) z, l[j]? = some z → z.kind = 1 → ((z.p != pane) = decide (j ≠ i))) := fun j z hz hk => by
      by_cases e : j = i
      · subst e
        have := hfc.1
        rw [hz] at this
        cases this
        rw [hc1.2]
        simp
      · have hpp : z.p ≠ pane := fun e' => e (ids_inj l hnd j i z c hz hfc.1 hk hc1.1 (e'.trans hc1.2.symm))
        simp [e, hpp]
    have HEq : Hid (∀ (j : Nat) z, l[j]? = some z → j = i → z = c) := fun j z hz e => by
      subst e
      have := hfc.1
      rw [hz] at this
      cases this
      rfl
    have HTo : Hid (∀ (j : Nat) z X, l[j]? = some z → Calls Try.prog 18 #[.agg #[.int .i64 c.depth, .int .i64 c.kind, .int .i64 c.x, .int .i64 c.y, .int .i64 c.w, .int .i64 c.h, .int .i64 c.p], .agg #[.int .i64 z.depth, .int .i64 z.kind, .int .i64 z.x, .int .i64 z.y, .int .i64 z.w, .int .i64 z.h, .int .i64 z.p], .int .i64 side, .int .i64 wh.w, .int .i64 wh.h] X fun e w' => e = .returned (.bool (liesB c z wh.w wh.h side)) ∧ Below X.heap.size X w') := fun j z X hz => touch_any c z wh.w wh.h side X (hin c (List.mem_of_getElem? hfc.1)) (hin z (List.mem_of_getElem? hz)) (by omega) (by omega)
    have HSeen : Hid (∀ (j : Nat) z, l[j]? = some z → ∀ X, Below w.heap.size w X → HeadIn X bk (off + i * 7) c ∧ HeadIn X bk (off + j * 7) z ∧ HeadIn X bk off wh) := fun j z hz X hX => ⟨(hse.below hX) i c hfc.1, (hse.below hX) j z hz, by have := (hse.below hX) 0 wh hwh; rwa [show off + 0 * 7 = off by omega] at this⟩
    have HI : Hid (FindIs l (isPane (besB pane c wh.w wh.h side)) i2 c2 b) := hI2
    have HS : Hid ((readF l).isSome = true) := hs
    have HN : Hid (l.length = n) := hn
    have HYy : Hid (y = if b = true then c2.p else 0) := hy
    rw [hn] at ev hl63
    subst ev
    clear h hF hs hfc hW0 hH0 hwh0 hin e1 e2 hne hse hn hI2 hwh hy hnd hc1
    have hdi : decide ((i : Int) < (n : Int)) = true := decide_eq_true (by omega)
    have hd0 : decide ((0 : Int) < (n : Int)) = true := decide_eq_true (by omega)
    go_enter Try.func7, Try.ntmps7
    go_wp2_with fail
    refine HF.out.mono ?_
    rintro e w1 ⟨rfl, hb⟩
    have HB1 : Hid (Below w.heap.size w w1) := hb
    clear hb HF
    go_wp2
    go_loopw [10] (fun v wr => ∃ j : Nat, j ≤ n ∧ v = .int .i64 j ∧ Hid (∀ (a : Nat) d, a < j → l[a]? = some d → isPane (besB pane c wh.w wh.h side) d = false) ∧ Hid (Below w.heap.size w wr)) (fun v _ => n - (intOf v).toNat)
    case atStart => exact ⟨0, Nat.zero_le _, rfl, fun a d ha => by omega, HB1⟩
    case round =>
      obtain ⟨j, hj, rfl, HJ, HBr⟩ := hrel
      by_cases hlt : j < n
      · obtain ⟨z, hz⟩ : ∃ z, l[j]? = some z := ⟨_, List.getElem?_eq_getElem (by rw [HN.out]; exact hlt)⟩
        have HSe : Hid (∀ X, Below w.heap.size w X → HeadIn X bk (off + i * 7) c ∧ HeadIn X bk (off + j * 7) z ∧ HeadIn X bk off wh) := HSeen.out j z hz
        have HY : Hid (l[j]? = some z) := hz
        obtain ⟨R, hR⟩ : ∃ r, liesB c z wh.w wh.h side = r := ⟨_, rfl⟩
        have HC : Hid (∀ X, Below w.heap.size w X → Calls Try.prog 18 #[.agg #[.int .i64 c.depth, .int .i64 c.kind, .int .i64 c.x, .int .i64 c.y, .int .i64 c.w, .int .i64 c.h, .int .i64 c.p], .agg #[.int .i64 z.depth, .int .i64 z.kind, .int .i64 z.x, .int .i64 z.y, .int .i64 z.w, .int .i64 z.h, .int .i64 z.p], .int .i64 side, .int .i64 wh.w, .int .i64 wh.h] X fun e w' => e = .returned (.bool R) ∧ Below w.heap.size w w') := fun X hX => (HTo.out j z X hz).mono fun e w' k => ⟨by rw [k.1, hR], below_step hX k.2⟩
        have HBes : Hid (isPane (besB pane c wh.w wh.h side) z = (decide (z.kind = 1) && ((z.p != pane) && R))) := by show _ = _; unfold isPane besB; rw [hR]
        have HIdz : Hid (z.kind = 1 → ((z.p != pane) = decide (j ≠ i))) := HId.out j z hz
        have HNx : Hid (isPane (besB pane c wh.w wh.h side) z = false → ∀ (a : Nat) d, a < j + 1 → l[a]? = some d → isPane (besB pane c wh.w wh.h side) d = false) := fun hq a d ha hd => by
          by_cases e : a = j
          · subst e; rw [HY.out] at hd; cases hd; exact hq
          · exact HJ.out a d (by omega) hd
        have hd : decide ((j : Int) < (n : Int)) = true := decide_eq_true (by omega)
        have hdj : decide (j < n) = true := decide_eq_true hlt
        clear hz hR
        by_cases hk : z.kind = 1
        · have hk' : (z.kind == 1) = true := by simpa using hk
          by_cases hji : j = i
          · have HQ : Hid (isPane (besB pane c wh.w wh.h side) z = false) := by show _ = _; rw [HBes.out, HIdz.out hk]; simp [hji]
            have hzc : z = c := HEq.out j z HY.out hji
            subst hji hzc
            have hne' : ((j : Int) != (j : Int)) = false := by simp
            clear hk
            go_wp2_with fail
            refine wp_region_qw (fun X => Below w.heap.size w X) (by kernel_rfl) (by kernel_rfl) HBr.out.drew ?_
            repeat (first
              | (refine qw_take (v := ?_) (by rfl) (fun X hX => ?_) ?_
                 rotate_left
                 · obtain ⟨⟨x0, x1, x2, x3, x4, x5, x6⟩, ⟨y0, y1, y2, y3, y4, y5, y6⟩, ⟨z0, z1, z2, z3, z4, z5, z6⟩⟩ := HSe.out X hX
                   go_simp
                   all_goals first
                     | with_reducible rfl
                     | with_reducible exact HC.out X hX
                 intro K hK
                 go_simp
                 try simp only [hd, hdj, hdi, hd0, hk', hne']
                 refine hK.out _ ?_
                 clear hK K)
              | (refine qw_skip (by rfl) ?_
                 intro K hK
                 go_simp
                 refine hK.out _ ?_
                 clear hK K))
            refine qw_nil ?_
            intro w2 hB2
            have HB2 : Hid (Below w.heap.size w w2) := hB2
            clear hB2
            go_wp2
            go_roundw
            case rel => exact ⟨j + 1, by omega, by go_num, HNx.out HQ.out, HB2⟩
            case measure => simp [intOf]; omega
          · have HQR : Hid (isPane (besB pane c wh.w wh.h side) z = R) := by show _ = _; rw [HBes.out, HIdz.out hk]; simp [hji, hk]
            have hne' : ((j : Int) != (i : Int)) = true := by simp; omega
            clear hk
            cases R
            · have HQ : Hid (isPane (besB pane c wh.w wh.h side) z = false) := HQR.out
              go_wp2_with fail
              refine wp_region_qw (fun X => Below w.heap.size w X) (by kernel_rfl) (by kernel_rfl) HBr.out.drew ?_
              repeat (first
                | (refine qw_take (v := ?_) (by rfl) (fun X hX => ?_) ?_
                   rotate_left
                   · obtain ⟨⟨x0, x1, x2, x3, x4, x5, x6⟩, ⟨y0, y1, y2, y3, y4, y5, y6⟩, ⟨z0, z1, z2, z3, z4, z5, z6⟩⟩ := HSe.out X hX
                     go_simp
                     all_goals first
                       | with_reducible rfl
                       | with_reducible exact HC.out X hX
                   intro K hK
                   go_simp
                   try simp only [hd, hdj, hdi, hd0, hk', hne']
                   refine hK.out _ ?_
                   clear hK K)
                | (refine qw_skip (by rfl) ?_
                   intro K hK
                   go_simp
                   refine hK.out _ ?_
                   clear hK K))
              refine qw_nil ?_
              intro w2 hB2
              have HB2 : Hid (Below w.heap.size w w2) := hB2
              clear hB2
              go_wp2
              go_roundw
              case rel => exact ⟨j + 1, by omega, by go_num, HNx.out HQ.out, HB2⟩
              case measure => simp [intOf]; omega
            · have HH : Hid (j = i2 ∧ z = c2 ∧ b = true) := HI.out.at_hit HS.out ⟨HY.out, HQR.out, HJ.out⟩
              have HP : Hid (z.p = y) := by
                show _ = _
                rw [HYy.out, HH.out.2.2, HH.out.2.1]
                rfl
              go_wp2_with fail
              refine wp_region_qw (fun X => Below w.heap.size w X) (by kernel_rfl) (by kernel_rfl) HBr.out.drew ?_
              repeat (first
                | (refine qw_take (v := ?_) (by rfl) (fun X hX => ?_) ?_
                   rotate_left
                   · obtain ⟨⟨x0, x1, x2, x3, x4, x5, x6⟩, ⟨y0, y1, y2, y3, y4, y5, y6⟩, ⟨z0, z1, z2, z3, z4, z5, z6⟩⟩ := HSe.out X hX
                     go_simp
                     all_goals first
                       | with_reducible rfl
                       | with_reducible exact HC.out X hX
                   intro K hK
                   go_simp
                   try simp only [hd, hdj, hdi, hd0, hk', hne']
                   refine hK.out _ ?_
                   clear hK K)
                | (refine qw_skip (by rfl) ?_
                   intro K hK
                   go_simp
                   refine hK.out _ ?_
                   clear hK K))
              refine qw_nil ?_
              intro w2 hB2
              have HB2 : Hid (Below w.heap.size w w2) := hB2
              clear hB2
              obtain ⟨_, ⟨z0, z1, z2, z3, z4, z5, z6⟩, _⟩ := HSe.out w2 HB2.out
              go_wp2
              go_ret2
              exact ⟨by rw [HH.out.2.2, ← HP.out]; rfl, HB2.out⟩
        · have hk' : (z.kind == 1) = false := by simpa using hk
          have hne' : True := trivial
          have HQ : Hid (isPane (besB pane c wh.w wh.h side) z = false) := by show _ = _; rw [HBes.out]; simp [hk]
          clear hk
          go_wp2_with fail
          refine wp_region_qw (fun X => Below w.heap.size w X) (by kernel_rfl) (by kernel_rfl) HBr.out.drew ?_
          repeat (first
            | (refine qw_take (v := ?_) (by rfl) (fun X hX => ?_) ?_
               rotate_left
               · obtain ⟨⟨x0, x1, x2, x3, x4, x5, x6⟩, ⟨y0, y1, y2, y3, y4, y5, y6⟩, ⟨z0, z1, z2, z3, z4, z5, z6⟩⟩ := HSe.out X hX
                 go_simp
                 all_goals first
                   | with_reducible rfl
                   | with_reducible exact HC.out X hX
               intro K hK
               go_simp
               try simp only [hd, hdj, hdi, hd0, hk', hne']
               refine hK.out _ ?_
               clear hK K)
            | (refine qw_skip (by rfl) ?_
               intro K hK
               go_simp
               refine hK.out _ ?_
               clear hK K))
          refine qw_nil ?_
          intro w2 hB2
          have HB2 : Hid (Below w.heap.size w w2) := hB2
          clear hB2
          go_wp2
          go_roundw
          case rel => exact ⟨j + 1, by omega, by go_num, HNx.out HQ.out, HB2⟩
          case measure => simp [intOf]; omega
      · have HE : Hid (i2 = 0 ∧ b = false) := HI.out.at_miss HS.out fun a d hd => HJ.out a d (by have := (List.getElem?_eq_some_iff.1 hd).1; rw [HN.out] at this; omega) hd
        have HY0 : Hid (y = 0) := by show _ = _; rw [HYy.out, HE.out.2]; rfl
        go_wp2
        go_ret2
        exact ⟨by rw [HE.out.2, HY0.out]; rfl, HBr.out⟩

end Go.Proofs.Ytlaelkcmeaiajaa

namespace Go.Proofs.Ytlaelkcmeaiajaa
open Go.RowKit
set_option linter.unusedVariables false
set_option maxRecDepth 100000

set_option maxHeartbeats 1000000 in
theorem besides_walk (v : Value) (l : List CellV) (pane side : Int) (w : World) (hv : CellsIn w v l) (hnil : v = .slice none 0 0 ∨ ∃ a n c, v = .slice (some a) n c) (hlen : l.length * 56 ≤ 140737488351232) : Calls Try.prog 3 #[v, .int .i64 pane, .int .i64 side] w fun x w' => x = .returned (.bool true) ∧ Below w.heap.size w w' := by
  obtain ⟨y, e, hN⟩ := bes_ex l pane side
  have HTw : Hid (Calls Try.prog 5 #[v] w fun e w' => ∃ g cap, e = .returned (.slice (some ⟨g, 0, none⟩) l.length cap) ∧ TwinAt w' g cap l ∧ w.heap.size ≤ g ∧ Below w.heap.size w w') := twin_any v l w hv hnil hlen
  have HP : Hid (∀ u X, CellsIn X u l → Calls Try.prog 6 #[u, .int .i64 pane, .int .i64 side] X fun x w' => x = .returned (.tuple #[.int .i64 y, .bool e]) ∧ Below X.heap.size X w') := fun u X hX => bes_prog u l pane side y e X hX hN
  have HR : Hid (∀ X, Below w.heap.size w X → Calls Try.prog 7 #[v, .int .i64 pane, .int .i64 side] X fun x w' => x = .returned (.tuple #[.int .i64 y, .bool e]) ∧ Below X.heap.size X w') := fun X hX => bes_ref v l pane side y e X (hv.below hX) hN
  have HW : Hid (∀ W, Calls Try.prog 8 #[] W fun e w' => e = .returned (.bool true) ∧ Below W.heap.size W w') := works_true
  have HK : Hid (∀ g cap X, TwinAt X g cap l → Below w.heap.size w X → Calls Try.prog 9 #[.slice (some ⟨g, 0, none⟩) l.length cap, v] X fun e w' => e = .returned (.bool true) ∧ Below X.heap.size X w') := fun g cap X hT hX => kept_any v g cap l X hT (hv.below hX) hlen
  obtain ⟨L, hL⟩ : ∃ L, l.length = L := ⟨_, rfl⟩
  rw [hL] at HTw HK
  have HL : Hid (l.length = L) := hL
  clear hv hnil hlen hN hL
  go_enter Try.func3, Try.ntmps3
  go_wp2_with fail
  refine HTw.out.mono ?_
  rintro x w1 ⟨g, cap, rfl, hT, _, hb1⟩
  have H1 : Hid (TwinAt w1 g cap l ∧ Below w.heap.size w w1) := ⟨hT, hb1⟩
  have HP1 : Hid (Calls Try.prog 6 #[.slice (some ⟨g, 0, none⟩) L cap, .int .i64 pane, .int .i64 side] w1 fun x w' => x = .returned (.tuple #[.int .i64 y, .bool e]) ∧ Below w1.heap.size w1 w') := HP.out _ w1 (by have := hT.cellsIn; rw [HL.out] at this; exact this)
  clear hT hb1 HTw HP
  go_wp2_with fail
  refine HP1.out.mono ?_
  rintro x w2 ⟨rfl, hb2⟩
  have H2 : Hid (TwinAt w2 g cap l ∧ Below w.heap.size w w2) := ⟨H1.out.1.below hb2, below_step H1.out.2 hb2⟩
  clear hb2 H1 HP1
  go_wp2_with fail
  refine (HR.out _ H2.out.2).mono ?_
  rintro x w3 ⟨rfl, hb3⟩
  have H3 : Hid (TwinAt w3 g cap l ∧ Below w.heap.size w w3) := ⟨H2.out.1.below hb3, below_step H2.out.2 hb3⟩
  clear hb3 H2 HR
  go_wp2_with fail
  refine (HW.out _).mono ?_
  rintro x w4 ⟨rfl, hb4⟩
  have H4 : Hid (TwinAt w4 g cap l ∧ Below w.heap.size w w4) := ⟨H3.out.1.below hb4, below_step H3.out.2 hb4⟩
  clear hb4 H3 HW
  go_wp2_with fail
  refine (HK.out _ _ _ H4.out.1 H4.out.2).mono ?_
  rintro x w5 ⟨rfl, hb5⟩
  have H5 : Hid (Below w.heap.size w w5) := below_step H4.out.2 hb5
  clear hb5 H4
  go_wp2
  go_ret
  exact ⟨rfl, H5.out⟩

end Go.Proofs.Ytlaelkcmeaiajaa
