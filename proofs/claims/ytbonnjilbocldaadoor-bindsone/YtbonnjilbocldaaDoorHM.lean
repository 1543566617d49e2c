/-
  Binds: two lists of bindings compared.
  Binds: all bindings (the law's all).
-/
import Derived.Test.YtbonnjilbocldaaDoorHI
import Derived.Test.YtbonnjilbocldaaDoorHJ
namespace Go.Proofs.YtbonnjilbocldaaDoor
open Go.RowKit
set_option linter.unusedVariables false
set_option maxRecDepth 100000

theorem bytes_ne {a b : ByteArray} (h : ¬ a = b) : (a.toList == b.toList) = false := by
  cases e : (a.toList == b.toList)
  · rfl
  · exact absurd (toList_inj (by simpa using e)) h
set_option maxHeartbeats 8000000 in
theorem same_any {w : World} {va vb : Value} {a b : List Ent} (ha : SeeE w va a) (hb : SeeE w vb b) (hl : a.length ≤ 4000000) (hl2 : b.length ≤ 4000000) : Calls Tryd.prog 8 #[va, vb] w fun r w' => (∃ z, r = .returned (.bool z) ∧ (z = true ↔ a = b)) ∧ Below w.heap.size w w' := by
  obtain ⟨aa, ca, rfl, ha⟩ := ha
  obtain ⟨ab, cb, rfl, hb⟩ := hb
  obtain ⟨n, hn⟩ : ∃ n, a.length = n := ⟨_, rfl⟩
  obtain ⟨m, hm⟩ : ∃ m, b.length = m := ⟨_, rfl⟩
  have HA := hidK ha
  have HB := hidK hb
  have HL := hidK (And.intro hn hm)
  rw [hn, hm]
  clear ha hb
  by_cases hnm : n = m
  · subst hnm
    rw [hn] at hl
    clear hn hm hl2
    go_enter Tryd.func8, Tryd.ntmps8
    go_wp2_with fail
    go_loopw [5] (fun i wr => ∃ k : Nat, k ≤ n ∧ i = .int .i64 k ∧ Hid (Below w.heap.size w wr) ∧ Hid (a.take k = b.take k)) (fun i _ => n - (intOf i).toNat)
    case atStart => exact ⟨0, Nat.zero_le _, rfl, Below.refl _ _, rfl⟩
    case round =>
      obtain ⟨k, hk, rfl, HW, HT⟩ := hrel
      by_cases hlt : k < n
      · have hka : k < a.length := by rw [HL.out.1]; exact hlt
        have hkb : k < b.length := by rw [HL.out.2]; exact hlt
        obtain ⟨g, o, rfl, h1⟩ := HA.out (fun e => by rw [e] at hka; simp at hka)
        obtain ⟨g', o', rfl, h2⟩ := HB.out (fun e => by rw [e] at hkb; simp at hkb)
        have p1 := h1 k hka
        have p2 := h2 k hkb
        obtain ⟨⟨xt, xc, xm, xrp, xln⟩, hxy⟩ : ∃ q, a[k] = q := ⟨_, rfl⟩
        obtain ⟨⟨yt, yc, ym, yrp, yln⟩, hxy2⟩ : ∃ q, b[k] = q := ⟨_, rfl⟩
        rw [hxy] at p1
        rw [hxy2] at p2
        have hi1 : (k : Int) < (n : Int) := by omega
        have HX : Hid (a[k]? = some ⟨xt, xc, xm, xrp, xln⟩ ∧ b[k]? = some ⟨yt, yc, ym, yrp, yln⟩) := ⟨by rw [List.getElem?_eq_getElem hka, hxy], by rw [List.getElem?_eq_getElem hkb, hxy2]⟩
        have ex0 : wr.cell? ⟨g, o + k * 5, none⟩ = some (.string xt) := (HW.out.cell (World.block_lt_of_cell? w _ (p1 0 _ rfl))).trans (p1 0 _ rfl)
        have ex1 : wr.cell? ⟨g, o + k * 5 + 1, none⟩ = some (.int .i64 xc) := (HW.out.cell (World.block_lt_of_cell? w _ (p1 1 _ rfl))).trans (p1 1 _ rfl)
        have ex2 : wr.cell? ⟨g, o + k * 5 + 2, none⟩ = some (.int .i64 xm) := (HW.out.cell (World.block_lt_of_cell? w _ (p1 2 _ rfl))).trans (p1 2 _ rfl)
        have ex3 : wr.cell? ⟨g, o + k * 5 + 3, none⟩ = some (.bool xrp) := (HW.out.cell (World.block_lt_of_cell? w _ (p1 3 _ rfl))).trans (p1 3 _ rfl)
        have ex4 : wr.cell? ⟨g, o + k * 5 + 4, none⟩ = some (.string xln) := (HW.out.cell (World.block_lt_of_cell? w _ (p1 4 _ rfl))).trans (p1 4 _ rfl)
        have ey0 : wr.cell? ⟨g', o' + k * 5, none⟩ = some (.string yt) := (HW.out.cell (World.block_lt_of_cell? w _ (p2 0 _ rfl))).trans (p2 0 _ rfl)
        have ey1 : wr.cell? ⟨g', o' + k * 5 + 1, none⟩ = some (.int .i64 yc) := (HW.out.cell (World.block_lt_of_cell? w _ (p2 1 _ rfl))).trans (p2 1 _ rfl)
        have ey2 : wr.cell? ⟨g', o' + k * 5 + 2, none⟩ = some (.int .i64 ym) := (HW.out.cell (World.block_lt_of_cell? w _ (p2 2 _ rfl))).trans (p2 2 _ rfl)
        have ey3 : wr.cell? ⟨g', o' + k * 5 + 3, none⟩ = some (.bool yrp) := (HW.out.cell (World.block_lt_of_cell? w _ (p2 3 _ rfl))).trans (p2 3 _ rfl)
        have ey4 : wr.cell? ⟨g', o' + k * 5 + 4, none⟩ = some (.string yln) := (HW.out.cell (World.block_lt_of_cell? w _ (p2 4 _ rfl))).trans (p2 4 _ rfl)
        clear h1 h2 hxy hxy2 hka hkb p1 p2
        by_cases q0 : xt = yt
        case neg =>
          have z0 := bytes_ne q0
          have HY := hidK q0
          clear q0
          have HZ2 : Hid (¬ a = b) := fun e => by
            have h1 := HX.out.1
            rw [e, HX.out.2] at h1
            simp only [Option.some.injEq, Ent.mk.injEq] at h1
            exact HY.out h1.1.symm
          go_wp2_with fail
          go_quiet (fail)
          rename_i nq
          go_wp2_with fail
          go_ret
          exact ⟨⟨false, rfl, by simp [HZ2.out]⟩, below_step HW.out (below_drewN _ _)⟩
        subst q0
        by_cases q1 : xc = yc
        case neg =>
          have z1 : (xc == yc) = false := by simpa using q1
          have HY := hidK q1
          clear q1
          have HZ2 : Hid (¬ a = b) := fun e => by
            have h1 := HX.out.1
            rw [e, HX.out.2] at h1
            simp only [Option.some.injEq, Ent.mk.injEq] at h1
            exact HY.out h1.2.1.symm
          go_wp2_with fail
          go_quiet (fail)
          rename_i nq
          go_wp2_with fail
          go_ret
          exact ⟨⟨false, rfl, by simp [HZ2.out]⟩, below_step HW.out (below_drewN _ _)⟩
        subst q1
        by_cases q2 : xm = ym
        case neg =>
          have z2 : (xm == ym) = false := by simpa using q2
          have HY := hidK q2
          clear q2
          have HZ2 : Hid (¬ a = b) := fun e => by
            have h1 := HX.out.1
            rw [e, HX.out.2] at h1
            simp only [Option.some.injEq, Ent.mk.injEq] at h1
            exact HY.out h1.2.2.1.symm
          go_wp2_with fail
          go_quiet (fail)
          rename_i nq
          go_wp2_with fail
          go_ret
          exact ⟨⟨false, rfl, by simp [HZ2.out]⟩, below_step HW.out (below_drewN _ _)⟩
        subst q2
        by_cases q3 : xrp = yrp
        case neg =>
          have z3 : (xrp == yrp) = false := by simpa using q3
          have HY := hidK q3
          clear q3
          have HZ2 : Hid (¬ a = b) := fun e => by
            have h1 := HX.out.1
            rw [e, HX.out.2] at h1
            simp only [Option.some.injEq, Ent.mk.injEq] at h1
            exact HY.out h1.2.2.2.1.symm
          go_wp2_with fail
          go_quiet (fail)
          rename_i nq
          go_wp2_with fail
          go_ret
          exact ⟨⟨false, rfl, by simp [HZ2.out]⟩, below_step HW.out (below_drewN _ _)⟩
        subst q3
        by_cases q4 : xln = yln
        case neg =>
          have z4 := bytes_ne q4
          have HY := hidK q4
          clear q4
          have HZ2 : Hid (¬ a = b) := fun e => by
            have h1 := HX.out.1
            rw [e, HX.out.2] at h1
            simp only [Option.some.injEq, Ent.mk.injEq] at h1
            exact HY.out h1.2.2.2.2.symm
          go_wp2_with fail
          go_quiet (fail)
          rename_i nq
          go_wp2_with fail
          go_ret
          exact ⟨⟨false, rfl, by simp [HZ2.out]⟩, below_step HW.out (below_drewN _ _)⟩
        subst q4
        have HT2 : Hid (a.take (k + 1) = b.take (k + 1)) := by
          show _ = _
          rw [List.take_add_one, List.take_add_one, HT.out, HX.out.1, HX.out.2]
        go_wp2_with fail
        go_quiet (fail)
        rename_i nq
        go_wp2_with fail
        go_roundw
        case rel => exact ⟨k + 1, by omega, by first | rfl | go_num, below_step HW.out (below_drewN _ _), HT2⟩
        case measure => simp [intOf]; omega
      · obtain rfl : k = n := by omega
        have HZ2 : Hid (a = b) := by
          show _ = _
          have h1 := HT.out
          rw [List.take_of_length_le (by rw [HL.out.1]; exact Nat.le_refl _), List.take_of_length_le (by rw [HL.out.2]; exact Nat.le_refl _)] at h1
          exact h1
        go_wp2_with fail
        go_ret
        exact ⟨⟨true, rfl, by simp [HZ2.out]⟩, HW.out⟩
  · have HZ2 : Hid (¬ a = b) := fun e => by
      subst e
      exact hnm (hn.symm.trans hm)
    have i1 : ((n : Int) == (m : Int)) = false := by simp; omega
    have i2 : ¬ (n : Int) = (m : Int) := by omega
    clear hn hm hl hl2 hnm
    go_enter Tryd.func8, Tryd.ntmps8
    go_wp2_with fail
    go_ret
    exact ⟨⟨false, rfl, by simp [HZ2.out]⟩, Below.refl _ _⟩
end Go.Proofs.YtbonnjilbocldaaDoor

namespace Go.Proofs.YtbonnjilbocldaaDoor
open Go.RowKit
set_option linter.unusedVariables false
set_option maxRecDepth 100000

/-- Bindings are appended. -/
theorem wpList_append_ents (w : World) {ops : Array Oper} {rest : List Oper} {o : Oper} {a : Act} {Q : Exit → Act → World → Prop} (hgd : o.guard = none) (s x : Operand)
    (ho : o.op = .call { callee := .builtin .append, args := #[s, x], argTypes := #[34, 34] })
    (B : Nat) (v : Value) (l : List Ent) (hs : a.eval s = v) (hown : EntsAt w B v l) (n : List Ent) (u : Value) (hx : a.eval x = u) (hu : SeeE w u n) (hne : n ≠ [])
    (hlen : l.length ≤ 20000000) (hlen2 : n.length ≤ 20000000) (hbase : B ≤ w.heap.size)
    (h : ∀ v' w', EntsAt w' B v' (l ++ n) → w.grownBy w' v.ownBlock → wpList Tryd.prog ops Q rest (a.put o.dst v') w') : wpList Tryd.prog ops Q (o :: rest) a w := by
  obtain ⟨i0, hi, hz0, hz1, hz2⟩ := info_parts infoBindE
  obtain ⟨ad, cp, rfl, hcell⟩ := hu
  obtain ⟨g, of, rfl, hc⟩ := hcell hne
  refine wpList_append_own w hgd s x 34 ho B 28 i0 (.agg #[.string ⟨#[]⟩, .int .i64 0, .int .i64 0, .bool false, .string ⟨#[]⟩]) 5 56 underBinds hi hz0 hz1 hz2 rfl (by decide) v l.length (l.flatMap encE) hs hown ⟨g, of, none⟩ n.length cp (n.flatMap encE) hx (ents_flat n) ?_ ?_ (by unfold maxLen; omega) (by omega) hbase ?_
  · intro j u hj
    have hjl : j < n.length * 5 := by
      have := (List.getElem?_eq_some_iff.1 hj).1
      rwa [ents_flat] at this
    have hd : j / 5 < n.length := by omega
    have h2 := flat_ent n (j / 5) hd (j % 5) (by omega)
    rw [show j / 5 * 5 + j % 5 = j by omega, hj] at h2
    have := hc (j / 5) hd (j % 5) u h2.symm
    rw [show of + j / 5 * 5 + j % 5 = of + j by omega] at this
    rw [addB]
    exact this
  · intro u hu
    obtain ⟨e, _, he⟩ := List.mem_flatMap.1 hu
    simp only [encE, List.mem_cons, List.not_mem_nil, or_false] at he
    rcases he with e | e | e | e | e <;> rw [e] <;> rfl
  · intro v' w' h2 h3 _
    refine h v' w' ?_ h3
    unfold EntsAt
    rw [List.length_append, List.flatMap_append]
    exact h2
theorem join_len {D : DataW Unit} (hD : Ok D) {ns : List ByteArray} {ls : List (List Ent)} (hp : ns.Pairwise nameLt) (hl : ns.length = ls.length) (h : ∀ j (h : j < ns.length) (h' : j < ls.length), Lst D ns[j] ls[j]) : ls.flatten.length ≤ 200 := by
  obtain ⟨h1, h2⟩ := all_join hp hl h
  refine Nat.le_trans (in_len hD.tidy (h1.imp_of_mem fun {a b} ha hb hab q => ?_) fun e he => ((h2 e).1 he).2.has) hD.few
  have := Ent.In.one ((h2 a).1 ha).2 ((h2 b).1 hb).2 (Ent.k_inj ((h2 a).1 ha).2.wf ((h2 b).1 hb).2.wf q)
  subst this
  exact entLt_irrefl _ hab
/-- The lists of the first names. -/
structure Al (W wr : World) (D : DataW Unit) (ns : List ByteArray) (ov : Value) (ls : List (List Ent)) (k : Nat) : Prop where
  len : ls.length = k
  lst : ∀ j (h : j < ns.length) (h' : j < ls.length), Lst D ns[j] ls[j]
  own : EntsAt wr W.heap.size ov ls.flatten
  below : Below W.heap.size W wr
theorem Al.few {W wr : World} {D : DataW Unit} {ns : List ByteArray} {ov : Value} {ls : List (List Ent)} {k : Nat} (h : Al W wr D ns ov ls k) (hD : Ok D) (hn : Nms D ns) (hk : k ≤ ns.length) : ls.flatten.length ≤ 200 := by
  have hlen := h.len
  refine join_len hD (ns := ns.take k) (hn.up.sublist (List.take_sublist _ _)) (by rw [List.length_take, hlen]; omega) fun j hj hj' => ?_
  rw [List.getElem_take]
  exact h.lst j (by rw [List.length_take] at hj; omega) hj'
theorem Al.next {W wr w' : World} {D : DataW Unit} {ns : List ByteArray} {ov ov' : Value} {ls : List (List Ent)} {k : Nat} {l : List Ent} (h : Al W wr D ns ov ls k) (hk : k < ns.length) (hl : Lst D ns[k] l) (ho : EntsAt w' W.heap.size ov' (ls.flatten ++ l)) (hb : Below W.heap.size W w') : Al W w' D ns ov' (ls ++ [l]) (k + 1) := by
  have hlen := h.len
  refine ⟨by simp [hlen], fun j hj hj' => ?_, by rw [List.flatten_append]; simpa using ho, hb⟩
  by_cases hjk : j < k
  · rw [List.getElem_append_left (by omega)]
    exact h.lst j hj (by omega)
  · have e : j = k := by simp [hlen] at hj'; omega
    subst e
    rw [List.getElem_append_right (by omega)]
    simp only [hlen, Nat.sub_self, List.getElem_cons_zero]
    exact hl
set_option maxHeartbeats 4000000 in
theorem all_any {w : World} {d b n : Nat} {D : DataW Unit} (h : Tb w d b n D) (hD : Ok D) :
    Calls Tryd.prog 7 #[.pointer (some ⟨d, 0, none⟩)] w fun e w' => ∃ v l, e = .returned v ∧ AllL D l ∧ SeeE w' v l ∧ Below w.heap.size w w' := by
  have HNm := names_any h hD
  have HT := hidK h
  have HD := hidK hD
  clear h hD
  go_enter Tryd.func7, Tryd.ntmps7
  go_wp2_with fail
  refine HNm.mono ?_
  rintro e W ⟨nv, ns, rfl, hns, hfew, hse, hb1⟩
  obtain ⟨ad, cp, rfl, hse⟩ := hse
  obtain ⟨N, hN⟩ : ∃ N, ns.length = N := ⟨_, rfl⟩
  have HN := hidK hN
  have HS := hidK hse
  have HNs := hidK hns
  have HB1 := hidK hb1
  have HFw := hidK hfew
  rw [hN]
  clear hse hns hb1 hfew HNm hN
  go_wp2_with fail
  go_loopw [3, 5] (fun ov i wr => ∃ (k : Nat) (ls : List (List Ent)), k ≤ N ∧ i = .int .i64 k ∧ Hid (Al W wr D ns ov ls k)) (fun _ i _ => N - (intOf i).toNat)
  case atStart => exact ⟨0, [], Nat.zero_le _, rfl, hidK ⟨rfl, fun j _ h' => by simp at h', EntsAt.nil _ _, Below.refl _ _⟩⟩
  case round =>
    obtain ⟨k, ls, hk, rfl, HR⟩ := hrel
    by_cases hlt : k < N
    · have hkn : k < ns.length := by rw [HN.out]; exact hlt
      obtain ⟨g, o, rfl, hc⟩ := HS.out (fun e => by rw [e] at hkn; simp at hkn)
      have hcell := hc k hkn
      obtain ⟨t, ht⟩ : ∃ t, ns[k] = t := ⟨_, rfl⟩
      rw [ht] at hcell
      have hcw : wr.cell? ⟨g, o + k, none⟩ = some (.string t) := (HR.out.below.cell (World.block_lt_of_cell? W _ hcell)).trans hcell
      have htm : ∃ e : Ent, e.t = t ∧ e.In D := (HNs.out.mem t).1 (by rw [← ht]; exact List.getElem_mem hkn)
      have htw : t.size ≤ 140737488355328 := by obtain ⟨e, rfl, hin⟩ := htm; exact hin.wf.1
      have HTm := hidK htm
      have HLs := list_any (HT.out.more (below_step HB1.out HR.out.below)) HD.out t htw
      have HFe := hidK (HR.out.few HD.out HNs.out (by rw [HN.out]; exact hk))
      have HTk : Hid (∀ l, Lst D t l → ∀ w' ov', EntsAt w' W.heap.size ov' (ls.flatten ++ l) → Below W.heap.size W w' → Al W w' D ns ov' (ls ++ [l]) (k + 1)) := fun l hl w' ov' ho hb => HR.out.next hkn (by rw [ht]; exact hl) ho hb
      have hi1 : (k : Int) < (N : Int) := by omega
      clear hc hcell ht htm htw hkn
      go_wp2_with fail
      refine HLs.mono ?_
      rintro e Y ⟨lv, l, rfl, hl, hsl, hbY⟩
      have HL := hidK hl
      have HSl := hidK hsl
      have HBy := hidK hbY
      have HOy := hidK (HR.out.own.below hbY)
      have hne : l ≠ [] := fun e => by
        obtain ⟨q, q1, q2⟩ := HTm.out
        have := (hl.mem q).2 ⟨q1, q2⟩
        rw [e] at this
        simp at this
      have HNe := hidK hne
      have HLl := hidK (hl.len HD.out)
      have HSz : Hid (W.heap.size ≤ Y.heap.size) := Nat.le_trans HR.out.below.size hbY.size
      clear hl hsl hbY hne HLs
      go_wp2_with (at_builtin; refine wpList_append_ents _ rfl (.tmp 14) (.tmp 20) rfl W.heap.size _ ls.flatten rfl HOy.out l lv rfl HSl.out HNe.out ?x1 ?x2 HSz.out ?_; (case x1 => have := HFe.out; omega); (case x2 => have := HLl.out; omega); intro v2 w6 ho6 hg6; have HO6 := hidK ho6; have HG6 := hidK hg6; clear ho6 hg6)
      have hw64 : wrap64 ((k : Int) + 1) = (k : Int) + 1 := by
        have h1 := HFw.out
        have h2 := HN.out
        unfold wrap64
        omega
      rw [hw64]
      have hby : Below W.heap.size W Y := below_step HR.out.below HBy.out
      refine ⟨⟨k + 1, ls ++ [l], by omega, by simp, hidK (HTk.out l HL.out _ _ HO6.out (hby.grown HG6.out hby.size (fun j hj => (HOy.out.blk hj).1)))⟩, ?_⟩
      simp [intOf]
      omega
    · obtain rfl : k = N := by omega
      have HFin : Hid (AllL D ls.flatten ∧ EntsAt wr W.heap.size u3 ls.flatten) := ⟨all_of HNs.out (by rw [HN.out]; exact HR.out.len.symm) HR.out.lst, HR.out.own⟩
      go_wp2_with fail
      go_ret
      exact ⟨_, _, rfl, HFin.out.1, HFin.out.2.see, below_step HB1.out HR.out.below⟩
end Go.Proofs.YtbonnjilbocldaaDoor
