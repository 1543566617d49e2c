/-
  Buffers: the document's: New, List, Get, Delete, Limit.
-/
import Derived.Test.YtgbaeajcgiaboaaDoorURfD
namespace Go.Proofs.YtgbaeajcgiaboaaDoor
open Go.RowKit
set_option linter.unusedVariables false
set_option maxRecDepth 100000

theorem rNew_any (w : World) : Calls Tryd.prog 29 #[] w fun e w' => e = .returned (.agg #[.slice none 0 0, .int .i64 20, .int .i64 0]) ∧ Below w.heap.size w w' := by
  obtain ⟨W1, hW1⟩ : ∃ W, w.alloc (.cells #[.slice none 0 0, .int .i64 20, .int .i64 0] 62) = W := ⟨_, rfl⟩
  have a1 : W1.heap[w.heap.size]? = some (.cells #[.slice none 0 0, .int .i64 20, .int .i64 0] 62 (0, 0)) := by rw [← hW1]; exact heap_alloc_new w _
  have HA := hidK a1
  have HB : Hid (Below w.heap.size w W1) := by rw [← hW1]; exact (Below.refl _ _).alloc (Nat.le_refl _) _
  have HWe := hidK hW1
  clear a1 hW1
  go_enter Tryd.func29, Tryd.ntmps29
  go_wp2_with fail
  first | rw [HWe.out] | skip
  exact ret_cell1 rfl rfl HA.out Tryd.underlying62 rfl infoRB rfl ⟨rfl, HB.out⟩
set_option maxHeartbeats 8000000 in
theorem rList_any {w : World} {v : Value} {l : List Kp} (h : ItsAt w v l) (lim c : Int) (hlen : l.length ≤ 1000000) :
    Calls Tryd.prog 36 #[.agg #[v, .int .i64 lim, .int .i64 c]] w fun e w' => ∃ v', e = .returned v' ∧ Tol w w' v' l := by
  obtain ⟨ad, cp, rfl, hle, hcm, hnil, hsome⟩ := h.shape
  obtain ⟨n, hn⟩ : ∃ n, l.length = n := ⟨_, rfl⟩
  have HN := hidK hn
  have HS := hidK hsome
  have HNil := hidK hnil
  have hn63 : n ≤ 1000000 := by omega
  rw [hn]
  obtain ⟨W1, hW1⟩ : ∃ W, w.alloc (.cells #[.slice ad n cp, .int .i64 lim, .int .i64 c] 62) = W := ⟨_, rfl⟩
  obtain ⟨Q, hQ⟩ : ∃ Q, w.heap.size = Q := ⟨_, rfl⟩
  have a1 : W1.heap[Q]? = some (.cells #[.slice ad n cp, .int .i64 lim, .int .i64 c] 62 (0, 0)) := by rw [← hW1, ← hQ]; exact heap_alloc_new w _
  have b1 : Below w.heap.size w W1 := by rw [← hW1]; exact (Below.refl _ _).alloc (Nat.le_refl _) _
  have HB := hidK b1
  have HA := hidK a1
  have HQ := hidK hQ
  have HWe := hidK hW1
  clear hn hsome hnil h hle hcm a1 b1 hQ hW1 hlen
  go_enter Tryd.func36, Tryd.ntmps36
  go_wp2_with fail
  rw [HWe.out, HQ.out]
  clear HWe
  go_loopw [3, 4] (fun s i wr => ∃ k : Nat, ∃ (a : Option Addr) (q p : Nat), k ≤ n ∧ s = .slice a q p ∧ i = .int .i64 k ∧ Hid (Tol W1 wr (.slice a q p) (l.take k))) (fun _ i _ => n - (intOf i).toNat)
  case atStart => exact ⟨0, none, 0, 0, Nat.zero_le _, rfl, rfl, ⟨Below.refl _ _, Row.nil _ _ _, fun g hg => by cases hg⟩⟩
  case round =>
    obtain ⟨k, a, q, p, hk, rfl, rfl, HL⟩ := hrel
    have hq1 := (HL.out.below.block Q (lt_block HA.out)).trans HA.out
    have q0 := cell_at hq1 0
    by_cases hlt : k < n
    · have hkl : k < l.length := by rw [HN.out]; exact hlt
      have ht : l.take (k + 1) = l.take k ++ [l[k]] := by rw [List.take_add_one, List.getElem?_eq_getElem hkl, Option.toList_some]
      have htl : (l.take k).length = k := by rw [List.length_take]; omega
      cases ad with
      | none => have := (HNil.out rfl).1; rw [this] at hkl; simp at hkl
      | some ad =>
        obtain ⟨g0, o0, rfl, hob, hgl, hat⟩ := HS.out _ rfl
        obtain ⟨⟨n1, t1, a1⟩, hx⟩ : ∃ q, l[k] = q := ⟨_, rfl⟩
        have hxk : encK l[k] = [.string n1, .string t1, .bool a1] := by rw [hx]; rfl
        rw [hx] at ht
        have HSx : Hid (∀ X, Below W1.heap.size W1 X → X.cell? ⟨Q, 0, none⟩ = some (.slice (some ⟨g0, o0, none⟩) n cp) ∧ X.cell? ⟨g0, o0 + k * 3, none⟩ = some (.string n1) ∧ X.cell? ⟨g0, o0 + k * 3 + 1, none⟩ = some (.string t1)) := fun X hX => by
          have hb : Below w.heap.size w X := HB.out.trans (hX.mono HB.out.size)
          exact ⟨cell_at ((hX.block Q (lt_block HA.out)).trans HA.out) 0, (hat X (hb.block g0 hgl)).1 k hkl 0 _ (by rw [hxk]; rfl), (hat X (hb.block g0 hgl)).1 k hkl 1 _ (by rw [hxk]; rfl)⟩
        have hi1 : (k : Int) < (n : Int) := by omega
        have HT : Hid (l.take (k + 1) = l.take k ++ [⟨n1, t1, a1⟩]) := ht
        have HTl := hidK htl
        have HV := hidK (HL.out.more (w2 := wr.drew.alloc (.cells #[.string n1, .string t1] 34)) (((Below.refl _ _).drew).alloc (Nat.le_refl _) _))
        have HSr := hidK (Src.fresh (P := Tryd.prog) underB wr.drew #[.string n1, .string t1] 34 2 rfl rfl)
        have hrow : Row (wr.drew.alloc (.cells #[.string n1, .string t1] 34)) 34 2 (.slice a q p) k (cellsB (l.take k)) := by
          have := HV.out.row
          unfold BfsAt at this
          rwa [HTl.out] at this
        have HRow := hidK hrow
        clear ht htl hx hxk hob hgl hat hrow hq1
        go_wp2_with fail
        refine wp_region_held_drew (S := (fun X => X.cell? ⟨Q, 0, none⟩ = some (.slice (some ⟨g0, o0, none⟩) n cp) ∧ X.cell? ⟨g0, o0 + k * 3, none⟩ = some (.string n1) ∧ X.cell? ⟨g0, o0 + k * 3 + 1, none⟩ = some (.string t1))) (by kernel_rfl) ?sP (fun hHeld => ?_)
        case sP => ((try dsimp only); first | exact HSx.out _ HL.out.below.drew | exact HSx.out _ HV.out.below | exact HSx.out _ HV5.out.below)
        refine wpAnyH_take (i := 0) (oi := { dst := some 12, op := Op.move (Operand.tmp 3), type := 31, pos := "ref.go:172", after := #[], guard := none }) (v := ?vP0n1) rfl (by kernel_rfl) (by kernel_rfl) (by kernel_rfl) (fun _ _ _ h => h) (Or.inl ⟨by rfl, ?yP0n1⟩) (by assumption) ?rP0n1
        case yP0n1 => (intro w hSw; (try dsimp only at hSw); first | (go_simp; done) | (go_simp; with_reducible rfl))
        try simp only [Act.put, List.setIfInBounds_toArray, List.set_cons_zero, List.set_cons_succ]
        refine wpAnyH_take (i := 1) (oi := { dst := some 13, op := Op.fieldAddr 62 (Operand.tmp 1) 0, type := 0, pos := "ref.go:172", after := #[], guard := none }) (v := ?vP1n2) rfl (by kernel_rfl) (by kernel_rfl) (by kernel_rfl) (fun _ _ _ h => h) (Or.inl ⟨by rfl, ?yP1n2⟩) (by assumption) ?rP1n2
        case yP1n2 => (intro w hSw; (try dsimp only at hSw); first | (go_simp; done) | (go_simp; with_reducible rfl))
        try simp only [Act.put, List.setIfInBounds_toArray, List.set_cons_zero, List.set_cons_succ]
        refine wpAnyH_take (i := 2) (oi := { dst := some 14, op := Op.load 60 (Operand.tmp 13), type := 60, pos := "ref.go:172", after := #[{ on := 1, ground := Ground.data }], guard := none }) (v := ?vP2n3) rfl (by kernel_rfl) (by kernel_rfl) (by kernel_rfl) (fun _ _ _ h => h) (Or.inl ⟨by rfl, ?yP2n3⟩) (by assumption) ?rP2n3
        case yP2n3 => (intro w hSw; (try dsimp only at hSw); first | (go_simp; done) | (go_simp; with_reducible rfl))
        try simp only [Act.put, List.setIfInBounds_toArray, List.set_cons_zero, List.set_cons_succ]
        refine wpAnyH_take (i := 3) (oi := { dst := some 15, op := Op.move (Operand.tmp 4), type := 3, pos := "ref.go:172", after := #[], guard := none }) (v := ?vP3n4) rfl (by kernel_rfl) (by kernel_rfl) (by kernel_rfl) (fun _ _ _ h => h) (Or.inl ⟨by rfl, ?yP3n4⟩) (by assumption) ?rP3n4
        case yP3n4 => (intro w hSw; (try dsimp only at hSw); first | (go_simp; done) | (go_simp; with_reducible rfl))
        try simp only [Act.put, List.setIfInBounds_toArray, List.set_cons_zero, List.set_cons_succ]
        refine wpAnyH_take (i := 4) (oi := { dst := some 16, op := Op.indexAddr 60 (Operand.tmp 14) (Operand.tmp 15), type := 0, pos := "ref.go:172", after := #[{ on := 2, ground := Ground.data }, { on := 3, ground := Ground.data }], guard := none }) (v := ?vP4n5) rfl (by kernel_rfl) (by kernel_rfl) (by kernel_rfl) (fun _ _ _ h => h) (Or.inl ⟨by rfl, ?yP4n5⟩) (by assumption) ?rP4n5
        case yP4n5 => (intro w hSw; (try dsimp only at hSw); first | (go_simp; done) | (go_simp; with_reducible rfl))
        try simp only [Act.put, List.setIfInBounds_toArray, List.set_cons_zero, List.set_cons_succ]
        refine wpAnyH_take (i := 5) (oi := { dst := some 17, op := Op.fieldAddr 87 (Operand.tmp 16) 0, type := 0, pos := "ref.go:172", after := #[{ on := 4, ground := Ground.data }], guard := none }) (v := ?vP5n6) rfl (by kernel_rfl) (by kernel_rfl) (by kernel_rfl) (fun _ _ _ h => h) (Or.inl ⟨by rfl, ?yP5n6⟩) (by assumption) ?rP5n6
        case yP5n6 => (intro w hSw; (try dsimp only at hSw); first | (go_simp; done) | (go_simp; with_reducible rfl))
        try simp only [Act.put, List.setIfInBounds_toArray, List.set_cons_zero, List.set_cons_succ]
        refine wpAnyH_take (i := 6) (oi := { dst := some 18, op := Op.load 9 (Operand.tmp 17), type := 9, pos := "ref.go:172", after := #[{ on := 5, ground := Ground.data }], guard := none }) (v := ?vP6n7) rfl (by kernel_rfl) (by kernel_rfl) (by kernel_rfl) (fun _ _ _ h => h) (Or.inl ⟨by rfl, ?yP6n7⟩) (by assumption) ?rP6n7
        case yP6n7 => (intro w hSw; (try dsimp only at hSw); first | (go_simp; done) | (go_simp; with_reducible rfl))
        try simp only [Act.put, List.setIfInBounds_toArray, List.set_cons_zero, List.set_cons_succ]
        refine wpAnyH_take (i := 7) (oi := { dst := some 19, op := Op.fieldAddr 62 (Operand.tmp 1) 0, type := 0, pos := "ref.go:172", after := #[], guard := none }) (v := ?vP7n8) rfl (by kernel_rfl) (by kernel_rfl) (by kernel_rfl) (fun _ _ _ h => h) (Or.inl ⟨by rfl, ?yP7n8⟩) (by assumption) ?rP7n8
        case yP7n8 => (intro w hSw; (try dsimp only at hSw); first | (go_simp; done) | (go_simp; with_reducible rfl))
        try simp only [Act.put, List.setIfInBounds_toArray, List.set_cons_zero, List.set_cons_succ]
        refine wpAnyH_take (i := 8) (oi := { dst := some 20, op := Op.load 60 (Operand.tmp 19), type := 60, pos := "ref.go:172", after := #[{ on := 7, ground := Ground.data }], guard := none }) (v := ?vP8n9) rfl (by kernel_rfl) (by kernel_rfl) (by kernel_rfl) (fun _ _ _ h => h) (Or.inl ⟨by rfl, ?yP8n9⟩) (by assumption) ?rP8n9
        case yP8n9 => (intro w hSw; (try dsimp only at hSw); first | (go_simp; done) | (go_simp; with_reducible rfl))
        try simp only [Act.put, List.setIfInBounds_toArray, List.set_cons_zero, List.set_cons_succ]
        refine wpAnyH_take (i := 9) (oi := { dst := some 21, op := Op.move (Operand.tmp 4), type := 3, pos := "ref.go:172", after := #[], guard := none }) (v := ?vP9n10) rfl (by kernel_rfl) (by kernel_rfl) (by kernel_rfl) (fun _ _ _ h => h) (Or.inl ⟨by rfl, ?yP9n10⟩) (by assumption) ?rP9n10
        case yP9n10 => (intro w hSw; (try dsimp only at hSw); first | (go_simp; done) | (go_simp; with_reducible rfl))
        try simp only [Act.put, List.setIfInBounds_toArray, List.set_cons_zero, List.set_cons_succ]
        refine wpAnyH_take (i := 10) (oi := { dst := some 22, op := Op.indexAddr 60 (Operand.tmp 20) (Operand.tmp 21), type := 0, pos := "ref.go:172", after := #[{ on := 8, ground := Ground.data }, { on := 9, ground := Ground.data }], guard := none }) (v := ?vP10n11) rfl (by kernel_rfl) (by kernel_rfl) (by kernel_rfl) (fun _ _ _ h => h) (Or.inl ⟨by rfl, ?yP10n11⟩) (by assumption) ?rP10n11
        case yP10n11 => (intro w hSw; (try dsimp only at hSw); first | (go_simp; done) | (go_simp; with_reducible rfl))
        try simp only [Act.put, List.setIfInBounds_toArray, List.set_cons_zero, List.set_cons_succ]
        refine wpAnyH_take (i := 11) (oi := { dst := some 23, op := Op.fieldAddr 87 (Operand.tmp 22) 1, type := 0, pos := "ref.go:172", after := #[{ on := 10, ground := Ground.data }], guard := none }) (v := ?vP11n12) rfl (by kernel_rfl) (by kernel_rfl) (by kernel_rfl) (fun _ _ _ h => h) (Or.inl ⟨by rfl, ?yP11n12⟩) (by assumption) ?rP11n12
        case yP11n12 => (intro w hSw; (try dsimp only at hSw); first | (go_simp; done) | (go_simp; with_reducible rfl))
        try simp only [Act.put, List.setIfInBounds_toArray, List.set_cons_zero, List.set_cons_succ]
        refine wpAnyH_take (i := 12) (oi := { dst := some 24, op := Op.load 9 (Operand.tmp 23), type := 9, pos := "ref.go:172", after := #[{ on := 11, ground := Ground.data }], guard := none }) (v := ?vP12n13) rfl (by kernel_rfl) (by kernel_rfl) (by kernel_rfl) (fun _ _ _ h => h) (Or.inl ⟨by rfl, ?yP12n13⟩) (by assumption) ?rP12n13
        case yP12n13 => (intro w hSw; (try dsimp only at hSw); first | (go_simp; done) | (go_simp; with_reducible rfl))
        try simp only [Act.put, List.setIfInBounds_toArray, List.set_cons_zero, List.set_cons_succ]
        refine wpAnyH_take (i := 13) (oi := { dst := some 25, op := Op.build 34 #[(0, Operand.tmp 18), (1, Operand.tmp 24)], type := 34, pos := "ref.go:172", after := #[{ on := 6, ground := Ground.data }, { on := 12, ground := Ground.data }], guard := none }) (v := ?vP13n14) rfl (by kernel_rfl) (by kernel_rfl) (by kernel_rfl) (fun _ _ _ h => h) (Or.inl ⟨by rfl, ?yP13n14⟩) (by assumption) ?rP13n14
        case yP13n14 => (intro w hSw; (try dsimp only at hSw); first | (go_simp; done) | (go_simp; with_reducible rfl))
        try simp only [Act.put, List.setIfInBounds_toArray, List.set_cons_zero, List.set_cons_succ]
        refine wpAnyH_ready (rs := [14]) (by kernel_rfl) (by simp) (AllReadyH.cons (o := { dst := some 26, op := Op.buildSlice 31 1 #[(0, Operand.tmp 25)], type := 31, pos := "ref.go:172", after := #[{ on := 13, ground := Ground.data }], guard := none }) rfl (fun K hK => ?bPn15q0) AllReadyH.nil)
        go_simp
        refine hK.out _ _ ?kPn15o14 (fun hHeld15 => ?_)
        case kPn15o14 => ((try dsimp only); first | exact HSx.out _ HL.out.below.drew | exact HSx.out _ HV.out.below | exact HSx.out _ HV5.out.below)
        clear hK K
        skip
        try simp only [Act.put, List.setIfInBounds_toArray, List.set_cons_zero, List.set_cons_succ]
        refine wpAnyH_ready (rs := [15]) (by kernel_rfl) (by simp) (AllReadyH.cons (o := { dst := some 27, op := Op.call { callee := Callee.builtin Builtin.append, args := #[Operand.tmp 12, Operand.tmp 26], argTypes := #[31, 31] }, type := 31, pos := "ref.go:172", after := #[{ on := 0, ground := Ground.data }, { on := 14, ground := Ground.data }], guard := none }) rfl (fun K hK => ?bPn16q0) AllReadyH.nil)
        refine step_append_row (wr.drew.alloc (.cells #[.string n1, .string t1] 34)) rfl _ _ 31 31 rfl underB infoBf rfl ?xv ?xu HRow.out HSr.out (by omega) (by unfold maxLen; omega) ?_
        case xv => simp [Act.eval]
        case xu => simp [Act.eval]
        intro v2 w5 hr hg
        have HV5 := hidK (HV.out.grown ⟨n1, t1, a1⟩ (by rw [HTl.out]; exact hr.out) hg.out)
        obtain ⟨a2, q2, p2, rfl⟩ := HV5.out.row.sl
        clear hr hg
        refine hK.out _ _ ?kPn16o15 (fun hHeld16 => ?_)
        case kPn16o15 => ((try dsimp only); first | exact HSx.out _ HL.out.below.drew | exact HSx.out _ HV.out.below | exact HSx.out _ HV5.out.below)
        clear hK K
        try simp only [Act.put, List.setIfInBounds_toArray, List.set_cons_zero, List.set_cons_succ]
        refine wpAnyH_take (i := 16) (oi := { dst := some 3, op := Op.assign (Operand.tmp 27), type := 31, pos := "ref.go:172", after := #[{ on := 15, ground := Ground.data }, { on := 15, ground := Ground.chain }, { on := 0, ground := Ground.phase }, { on := 1, ground := Ground.phase }, { on := 2, ground := Ground.phase }, { on := 3, ground := Ground.phase }, { on := 4, ground := Ground.phase }, { on := 5, ground := Ground.phase }, { on := 6, ground := Ground.phase }, { on := 7, ground := Ground.phase }, { on := 8, ground := Ground.phase }, { on := 9, ground := Ground.phase }, { on := 10, ground := Ground.phase }, { on := 11, ground := Ground.phase }, { on := 12, ground := Ground.phase }, { on := 13, ground := Ground.phase }, { on := 14, ground := Ground.phase }, { on := 15, ground := Ground.phase }], guard := none }) (v := ?vP16n17) rfl (by kernel_rfl) (by kernel_rfl) (by kernel_rfl) (fun _ _ _ h => h) (Or.inl ⟨by rfl, ?yP16n17⟩) (by assumption) ?rP16n17
        case yP16n17 => (intro w hSw; (try dsimp only at hSw); first | (go_simp; done) | (go_simp; with_reducible rfl))
        try simp only [Act.put, List.setIfInBounds_toArray, List.set_cons_zero, List.set_cons_succ]
        refine wpAnyH_done (by kernel_rfl) ?_ _
        go_wp2_with fail
        go_roundw
        case rel => exact ⟨k + 1, a2, q2, p2, by omega, rfl, by go_num, by rw [HT.out]; exact HV5⟩
        case measure => simp [intOf]; omega
    · have hl : l.take k = l := List.take_of_length_le (by have := HN.out; omega)
      rw [hl] at HL
      clear hl
      go_wp2_with fail
      go_ret
      exact ⟨_, rfl, HB.out.trans (HL.out.below.mono HB.out.size), HL.out.row, fun g hg => Nat.le_trans HB.out.size (HL.out.own g hg)⟩
end Go.Proofs.YtgbaeajcgiaboaaDoor
