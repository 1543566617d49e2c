/-
  Buffers: the document's: Set.
-/
import Derived.Test.YtgbaeajcgiaboaaDoorURfG
namespace Go.Proofs.YtgbaeajcgiaboaaDoor
open Go.RowKit
open Go.Lib (decDigits)
set_option linter.unusedVariables false
set_option maxRecDepth 100000

theorem ret_cell3 {P : Program} {fn : Func} {p u v : Tmp} {ty : TypeId} (h : fn.results = #[.cell p ty, .tmp u, .tmp v]) {a : Act} {w : World} {R : Ending → World → Prop} {g : Nat} {t : TypeId} {cs : Array Value} {fr : Nat × Nat} {d : TypeDesc}
    (hp : a.tmps.getD p undef = .pointer (some ⟨g, 0, none⟩)) (hg : w.heap[g]? = some (.cells cs t fr)) (hu : P.underlying ty = some d) (hd : (match d with | .struct _ | .array _ _ => true | _ => false) = true) (hi : (P.info? ty).map (·.size) = some cs.size)
    (hdf : a.defers = []) (hR : R (.returned (.tuple #[.agg cs, a.tmps.getD u undef, a.tmps.getD v undef])) w) : bodyPost P fn R .ret a w := by
  refine bodyPost_ret ?_ hdf hR
  have h1 : (asAddr (.pointer (some ⟨g, 0, none⟩))).run P w = .ok ⟨g, 0, none⟩ w := rfl
  have hp2 : a.tmps[p]?.getD undef = .pointer (some ⟨g, 0, none⟩) := by simpa using hp
  simp only [results, h]
  simp [Sem.run_bind, Result.andThen]
  rw [hp2, h1]
  dsimp only
  rw [run_loadVar_row w g t ty cs fr d hg hu hd hi]
theorem Bx.cnt {w W : World} {Q1 Q2 : Nat} {v : Value} {lim c : Int} {l : List Kp} (h : Bx w W Q1 Q2 v lim c l) (c' : Int) : Bx w (W.setCell ⟨Q1, 2, none⟩ (.int .i64 c')) Q1 Q2 v lim c' l :=
  ⟨h.below.setCell h.o1 _, h.o1, h.o2, h.ne, put_at h.q1 2 _, put_other h.q2 h.ne.symm _ _, Its.keep h.its h.q1 2 _⟩
/-- All cells of the two blocks. -/
theorem Bx.all {w W : World} {Q1 Q2 : Nat} {v : Value} {lim c : Int} {l : List Kp} (hW : Bx w W Q1 Q2 v lim c l) : W.cell? ⟨Q1, 0, none⟩ = some v ∧ W.cell? ⟨Q1, 1, none⟩ = some (.int .i64 lim) ∧ W.cell? ⟨Q1, 2, none⟩ = some (.int .i64 c) ∧ W.cell? ⟨Q2, 0, none⟩ = some (.slice none 0 0) ∧ W.cell? ⟨Q2, 1, none⟩ = some (.int .i64 0) ∧ W.cell? ⟨Q2, 2, none⟩ = some (.int .i64 0) ∧ W.frozen? ⟨Q2, 0, none⟩ = false ∧ W.frozen? ⟨Q2, 1, none⟩ = false ∧ W.frozen? ⟨Q2, 2, none⟩ = false ∧ W.frozen? ⟨Q1, 0, none⟩ = false ∧ W.frozen? ⟨Q1, 2, none⟩ = false :=
  ⟨cell_at hW.q1 0, cell_at hW.q1 1, cell_at hW.q1 2, cell_at hW.q2 0, cell_at hW.q2 1, cell_at hW.q2 2, free_at hW.q2 0, free_at hW.q2 1, free_at hW.q2 2, free_at hW.q1 0, free_at hW.q1 2⟩
def SetPost (w : World) (R : St × ByteArray × Int) (e : Ending) (w' : World) : Prop := ∃ v', e = .returned (.tuple #[.agg #[v', .int .i64 (R.1.lim : Int), .int .i64 (R.1.c : Int)], .string R.2.1, .int .i64 R.2.2]) ∧ ItsAt w' v' R.1.l ∧ Below w.heap.size w w'
theorem set_start {w : World} {v : Value} {s : St} (h : ItsAt w v s.l) : ∃ W2 Q1 Q2, (w.alloc (.cells #[v, .int .i64 (s.lim : Int), .int .i64 (s.c : Int)] 62)).alloc (.cells #[.slice none 0 0, .int .i64 0, .int .i64 0] 62) = W2 ∧ w.heap.size = Q1 ∧ w.heap.size + 1 = Q2 ∧ Bx w W2 Q1 Q2 v (s.lim : Int) (s.c : Int) s.l :=
  ⟨_, _, _, rfl, rfl, rfl, Bx.new h _ _ _ _ rfl rfl⟩
set_option maxHeartbeats 16000000 in
theorem rSetAut_any {w : World} {v : Value} {s : St} {j : Nat} (h : ItsAt w v s.l) (hG : Good s j) (hj : j ≤ 1000000) (name text : ByteArray) (hz : name.size = 0) (hs : ¬ 65536 < text.size) :
    Calls Tryd.prog 30 #[.agg #[v, .int .i64 (s.lim : Int), .int .i64 (s.c : Int)], .string name, .string text] w (SetPost w (setAut s text, nm (nx s.l s.c), 0)) := by
  obtain ⟨W2, Q1, Q2, hW2, hQ1, hQ2, hx⟩ := set_start h
  have HXQ := hidK hx
  have HWe := hidK hW2
  have HQ1 := hidK hQ1
  have HQ2 := hidK hQ2
  obtain ⟨ad, n0, cp, rfl⟩ := h.sl
  have hlen := hG.len
  have hc := hG.c
  have hlim := hG.lim
  have hle := nx_le s.l s.c
  have hge := nx_ge s.l s.c
  have HTk := hidK (nx_taken s.l s.c)
  have HFr := hidK (nx_free s.l s.c)
  obtain ⟨N, hN⟩ : ∃ N, nx s.l s.c = N := ⟨_, rfl⟩
  rw [hN] at HTk HFr hle hge ⊢
  unfold setAut
  rw [hN]
  have HAhead : Hid (∀ W V, ItsAt W V s.l → Calls Tryd.prog 52 #[.agg #[V, .int .i64 (s.lim : Int), .int .i64 ((N : Int) + 1)], .agg #[.string (nm N), .string text, .bool true]] W fun e w' => ∃ v', e = .returned (.agg #[v', .int .i64 (s.lim : Int), .int .i64 ((N : Int) + 1)]) ∧ ItsAt w' v' (⟨nm N, text, true⟩ :: s.l) ∧ Below W.heap.size W w') := fun W V hV => rAhead_any hV _ _ _ _ _ (by omega)
  have HTrim : Hid (∀ W V, ItsAt W V (⟨nm N, text, true⟩ :: s.l) → Calls Tryd.prog 51 #[.agg #[V, .int .i64 (s.lim : Int), .int .i64 ((N : Int) + 1)]] W fun e w' => ∃ v', e = .returned (.agg #[v', .int .i64 (s.lim : Int), .int .i64 ((N : Int) + 1)]) ∧ ItsAt w' v' (trimG s.lim (⟨nm N, text, true⟩ :: s.l)) ∧ Below W.heap.size W w') := fun W V hV => rTrimmed_any hV _ _ (by omega) (by simp only [List.length_cons]; omega)
  obtain ⟨L, hL⟩ : ∃ L, trimG s.lim (⟨nm N, text, true⟩ :: s.l) = L := ⟨_, rfl⟩
  rw [hL] at HTrim ⊢
  have hN2 : N ≤ 2000000000 := by omega
  have t1 : name.toList = [] := size_toList.2 hz
  have t2 : name.toList.isEmpty = true := by rw [t1]; rfl
  have hi : ¬ (65536 : Int) < (text.size : Int) := by omega
  obtain ⟨c0, hc0⟩ : ∃ c0, s.c = c0 := ⟨_, rfl⟩
  rw [hc0] at HXQ HTk hge ⊢ HWe
  obtain ⟨lm, hlm⟩ : ∃ lm, s.lim = lm := ⟨_, rfl⟩
  obtain ⟨ls, hls⟩ : ∃ ls, s.l = ls := ⟨_, rfl⟩
  rw [hlm] at HXQ HWe HAhead HTrim ⊢
  rw [hls] at HXQ HTk HFr HAhead HTrim
  clear hW2 hQ1 hQ2 hx h hlen hc hlim hG hle hL hN hc0 hlm hls hz hs
  go_enter Tryd.func30, Tryd.ntmps30
  go_wp2_with fail
  rw [HWe.out, HQ2.out, HQ1.out]
  clear HWe
  go_loopg [26] (N - c0) (fun gg _ wr => ∃ m : Nat, gg = N - m ∧ c0 ≤ m ∧ m ≤ N ∧ Hid (Bx w wr Q1 Q2 (.slice ad n0 cp) (lm : Int) (m : Int) ls))
  case atStart => exact ⟨c0, rfl, Nat.le_refl _, hge, HXQ⟩
  case round =>
    obtain ⟨m, rfl, hcm, hmN, HB⟩ := hrel
    clear HXQ
    obtain ⟨D, hD⟩ : ∃ D, str (decDigits m) = D := ⟨_, rfl⟩
    obtain ⟨M, hM⟩ : ∃ M, nm m = M := ⟨_, rfl⟩
    have hcat : (⟨#[98, 117, 102, 102, 101, 114]⟩ : ByteArray) ++ D = M := by rw [← hD, ← hM]; exact stem_nm m
    have hDs : D.size ≤ 19 := by rw [← hD, str_size]; exact dec_length m (by omega)
    have hno : ¬ 9223372036854775807 < 6 + D.size := by omega
    have HM := hidK hM
    have HP : Hid (∀ W, Calls Tryd.prog 50 #[.int .i64 (m : Int)] W fun e w' => e = .returned (.string D) ∧ Below W.heap.size W w') := fun W => by rw [← hD]; exact rput_any m W (by omega)
    have HAt : Hid (∀ W, Bx w W Q1 Q2 (.slice ad n0 cp) (lm : Int) (m : Int) ls → Calls Tryd.prog 49 #[.agg #[.slice ad n0 cp, .int .i64 (lm : Int), .int .i64 (m : Int)], .string M] W fun e w' => e = .returned (.int .i64 (fidx (nmd M) ls)) ∧ Below W.heap.size W w') := fun W hW => rAt_any hW.its _ _ M
    obtain ⟨I, hI⟩ : ∃ I, fidx (nmd M) ls = I := ⟨_, rfl⟩
    have HI := hidK hI
    rw [hI] at HAt
    have hw1 : IntKind.i64.wrap ((m : Int) + 1) = (m : Int) + 1 := by rw [IntKind.wrap_i64]; omega
    clear hD hM hI
    have HB2 := hidK HB.out
    go_upto_region 4 with fail
    go_cut [23] (fun v X => v = .bool (decide (0 ≤ I)) ∧ Hid (Bx w X Q1 Q2 (.slice ad n0 cp) (lm : Int) (m : Int) ls))
    case first =>
      refine wp_region_held_drew (S := (fun X => X.cell? ⟨Q1, 0, none⟩ = some (.slice ad n0 cp) ∧ X.cell? ⟨Q1, 1, none⟩ = some (.int .i64 (lm : Int)) ∧ X.cell? ⟨Q1, 2, none⟩ = some (.int .i64 (m : Int)))) (by kernel_rfl) ?sP (fun hHeld => ?_)
      case sP => ((try dsimp only); first | exact ⟨HB2.out.all.1, HB2.out.all.2.1, HB2.out.all.2.2.1⟩)
      have HBn := hidK (HB2.out.more (Below.refl _ _).drew)
      clear HB2
      have HB2 := hidK HBn.out
      clear HBn
      refine wpAnyH_take (i := 0) (oi := { dst := some 17, op := Op.load 62 (Operand.tmp 3), type := 62, pos := "ref.go:109", after := #[], guard := none }) (v := ?vP0n1) rfl (by kernel_rfl) (by kernel_rfl) (by kernel_rfl) (fun _ _ _ h => h) (Or.inl ⟨by rfl, ?yP0n1⟩) (by assumption) ?rP0n1
      case yP0n1 => (intro w hSw; (try dsimp only at hSw); first | (go_simp; done) | (go_simp; with_reducible rfl))
      try simp only [Act.put, List.setIfInBounds_toArray, List.set_cons_zero, List.set_cons_succ]
      refine wpAnyH_take (i := 1) (oi := { dst := some 18, op := Op.fieldAddr 62 (Operand.tmp 3) 2, type := 0, pos := "ref.go:109", after := #[], guard := none }) (v := ?vP1n2) rfl (by kernel_rfl) (by kernel_rfl) (by kernel_rfl) (fun _ _ _ h => h) (Or.inl ⟨by rfl, ?yP1n2⟩) (by assumption) ?rP1n2
      case yP1n2 => (intro w hSw; (try dsimp only at hSw); first | (go_simp; done) | (go_simp; with_reducible rfl))
      try simp only [Act.put, List.setIfInBounds_toArray, List.set_cons_zero, List.set_cons_succ]
      refine wpAnyH_take (i := 2) (oi := { dst := some 19, op := Op.load 3 (Operand.tmp 18), type := 3, pos := "ref.go:109", after := #[{ on := 1, ground := Ground.data }], guard := none }) (v := ?vP2n3) rfl (by kernel_rfl) (by kernel_rfl) (by kernel_rfl) (fun _ _ _ h => h) (Or.inl ⟨by rfl, ?yP2n3⟩) (by assumption) ?rP2n3
      case yP2n3 => (intro w hSw; (try dsimp only at hSw); first | (go_simp; done) | (go_simp; with_reducible rfl))
      try simp only [Act.put, List.setIfInBounds_toArray, List.set_cons_zero, List.set_cons_succ]
      refine wpAnyH_ready (rs := [3]) (by kernel_rfl) (by simp) (AllReadyH.cons (o := { dst := some 20, op := Op.call { callee := Callee.value (Operand.func 50), args := #[Operand.tmp 19], argTypes := #[3] }, type := 9, pos := "ref.go:109", after := #[{ on := 2, ground := Ground.data }], guard := none }) rfl (fun K hK => ?bPn4q0) AllReadyH.nil)
      go_simp
      go_wp2_with (refine (HP.out _).mono ?_; rintro e w5 ⟨rfl, hb5⟩; have HBn := hidK (HB2.out.more hb5); clear hb5 HB2; have HB2 := hidK HBn.out; clear HBn)
      refine hK.out _ _ ?kPn4o3 (fun hHeld4 => ?_)
      case kPn4o3 => ((try dsimp only); first | exact ⟨HB2.out.all.1, HB2.out.all.2.1, HB2.out.all.2.2.1⟩)
      clear hK K
      try simp only [Act.put, List.setIfInBounds_toArray, List.set_cons_zero, List.set_cons_succ]
      refine wpAnyH_take (i := 4) (oi := { dst := some 21, op := Op.binOp BinOp.add 9 (Operand.const (Value.string { data := #[98, 117, 102, 102, 101, 114] })) (Operand.tmp 20) 9, type := 9, pos := "ref.go:109", after := #[{ on := 3, ground := Ground.data }], guard := none }) (v := ?vP4n5) rfl (by kernel_rfl) (by kernel_rfl) (by kernel_rfl) (fun _ _ _ h => h) (Or.inl ⟨by rfl, ?yP4n5⟩) (by assumption) ?rP4n5
      case yP4n5 => (intro w hSw; (try dsimp only at hSw); first | (go_simp; done) | (go_simp; with_reducible rfl))
      try simp only [Act.put, List.setIfInBounds_toArray, List.set_cons_zero, List.set_cons_succ]
      refine wpAnyH_ready (rs := [5]) (by kernel_rfl) (by simp) (AllReadyH.cons (o := { dst := some 22, op := Op.call { callee := Callee.value (Operand.func 49), args := #[Operand.tmp 17, Operand.tmp 21], argTypes := #[62, 9] }, type := 3, pos := "ref.go:109", after := #[{ on := 0, ground := Ground.data }, { on := 4, ground := Ground.data }, { on := 3, ground := Ground.chain }], guard := none }) rfl (fun K hK => ?bPn6q0) AllReadyH.nil)
      go_simp
      go_wp2_with (refine (HAt.out _ HB2.out).mono ?_; rintro e w6 ⟨rfl, hb6⟩; have HBn := hidK (HB2.out.more hb6); clear hb6 HB2; have HB2 := hidK HBn.out; clear HBn)
      refine hK.out _ _ ?kPn6o5 (fun hHeld6 => ?_)
      case kPn6o5 => ((try dsimp only); first | exact ⟨HB2.out.all.1, HB2.out.all.2.1, HB2.out.all.2.2.1⟩)
      clear hK K
      try simp only [Act.put, List.setIfInBounds_toArray, List.set_cons_zero, List.set_cons_succ]
      refine wpAnyH_take (i := 6) (oi := { dst := some 23, op := Op.binOp BinOp.geq 3 (Operand.tmp 22) (Operand.const (Value.int IntKind.i64 0)) 3, type := 4, pos := "ref.go:109", after := #[{ on := 5, ground := Ground.data }], guard := none }) (v := ?vP6n7) rfl (by kernel_rfl) (by kernel_rfl) (by kernel_rfl) (fun _ _ _ h => h) (Or.inl ⟨by rfl, ?yP6n7⟩) (by assumption) ?rP6n7
      case yP6n7 => (intro w hSw; (try dsimp only at hSw); first | (go_simp; done) | (go_simp; with_reducible rfl))
      try simp only [Act.put, List.setIfInBounds_toArray, List.set_cons_zero, List.set_cons_succ]
      refine wpAnyH_done (by kernel_rfl) ?_ _
      go_wp2_with fail
      go_meet
      case rel => exact ⟨by first | rfl | simp, HB2⟩
    case rest =>
      obtain ⟨rfl, HBc⟩ := hcut
      clear HB HB2
      obtain ⟨r0, r1, r2, y0, y1, y2, z0, z1, z2, z3, z4⟩ := HBc.out.all
      by_cases ht : 0 ≤ I
      · have hd : decide (0 ≤ I) = true := decide_eq_true ht
        rw [hd]
        have HX : Hid (m < N) := by
          rcases Nat.lt_or_ge m N with z | z
          · exact z
          · exfalso
            have e : m = N := by omega
            have := HFr.out
            unfold tkn at this
            rw [← e, HM.out, HI.out] at this
            exact this ht
        have HBn := hidK (HBc.out.cnt ((m : Int) + 1))
        clear hd ht
        go_wp2_with fail
        go_roundg (N - (m + 1))
        case measure => have := HX.out; omega
        case rel => exact ⟨m + 1, rfl, by omega, by have := HX.out; omega, by simpa using HBn⟩
      · have hd : decide (0 ≤ I) = false := decide_eq_false ht
        rw [hd]
        have hm : ¬ m < N := fun hlt => by
          have := HTk.out m hcm hlt
          unfold tkn at this
          rw [HM.out, HI.out] at this
          exact ht this
        have hmN2 : m = N := by omega
        subst hmN2
        clear hd ht hm HTk HFr HAt hcm hmN hge HI
        go_wp2_with fail
        refine (HP.out _).mono ?_
        rintro e w5 ⟨rfl, hb5⟩
        have hB5 := HBc.out.more hb5
        obtain ⟨q0, q1, q2, x0, x1, x2, u0, u1, u2, u3, u4⟩ := hB5.all
        obtain ⟨w6, hw6⟩ : ∃ w6, w5.setCell ⟨Q1, 2, none⟩ (.int .i64 ((m : Int) + 1)) = w6 := ⟨_, rfl⟩
        have hB6 := hB5.cnt ((m : Int) + 1)
        rw [hw6] at hB6
        obtain ⟨a0, a1, a2, _⟩ := hB6.all
        have HB6 := hidK hB6
        rw [HM.out] at HAhead
        clear hb5 hB5 hB6 r0 r1 r2 y0 y1 y2 z0 z1 z2 z3 z4 HBc
        go_wp2_with fail
        refine (HAhead.out _ _ HB6.out.its).mono ?_
        rintro e w7 ⟨v7, rfl, h7, hb7⟩
        have HB7 := hidK (HB6.out.more hb7)
        obtain ⟨a7, n7, p7, rfl⟩ := h7.sl
        rw [HM.out] at HTrim
        have H7 := hidK h7
        clear h7 hb7
        go_wp2_with fail
        refine (HTrim.out _ _ H7.out).mono ?_
        rintro e w8 ⟨v8, rfl, h8, hb8⟩
        have hB8 := HB7.out.more hb8
        have HB8 := hidK hB8
        obtain ⟨a8, n8, p8, rfl⟩ := h8.sl
        have H8 := hidK h8
        obtain ⟨b0, b1, b2, d0, d1, d2, f0, f1, f2, f3, f4⟩ := hB8.all
        clear h8 hb8 hB8
        go_wp2_with fail
        obtain ⟨g1, g2, g3⟩ := HB8.out.told (lim' := (lm : Int)) (c' := ((m : Int) + 1)) H8.out
        exact ret_cell3 rfl rfl g1 Tryd.underlying62 rfl infoRB rfl ⟨_, by first | rfl | (rw [HM.out]; rfl) | simp [HM.out], g2, g3⟩
end Go.Proofs.YtgbaeajcgiaboaaDoor
