/-
  Buffers: the document's: trimmed.
-/
import Derived.Test.YtgbaeajcgiaboaaDoorURfC
import Derived.Deep.DeepCutAuto
namespace Go.Proofs.YtgbaeajcgiaboaaDoor
open Go.RowKit
set_option linter.unusedVariables false
set_option maxRecDepth 100000

set_option maxHeartbeats 16000000 in
theorem rTrimmed_any {w : World} {v : Value} {l : List Kp} (h : ItsAt w v l) (lim : Nat) (c : Int) (hlim : lim ≤ 1000000) (hlen : l.length ≤ 1000000) :
    Calls Tryd.prog 51 #[.agg #[v, .int .i64 (lim : Int), .int .i64 c]] w fun e w' => ∃ v', e = .returned (.agg #[v', .int .i64 (lim : Int), .int .i64 c]) ∧ ItsAt w' v' (trimG lim l) ∧ Below w.heap.size w w' := by
  have HX := hidK (Bx.new h (lim : Int) c _ _ rfl rfl)
  obtain ⟨W2, hW2⟩ : ∃ W, (w.alloc (.cells #[v, .int .i64 (lim : Int), .int .i64 c] 62)).alloc (.cells #[.slice none 0 0, .int .i64 0, .int .i64 0] 62) = W := ⟨_, rfl⟩
  rw [hW2] at HX
  obtain ⟨Q1, hQ1⟩ : ∃ Q, w.heap.size = Q := ⟨_, rfl⟩
  obtain ⟨Q2, hQ2⟩ : ∃ Q, w.heap.size + 1 = Q := ⟨_, rfl⟩
  have HXQ : Hid (Bx w W2 Q1 Q2 v (lim : Int) c l) := by rw [← hQ1, ← hQ2]; exact HX
  have HWe := hidK hW2
  have HQ1 := hidK hQ1
  have HQ2 := hidK hQ2
  obtain ⟨ad, n0, cp, rfl⟩ := h.sl
  clear hQ1 hQ2 HX hW2 h
  go_enter Tryd.func51, Tryd.ntmps51
  go_wp2_with fail
  rw [HWe.out, HQ2.out, HQ1.out]
  clear HWe
  go_loopg [3, 4] (autos l) (fun gg _ _ wr => ∃ (l' : List Kp) (a' : Option Addr) (n' p' : Nat), gg = autos l' ∧ l'.length ≤ 1000000 ∧ Hid (trimG lim l' = trimG lim l) ∧ Hid (Bx w wr Q1 Q2 (.slice a' n' p') (lim : Int) c l'))
  case atStart => exact ⟨l, ad, n0, cp, rfl, hlen, rfl, HXQ⟩
  case round =>
    obtain ⟨l', a', n', p', rfl, hlen', HT, HB⟩ := hrel
    clear HXQ
    have HC : Hid (∀ W, Bx w W Q1 Q2 (.slice a' n' p') (lim : Int) c l' → Calls Tryd.prog 55 #[.agg #[.slice a' n' p', .int .i64 (lim : Int), .int .i64 c], .bool true] W fun e w' => e = .returned (.int .i64 ((autos l' : Nat) : Int)) ∧ Below W.heap.size W w') := fun W hW => rCount_any hW.its (lim : Int) c true
    have hS : Hid (∀ W, Bx w W Q1 Q2 (.slice a' n' p') (lim : Int) c l' → W.cell? ⟨Q1, 0, none⟩ = some (.slice a' n' p') ∧ W.cell? ⟨Q1, 1, none⟩ = some (.int .i64 (lim : Int)) ∧ W.cell? ⟨Q1, 2, none⟩ = some (.int .i64 c)) := fun W hW => ⟨cell_at hW.q1 0, cell_at hW.q1 1, cell_at hW.q1 2⟩
    have hcl : autos l' ≤ 1000000 := Nat.le_trans (cnt_le true l') hlen'
    obtain ⟨N, hN⟩ : ∃ N, autos l' = N := ⟨_, rfl⟩
    have HN := hidK hN
    rw [hN] at HC hcl
    clear hN
    have HB2 := hidK HB.out
    go_upto_region 1 with fail
    go_cut [9] (fun v X => v = .bool (decide (lim < N)) ∧ Hid (Bx w X Q1 Q2 (.slice a' n' p') (lim : Int) c l'))
    case first =>
      refine wp_region_held_drew (S := (fun X => X.cell? ⟨Q1, 0, none⟩ = some (.slice a' n' p') ∧ X.cell? ⟨Q1, 1, none⟩ = some (.int .i64 (lim : Int)) ∧ X.cell? ⟨Q1, 2, none⟩ = some (.int .i64 c))) (by kernel_rfl) ?sP (fun hHeld => ?_)
      case sP => ((try dsimp only); first | exact hS.out _ HB2.out | exact hS.out _ (HB2.out.more (Below.refl _ _).drew))
      have HBn := hidK (HB2.out.more (Below.refl _ _).drew)
      clear HB2
      have HB2 := hidK HBn.out
      clear HBn
      refine wpAnyH_take (i := 0) (oi := { dst := some 5, op := Op.load 62 (Operand.tmp 1), type := 62, pos := "ref.go:85", after := #[], guard := none }) (v := ?vP0n1) rfl (by kernel_rfl) (by kernel_rfl) (by kernel_rfl) (fun _ _ _ h => h) (Or.inl ⟨by rfl, ?yP0n1⟩) (by assumption) ?rP0n1
      case yP0n1 => (intro w hSw; (try dsimp only at hSw); first | (go_simp; done) | (go_simp; with_reducible rfl))
      try simp only [Act.put, List.setIfInBounds_toArray, List.set_cons_zero, List.set_cons_succ]
      refine wpAnyH_take (i := 2) (oi := { dst := some 7, op := Op.fieldAddr 62 (Operand.tmp 1) 1, type := 0, pos := "ref.go:85", after := #[], guard := none }) (v := ?vP2n2) rfl (by kernel_rfl) (by kernel_rfl) (by kernel_rfl) (fun _ _ _ h => h) (Or.inl ⟨by rfl, ?yP2n2⟩) (by assumption) ?rP2n2
      case yP2n2 => (intro w hSw; (try dsimp only at hSw); first | (go_simp; done) | (go_simp; with_reducible rfl))
      try simp only [Act.put, List.setIfInBounds_toArray, List.set_cons_zero, List.set_cons_succ]
      refine wpAnyH_take (i := 3) (oi := { dst := some 8, op := Op.load 3 (Operand.tmp 7), type := 3, pos := "ref.go:85", after := #[{ on := 2, ground := Ground.data }], guard := none }) (v := ?vP3n3) rfl (by kernel_rfl) (by kernel_rfl) (by kernel_rfl) (fun _ _ _ h => h) (Or.inl ⟨by rfl, ?yP3n3⟩) (by assumption) ?rP3n3
      case yP3n3 => (intro w hSw; (try dsimp only at hSw); first | (go_simp; done) | (go_simp; with_reducible rfl))
      try simp only [Act.put, List.setIfInBounds_toArray, List.set_cons_zero, List.set_cons_succ]
      refine wpAnyH_ready (rs := [1]) (by kernel_rfl) (by simp) (AllReadyH.cons (o := { dst := some 6, op := Op.call { callee := Callee.value (Operand.func 55), args := #[Operand.tmp 5, Operand.const (Value.bool true)], argTypes := #[62, 4] }, type := 3, pos := "ref.go:85", after := #[{ on := 0, ground := Ground.data }], guard := none }) rfl (fun K hK => ?bPn4q0) AllReadyH.nil)
      go_simp
      go_wp2_with (refine (HC.out _ HB2.out).mono ?_; rintro e w5 ⟨rfl, hb5⟩; have HBn := hidK (HB2.out.more hb5); clear hb5 HB2; have HB2 := hidK HBn.out; clear HBn)
      refine hK.out _ _ ?kPn4o1 (fun hHeld4 => ?_)
      case kPn4o1 => ((try dsimp only); first | exact hS.out _ HB2.out | exact hS.out _ (HB2.out.more (Below.refl _ _).drew))
      clear hK K
      try simp only [Act.put, List.setIfInBounds_toArray, List.set_cons_zero, List.set_cons_succ]
      refine wpAnyH_take (i := 4) (oi := { dst := some 9, op := Op.binOp BinOp.gtr 3 (Operand.tmp 6) (Operand.tmp 8) 3, type := 4, pos := "ref.go:85", after := #[{ on := 1, ground := Ground.data }, { on := 3, ground := Ground.data }], guard := none }) (v := ?vP4n5) rfl (by kernel_rfl) (by kernel_rfl) (by kernel_rfl) (fun _ _ _ h => h) (Or.inl ⟨by rfl, ?yP4n5⟩) (by assumption) ?rP4n5
      case yP4n5 => (intro w hSw; (try dsimp only at hSw); first | (go_simp; done) | (go_simp; with_reducible rfl))
      try simp only [Act.put, List.setIfInBounds_toArray, List.set_cons_zero, List.set_cons_succ]
      refine wpAnyH_done (by kernel_rfl) ?_ _
      go_wp2_with fail
      go_meet
      case rel => exact ⟨by first | rfl | simp, HB2⟩
    case rest =>
      obtain ⟨rfl, HBc⟩ := hcut
      clear HB HB2
      by_cases hlt : lim < N
      · have hd : decide (lim < N) = true := decide_eq_true hlt
        rw [hd]
        have HBw := HBc
        obtain ⟨ad2, cp2, he, _, hcm2, hnil, hsome⟩ := HBc.out.its.shape
        cases he
        have HNil := hidK hnil
        have HS := hidK hsome
        obtain ⟨n, hn⟩ : ∃ n, l'.length = n := ⟨_, rfl⟩
        have HL := hidK hn
        rw [hn] at HBc hlen'
        have q0 := cell_at HBc.out.q1 0
        have HN2 := hidK hlt
        rw [hn] at HC hS HBw
        clear hnil hsome hcm2 hlt hn hd
        go_wp2_with fail
        go_loopw [3, 4] (fun x i wr => ∃ k m : Nat, k ≤ n ∧ x = .int .i64 m ∧ i = .int .i64 k ∧ wc = wr ∧ Hid (LastA (l'.take k) m)) (fun _ i _ => n - (intOf i).toNat)
        case atStart => exact ⟨0, 0, Nat.zero_le _, rfl, rfl, by trivial, .inl ⟨rfl, rfl⟩⟩
        case round =>
          obtain ⟨k, m, hk, rfl, rfl, rfl, HA⟩ := hrel
          by_cases hlt : k < n
          · have hkl : k < l'.length := by rw [HL.out]; exact hlt
            cases a' with
            | none => have := (HNil.out rfl).1; rw [this] at hkl; simp at hkl
            | some a =>
              obtain ⟨g0, o0, rfl, hob, hgl, hat⟩ := HS.out _ rfl
              have hcells := fun c u hu => (hat wc rfl).1 k hkl c u hu
              obtain ⟨⟨n1, t1, a1⟩, hx⟩ : ∃ q, l'[k] = q := ⟨_, rfl⟩
              have hxa : l'[k].a = a1 := by rw [hx]
              rw [hx] at hcells
              have c2 : wc.cell? ⟨g0, o0 + k * 3 + 2, none⟩ = some (.bool a1) := hcells 2 _ rfl
              have hi1 : (k : Int) < (n : Int) := by omega
              clear hcells hat hx hob hgl
              cases a1 with
              | true =>
                have HQ := hidK (LastA.yes hkl hxa)
                clear hxa
                go_wp2_with fail
                go_roundw
                case rel => exact ⟨k + 1, k, by omega, rfl, by go_num, by trivial, HQ⟩
                case measure => simp [intOf]; omega
              | false =>
                have HQ := hidK (LastA.no HA.out hkl hxa)
                clear hxa
                go_wp2_with fail
                go_roundw
                case rel => exact ⟨k + 1, m, by omega, rfl, by go_num, by trivial, HQ⟩
                case measure => simp [intOf]; omega
          · have e : l'.take k = l' := List.take_of_length_le (by have := HL.out; omega)
            rw [e] at HA
            have hpos : 0 < autos l' := by rw [HN.out]; have := HN2.out; omega
            have hml := LastA.lt HA.out hpos
            obtain ⟨ht1, ht2⟩ := LastA.trim HA.out (r := lim) (by rw [HN.out]; exact HN2.out)
            have HW := hidK (rWithout_any HBc.out.its (lim : Int) c m hml (by rw [HL.out]; exact hlen'))
            have HT2 : Hid (trimG lim (l'.eraseIdx m) = trimG lim l) := by show _ = _; rw [ht1]; exact HT.out
            have HD := hidK ht2
            have HE := hidK (List.length_eraseIdx_le l' m)
            have r0 := cell_at HBc.out.q1 0
            have r1 := cell_at HBc.out.q1 1
            have r2 := cell_at HBc.out.q1 2
            clear e hpos hml ht1 ht2 HNil HS HC hS q0
            go_wp2_with fail
            refine HW.out.mono ?_
            rintro e w5 ⟨v5, rfl, h5, hb5⟩
            obtain ⟨a5, n5, p5, rfl⟩ := h5.sl
            have hB5 := HBc.out.more hb5
            have HBn := hidK (hB5.put (lim' := (lim : Int)) (c' := c) h5)
            have s0 := cell_at hB5.q1 0
            have s1 := cell_at hB5.q1 1
            have s2 := cell_at hB5.q1 2
            have f0 := free_at hB5.q1 0
            have f1 := free_at hB5.q1 1
            have f2 := free_at hB5.q1 2
            clear h5 hb5 hB5 r0 r1 r2
            go_wp2_with fail
            go_roundg (autos (l'.eraseIdx m))
            case measure => have := HD.out; omega
            case rel => exact ⟨l'.eraseIdx m, a5, n5, p5, rfl, by have := HE.out; have := HL.out; omega, HT2, HBn⟩
      · have hd : decide (lim < N) = false := decide_eq_false hlt
        rw [hd]
        have HTe : Hid (trimG lim l = l') := by show _ = _; rw [← HT.out]; exact trimG_few (by rw [HN.out]; exact hlt)
        have r0 := cell_at HBc.out.q1 0
        have r1 := cell_at HBc.out.q1 1
        have r2 := cell_at HBc.out.q1 2
        have y0 := cell_at HBc.out.q2 0
        have y1 := cell_at HBc.out.q2 1
        have y2 := cell_at HBc.out.q2 2
        have z0 := free_at HBc.out.q2 0
        have z1 := free_at HBc.out.q2 1
        have z2 := free_at HBc.out.q2 2
        go_wp2_with fail
        refine ret_cell1 rfl rfl (three_at HBc.out.q2 (x := .slice a' n' p') (y := .int .i64 (lim : Int)) (z := .int .i64 c)) Tryd.underlying62 rfl infoRB rfl ⟨_, rfl, ?_, ?_⟩
        · rw [HTe.out]
          exact Its.keep (Its.keep (Its.keep HBc.out.its HBc.out.q2 0 _) (put_at HBc.out.q2 0 _) 1 _) (put_at (put_at HBc.out.q2 0 _) 1 _) 2 _
        · have o2 := HBc.out.o2
          exact ((HBc.out.below.setCell o2 _).setCell o2 _).setCell o2 _
end Go.Proofs.YtgbaeajcgiaboaaDoor
