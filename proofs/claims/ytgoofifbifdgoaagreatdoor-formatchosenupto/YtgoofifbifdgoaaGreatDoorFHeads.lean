/-
  Formats: the heads' map (what its entries do is said elsewhere).
-/
import Derived.Test.YtgoofifbifdgoaaGreatDoorFTurs
namespace Go.Proofs.YtgoofifbifdgoaaGreatDoor
open Go.RowKit
set_option linter.unusedVariables false
set_option maxRecDepth 20000

theorem wpList_insert_text {ops : Array Oper} {rest : List Oper} {o : Oper} {a : Act} {Q : Exit → Act → World → Prop} (w : World) (hgd : o.guard = none) (mo ko xo : Operand) (t : TypeId) (ho : o.op = .insert t mo ko xo)
    {kt et : TypeId} (ht : Tryz.prog.underlying t = some (.map kt et)) (hk : Tryz.prog.underlying kt = some .string) {b : Nat} {k : List UInt8} {v : Value} {m : Ents} (e1 : a.eval mo = .map (some b)) (e2 : a.eval ko = .string (str k)) (e3 : a.eval xo = v) (hm : MapAt w b m) (hv : lookT m k = none)
    (h : ∀ w', Hid (MapAt w' b (m ++ [(k, v)])) → Hid (But [b] w w') → wpList Tryz.prog ops Q rest (a.put o.dst undef) w') : wpList Tryz.prog ops Q (o :: rest) a w := by
  obtain ⟨w', hrun, h2, h3⟩ := lay_new (v := v) hm ht hk hv
  refine wpList_plain hgd fun K hK => ?_
  unfold Oper.wp execOp
  simp only [ho, e1, e2, e3, Sem.run_bind, Sem.run_pure, Result.andThen_ok, hrun]
  exact hK _ _ (h w' h2 h3)
theorem underHeads : Tryz.prog.underlying 59 = some (.map 9 96) := by kernel_rfl
structure Hu (w W : World) (b0 : Nat) (m : Ents) : Prop where
  map : MapAt W b0 m
  below : Below w.heap.size w W
  eq : b0 = w.heap.size
theorem Hu.call {w W W' : World} {b0 : Nat} {m : Ents} (h : Hu w W b0 m) (hb : Below W.heap.size W W') : Hu w W' b0 m := ⟨h.map.below hb, h.below.trans (hb.mono h.below.size), h.eq⟩
theorem Hu.ins {w W W' : World} {b0 : Nat} {m m' : Ents} (h : Hu w W b0 m) (hm : MapAt W' b0 m') (hb : But [b0] W W') : Hu w W' b0 m' := ⟨hm, hb.under h.below h.below.size (fun k hk => by rw [List.mem_singleton.1 hk, h.eq]; exact Nat.le_refl _), h.eq⟩
theorem ofTexts_makes (xb g : Nat) (lb : Array Value) (w : World) : Calls Tryz.prog 53 #[.pointer (some ⟨xb, 0, none⟩), .func (.func g) #[] lb] w fun e w' => ∃ v, e = .returned v ∧ Below w.heap.size w w' := by
  go_enter Tryz.func53, Tryz.ntmps53
  go_wp2
  all_goals go_ret
  all_goals exact ⟨_, rfl, ((Below.refl _ _).alloc (Nat.le_refl _) _).alloc (by simp) _⟩
theorem ofTruths_makes (xb g : Nat) (lb : Array Value) (w : World) : Calls Tryz.prog 60 #[.pointer (some ⟨xb, 0, none⟩), .func (.func g) #[] lb] w fun e w' => ∃ v, e = .returned v ∧ Below w.heap.size w w' := by
  go_enter Tryz.func60, Tryz.ntmps60
  go_wp2
  all_goals go_ret
  all_goals exact ⟨_, rfl, ((Below.refl _ _).alloc (Nat.le_refl _) _).alloc (by simp) _⟩
theorem ofNumbers_makes (xb g : Nat) (lb : Array Value) (w : World) : Calls Tryz.prog 63 #[.pointer (some ⟨xb, 0, none⟩), .func (.func g) #[] lb] w fun e w' => ∃ v, e = .returned v ∧ Below w.heap.size w w' := by
  go_enter Tryz.func63, Tryz.ntmps63
  go_wp2
  all_goals go_ret
  all_goals exact ⟨_, rfl, ((Below.refl _ _).alloc (Nat.le_refl _) _).alloc (by simp) _⟩
theorem whether_makes (g : Nat) (lb : Array Value) (w : World) : Calls Tryz.prog 69 #[.func (.func g) #[] lb] w fun e w' => ∃ g' lb', e = .returned (.func (.func g') #[] lb') ∧ Below w.heap.size w w' := by
  go_enter Tryz.func69, Tryz.ntmps69
  go_wp2
  all_goals go_ret
  all_goals exact ⟨_, _, rfl, (Below.refl _ _).alloc (Nat.le_refl _) _⟩
theorem heads_keys (v0 v1 v2 v3 v4 v5 v6 v7 v8 v9 v10 v11 v12 v13 v14 v15 v16 v17 v18 : Value) : ([([61, 61], v0), ([33, 61], v1), ([60], v2), ([62], v3), ([60, 61], v4), ([62, 61], v5), ([109], v6), ([124, 124], v7), ([38, 38], v8), ([101, 124, 43, 124], v9), ([101, 124, 45, 124], v10), ([101, 124, 42, 124], v11), ([101, 124, 47, 124], v12), ([101, 124, 109, 124], v13), ([101, 124, 61, 61, 124], v14), ([101, 124, 60, 124], v15), ([101, 124, 62, 124], v16), ([33], v17), ([108], v18)] : Ents).map (·.1) = headNames := rfl
theorem look_keys {m : Ents} (h : m.map (·.1) = headNames) (k : List UInt8) (hk : k ∉ headNames) : lookT m k = none := by
  unfold lookT
  rw [List.find?_eq_none.2]
  · rfl
  · intro p hp
    simp only [decide_eq_true_eq]
    exact fun e => hk (by rw [← h, ← e]; exact List.mem_map_of_mem hp)
/-- The heads' map. -/
def HeadsAt (w : World) (b : Nat) : Prop := ∃ m, MapAt w b m ∧ m.map (·.1) = headNames
theorem HeadsAt.below {w w' : World} {b : Nat} (h : HeadsAt w b) (hb : Below w.heap.size w w') : HeadsAt w' b := by
  obtain ⟨m, h1, h2⟩ := h
  exact ⟨m, h1.below hb, h2⟩

set_option maxHeartbeats 8000000 in
theorem heads_any (xb : Nat) (w : World) : Calls Tryz.prog 27 #[.pointer (some ⟨xb, 0, none⟩)] w fun e w' => ∃ b, e = .returned (.map (some b)) ∧ Below w.heap.size w w' ∧ w.heap.size ≤ b ∧ HeadsAt w' b := by
  have hmk := run_makeMap (P := Tryz.prog) 59 w
  have S0 : Hid (Hu w (w.alloc (.map #[] 0)) w.heap.size []) := ⟨⟨#[], 0, heap_alloc_new w _, rfl⟩, (Below.refl _ _).alloc (Nat.le_refl _) _, rfl⟩
  obtain ⟨W0, hW0⟩ : ∃ W0, w.alloc (.map #[] 0) = W0 := ⟨_, rfl⟩
  obtain ⟨b0, hb0⟩ : ∃ b0, w.heap.size = b0 := ⟨_, rfl⟩
  rw [hW0, hb0] at hmk S0
  clear hW0 hb0
  go_enter Tryz.func27, Tryz.ntmps27
  go_wp2_with fail
  refine (ofTexts_makes xb 54 #[] _).mono ?_
  rintro x W0a ⟨v0, rfl, hbc⟩
  have T0 := hidK (S0.out.call hbc)
  clear hbc S0
  go_wp2_with (refine wpList_insert_text W0a rfl _ _ _ 59 rfl underHeads Tryz.underlying9 (b := b0) (k := [61, 61]) (v := v0) (m := []) (by simp [Act.eval]) (by first | rfl | simp [Act.eval, str]) (by simp [Act.eval]) T0.out.map rfl ?i0)
  case i0 =>
    intro X0 hm0 hbu0
    have S1 : Hid (Hu w X0 b0 [([61, 61], v0)]) := T0.out.ins hm0.out hbu0.out
    clear hm0 hbu0 T0
    go_wp2_with fail
    refine (ofTexts_makes xb 55 #[] _).mono ?_
    rintro x W1a ⟨v1, rfl, hbc⟩
    have T1 := hidK (S1.out.call hbc)
    clear hbc S1
    go_wp2_with (refine wpList_insert_text W1a rfl _ _ _ 59 rfl underHeads Tryz.underlying9 (b := b0) (k := [33, 61]) (v := v1) (m := [([61, 61], v0)]) (by simp [Act.eval]) (by first | rfl | simp [Act.eval, str]) (by simp [Act.eval]) T1.out.map rfl ?i1)
    case i1 =>
      intro X1 hm1 hbu1
      have S2 : Hid (Hu w X1 b0 [([61, 61], v0), ([33, 61], v1)]) := T1.out.ins hm1.out hbu1.out
      clear hm1 hbu1 T1
      go_wp2_with fail
      refine (ofTexts_makes xb 56 #[] _).mono ?_
      rintro x W2a ⟨v2, rfl, hbc⟩
      have T2 := hidK (S2.out.call hbc)
      clear hbc S2
      go_wp2_with (refine wpList_insert_text W2a rfl _ _ _ 59 rfl underHeads Tryz.underlying9 (b := b0) (k := [60]) (v := v2) (m := [([61, 61], v0), ([33, 61], v1)]) (by simp [Act.eval]) (by first | rfl | simp [Act.eval, str]) (by simp [Act.eval]) T2.out.map rfl ?i2)
      case i2 =>
        intro X2 hm2 hbu2
        have S3 : Hid (Hu w X2 b0 [([61, 61], v0), ([33, 61], v1), ([60], v2)]) := T2.out.ins hm2.out hbu2.out
        clear hm2 hbu2 T2
        go_wp2_with fail
        refine (ofTexts_makes xb 57 #[] _).mono ?_
        rintro x W3a ⟨v3, rfl, hbc⟩
        have T3 := hidK (S3.out.call hbc)
        clear hbc S3
        go_wp2_with (refine wpList_insert_text W3a rfl _ _ _ 59 rfl underHeads Tryz.underlying9 (b := b0) (k := [62]) (v := v3) (m := [([61, 61], v0), ([33, 61], v1), ([60], v2)]) (by simp [Act.eval]) (by first | rfl | simp [Act.eval, str]) (by simp [Act.eval]) T3.out.map rfl ?i3)
        case i3 =>
          intro X3 hm3 hbu3
          have S4 : Hid (Hu w X3 b0 [([61, 61], v0), ([33, 61], v1), ([60], v2), ([62], v3)]) := T3.out.ins hm3.out hbu3.out
          clear hm3 hbu3 T3
          go_wp2_with fail
          refine (ofTexts_makes xb 58 #[] _).mono ?_
          rintro x W4a ⟨v4, rfl, hbc⟩
          have T4 := hidK (S4.out.call hbc)
          clear hbc S4
          go_wp2_with (refine wpList_insert_text W4a rfl _ _ _ 59 rfl underHeads Tryz.underlying9 (b := b0) (k := [60, 61]) (v := v4) (m := [([61, 61], v0), ([33, 61], v1), ([60], v2), ([62], v3)]) (by simp [Act.eval]) (by first | rfl | simp [Act.eval, str]) (by simp [Act.eval]) T4.out.map rfl ?i4)
          case i4 =>
            intro X4 hm4 hbu4
            have S5 : Hid (Hu w X4 b0 [([61, 61], v0), ([33, 61], v1), ([60], v2), ([62], v3), ([60, 61], v4)]) := T4.out.ins hm4.out hbu4.out
            clear hm4 hbu4 T4
            go_wp2_with fail
            refine (ofTexts_makes xb 59 #[] _).mono ?_
            rintro x W5a ⟨v5, rfl, hbc⟩
            have T5 := hidK (S5.out.call hbc)
            clear hbc S5
            go_wp2_with (refine wpList_insert_text W5a rfl _ _ _ 59 rfl underHeads Tryz.underlying9 (b := b0) (k := [62, 61]) (v := v5) (m := [([61, 61], v0), ([33, 61], v1), ([60], v2), ([62], v3), ([60, 61], v4)]) (by simp [Act.eval]) (by first | rfl | simp [Act.eval, str]) (by simp [Act.eval]) T5.out.map rfl ?i5)
            case i5 =>
              intro X5 hm5 hbu5
              have S6 : Hid (Hu w X5 b0 [([61, 61], v0), ([33, 61], v1), ([60], v2), ([62], v3), ([60, 61], v4), ([62, 61], v5)]) := T5.out.ins hm5.out hbu5.out
              clear hm5 hbu5 T5
              go_wp2_with fail
              refine (ofTexts_makes xb 10 #[] _).mono ?_
              rintro x W6a ⟨v6, rfl, hbc⟩
              have T6 := hidK (S6.out.call hbc)
              clear hbc S6
              go_wp2_with (refine wpList_insert_text W6a rfl _ _ _ 59 rfl underHeads Tryz.underlying9 (b := b0) (k := [109]) (v := v6) (m := [([61, 61], v0), ([33, 61], v1), ([60], v2), ([62], v3), ([60, 61], v4), ([62, 61], v5)]) (by simp [Act.eval]) (by first | rfl | simp [Act.eval, str]) (by simp [Act.eval]) T6.out.map rfl ?i6)
              case i6 =>
                intro X6 hm6 hbu6
                have S7 : Hid (Hu w X6 b0 [([61, 61], v0), ([33, 61], v1), ([60], v2), ([62], v3), ([60, 61], v4), ([62, 61], v5), ([109], v6)]) := T6.out.ins hm6.out hbu6.out
                clear hm6 hbu6 T6
                go_wp2_with fail
                refine (ofTruths_makes xb 61 #[] _).mono ?_
                rintro x W7a ⟨v7, rfl, hbc⟩
                have T7 := hidK (S7.out.call hbc)
                clear hbc S7
                go_wp2_with (refine wpList_insert_text W7a rfl _ _ _ 59 rfl underHeads Tryz.underlying9 (b := b0) (k := [124, 124]) (v := v7) (m := [([61, 61], v0), ([33, 61], v1), ([60], v2), ([62], v3), ([60, 61], v4), ([62, 61], v5), ([109], v6)]) (by simp [Act.eval]) (by first | rfl | simp [Act.eval, str]) (by simp [Act.eval]) T7.out.map rfl ?i7)
                case i7 =>
                  intro X7 hm7 hbu7
                  have S8 : Hid (Hu w X7 b0 [([61, 61], v0), ([33, 61], v1), ([60], v2), ([62], v3), ([60, 61], v4), ([62, 61], v5), ([109], v6), ([124, 124], v7)]) := T7.out.ins hm7.out hbu7.out
                  clear hm7 hbu7 T7
                  go_wp2_with fail
                  refine (ofTruths_makes xb 62 #[] _).mono ?_
                  rintro x W8a ⟨v8, rfl, hbc⟩
                  have T8 := hidK (S8.out.call hbc)
                  clear hbc S8
                  go_wp2_with (refine wpList_insert_text W8a rfl _ _ _ 59 rfl underHeads Tryz.underlying9 (b := b0) (k := [38, 38]) (v := v8) (m := [([61, 61], v0), ([33, 61], v1), ([60], v2), ([62], v3), ([60, 61], v4), ([62, 61], v5), ([109], v6), ([124, 124], v7)]) (by simp [Act.eval]) (by first | rfl | simp [Act.eval, str]) (by simp [Act.eval]) T8.out.map rfl ?i8)
                  case i8 =>
                    intro X8 hm8 hbu8
                    have S9 : Hid (Hu w X8 b0 [([61, 61], v0), ([33, 61], v1), ([60], v2), ([62], v3), ([60, 61], v4), ([62, 61], v5), ([109], v6), ([124, 124], v7), ([38, 38], v8)]) := T8.out.ins hm8.out hbu8.out
                    clear hm8 hbu8 T8
                    go_wp2_with fail
                    refine (ofNumbers_makes xb 64 #[] _).mono ?_
                    rintro x W9a ⟨v9, rfl, hbc⟩
                    have T9 := hidK (S9.out.call hbc)
                    clear hbc S9
                    go_wp2_with (refine wpList_insert_text W9a rfl _ _ _ 59 rfl underHeads Tryz.underlying9 (b := b0) (k := [101, 124, 43, 124]) (v := v9) (m := [([61, 61], v0), ([33, 61], v1), ([60], v2), ([62], v3), ([60, 61], v4), ([62, 61], v5), ([109], v6), ([124, 124], v7), ([38, 38], v8)]) (by simp [Act.eval]) (by first | rfl | simp [Act.eval, str]) (by simp [Act.eval]) T9.out.map rfl ?i9)
                    case i9 =>
                      intro X9 hm9 hbu9
                      have S10 : Hid (Hu w X9 b0 [([61, 61], v0), ([33, 61], v1), ([60], v2), ([62], v3), ([60, 61], v4), ([62, 61], v5), ([109], v6), ([124, 124], v7), ([38, 38], v8), ([101, 124, 43, 124], v9)]) := T9.out.ins hm9.out hbu9.out
                      clear hm9 hbu9 T9
                      go_wp2_with fail
                      refine (ofNumbers_makes xb 65 #[] _).mono ?_
                      rintro x W10a ⟨v10, rfl, hbc⟩
                      have T10 := hidK (S10.out.call hbc)
                      clear hbc S10
                      go_wp2_with (refine wpList_insert_text W10a rfl _ _ _ 59 rfl underHeads Tryz.underlying9 (b := b0) (k := [101, 124, 45, 124]) (v := v10) (m := [([61, 61], v0), ([33, 61], v1), ([60], v2), ([62], v3), ([60, 61], v4), ([62, 61], v5), ([109], v6), ([124, 124], v7), ([38, 38], v8), ([101, 124, 43, 124], v9)]) (by simp [Act.eval]) (by first | rfl | simp [Act.eval, str]) (by simp [Act.eval]) T10.out.map rfl ?i10)
                      case i10 =>
                        intro X10 hm10 hbu10
                        have S11 : Hid (Hu w X10 b0 [([61, 61], v0), ([33, 61], v1), ([60], v2), ([62], v3), ([60, 61], v4), ([62, 61], v5), ([109], v6), ([124, 124], v7), ([38, 38], v8), ([101, 124, 43, 124], v9), ([101, 124, 45, 124], v10)]) := T10.out.ins hm10.out hbu10.out
                        clear hm10 hbu10 T10
                        go_wp2_with fail
                        refine (ofNumbers_makes xb 66 #[] _).mono ?_
                        rintro x W11a ⟨v11, rfl, hbc⟩
                        have T11 := hidK (S11.out.call hbc)
                        clear hbc S11
                        go_wp2_with (refine wpList_insert_text W11a rfl _ _ _ 59 rfl underHeads Tryz.underlying9 (b := b0) (k := [101, 124, 42, 124]) (v := v11) (m := [([61, 61], v0), ([33, 61], v1), ([60], v2), ([62], v3), ([60, 61], v4), ([62, 61], v5), ([109], v6), ([124, 124], v7), ([38, 38], v8), ([101, 124, 43, 124], v9), ([101, 124, 45, 124], v10)]) (by simp [Act.eval]) (by first | rfl | simp [Act.eval, str]) (by simp [Act.eval]) T11.out.map rfl ?i11)
                        case i11 =>
                          intro X11 hm11 hbu11
                          have S12 : Hid (Hu w X11 b0 [([61, 61], v0), ([33, 61], v1), ([60], v2), ([62], v3), ([60, 61], v4), ([62, 61], v5), ([109], v6), ([124, 124], v7), ([38, 38], v8), ([101, 124, 43, 124], v9), ([101, 124, 45, 124], v10), ([101, 124, 42, 124], v11)]) := T11.out.ins hm11.out hbu11.out
                          clear hm11 hbu11 T11
                          go_wp2_with fail
                          refine (ofNumbers_makes xb 67 #[] _).mono ?_
                          rintro x W12a ⟨v12, rfl, hbc⟩
                          have T12 := hidK (S12.out.call hbc)
                          clear hbc S12
                          go_wp2_with (refine wpList_insert_text W12a rfl _ _ _ 59 rfl underHeads Tryz.underlying9 (b := b0) (k := [101, 124, 47, 124]) (v := v12) (m := [([61, 61], v0), ([33, 61], v1), ([60], v2), ([62], v3), ([60, 61], v4), ([62, 61], v5), ([109], v6), ([124, 124], v7), ([38, 38], v8), ([101, 124, 43, 124], v9), ([101, 124, 45, 124], v10), ([101, 124, 42, 124], v11)]) (by simp [Act.eval]) (by first | rfl | simp [Act.eval, str]) (by simp [Act.eval]) T12.out.map rfl ?i12)
                          case i12 =>
                            intro X12 hm12 hbu12
                            have S13 : Hid (Hu w X12 b0 [([61, 61], v0), ([33, 61], v1), ([60], v2), ([62], v3), ([60, 61], v4), ([62, 61], v5), ([109], v6), ([124, 124], v7), ([38, 38], v8), ([101, 124, 43, 124], v9), ([101, 124, 45, 124], v10), ([101, 124, 42, 124], v11), ([101, 124, 47, 124], v12)]) := T12.out.ins hm12.out hbu12.out
                            clear hm12 hbu12 T12
                            go_wp2_with fail
                            refine (ofNumbers_makes xb 68 #[] _).mono ?_
                            rintro x W13a ⟨v13, rfl, hbc⟩
                            have T13 := hidK (S13.out.call hbc)
                            clear hbc S13
                            go_wp2_with (refine wpList_insert_text W13a rfl _ _ _ 59 rfl underHeads Tryz.underlying9 (b := b0) (k := [101, 124, 109, 124]) (v := v13) (m := [([61, 61], v0), ([33, 61], v1), ([60], v2), ([62], v3), ([60, 61], v4), ([62, 61], v5), ([109], v6), ([124, 124], v7), ([38, 38], v8), ([101, 124, 43, 124], v9), ([101, 124, 45, 124], v10), ([101, 124, 42, 124], v11), ([101, 124, 47, 124], v12)]) (by simp [Act.eval]) (by first | rfl | simp [Act.eval, str]) (by simp [Act.eval]) T13.out.map rfl ?i13)
                            case i13 =>
                              intro X13 hm13 hbu13
                              have S14 : Hid (Hu w X13 b0 [([61, 61], v0), ([33, 61], v1), ([60], v2), ([62], v3), ([60, 61], v4), ([62, 61], v5), ([109], v6), ([124, 124], v7), ([38, 38], v8), ([101, 124, 43, 124], v9), ([101, 124, 45, 124], v10), ([101, 124, 42, 124], v11), ([101, 124, 47, 124], v12), ([101, 124, 109, 124], v13)]) := T13.out.ins hm13.out hbu13.out
                              clear hm13 hbu13 T13
                              go_wp2_with fail
                              refine (whether_makes 70 #[] _).mono ?_
                              rintro x W14b ⟨g14, lb14, rfl, hbc⟩
                              have R14 := hidK (S14.out.call hbc)
                              clear hbc S14
                              go_wp2_with fail
                              refine (ofNumbers_makes xb g14 lb14 _).mono ?_
                              rintro x W14a ⟨v14, rfl, hbc⟩
                              have T14 := hidK (R14.out.call hbc)
                              clear hbc R14
                              go_wp2_with (refine wpList_insert_text W14a rfl _ _ _ 59 rfl underHeads Tryz.underlying9 (b := b0) (k := [101, 124, 61, 61, 124]) (v := v14) (m := [([61, 61], v0), ([33, 61], v1), ([60], v2), ([62], v3), ([60, 61], v4), ([62, 61], v5), ([109], v6), ([124, 124], v7), ([38, 38], v8), ([101, 124, 43, 124], v9), ([101, 124, 45, 124], v10), ([101, 124, 42, 124], v11), ([101, 124, 47, 124], v12), ([101, 124, 109, 124], v13)]) (by simp [Act.eval]) (by first | rfl | simp [Act.eval, str]) (by simp [Act.eval]) T14.out.map rfl ?i14)
                              case i14 =>
                                intro X14 hm14 hbu14
                                have S15 : Hid (Hu w X14 b0 [([61, 61], v0), ([33, 61], v1), ([60], v2), ([62], v3), ([60, 61], v4), ([62, 61], v5), ([109], v6), ([124, 124], v7), ([38, 38], v8), ([101, 124, 43, 124], v9), ([101, 124, 45, 124], v10), ([101, 124, 42, 124], v11), ([101, 124, 47, 124], v12), ([101, 124, 109, 124], v13), ([101, 124, 61, 61, 124], v14)]) := T14.out.ins hm14.out hbu14.out
                                clear hm14 hbu14 T14
                                go_wp2_with fail
                                refine (whether_makes 71 #[] _).mono ?_
                                rintro x W15b ⟨g15, lb15, rfl, hbc⟩
                                have R15 := hidK (S15.out.call hbc)
                                clear hbc S15
                                go_wp2_with fail
                                refine (ofNumbers_makes xb g15 lb15 _).mono ?_
                                rintro x W15a ⟨v15, rfl, hbc⟩
                                have T15 := hidK (R15.out.call hbc)
                                clear hbc R15
                                go_wp2_with (refine wpList_insert_text W15a rfl _ _ _ 59 rfl underHeads Tryz.underlying9 (b := b0) (k := [101, 124, 60, 124]) (v := v15) (m := [([61, 61], v0), ([33, 61], v1), ([60], v2), ([62], v3), ([60, 61], v4), ([62, 61], v5), ([109], v6), ([124, 124], v7), ([38, 38], v8), ([101, 124, 43, 124], v9), ([101, 124, 45, 124], v10), ([101, 124, 42, 124], v11), ([101, 124, 47, 124], v12), ([101, 124, 109, 124], v13), ([101, 124, 61, 61, 124], v14)]) (by simp [Act.eval]) (by first | rfl | simp [Act.eval, str]) (by simp [Act.eval]) T15.out.map rfl ?i15)
                                case i15 =>
                                  intro X15 hm15 hbu15
                                  have S16 : Hid (Hu w X15 b0 [([61, 61], v0), ([33, 61], v1), ([60], v2), ([62], v3), ([60, 61], v4), ([62, 61], v5), ([109], v6), ([124, 124], v7), ([38, 38], v8), ([101, 124, 43, 124], v9), ([101, 124, 45, 124], v10), ([101, 124, 42, 124], v11), ([101, 124, 47, 124], v12), ([101, 124, 109, 124], v13), ([101, 124, 61, 61, 124], v14), ([101, 124, 60, 124], v15)]) := T15.out.ins hm15.out hbu15.out
                                  clear hm15 hbu15 T15
                                  go_wp2_with fail
                                  refine (whether_makes 72 #[] _).mono ?_
                                  rintro x W16b ⟨g16, lb16, rfl, hbc⟩
                                  have R16 := hidK (S16.out.call hbc)
                                  clear hbc S16
                                  go_wp2_with fail
                                  refine (ofNumbers_makes xb g16 lb16 _).mono ?_
                                  rintro x W16a ⟨v16, rfl, hbc⟩
                                  have T16 := hidK (R16.out.call hbc)
                                  clear hbc R16
                                  go_wp2_with (refine wpList_insert_text W16a rfl _ _ _ 59 rfl underHeads Tryz.underlying9 (b := b0) (k := [101, 124, 62, 124]) (v := v16) (m := [([61, 61], v0), ([33, 61], v1), ([60], v2), ([62], v3), ([60, 61], v4), ([62, 61], v5), ([109], v6), ([124, 124], v7), ([38, 38], v8), ([101, 124, 43, 124], v9), ([101, 124, 45, 124], v10), ([101, 124, 42, 124], v11), ([101, 124, 47, 124], v12), ([101, 124, 109, 124], v13), ([101, 124, 61, 61, 124], v14), ([101, 124, 60, 124], v15)]) (by simp [Act.eval]) (by first | rfl | simp [Act.eval, str]) (by simp [Act.eval]) T16.out.map rfl ?i16)
                                  case i16 =>
                                    intro X16 hm16 hbu16
                                    have S17 : Hid (Hu w X16 b0 [([61, 61], v0), ([33, 61], v1), ([60], v2), ([62], v3), ([60, 61], v4), ([62, 61], v5), ([109], v6), ([124, 124], v7), ([38, 38], v8), ([101, 124, 43, 124], v9), ([101, 124, 45, 124], v10), ([101, 124, 42, 124], v11), ([101, 124, 47, 124], v12), ([101, 124, 109, 124], v13), ([101, 124, 61, 61, 124], v14), ([101, 124, 60, 124], v15), ([101, 124, 62, 124], v16)]) := T16.out.ins hm16.out hbu16.out
                                    clear hm16 hbu16 T16
                                    go_wp2_with (refine wpList_insert_text _ rfl _ _ _ 59 rfl underHeads Tryz.underlying9 (b := b0) (k := [33]) (v := .func (.func 73) #[.pointer (some ⟨xb, 0, none⟩)] #[]) (m := [([61, 61], v0), ([33, 61], v1), ([60], v2), ([62], v3), ([60, 61], v4), ([62, 61], v5), ([109], v6), ([124, 124], v7), ([38, 38], v8), ([101, 124, 43, 124], v9), ([101, 124, 45, 124], v10), ([101, 124, 42, 124], v11), ([101, 124, 47, 124], v12), ([101, 124, 109, 124], v13), ([101, 124, 61, 61, 124], v14), ([101, 124, 60, 124], v15), ([101, 124, 62, 124], v16)]) (by simp [Act.eval]) (by first | rfl | simp [Act.eval, str]) (by simp [Act.eval]) S17.out.map rfl ?i17)
                                    case i17 =>
                                      intro X17 hm17 hbu17
                                      have S18 : Hid (Hu w X17 b0 [([61, 61], v0), ([33, 61], v1), ([60], v2), ([62], v3), ([60, 61], v4), ([62, 61], v5), ([109], v6), ([124, 124], v7), ([38, 38], v8), ([101, 124, 43, 124], v9), ([101, 124, 45, 124], v10), ([101, 124, 42, 124], v11), ([101, 124, 47, 124], v12), ([101, 124, 109, 124], v13), ([101, 124, 61, 61, 124], v14), ([101, 124, 60, 124], v15), ([101, 124, 62, 124], v16), ([33], .func (.func 73) #[.pointer (some ⟨xb, 0, none⟩)] #[])]) := S17.out.ins hm17.out hbu17.out
                                      clear hm17 hbu17 S17
                                      go_wp2_with (refine wpList_insert_text _ rfl _ _ _ 59 rfl underHeads Tryz.underlying9 (b := b0) (k := [108]) (v := .func (.func 74) #[] #[]) (m := [([61, 61], v0), ([33, 61], v1), ([60], v2), ([62], v3), ([60, 61], v4), ([62, 61], v5), ([109], v6), ([124, 124], v7), ([38, 38], v8), ([101, 124, 43, 124], v9), ([101, 124, 45, 124], v10), ([101, 124, 42, 124], v11), ([101, 124, 47, 124], v12), ([101, 124, 109, 124], v13), ([101, 124, 61, 61, 124], v14), ([101, 124, 60, 124], v15), ([101, 124, 62, 124], v16), ([33], .func (.func 73) #[.pointer (some ⟨xb, 0, none⟩)] #[])]) (by simp [Act.eval]) (by first | rfl | simp [Act.eval, str]) (by simp [Act.eval]) S18.out.map rfl ?i18)
                                      case i18 =>
                                        intro X18 hm18 hbu18
                                        have S19 : Hid (Hu w X18 b0 [([61, 61], v0), ([33, 61], v1), ([60], v2), ([62], v3), ([60, 61], v4), ([62, 61], v5), ([109], v6), ([124, 124], v7), ([38, 38], v8), ([101, 124, 43, 124], v9), ([101, 124, 45, 124], v10), ([101, 124, 42, 124], v11), ([101, 124, 47, 124], v12), ([101, 124, 109, 124], v13), ([101, 124, 61, 61, 124], v14), ([101, 124, 60, 124], v15), ([101, 124, 62, 124], v16), ([33], .func (.func 73) #[.pointer (some ⟨xb, 0, none⟩)] #[]), ([108], .func (.func 74) #[] #[])]) := S18.out.ins hm18.out hbu18.out
                                        clear hm18 hbu18 S18
                                        go_wp2_with fail
                                        all_goals go_ret
                                        all_goals exact ⟨b0, rfl, S19.out.below, by rw [S19.out.eq]; exact Nat.le_refl _, _, S19.out.map, rfl⟩

end Go.Proofs.YtgoofifbifdgoaaGreatDoor
