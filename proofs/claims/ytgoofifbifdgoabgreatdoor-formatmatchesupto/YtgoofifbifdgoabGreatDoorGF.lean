/-
  Formats: the turners' map.
  Formats: the heads' map (what its entries do is said elsewhere).
-/
import Derived.Test.YtgoofifbifdgoabGreatDoorGE
import Derived.Test.YtgoofifbifdgoabGreatDoorGD
namespace Go.Proofs.YtgoofifbifdgoabGreatDoor
open Go.RowKit
set_option linter.unusedVariables false
set_option maxRecDepth 20000

/-- A map's entries, in their order: its keys are bytes. -/
abbrev EntsB := List (UInt8 × Value)
def entB (p : UInt8 × Value) : Value × Value := (.int .u8 p.1.toNat, p.2)
def MapB (w : World) (b : Nat) (m : EntsB) : Prop := ∃ es clock, w.heap[b]? = some (.map es clock) ∧ es.toList.map (fun e => (e.key, e.val)) = m.map entB
theorem MapB.keep {w w' : World} {b : Nat} {m : EntsB} (h : MapB w b m) (hk : w'.heap[b]? = w.heap[b]?) : MapB w' b m := by
  obtain ⟨es, c, h1, h2⟩ := h
  exact ⟨es, c, hk.trans h1, h2⟩
theorem MapB.lt {w : World} {b : Nat} {m : EntsB} (h : MapB w b m) : b < w.heap.size := by
  obtain ⟨es, c, h1, h2⟩ := h
  exact lt_of_block h1
theorem MapB.below {w w' : World} {b : Nat} {m : EntsB} (h : MapB w b m) (hb : Below w.heap.size w w') : MapB w' b m := h.keep (hb.block b h.lt)
def lookB (m : EntsB) (k : UInt8) : Option Value := (m.find? fun p => decide (p.1 = k)).map (·.2)
theorem same_byte (j : IntKind) (a b : UInt8) : Instr.sameNow (.int j) (.int .u8 a.toNat) (.int .u8 b.toNat) = some (decide (a = b)) := by
  simp only [Instr.sameNow, if_true]
  by_cases h : a = b
  · subst h; simp
  · rw [decide_eq_false h]
    have : ¬ a.toNat = b.toNat := fun e => h (UInt8.toNat_inj.1 e)
    simp only [Option.some.injEq, beq_eq_false_iff_ne, ne_eq]
    omega
theorem find_byte (j : IntKind) (k : UInt8) : ∀ (es : List MapEntry) (m : EntsB) (i : Nat), es.map (fun e => (e.key, e.val)) = m.map entB → ∃ n, Instr.findNow (.int j) (.int .u8 k.toNat) es i = some ((lookB m k).map fun v => (n, v))
  | [], m, i, h => by
    cases m with
    | nil => exact ⟨0, rfl⟩
    | cons p m => cases h
  | e :: es, m, i, h => by
    cases m with
    | nil => cases h
    | cons p m =>
      simp only [List.map_cons, List.cons.injEq] at h
      obtain ⟨h1, h2⟩ := h
      have hs : e.key = .int .u8 p.1.toNat := congrArg Prod.fst h1
      have hv : e.val = p.2 := congrArg Prod.snd h1
      by_cases hk : p.1 = k
      · refine ⟨i, ?_⟩
        simp only [Instr.findNow, hs, same_byte, hv, decide_eq_true hk.symm]
        simp [lookB, hk]
      · obtain ⟨n, hj⟩ := find_byte j k es m (i + 1) h2
        refine ⟨n, ?_⟩
        have hbe : decide (k = p.1) = false := decide_eq_false fun e => hk e.symm
        simp only [Instr.findNow, hs, same_byte, hbe, hj]
        simp [lookB, hk]
theorem check_byte {kt : TypeId} {j : IntKind} (hk : Tryz.prog.underlying kt = some (.int j)) (em : Bool) (n : Int) (w : World) : (Instr.checkKey em 10000 kt (.int .u8 n)).run Tryz.prog w = .ok () w := by
  rw [show (10000 : Nat) = 9999 + 1 from rfl, Instr.checkKey]
  simp [run_underlying hk]
theorem findKey_byte {kt : TypeId} {j : IntKind} (hk : Tryz.prog.underlying kt = some (.int j)) {n : Int} {es : List MapEntry} {r : Option (Nat × Value)} (h : Instr.findNow (.int j) (.int .u8 n) es 0 = some r) (w : World) : (Instr.findKey kt (.int .u8 n) es).run Tryz.prog w = .ok r w := by
  simp [Instr.findKey, run_underlying hk, h]
theorem lookB_some {w : World} {b : Nat} {m : EntsB} {t kt et : TypeId} {j : IntKind} {k : UInt8} {v : Value} (h : MapB w b m) (ht : Tryz.prog.underlying t = some (.map kt et)) (hk : Tryz.prog.underlying kt = some (.int j)) (hv : lookB m k = some v) :
    (Instr.lookup t (.map (some b)) (.int .u8 k.toNat) true).run Tryz.prog w = .ok (.tuple #[v, .bool true]) w := by
  obtain ⟨es, c, h1, h2⟩ := h
  obtain ⟨n, hj⟩ := find_byte j k es.toList m 0 h2
  rw [hv] at hj
  simp [Instr.lookup, run_underlying ht, MapKept.run_getObj_map h1, check_byte hk, findKey_byte hk hj, Result.andThen]
theorem lookB_none {w : World} {b : Nat} {m : EntsB} {t kt et : TypeId} {j : IntKind} {k : UInt8} {z : Value} (h : MapB w b m) (ht : Tryz.prog.underlying t = some (.map kt et)) (hk : Tryz.prog.underlying kt = some (.int j)) (hz : (zeroValue et).run Tryz.prog w = .ok z w) (hv : lookB m k = none) :
    (Instr.lookup t (.map (some b)) (.int .u8 k.toNat) true).run Tryz.prog w = .ok (.tuple #[z, .bool false]) w := by
  obtain ⟨es, c, h1, h2⟩ := h
  obtain ⟨n, hj⟩ := find_byte j k es.toList m 0 h2
  rw [hv] at hj
  simp [Instr.lookup, run_underlying ht, MapKept.run_getObj_map h1, check_byte hk, findKey_byte hk hj, hz, Result.andThen]
theorem layB_new {w : World} {b : Nat} {m : EntsB} {t kt et : TypeId} {j : IntKind} {k : UInt8} {v : Value} (h : MapB w b m) (ht : Tryz.prog.underlying t = some (.map kt et)) (hk : Tryz.prog.underlying kt = some (.int j)) (hv : lookB m k = none) :
    ∃ w', (Instr.mapUpdate t (.map (some b)) (.int .u8 k.toNat) v).run Tryz.prog w = .ok () w' ∧ MapB w' b (m ++ [(k, v)]) ∧ But [b] w w' := by
  obtain ⟨es, c, h1, h2⟩ := h
  obtain ⟨n, hj⟩ := find_byte j k es.toList m 0 h2
  rw [hv] at hj
  have hlt := lt_of_block h1
  refine ⟨{ w with heap := w.heap.setIfInBounds b (.map (es.push { key := .int .u8 k.toNat, val := v, born := c }) (c + 1)) }, ?_, ⟨es.push { key := .int .u8 k.toNat, val := v, born := c }, c + 1, ?_, ?_⟩, ⟨rfl, rfl, rfl, ?_, fun g hg hn => ?_⟩⟩
  · simp [Instr.mapUpdate, run_underlying ht, MapKept.run_getObj_map h1, check_byte hk, findKey_byte hk hj, MapKept.run_setObj_map _ h1, Result.andThen]
  · show (w.heap.setIfInBounds b _)[b]? = _
    rw [Array.getElem?_setIfInBounds_self_of_lt hlt]
  · rw [Array.toList_push, List.map_append, h2, List.map_append]
    rfl
  · show w.heap.size ≤ (w.heap.setIfInBounds b _).size
    rw [Array.size_setIfInBounds]
    exact Nat.le_refl _
  · show (w.heap.setIfInBounds b _)[g]? = _
    rw [Array.getElem?_setIfInBounds_ne (fun e => hn (by simp [e]))]
/-- An entry laid in, at the operation. -/
theorem wpList_insert_byte {ops : Array Oper} {rest : List Oper} {o : Oper} {a : Act} {Q : Exit → Act → World → Prop} (w : World) (hgd : o.guard = none) (mo ko xo : Operand) (t : TypeId) (ho : o.op = .insert t mo ko xo)
    {kt et : TypeId} {j : IntKind} (ht : Tryz.prog.underlying t = some (.map kt et)) (hk : Tryz.prog.underlying kt = some (.int j)) {b : Nat} {k : UInt8} {v : Value} {m : EntsB} (e1 : a.eval mo = .map (some b)) (e2 : a.eval ko = .int .u8 k.toNat) (e3 : a.eval xo = v) (hm : MapB w b m) (hv : lookB m k = none)
    (h : ∀ w', Hid (MapB w' b (m ++ [(k, v)])) → Hid (But [b] w w') → wpList Tryz.prog ops Q rest (a.put o.dst undef) w') : wpList Tryz.prog ops Q (o :: rest) a w := by
  obtain ⟨w', hrun, h2, h3⟩ := layB_new (v := v) hm ht hk hv
  refine wpList_plain hgd fun K hK => ?_
  unfold Oper.wp execOp
  simp only [ho, e1, e2, e3, Sem.run_bind, Sem.run_pure, Result.andThen_ok, hrun]
  exact hK _ _ (h w' h2 h3)

theorem bare_any (v : Value) (hv : v.oneCell' = true) (w : World) : Calls Tryz.prog 47 #[v] w fun e w' => ∃ v', e = .returned v' ∧ Below w.heap.size w w' := by
  go_enter Tryz.func47, Tryz.ntmps47
  go_wp2
  all_goals go_ret
  all_goals exact ⟨_, rfl, (Below.refl _ _).alloc (Nat.le_refl _) _⟩
theorem letters_any (g : Nat) (w : World) : Calls Tryz.prog 52 #[.func (.func g) #[] #[]] w fun e w' => ∃ g' lb, e = .returned (.func (.func g') #[] lb) ∧ Below w.heap.size w w' := by
  go_enter Tryz.func52, Tryz.ntmps52
  go_wp2
  all_goals go_ret
  all_goals exact ⟨_, _, rfl, (Below.refl _ _).alloc (Nat.le_refl _) _⟩

theorem underTurns : Tryz.prog.underlying 59 = some (.map 5 100) := by kernel_rfl
/-- The turners' map: of those that are told here. -/
def TurnsAt (w0 w : World) (b : Nat) : Prop := Since (b + 1) w0 w ∧ ∃ m, MapB w b m ∧ (∃ v, lookB m 61 = some v ∧ TurnerOk (b + 1) w0 v (numF .cut .last)) ∧ (∃ v, lookB m 112 = some v ∧ TurnerOk (b + 1) w0 v (numF .behind .ahead)) ∧ ∀ k, lookB m k = none ∨ k ∈ ([61, 112, 98, 100, 110, 117, 119, 115] : List UInt8)
theorem TurnsAt.below {w0 w w' : World} {b : Nat} (h : TurnsAt w0 w b) (hb : Below w.heap.size w w') : TurnsAt w0 w' b := by
  obtain ⟨hs, m, h1, h2⟩ := h
  exact ⟨hs.trans (.of_below hb), m, h1.below hb, h2⟩

/-- While the map is filled. -/
structure Tu (w W : World) (b0 : Nat) (m : EntsB) : Prop where
  map : MapB W b0 m
  below : Below w.heap.size w W
  eq : b0 = w.heap.size
theorem Tu.call {w W W' : World} {b0 : Nat} {m : EntsB} (h : Tu w W b0 m) (hb : Below W.heap.size W W') : Tu w W' b0 m := ⟨h.map.below hb, h.below.trans (hb.mono h.below.size), h.eq⟩
theorem Tu.ins {w W W' : World} {b0 : Nat} {m m' : EntsB} (h : Tu w W b0 m) (hm : MapB W' b0 m') (hb : But [b0] W W') : Tu w W' b0 m' := ⟨hm, hb.under h.below h.below.size (fun k hk => by rw [List.mem_singleton.1 hk, h.eq]; exact Nat.le_refl _), h.eq⟩
theorem ins_since {B b0 : Nat} {W W' : World} (h : But [b0] W W') (hB : b0 < B) : Since B W W' := .of_but h fun k hk => by rw [List.mem_singleton.1 hk]; exact hB
theorem look_eight (v1 v2 v3 v4 v5 v7 v9 va : Value) (k : UInt8) : lookB [(61, v1), (112, v2), (98, v3), (100, v4), (110, v5), (117, v7), (119, v9), (115, va)] k = none ∨ k ∈ ([61, 112, 98, 100, 110, 117, 119, 115] : List UInt8) := by
  by_cases h : k ∈ ([61, 112, 98, 100, 110, 117, 119, 115] : List UInt8)
  · exact .inr h
  · refine .inl ?_
    unfold lookB
    rw [List.find?_eq_none.2]
    · rfl
    · intro p hp
      simp only [List.mem_cons, List.not_mem_nil, or_false] at hp h
      rcases hp with rfl | rfl | rfl | rfl | rfl | rfl | rfl | rfl <;> simp <;> exact fun e => h (by simp [← e])

set_option maxHeartbeats 4000000 in
theorem turners_any (w : World) : Calls Tryz.prog 24 #[] w fun e w' => ∃ b, e = .returned (.map (some b)) ∧ Below w.heap.size w w' ∧ w.heap.size ≤ b ∧ TurnsAt w' w' b := by
  have hmk := run_makeMap (P := Tryz.prog) 59 w
  have T0 : Hid (Tu w (w.alloc (.map #[] 0)) w.heap.size []) := ⟨⟨#[], 0, heap_alloc_new w _, rfl⟩, (Below.refl _ _).alloc (Nat.le_refl _) _, rfl⟩
  have hW0s : (w.alloc (.map #[] 0)).heap.size = w.heap.size + 1 := by simp
  obtain ⟨W0, hW0⟩ : ∃ W0, w.alloc (.map #[] 0) = W0 := ⟨_, rfl⟩
  obtain ⟨b0, hb0⟩ : ∃ b0, w.heap.size = b0 := ⟨_, rfl⟩
  rw [hW0, hb0] at hmk T0 hW0s
  have HS0 := hidK hW0s
  clear hW0 hb0 hW0s
  go_enter Tryz.func24, Tryz.ntmps24
  go_wp2_with fail
  refine (numbered_any 43 44 .cut .last maker_first maker_last W0).mono ?_
  rintro x W1 ⟨v1, rfl, hb1, ht1⟩
  have T1 := hidK (T0.out.call hb1)
  have A1 : Hid (TurnerOk (b0 + 1) W1 v1 (numF .cut .last)) := by have h := ht1; rw [HS0.out] at h; exact h
  clear hb1 ht1 hmk
  go_wp2_with (refine wpList_insert_byte W1 rfl _ _ _ 59 rfl underTurns Tryz.underlying5 (b := b0) (k := 61) (v := v1) (m := []) (by simp [Act.eval]) (by simp [Act.eval]) (by simp [Act.eval]) T1.out.map rfl ?i1)
  case i1 =>
    intro Xi1 hmi1 hbui1
    have Si1 : Hid (Tu w Xi1 b0 [(61, v1)]) := T1.out.ins hmi1.out hbui1.out
    have A1i1 := hidK (A1.out.since (ins_since hbui1.out (Nat.lt_succ_self _)) (Nat.le_refl _))
    clear hmi1 hbui1 T1 A1
    go_wp2_with fail
    refine (numbered_any 45 46 .behind .ahead maker_behind maker_ahead _).mono ?_
    rintro x W2 ⟨v2, rfl, hbc, ht2⟩
    have T2 := hidK (Si1.out.call hbc)
    have Si1s : Hid (b0 + 1 ≤ Xi1.heap.size) := Si1.out.map.lt
    have A1i1c2 := hidK (A1i1.out.since (.of_below hbc) (Nat.le_refl _))
    clear Si1 A1i1
    have A2 : Hid (TurnerOk (b0 + 1) W2 v2 (numF .behind .ahead)) := ht2.since ⟨Nat.le_refl _, fun k _ _ => rfl⟩ (by have := T2.out.map.lt; have := T2.out.eq; have := Si1s.out; omega)
    clear ht2 hbc
    go_wp2_with (refine wpList_insert_byte W2 rfl _ _ _ 59 rfl underTurns Tryz.underlying5 (b := b0) (k := 112) (v := v2) (m := [(61, v1)]) (by simp [Act.eval]) (by simp [Act.eval]) (by simp [Act.eval]) T2.out.map rfl ?i2)
    case i2 =>
      intro Xi2 hmi2 hbui2
      have Si2 : Hid (Tu w Xi2 b0 [(61, v1), (112, v2)]) := T2.out.ins hmi2.out hbui2.out
      have A1i1c2i2 := hidK (A1i1c2.out.since (ins_since hbui2.out (Nat.lt_succ_self _)) (Nat.le_refl _))
      have A2i2 := hidK (A2.out.since (ins_since hbui2.out (Nat.lt_succ_self _)) (Nat.le_refl _))
      clear hmi2 hbui2 T2 A1i1c2 A2
      go_wp2_with fail
      refine (bare_any (.func (.func 48) #[] #[]) rfl _).mono ?_
      rintro x W3 ⟨v3, rfl, hbc⟩
      have T3 := hidK (Si2.out.call hbc)
      have A1i1c2i2c3 := hidK (A1i1c2i2.out.since (.of_below hbc) (Nat.le_refl _))
      have A2i2c3 := hidK (A2i2.out.since (.of_below hbc) (Nat.le_refl _))
      clear Si2 A1i1c2i2 A2i2
      clear hbc
      go_wp2_with (refine wpList_insert_byte W3 rfl _ _ _ 59 rfl underTurns Tryz.underlying5 (b := b0) (k := 98) (v := v3) (m := [(61, v1), (112, v2)]) (by simp [Act.eval]) (by simp [Act.eval]) (by simp [Act.eval]) T3.out.map rfl ?i3)
      case i3 =>
        intro Xi3 hmi3 hbui3
        have Si3 : Hid (Tu w Xi3 b0 [(61, v1), (112, v2), (98, v3)]) := T3.out.ins hmi3.out hbui3.out
        have A1i1c2i2c3i3 := hidK (A1i1c2i2c3.out.since (ins_since hbui3.out (Nat.lt_succ_self _)) (Nat.le_refl _))
        have A2i2c3i3 := hidK (A2i2c3.out.since (ins_since hbui3.out (Nat.lt_succ_self _)) (Nat.le_refl _))
        clear hmi3 hbui3 T3 A1i1c2i2c3 A2i2c3
        go_wp2_with fail
        refine (bare_any (.func (.func 49) #[] #[]) rfl _).mono ?_
        rintro x W4 ⟨v4, rfl, hbc⟩
        have T4 := hidK (Si3.out.call hbc)
        have A1i1c2i2c3i3c4 := hidK (A1i1c2i2c3i3.out.since (.of_below hbc) (Nat.le_refl _))
        have A2i2c3i3c4 := hidK (A2i2c3i3.out.since (.of_below hbc) (Nat.le_refl _))
        clear Si3 A1i1c2i2c3i3 A2i2c3i3
        clear hbc
        go_wp2_with (refine wpList_insert_byte W4 rfl _ _ _ 59 rfl underTurns Tryz.underlying5 (b := b0) (k := 100) (v := v4) (m := [(61, v1), (112, v2), (98, v3)]) (by simp [Act.eval]) (by simp [Act.eval]) (by simp [Act.eval]) T4.out.map rfl ?i4)
        case i4 =>
          intro Xi4 hmi4 hbui4
          have Si4 : Hid (Tu w Xi4 b0 [(61, v1), (112, v2), (98, v3), (100, v4)]) := T4.out.ins hmi4.out hbui4.out
          have A1i1c2i2c3i3c4i4 := hidK (A1i1c2i2c3i3c4.out.since (ins_since hbui4.out (Nat.lt_succ_self _)) (Nat.le_refl _))
          have A2i2c3i3c4i4 := hidK (A2i2c3i3c4.out.since (ins_since hbui4.out (Nat.lt_succ_self _)) (Nat.le_refl _))
          clear hmi4 hbui4 T4 A1i1c2i2c3i3c4 A2i2c3i3c4
          go_wp2_with fail
          refine (bare_any (.func (.func 50) #[] #[]) rfl _).mono ?_
          rintro x W5 ⟨v5, rfl, hbc⟩
          have T5 := hidK (Si4.out.call hbc)
          have A1i1c2i2c3i3c4i4c5 := hidK (A1i1c2i2c3i3c4i4.out.since (.of_below hbc) (Nat.le_refl _))
          have A2i2c3i3c4i4c5 := hidK (A2i2c3i3c4i4.out.since (.of_below hbc) (Nat.le_refl _))
          clear Si4 A1i1c2i2c3i3c4i4 A2i2c3i3c4i4
          clear hbc
          go_wp2_with (refine wpList_insert_byte W5 rfl _ _ _ 59 rfl underTurns Tryz.underlying5 (b := b0) (k := 110) (v := v5) (m := [(61, v1), (112, v2), (98, v3), (100, v4)]) (by simp [Act.eval]) (by simp [Act.eval]) (by simp [Act.eval]) T5.out.map rfl ?i5)
          case i5 =>
            intro Xi5 hmi5 hbui5
            have Si5 : Hid (Tu w Xi5 b0 [(61, v1), (112, v2), (98, v3), (100, v4), (110, v5)]) := T5.out.ins hmi5.out hbui5.out
            have A1i1c2i2c3i3c4i4c5i5 := hidK (A1i1c2i2c3i3c4i4c5.out.since (ins_since hbui5.out (Nat.lt_succ_self _)) (Nat.le_refl _))
            have A2i2c3i3c4i4c5i5 := hidK (A2i2c3i3c4i4c5.out.since (ins_since hbui5.out (Nat.lt_succ_self _)) (Nat.le_refl _))
            clear hmi5 hbui5 T5 A1i1c2i2c3i3c4i4c5 A2i2c3i3c4i4c5
            go_wp2_with fail
            refine (letters_any 53 _).mono ?_
            rintro x W6 ⟨g6, lbg6, rfl, hbc⟩
            have T6 := hidK (Si5.out.call hbc)
            have A1i1c2i2c3i3c4i4c5i5c6 := hidK (A1i1c2i2c3i3c4i4c5i5.out.since (.of_below hbc) (Nat.le_refl _))
            have A2i2c3i3c4i4c5i5c6 := hidK (A2i2c3i3c4i4c5i5.out.since (.of_below hbc) (Nat.le_refl _))
            clear Si5 A1i1c2i2c3i3c4i4c5i5 A2i2c3i3c4i4c5i5
            clear hbc
            go_wp2_with fail
            refine (bare_any (.func (.func g6) #[] lbg6) rfl _).mono ?_
            rintro x W7 ⟨v7, rfl, hbc⟩
            have T7 := hidK (T6.out.call hbc)
            have A1i1c2i2c3i3c4i4c5i5c6c7 := hidK (A1i1c2i2c3i3c4i4c5i5c6.out.since (.of_below hbc) (Nat.le_refl _))
            have A2i2c3i3c4i4c5i5c6c7 := hidK (A2i2c3i3c4i4c5i5c6.out.since (.of_below hbc) (Nat.le_refl _))
            clear T6 A1i1c2i2c3i3c4i4c5i5c6 A2i2c3i3c4i4c5i5c6
            clear hbc
            go_wp2_with (refine wpList_insert_byte W7 rfl _ _ _ 59 rfl underTurns Tryz.underlying5 (b := b0) (k := 117) (v := v7) (m := [(61, v1), (112, v2), (98, v3), (100, v4), (110, v5)]) (by simp [Act.eval]) (by simp [Act.eval]) (by simp [Act.eval]) T7.out.map rfl ?i7)
            case i7 =>
              intro Xi7 hmi7 hbui7
              have Si7 : Hid (Tu w Xi7 b0 [(61, v1), (112, v2), (98, v3), (100, v4), (110, v5), (117, v7)]) := T7.out.ins hmi7.out hbui7.out
              have A1i1c2i2c3i3c4i4c5i5c6c7i7 := hidK (A1i1c2i2c3i3c4i4c5i5c6c7.out.since (ins_since hbui7.out (Nat.lt_succ_self _)) (Nat.le_refl _))
              have A2i2c3i3c4i4c5i5c6c7i7 := hidK (A2i2c3i3c4i4c5i5c6c7.out.since (ins_since hbui7.out (Nat.lt_succ_self _)) (Nat.le_refl _))
              clear hmi7 hbui7 T7 A1i1c2i2c3i3c4i4c5i5c6c7 A2i2c3i3c4i4c5i5c6c7
              go_wp2_with fail
              refine (letters_any 54 _).mono ?_
              rintro x W8 ⟨g8, lbg8, rfl, hbc⟩
              have T8 := hidK (Si7.out.call hbc)
              have A1i1c2i2c3i3c4i4c5i5c6c7i7c8 := hidK (A1i1c2i2c3i3c4i4c5i5c6c7i7.out.since (.of_below hbc) (Nat.le_refl _))
              have A2i2c3i3c4i4c5i5c6c7i7c8 := hidK (A2i2c3i3c4i4c5i5c6c7i7.out.since (.of_below hbc) (Nat.le_refl _))
              clear Si7 A1i1c2i2c3i3c4i4c5i5c6c7i7 A2i2c3i3c4i4c5i5c6c7i7
              clear hbc
              go_wp2_with fail
              refine (bare_any (.func (.func g8) #[] lbg8) rfl _).mono ?_
              rintro x W9 ⟨v9, rfl, hbc⟩
              have T9 := hidK (T8.out.call hbc)
              have A1i1c2i2c3i3c4i4c5i5c6c7i7c8c9 := hidK (A1i1c2i2c3i3c4i4c5i5c6c7i7c8.out.since (.of_below hbc) (Nat.le_refl _))
              have A2i2c3i3c4i4c5i5c6c7i7c8c9 := hidK (A2i2c3i3c4i4c5i5c6c7i7c8.out.since (.of_below hbc) (Nat.le_refl _))
              clear T8 A1i1c2i2c3i3c4i4c5i5c6c7i7c8 A2i2c3i3c4i4c5i5c6c7i7c8
              clear hbc
              go_wp2_with (refine wpList_insert_byte W9 rfl _ _ _ 59 rfl underTurns Tryz.underlying5 (b := b0) (k := 119) (v := v9) (m := [(61, v1), (112, v2), (98, v3), (100, v4), (110, v5), (117, v7)]) (by simp [Act.eval]) (by simp [Act.eval]) (by simp [Act.eval]) T9.out.map rfl ?i9)
              case i9 =>
                intro Xi9 hmi9 hbui9
                have Si9 : Hid (Tu w Xi9 b0 [(61, v1), (112, v2), (98, v3), (100, v4), (110, v5), (117, v7), (119, v9)]) := T9.out.ins hmi9.out hbui9.out
                have A1i1c2i2c3i3c4i4c5i5c6c7i7c8c9i9 := hidK (A1i1c2i2c3i3c4i4c5i5c6c7i7c8c9.out.since (ins_since hbui9.out (Nat.lt_succ_self _)) (Nat.le_refl _))
                have A2i2c3i3c4i4c5i5c6c7i7c8c9i9 := hidK (A2i2c3i3c4i4c5i5c6c7i7c8c9.out.since (ins_since hbui9.out (Nat.lt_succ_self _)) (Nat.le_refl _))
                clear hmi9 hbui9 T9 A1i1c2i2c3i3c4i4c5i5c6c7i7c8c9 A2i2c3i3c4i4c5i5c6c7i7c8c9
                go_wp2_with (refine wpList_insert_byte Xi9 rfl _ _ _ 59 rfl underTurns Tryz.underlying5 (b := b0) (k := 115) (v := .func (.func 55) #[] #[]) (m := [(61, v1), (112, v2), (98, v3), (100, v4), (110, v5), (117, v7), (119, v9)]) (by simp [Act.eval]) (by simp [Act.eval]) (by simp [Act.eval]) Si9.out.map rfl ?ia)
                case ia =>
                  intro Xia hmia hbuia
                  have Sia : Hid (Tu w Xia b0 [(61, v1), (112, v2), (98, v3), (100, v4), (110, v5), (117, v7), (119, v9), (115, .func (.func 55) #[] #[])]) := Si9.out.ins hmia.out hbuia.out
                  have A1i1c2i2c3i3c4i4c5i5c6c7i7c8c9i9ia := hidK (A1i1c2i2c3i3c4i4c5i5c6c7i7c8c9i9.out.since (ins_since hbuia.out (Nat.lt_succ_self _)) (Nat.le_refl _))
                  have A2i2c3i3c4i4c5i5c6c7i7c8c9i9ia := hidK (A2i2c3i3c4i4c5i5c6c7i7c8c9i9.out.since (ins_since hbuia.out (Nat.lt_succ_self _)) (Nat.le_refl _))
                  clear hmia hbuia Si9 A1i1c2i2c3i3c4i4c5i5c6c7i7c8c9i9 A2i2c3i3c4i4c5i5c6c7i7c8c9i9
                  go_wp2_with fail
                  all_goals go_ret
                  all_goals exact ⟨b0, rfl, Sia.out.below, by rw [Sia.out.eq]; exact Nat.le_refl _, ⟨Nat.le_refl _, fun _ _ _ => rfl⟩, _, Sia.out.map, ⟨v1, rfl, A1i1c2i2c3i3c4i4c5i5c6c7i7c8c9i9ia.out⟩, ⟨v2, rfl, A2i2c3i3c4i4c5i5c6c7i7c8c9i9ia.out⟩, look_eight _ _ _ _ _ _ _ _⟩

end Go.Proofs.YtgoofifbifdgoabGreatDoor

namespace Go.Proofs.YtgoofifbifdgoabGreatDoor
open Go.RowKit
set_option linter.unusedVariables false
set_option maxRecDepth 20000

theorem wpList_insert_text {ops : Array Oper} {rest : List Oper} {o : Oper} {a : Act} {Q : Exit → Act → World → Prop} (w : World) (hgd : o.guard = none) (mo ko xo : Operand) (t : TypeId) (ho : o.op = .insert t mo ko xo)
    {kt et : TypeId} (ht : Tryz.prog.underlying t = some (.map kt et)) (hk : Tryz.prog.underlying kt = some .string) {b : Nat} {k : List UInt8} {v : Value} {m : Ents} (e1 : a.eval mo = .map (some b)) (e2 : a.eval ko = .string (str k)) (e3 : a.eval xo = v) (hm : MapAt w b m) (hv : lookT m k = none)
    (h : ∀ w', Hid (MapAt w' b (m ++ [(k, v)])) → Hid (But [b] w w') → wpList Tryz.prog ops Q rest (a.put o.dst undef) w') : wpList Tryz.prog ops Q (o :: rest) a w := by
  obtain ⟨w', hrun, h2, h3⟩ := lay_new (v := v) hm ht hk hv
  refine wpList_plain hgd fun K hK => ?_
  unfold Oper.wp execOp
  simp only [ho, e1, e2, e3, Sem.run_bind, Sem.run_pure, Result.andThen_ok, hrun]
  exact hK _ _ (h w' h2 h3)
theorem underHeads : Tryz.prog.underlying 61 = some (.map 9 108) := by kernel_rfl
structure Hu (w W : World) (b0 : Nat) (m : Ents) : Prop where
  map : MapAt W b0 m
  below : Below w.heap.size w W
  eq : b0 = w.heap.size
theorem Hu.call {w W W' : World} {b0 : Nat} {m : Ents} (h : Hu w W b0 m) (hb : Below W.heap.size W W') : Hu w W' b0 m := ⟨h.map.below hb, h.below.trans (hb.mono h.below.size), h.eq⟩
theorem Hu.ins {w W W' : World} {b0 : Nat} {m m' : Ents} (h : Hu w W b0 m) (hm : MapAt W' b0 m') (hb : But [b0] W W') : Hu w W' b0 m' := ⟨hm, hb.under h.below h.below.size (fun k hk => by rw [List.mem_singleton.1 hk, h.eq]; exact Nat.le_refl _), h.eq⟩
theorem ofTexts_makes (xb g : Nat) (lb : Array Value) (w : World) : Calls Tryz.prog 56 #[.pointer (some ⟨xb, 0, none⟩), .func (.func g) #[] lb] w fun e w' => ∃ v, e = .returned v ∧ Below w.heap.size w w' := by
  go_enter Tryz.func56, Tryz.ntmps56
  go_wp2
  all_goals go_ret
  all_goals exact ⟨_, rfl, ((Below.refl _ _).alloc (Nat.le_refl _) _).alloc (by simp) _⟩
theorem ofTruths_makes (xb g : Nat) (lb : Array Value) (w : World) : Calls Tryz.prog 63 #[.pointer (some ⟨xb, 0, none⟩), .func (.func g) #[] lb] w fun e w' => ∃ v, e = .returned v ∧ Below w.heap.size w w' := by
  go_enter Tryz.func63, Tryz.ntmps63
  go_wp2
  all_goals go_ret
  all_goals exact ⟨_, rfl, ((Below.refl _ _).alloc (Nat.le_refl _) _).alloc (by simp) _⟩
theorem ofNumbers_makes (xb g : Nat) (lb : Array Value) (w : World) : Calls Tryz.prog 66 #[.pointer (some ⟨xb, 0, none⟩), .func (.func g) #[] lb] w fun e w' => ∃ v, e = .returned v ∧ Below w.heap.size w w' := by
  go_enter Tryz.func66, Tryz.ntmps66
  go_wp2
  all_goals go_ret
  all_goals exact ⟨_, rfl, ((Below.refl _ _).alloc (Nat.le_refl _) _).alloc (by simp) _⟩
theorem whether_makes (g : Nat) (lb : Array Value) (w : World) : Calls Tryz.prog 72 #[.func (.func g) #[] lb] w fun e w' => ∃ g' lb', e = .returned (.func (.func g') #[] lb') ∧ Below w.heap.size w w' := by
  go_enter Tryz.func72, Tryz.ntmps72
  go_wp2
  all_goals go_ret
  all_goals exact ⟨_, _, rfl, (Below.refl _ _).alloc (Nat.le_refl _) _⟩
theorem heads_keys (v0 v1 v2 v3 v4 v5 v6 v7 v8 v9 v10 v11 v12 v13 v14 v15 v16 v17 v18 : Value) : ([([61, 61], v0), ([33, 61], v1), ([60], v2), ([62], v3), ([60, 61], v4), ([62, 61], v5), ([109], v6), ([124, 124], v7), ([38, 38], v8), ([101, 124, 43, 124], v9), ([101, 124, 45, 124], v10), ([101, 124, 42, 124], v11), ([101, 124, 47, 124], v12), ([101, 124, 109, 124], v13), ([101, 124, 61, 61, 124], v14), ([101, 124, 60, 124], v15), ([101, 124, 62, 124], v16), ([33], v17), ([108], v18)] : Ents).map (·.1) = headNames := rfl
theorem look_keys {m : Ents} (h : m.map (·.1) = headNames) (k : List UInt8) (hk : k ∉ headNames) : lookT m k = none := by
  unfold lookT
  rw [List.find?_eq_none.2]
  · rfl
  · intro p hp
    simp only [decide_eq_true_eq]
    exact fun e => hk (by rw [← h, ← e]; exact List.mem_map_of_mem hp)
/-- The heads' map. -/
def HeadsAt (w : World) (b : Nat) : Prop := ∃ m, MapAt w b m ∧ m.map (·.1) = headNames
theorem HeadsAt.below {w w' : World} {b : Nat} (h : HeadsAt w b) (hb : Below w.heap.size w w') : HeadsAt w' b := by
  obtain ⟨m, h1, h2⟩ := h
  exact ⟨m, h1.below hb, h2⟩

set_option maxHeartbeats 8000000 in
theorem heads_any (xb : Nat) (w : World) : Calls Tryz.prog 25 #[.pointer (some ⟨xb, 0, none⟩)] w fun e w' => ∃ b, e = .returned (.map (some b)) ∧ Below w.heap.size w w' ∧ w.heap.size ≤ b ∧ HeadsAt w' b := by
  have hmk := run_makeMap (P := Tryz.prog) 61 w
  have S0 : Hid (Hu w (w.alloc (.map #[] 0)) w.heap.size []) := ⟨⟨#[], 0, heap_alloc_new w _, rfl⟩, (Below.refl _ _).alloc (Nat.le_refl _) _, rfl⟩
  obtain ⟨W0, hW0⟩ : ∃ W0, w.alloc (.map #[] 0) = W0 := ⟨_, rfl⟩
  obtain ⟨b0, hb0⟩ : ∃ b0, w.heap.size = b0 := ⟨_, rfl⟩
  rw [hW0, hb0] at hmk S0
  clear hW0 hb0
  go_enter Tryz.func25, Tryz.ntmps25
  go_wp2_with fail
  refine (ofTexts_makes xb 57 #[] _).mono ?_
  rintro x W0a ⟨v0, rfl, hbc⟩
  have T0 := hidK (S0.out.call hbc)
  clear hbc S0
  go_wp2_with (refine wpList_insert_text W0a rfl _ _ _ 61 rfl underHeads Tryz.underlying9 (b := b0) (k := [61, 61]) (v := v0) (m := []) (by simp [Act.eval]) (by first | rfl | simp [Act.eval, str]) (by simp [Act.eval]) T0.out.map rfl ?i0)
  case i0 =>
    intro X0 hm0 hbu0
    have S1 : Hid (Hu w X0 b0 [([61, 61], v0)]) := T0.out.ins hm0.out hbu0.out
    clear hm0 hbu0 T0
    go_wp2_with fail
    refine (ofTexts_makes xb 58 #[] _).mono ?_
    rintro x W1a ⟨v1, rfl, hbc⟩
    have T1 := hidK (S1.out.call hbc)
    clear hbc S1
    go_wp2_with (refine wpList_insert_text W1a rfl _ _ _ 61 rfl underHeads Tryz.underlying9 (b := b0) (k := [33, 61]) (v := v1) (m := [([61, 61], v0)]) (by simp [Act.eval]) (by first | rfl | simp [Act.eval, str]) (by simp [Act.eval]) T1.out.map rfl ?i1)
    case i1 =>
      intro X1 hm1 hbu1
      have S2 : Hid (Hu w X1 b0 [([61, 61], v0), ([33, 61], v1)]) := T1.out.ins hm1.out hbu1.out
      clear hm1 hbu1 T1
      go_wp2_with fail
      refine (ofTexts_makes xb 59 #[] _).mono ?_
      rintro x W2a ⟨v2, rfl, hbc⟩
      have T2 := hidK (S2.out.call hbc)
      clear hbc S2
      go_wp2_with (refine wpList_insert_text W2a rfl _ _ _ 61 rfl underHeads Tryz.underlying9 (b := b0) (k := [60]) (v := v2) (m := [([61, 61], v0), ([33, 61], v1)]) (by simp [Act.eval]) (by first | rfl | simp [Act.eval, str]) (by simp [Act.eval]) T2.out.map rfl ?i2)
      case i2 =>
        intro X2 hm2 hbu2
        have S3 : Hid (Hu w X2 b0 [([61, 61], v0), ([33, 61], v1), ([60], v2)]) := T2.out.ins hm2.out hbu2.out
        clear hm2 hbu2 T2
        go_wp2_with fail
        refine (ofTexts_makes xb 60 #[] _).mono ?_
        rintro x W3a ⟨v3, rfl, hbc⟩
        have T3 := hidK (S3.out.call hbc)
        clear hbc S3
        go_wp2_with (refine wpList_insert_text W3a rfl _ _ _ 61 rfl underHeads Tryz.underlying9 (b := b0) (k := [62]) (v := v3) (m := [([61, 61], v0), ([33, 61], v1), ([60], v2)]) (by simp [Act.eval]) (by first | rfl | simp [Act.eval, str]) (by simp [Act.eval]) T3.out.map rfl ?i3)
        case i3 =>
          intro X3 hm3 hbu3
          have S4 : Hid (Hu w X3 b0 [([61, 61], v0), ([33, 61], v1), ([60], v2), ([62], v3)]) := T3.out.ins hm3.out hbu3.out
          clear hm3 hbu3 T3
          go_wp2_with fail
          refine (ofTexts_makes xb 61 #[] _).mono ?_
          rintro x W4a ⟨v4, rfl, hbc⟩
          have T4 := hidK (S4.out.call hbc)
          clear hbc S4
          go_wp2_with (refine wpList_insert_text W4a rfl _ _ _ 61 rfl underHeads Tryz.underlying9 (b := b0) (k := [60, 61]) (v := v4) (m := [([61, 61], v0), ([33, 61], v1), ([60], v2), ([62], v3)]) (by simp [Act.eval]) (by first | rfl | simp [Act.eval, str]) (by simp [Act.eval]) T4.out.map rfl ?i4)
          case i4 =>
            intro X4 hm4 hbu4
            have S5 : Hid (Hu w X4 b0 [([61, 61], v0), ([33, 61], v1), ([60], v2), ([62], v3), ([60, 61], v4)]) := T4.out.ins hm4.out hbu4.out
            clear hm4 hbu4 T4
            go_wp2_with fail
            refine (ofTexts_makes xb 62 #[] _).mono ?_
            rintro x W5a ⟨v5, rfl, hbc⟩
            have T5 := hidK (S5.out.call hbc)
            clear hbc S5
            go_wp2_with (refine wpList_insert_text W5a rfl _ _ _ 61 rfl underHeads Tryz.underlying9 (b := b0) (k := [62, 61]) (v := v5) (m := [([61, 61], v0), ([33, 61], v1), ([60], v2), ([62], v3), ([60, 61], v4)]) (by simp [Act.eval]) (by first | rfl | simp [Act.eval, str]) (by simp [Act.eval]) T5.out.map rfl ?i5)
            case i5 =>
              intro X5 hm5 hbu5
              have S6 : Hid (Hu w X5 b0 [([61, 61], v0), ([33, 61], v1), ([60], v2), ([62], v3), ([60, 61], v4), ([62, 61], v5)]) := T5.out.ins hm5.out hbu5.out
              clear hm5 hbu5 T5
              go_wp2_with fail
              refine (ofTexts_makes xb 12 #[] _).mono ?_
              rintro x W6a ⟨v6, rfl, hbc⟩
              have T6 := hidK (S6.out.call hbc)
              clear hbc S6
              go_wp2_with (refine wpList_insert_text W6a rfl _ _ _ 61 rfl underHeads Tryz.underlying9 (b := b0) (k := [109]) (v := v6) (m := [([61, 61], v0), ([33, 61], v1), ([60], v2), ([62], v3), ([60, 61], v4), ([62, 61], v5)]) (by simp [Act.eval]) (by first | rfl | simp [Act.eval, str]) (by simp [Act.eval]) T6.out.map rfl ?i6)
              case i6 =>
                intro X6 hm6 hbu6
                have S7 : Hid (Hu w X6 b0 [([61, 61], v0), ([33, 61], v1), ([60], v2), ([62], v3), ([60, 61], v4), ([62, 61], v5), ([109], v6)]) := T6.out.ins hm6.out hbu6.out
                clear hm6 hbu6 T6
                go_wp2_with fail
                refine (ofTruths_makes xb 64 #[] _).mono ?_
                rintro x W7a ⟨v7, rfl, hbc⟩
                have T7 := hidK (S7.out.call hbc)
                clear hbc S7
                go_wp2_with (refine wpList_insert_text W7a rfl _ _ _ 61 rfl underHeads Tryz.underlying9 (b := b0) (k := [124, 124]) (v := v7) (m := [([61, 61], v0), ([33, 61], v1), ([60], v2), ([62], v3), ([60, 61], v4), ([62, 61], v5), ([109], v6)]) (by simp [Act.eval]) (by first | rfl | simp [Act.eval, str]) (by simp [Act.eval]) T7.out.map rfl ?i7)
                case i7 =>
                  intro X7 hm7 hbu7
                  have S8 : Hid (Hu w X7 b0 [([61, 61], v0), ([33, 61], v1), ([60], v2), ([62], v3), ([60, 61], v4), ([62, 61], v5), ([109], v6), ([124, 124], v7)]) := T7.out.ins hm7.out hbu7.out
                  clear hm7 hbu7 T7
                  go_wp2_with fail
                  refine (ofTruths_makes xb 65 #[] _).mono ?_
                  rintro x W8a ⟨v8, rfl, hbc⟩
                  have T8 := hidK (S8.out.call hbc)
                  clear hbc S8
                  go_wp2_with (refine wpList_insert_text W8a rfl _ _ _ 61 rfl underHeads Tryz.underlying9 (b := b0) (k := [38, 38]) (v := v8) (m := [([61, 61], v0), ([33, 61], v1), ([60], v2), ([62], v3), ([60, 61], v4), ([62, 61], v5), ([109], v6), ([124, 124], v7)]) (by simp [Act.eval]) (by first | rfl | simp [Act.eval, str]) (by simp [Act.eval]) T8.out.map rfl ?i8)
                  case i8 =>
                    intro X8 hm8 hbu8
                    have S9 : Hid (Hu w X8 b0 [([61, 61], v0), ([33, 61], v1), ([60], v2), ([62], v3), ([60, 61], v4), ([62, 61], v5), ([109], v6), ([124, 124], v7), ([38, 38], v8)]) := T8.out.ins hm8.out hbu8.out
                    clear hm8 hbu8 T8
                    go_wp2_with fail
                    refine (ofNumbers_makes xb 67 #[] _).mono ?_
                    rintro x W9a ⟨v9, rfl, hbc⟩
                    have T9 := hidK (S9.out.call hbc)
                    clear hbc S9
                    go_wp2_with (refine wpList_insert_text W9a rfl _ _ _ 61 rfl underHeads Tryz.underlying9 (b := b0) (k := [101, 124, 43, 124]) (v := v9) (m := [([61, 61], v0), ([33, 61], v1), ([60], v2), ([62], v3), ([60, 61], v4), ([62, 61], v5), ([109], v6), ([124, 124], v7), ([38, 38], v8)]) (by simp [Act.eval]) (by first | rfl | simp [Act.eval, str]) (by simp [Act.eval]) T9.out.map rfl ?i9)
                    case i9 =>
                      intro X9 hm9 hbu9
                      have S10 : Hid (Hu w X9 b0 [([61, 61], v0), ([33, 61], v1), ([60], v2), ([62], v3), ([60, 61], v4), ([62, 61], v5), ([109], v6), ([124, 124], v7), ([38, 38], v8), ([101, 124, 43, 124], v9)]) := T9.out.ins hm9.out hbu9.out
                      clear hm9 hbu9 T9
                      go_wp2_with fail
                      refine (ofNumbers_makes xb 68 #[] _).mono ?_
                      rintro x W10a ⟨v10, rfl, hbc⟩
                      have T10 := hidK (S10.out.call hbc)
                      clear hbc S10
                      go_wp2_with (refine wpList_insert_text W10a rfl _ _ _ 61 rfl underHeads Tryz.underlying9 (b := b0) (k := [101, 124, 45, 124]) (v := v10) (m := [([61, 61], v0), ([33, 61], v1), ([60], v2), ([62], v3), ([60, 61], v4), ([62, 61], v5), ([109], v6), ([124, 124], v7), ([38, 38], v8), ([101, 124, 43, 124], v9)]) (by simp [Act.eval]) (by first | rfl | simp [Act.eval, str]) (by simp [Act.eval]) T10.out.map rfl ?i10)
                      case i10 =>
                        intro X10 hm10 hbu10
                        have S11 : Hid (Hu w X10 b0 [([61, 61], v0), ([33, 61], v1), ([60], v2), ([62], v3), ([60, 61], v4), ([62, 61], v5), ([109], v6), ([124, 124], v7), ([38, 38], v8), ([101, 124, 43, 124], v9), ([101, 124, 45, 124], v10)]) := T10.out.ins hm10.out hbu10.out
                        clear hm10 hbu10 T10
                        go_wp2_with fail
                        refine (ofNumbers_makes xb 69 #[] _).mono ?_
                        rintro x W11a ⟨v11, rfl, hbc⟩
                        have T11 := hidK (S11.out.call hbc)
                        clear hbc S11
                        go_wp2_with (refine wpList_insert_text W11a rfl _ _ _ 61 rfl underHeads Tryz.underlying9 (b := b0) (k := [101, 124, 42, 124]) (v := v11) (m := [([61, 61], v0), ([33, 61], v1), ([60], v2), ([62], v3), ([60, 61], v4), ([62, 61], v5), ([109], v6), ([124, 124], v7), ([38, 38], v8), ([101, 124, 43, 124], v9), ([101, 124, 45, 124], v10)]) (by simp [Act.eval]) (by first | rfl | simp [Act.eval, str]) (by simp [Act.eval]) T11.out.map rfl ?i11)
                        case i11 =>
                          intro X11 hm11 hbu11
                          have S12 : Hid (Hu w X11 b0 [([61, 61], v0), ([33, 61], v1), ([60], v2), ([62], v3), ([60, 61], v4), ([62, 61], v5), ([109], v6), ([124, 124], v7), ([38, 38], v8), ([101, 124, 43, 124], v9), ([101, 124, 45, 124], v10), ([101, 124, 42, 124], v11)]) := T11.out.ins hm11.out hbu11.out
                          clear hm11 hbu11 T11
                          go_wp2_with fail
                          refine (ofNumbers_makes xb 70 #[] _).mono ?_
                          rintro x W12a ⟨v12, rfl, hbc⟩
                          have T12 := hidK (S12.out.call hbc)
                          clear hbc S12
                          go_wp2_with (refine wpList_insert_text W12a rfl _ _ _ 61 rfl underHeads Tryz.underlying9 (b := b0) (k := [101, 124, 47, 124]) (v := v12) (m := [([61, 61], v0), ([33, 61], v1), ([60], v2), ([62], v3), ([60, 61], v4), ([62, 61], v5), ([109], v6), ([124, 124], v7), ([38, 38], v8), ([101, 124, 43, 124], v9), ([101, 124, 45, 124], v10), ([101, 124, 42, 124], v11)]) (by simp [Act.eval]) (by first | rfl | simp [Act.eval, str]) (by simp [Act.eval]) T12.out.map rfl ?i12)
                          case i12 =>
                            intro X12 hm12 hbu12
                            have S13 : Hid (Hu w X12 b0 [([61, 61], v0), ([33, 61], v1), ([60], v2), ([62], v3), ([60, 61], v4), ([62, 61], v5), ([109], v6), ([124, 124], v7), ([38, 38], v8), ([101, 124, 43, 124], v9), ([101, 124, 45, 124], v10), ([101, 124, 42, 124], v11), ([101, 124, 47, 124], v12)]) := T12.out.ins hm12.out hbu12.out
                            clear hm12 hbu12 T12
                            go_wp2_with fail
                            refine (ofNumbers_makes xb 71 #[] _).mono ?_
                            rintro x W13a ⟨v13, rfl, hbc⟩
                            have T13 := hidK (S13.out.call hbc)
                            clear hbc S13
                            go_wp2_with (refine wpList_insert_text W13a rfl _ _ _ 61 rfl underHeads Tryz.underlying9 (b := b0) (k := [101, 124, 109, 124]) (v := v13) (m := [([61, 61], v0), ([33, 61], v1), ([60], v2), ([62], v3), ([60, 61], v4), ([62, 61], v5), ([109], v6), ([124, 124], v7), ([38, 38], v8), ([101, 124, 43, 124], v9), ([101, 124, 45, 124], v10), ([101, 124, 42, 124], v11), ([101, 124, 47, 124], v12)]) (by simp [Act.eval]) (by first | rfl | simp [Act.eval, str]) (by simp [Act.eval]) T13.out.map rfl ?i13)
                            case i13 =>
                              intro X13 hm13 hbu13
                              have S14 : Hid (Hu w X13 b0 [([61, 61], v0), ([33, 61], v1), ([60], v2), ([62], v3), ([60, 61], v4), ([62, 61], v5), ([109], v6), ([124, 124], v7), ([38, 38], v8), ([101, 124, 43, 124], v9), ([101, 124, 45, 124], v10), ([101, 124, 42, 124], v11), ([101, 124, 47, 124], v12), ([101, 124, 109, 124], v13)]) := T13.out.ins hm13.out hbu13.out
                              clear hm13 hbu13 T13
                              go_wp2_with fail
                              refine (whether_makes 73 #[] _).mono ?_
                              rintro x W14b ⟨g14, lb14, rfl, hbc⟩
                              have R14 := hidK (S14.out.call hbc)
                              clear hbc S14
                              go_wp2_with fail
                              refine (ofNumbers_makes xb g14 lb14 _).mono ?_
                              rintro x W14a ⟨v14, rfl, hbc⟩
                              have T14 := hidK (R14.out.call hbc)
                              clear hbc R14
                              go_wp2_with (refine wpList_insert_text W14a rfl _ _ _ 61 rfl underHeads Tryz.underlying9 (b := b0) (k := [101, 124, 61, 61, 124]) (v := v14) (m := [([61, 61], v0), ([33, 61], v1), ([60], v2), ([62], v3), ([60, 61], v4), ([62, 61], v5), ([109], v6), ([124, 124], v7), ([38, 38], v8), ([101, 124, 43, 124], v9), ([101, 124, 45, 124], v10), ([101, 124, 42, 124], v11), ([101, 124, 47, 124], v12), ([101, 124, 109, 124], v13)]) (by simp [Act.eval]) (by first | rfl | simp [Act.eval, str]) (by simp [Act.eval]) T14.out.map rfl ?i14)
                              case i14 =>
                                intro X14 hm14 hbu14
                                have S15 : Hid (Hu w X14 b0 [([61, 61], v0), ([33, 61], v1), ([60], v2), ([62], v3), ([60, 61], v4), ([62, 61], v5), ([109], v6), ([124, 124], v7), ([38, 38], v8), ([101, 124, 43, 124], v9), ([101, 124, 45, 124], v10), ([101, 124, 42, 124], v11), ([101, 124, 47, 124], v12), ([101, 124, 109, 124], v13), ([101, 124, 61, 61, 124], v14)]) := T14.out.ins hm14.out hbu14.out
                                clear hm14 hbu14 T14
                                go_wp2_with fail
                                refine (whether_makes 74 #[] _).mono ?_
                                rintro x W15b ⟨g15, lb15, rfl, hbc⟩
                                have R15 := hidK (S15.out.call hbc)
                                clear hbc S15
                                go_wp2_with fail
                                refine (ofNumbers_makes xb g15 lb15 _).mono ?_
                                rintro x W15a ⟨v15, rfl, hbc⟩
                                have T15 := hidK (R15.out.call hbc)
                                clear hbc R15
                                go_wp2_with (refine wpList_insert_text W15a rfl _ _ _ 61 rfl underHeads Tryz.underlying9 (b := b0) (k := [101, 124, 60, 124]) (v := v15) (m := [([61, 61], v0), ([33, 61], v1), ([60], v2), ([62], v3), ([60, 61], v4), ([62, 61], v5), ([109], v6), ([124, 124], v7), ([38, 38], v8), ([101, 124, 43, 124], v9), ([101, 124, 45, 124], v10), ([101, 124, 42, 124], v11), ([101, 124, 47, 124], v12), ([101, 124, 109, 124], v13), ([101, 124, 61, 61, 124], v14)]) (by simp [Act.eval]) (by first | rfl | simp [Act.eval, str]) (by simp [Act.eval]) T15.out.map rfl ?i15)
                                case i15 =>
                                  intro X15 hm15 hbu15
                                  have S16 : Hid (Hu w X15 b0 [([61, 61], v0), ([33, 61], v1), ([60], v2), ([62], v3), ([60, 61], v4), ([62, 61], v5), ([109], v6), ([124, 124], v7), ([38, 38], v8), ([101, 124, 43, 124], v9), ([101, 124, 45, 124], v10), ([101, 124, 42, 124], v11), ([101, 124, 47, 124], v12), ([101, 124, 109, 124], v13), ([101, 124, 61, 61, 124], v14), ([101, 124, 60, 124], v15)]) := T15.out.ins hm15.out hbu15.out
                                  clear hm15 hbu15 T15
                                  go_wp2_with fail
                                  refine (whether_makes 75 #[] _).mono ?_
                                  rintro x W16b ⟨g16, lb16, rfl, hbc⟩
                                  have R16 := hidK (S16.out.call hbc)
                                  clear hbc S16
                                  go_wp2_with fail
                                  refine (ofNumbers_makes xb g16 lb16 _).mono ?_
                                  rintro x W16a ⟨v16, rfl, hbc⟩
                                  have T16 := hidK (R16.out.call hbc)
                                  clear hbc R16
                                  go_wp2_with (refine wpList_insert_text W16a rfl _ _ _ 61 rfl underHeads Tryz.underlying9 (b := b0) (k := [101, 124, 62, 124]) (v := v16) (m := [([61, 61], v0), ([33, 61], v1), ([60], v2), ([62], v3), ([60, 61], v4), ([62, 61], v5), ([109], v6), ([124, 124], v7), ([38, 38], v8), ([101, 124, 43, 124], v9), ([101, 124, 45, 124], v10), ([101, 124, 42, 124], v11), ([101, 124, 47, 124], v12), ([101, 124, 109, 124], v13), ([101, 124, 61, 61, 124], v14), ([101, 124, 60, 124], v15)]) (by simp [Act.eval]) (by first | rfl | simp [Act.eval, str]) (by simp [Act.eval]) T16.out.map rfl ?i16)
                                  case i16 =>
                                    intro X16 hm16 hbu16
                                    have S17 : Hid (Hu w X16 b0 [([61, 61], v0), ([33, 61], v1), ([60], v2), ([62], v3), ([60, 61], v4), ([62, 61], v5), ([109], v6), ([124, 124], v7), ([38, 38], v8), ([101, 124, 43, 124], v9), ([101, 124, 45, 124], v10), ([101, 124, 42, 124], v11), ([101, 124, 47, 124], v12), ([101, 124, 109, 124], v13), ([101, 124, 61, 61, 124], v14), ([101, 124, 60, 124], v15), ([101, 124, 62, 124], v16)]) := T16.out.ins hm16.out hbu16.out
                                    clear hm16 hbu16 T16
                                    go_wp2_with (refine wpList_insert_text _ rfl _ _ _ 61 rfl underHeads Tryz.underlying9 (b := b0) (k := [33]) (v := .func (.func 76) #[.pointer (some ⟨xb, 0, none⟩)] #[]) (m := [([61, 61], v0), ([33, 61], v1), ([60], v2), ([62], v3), ([60, 61], v4), ([62, 61], v5), ([109], v6), ([124, 124], v7), ([38, 38], v8), ([101, 124, 43, 124], v9), ([101, 124, 45, 124], v10), ([101, 124, 42, 124], v11), ([101, 124, 47, 124], v12), ([101, 124, 109, 124], v13), ([101, 124, 61, 61, 124], v14), ([101, 124, 60, 124], v15), ([101, 124, 62, 124], v16)]) (by simp [Act.eval]) (by first | rfl | simp [Act.eval, str]) (by simp [Act.eval]) S17.out.map rfl ?i17)
                                    case i17 =>
                                      intro X17 hm17 hbu17
                                      have S18 : Hid (Hu w X17 b0 [([61, 61], v0), ([33, 61], v1), ([60], v2), ([62], v3), ([60, 61], v4), ([62, 61], v5), ([109], v6), ([124, 124], v7), ([38, 38], v8), ([101, 124, 43, 124], v9), ([101, 124, 45, 124], v10), ([101, 124, 42, 124], v11), ([101, 124, 47, 124], v12), ([101, 124, 109, 124], v13), ([101, 124, 61, 61, 124], v14), ([101, 124, 60, 124], v15), ([101, 124, 62, 124], v16), ([33], .func (.func 76) #[.pointer (some ⟨xb, 0, none⟩)] #[])]) := S17.out.ins hm17.out hbu17.out
                                      clear hm17 hbu17 S17
                                      go_wp2_with (refine wpList_insert_text _ rfl _ _ _ 61 rfl underHeads Tryz.underlying9 (b := b0) (k := [108]) (v := .func (.func 77) #[] #[]) (m := [([61, 61], v0), ([33, 61], v1), ([60], v2), ([62], v3), ([60, 61], v4), ([62, 61], v5), ([109], v6), ([124, 124], v7), ([38, 38], v8), ([101, 124, 43, 124], v9), ([101, 124, 45, 124], v10), ([101, 124, 42, 124], v11), ([101, 124, 47, 124], v12), ([101, 124, 109, 124], v13), ([101, 124, 61, 61, 124], v14), ([101, 124, 60, 124], v15), ([101, 124, 62, 124], v16), ([33], .func (.func 76) #[.pointer (some ⟨xb, 0, none⟩)] #[])]) (by simp [Act.eval]) (by first | rfl | simp [Act.eval, str]) (by simp [Act.eval]) S18.out.map rfl ?i18)
                                      case i18 =>
                                        intro X18 hm18 hbu18
                                        have S19 : Hid (Hu w X18 b0 [([61, 61], v0), ([33, 61], v1), ([60], v2), ([62], v3), ([60, 61], v4), ([62, 61], v5), ([109], v6), ([124, 124], v7), ([38, 38], v8), ([101, 124, 43, 124], v9), ([101, 124, 45, 124], v10), ([101, 124, 42, 124], v11), ([101, 124, 47, 124], v12), ([101, 124, 109, 124], v13), ([101, 124, 61, 61, 124], v14), ([101, 124, 60, 124], v15), ([101, 124, 62, 124], v16), ([33], .func (.func 76) #[.pointer (some ⟨xb, 0, none⟩)] #[]), ([108], .func (.func 77) #[] #[])]) := S18.out.ins hm18.out hbu18.out
                                        clear hm18 hbu18 S18
                                        go_wp2_with fail
                                        all_goals go_ret
                                        all_goals exact ⟨b0, rfl, S19.out.below, by rw [S19.out.eq]; exact Nat.le_refl _, _, S19.out.map, rfl⟩

end Go.Proofs.YtgoofifbifdgoabGreatDoor
