/-
  Formats: the turners' map.
  Formats: the heads' map (what its entries do is said elsewhere).
-/
import Derived.Test.YtlfcjcaofhcfnaaGreatDoorGE
import Derived.Test.YtlfcjcaofhcfnaaGreatDoorGD
import Derived.Test.YtlfcjcaofhcfnaaGreatDoorGF
namespace Go.Proofs.YtlfcjcaofhcfnaaGreatDoor
open Go.RowKit
set_option linter.unusedVariables false
set_option maxRecDepth 20000

/-- A map's entries, in their order: its keys are bytes. -/
abbrev EntsB := List (UInt8 × Value)
def entB (p : UInt8 × Value) : Value × Value := (.int .u8 p.1.toNat, p.2)
def MapB (w : World) (b : Nat) (m : EntsB) : Prop := ∃ es clock, w.heap[b]? = some (.map es clock) ∧ es.toList.map (fun e => (e.key, e.val)) = m.map entB
theorem MapB.keep {w w' : World} {b : Nat} {m : EntsB} (h : MapB w b m) (hk : w'.heap[b]? = w.heap[b]?) : MapB w' b m := by
  obtain ⟨es, c, h1, h2⟩ := h
  exact ⟨es, c, hk.trans h1, h2⟩
theorem MapB.lt {w : World} {b : Nat} {m : EntsB} (h : MapB w b m) : b < w.heap.size := by
  obtain ⟨es, c, h1, h2⟩ := h
  exact lt_of_block h1
theorem MapB.below {w w' : World} {b : Nat} {m : EntsB} (h : MapB w b m) (hb : Below w.heap.size w w') : MapB w' b m := h.keep (hb.block b h.lt)
def lookB (m : EntsB) (k : UInt8) : Option Value := (m.find? fun p => decide (p.1 = k)).map (·.2)
theorem same_byte (j : IntKind) (a b : UInt8) : Instr.sameNow (.int j) (.int .u8 a.toNat) (.int .u8 b.toNat) = some (decide (a = b)) := by
  simp only [Instr.sameNow, if_true]
  by_cases h : a = b
  · subst h; simp
  · rw [decide_eq_false h]
    have : ¬ a.toNat = b.toNat := fun e => h (UInt8.toNat_inj.1 e)
    simp only [Option.some.injEq, beq_eq_false_iff_ne, ne_eq]
    omega
theorem find_byte (j : IntKind) (k : UInt8) : ∀ (es : List MapEntry) (m : EntsB) (i : Nat), es.map (fun e => (e.key, e.val)) = m.map entB → ∃ n, Instr.findNow (.int j) (.int .u8 k.toNat) es i = some ((lookB m k).map fun v => (n, v))
  | [], m, i, h => by
    cases m with
    | nil => exact ⟨0, rfl⟩
    | cons p m => cases h
  | e :: es, m, i, h => by
    cases m with
    | nil => cases h
    | cons p m =>
      simp only [List.map_cons, List.cons.injEq] at h
      obtain ⟨h1, h2⟩ := h
      have hs : e.key = .int .u8 p.1.toNat := congrArg Prod.fst h1
      have hv : e.val = p.2 := congrArg Prod.snd h1
      by_cases hk : p.1 = k
      · refine ⟨i, ?_⟩
        simp only [Instr.findNow, hs, same_byte, hv, decide_eq_true hk.symm]
        simp [lookB, hk]
      · obtain ⟨n, hj⟩ := find_byte j k es m (i + 1) h2
        refine ⟨n, ?_⟩
        have hbe : decide (k = p.1) = false := decide_eq_false fun e => hk e.symm
        simp only [Instr.findNow, hs, same_byte, hbe, hj]
        simp [lookB, hk]
theorem check_byte {kt : TypeId} {j : IntKind} (hk : Tryz.prog.underlying kt = some (.int j)) (em : Bool) (n : Int) (w : World) : (Instr.checkKey em 10000 kt (.int .u8 n)).run Tryz.prog w = .ok () w := by
  rw [show (10000 : Nat) = 9999 + 1 from rfl, Instr.checkKey]
  simp [run_underlying hk]
theorem findKey_byte {kt : TypeId} {j : IntKind} (hk : Tryz.prog.underlying kt = some (.int j)) {n : Int} {es : List MapEntry} {r : Option (Nat × Value)} (h : Instr.findNow (.int j) (.int .u8 n) es 0 = some r) (w : World) : (Instr.findKey kt (.int .u8 n) es).run Tryz.prog w = .ok r w := by
  simp [Instr.findKey, run_underlying hk, h]
theorem lookB_some {w : World} {b : Nat} {m : EntsB} {t kt et : TypeId} {j : IntKind} {k : UInt8} {v : Value} (h : MapB w b m) (ht : Tryz.prog.underlying t = some (.map kt et)) (hk : Tryz.prog.underlying kt = some (.int j)) (hv : lookB m k = some v) :
    (Instr.lookup t (.map (some b)) (.int .u8 k.toNat) true).run Tryz.prog w = .ok (.tuple #[v, .bool true]) w := by
  obtain ⟨es, c, h1, h2⟩ := h
  obtain ⟨n, hj⟩ := find_byte j k es.toList m 0 h2
  rw [hv] at hj
  simp [Instr.lookup, run_underlying ht, MapKept.run_getObj_map h1, check_byte hk, findKey_byte hk hj, Result.andThen]
theorem lookB_none {w : World} {b : Nat} {m : EntsB} {t kt et : TypeId} {j : IntKind} {k : UInt8} {z : Value} (h : MapB w b m) (ht : Tryz.prog.underlying t = some (.map kt et)) (hk : Tryz.prog.underlying kt = some (.int j)) (hz : (zeroValue et).run Tryz.prog w = .ok z w) (hv : lookB m k = none) :
    (Instr.lookup t (.map (some b)) (.int .u8 k.toNat) true).run Tryz.prog w = .ok (.tuple #[z, .bool false]) w := by
  obtain ⟨es, c, h1, h2⟩ := h
  obtain ⟨n, hj⟩ := find_byte j k es.toList m 0 h2
  rw [hv] at hj
  simp [Instr.lookup, run_underlying ht, MapKept.run_getObj_map h1, check_byte hk, findKey_byte hk hj, hz, Result.andThen]
theorem layB_new {w : World} {b : Nat} {m : EntsB} {t kt et : TypeId} {j : IntKind} {k : UInt8} {v : Value} (h : MapB w b m) (ht : Tryz.prog.underlying t = some (.map kt et)) (hk : Tryz.prog.underlying kt = some (.int j)) (hv : lookB m k = none) :
    ∃ w', (Instr.mapUpdate t (.map (some b)) (.int .u8 k.toNat) v).run Tryz.prog w = .ok () w' ∧ MapB w' b (m ++ [(k, v)]) ∧ But [b] w w' := by
  obtain ⟨es, c, h1, h2⟩ := h
  obtain ⟨n, hj⟩ := find_byte j k es.toList m 0 h2
  rw [hv] at hj
  have hlt := lt_of_block h1
  refine ⟨{ w with heap := w.heap.setIfInBounds b (.map (es.push { key := .int .u8 k.toNat, val := v, born := c }) (c + 1)) }, ?_, ⟨es.push { key := .int .u8 k.toNat, val := v, born := c }, c + 1, ?_, ?_⟩, ⟨rfl, rfl, rfl, ?_, fun g hg hn => ?_⟩⟩
  · simp [Instr.mapUpdate, run_underlying ht, MapKept.run_getObj_map h1, check_byte hk, findKey_byte hk hj, MapKept.run_setObj_map _ h1, Result.andThen]
  · show (w.heap.setIfInBounds b _)[b]? = _
    rw [Array.getElem?_setIfInBounds_self_of_lt hlt]
  · rw [Array.toList_push, List.map_append, h2, List.map_append]
    rfl
  · show w.heap.size ≤ (w.heap.setIfInBounds b _).size
    rw [Array.size_setIfInBounds]
    exact Nat.le_refl _
  · show (w.heap.setIfInBounds b _)[g]? = _
    rw [Array.getElem?_setIfInBounds_ne (fun e => hn (by simp [e]))]
/-- An entry laid in, at the operation. -/
theorem wpList_insert_byte {ops : Array Oper} {rest : List Oper} {o : Oper} {a : Act} {Q : Exit → Act → World → Prop} (w : World) (hgd : o.guard = none) (mo ko xo : Operand) (t : TypeId) (ho : o.op = .insert t mo ko xo)
    {kt et : TypeId} {j : IntKind} (ht : Tryz.prog.underlying t = some (.map kt et)) (hk : Tryz.prog.underlying kt = some (.int j)) {b : Nat} {k : UInt8} {v : Value} {m : EntsB} (e1 : a.eval mo = .map (some b)) (e2 : a.eval ko = .int .u8 k.toNat) (e3 : a.eval xo = v) (hm : MapB w b m) (hv : lookB m k = none)
    (h : ∀ w', Hid (MapB w' b (m ++ [(k, v)])) → Hid (But [b] w w') → wpList Tryz.prog ops Q rest (a.put o.dst undef) w') : wpList Tryz.prog ops Q (o :: rest) a w := by
  obtain ⟨w', hrun, h2, h3⟩ := layB_new (v := v) hm ht hk hv
  refine wpList_plain hgd fun K hK => ?_
  unfold Oper.wp execOp
  simp only [ho, e1, e2, e3, Sem.run_bind, Sem.run_pure, Result.andThen_ok, hrun]
  exact hK _ _ (h w' h2 h3)

/-- A turn that is no closure, or one whose boxes are old. -/
theorem bare_turner (t : Turn) (v : Value) {B : Nat} {w : World} (ht : TurnOk B w v t) (W : World) (b : Nat) (hc : W.cell? ⟨b, 0, none⟩ = some v) (r : List UInt8) :
    Calls Tryz.prog 90 #[.string (str r), .pointer (some ⟨b, 0, none⟩)] W fun e w' => ∃ tv ok, e = .returned (.tuple #[tv, .bool ok]) ∧ Below W.heap.size W w' ∧ ((∃ u, bareF t r = some u ∧ ok = true ∧ (TurnOk W.heap.size w' tv u ∨ TurnOk B w tv u)) ∨ (bareF t r = none ∧ ok = false)) := by
  have HT := hidK ht
  obtain ⟨g, lb, rfl, -, -⟩ := ht
  cases r with
  | nil =>
    have h1 : (str []).toList.isEmpty = true := by rw [str_toList]; rfl
    have h2 : (str []).toList = [] := str_toList []
    go_enter Tryz.func90, Tryz.ntmps90
    go_wp2_with fail
    all_goals go_ret2
    all_goals exact ⟨_, _, rfl, Below.refl _ _, .inl ⟨t, rfl, rfl, .inr HT.out⟩⟩
  | cons c r =>
    have h1 : (str (c :: r)).toList.isEmpty = false := by rw [str_toList]; rfl
    have h2 : ¬ (str (c :: r)).toList = [] := by rw [str_toList]; simp
    have HN : Hid (bareF t (c :: r) = none) := if_neg (by simp)
    obtain ⟨z, hz⟩ : ∃ z, str (c :: r) = z := ⟨_, rfl⟩
    rw [hz] at h1 h2 ⊢
    clear hz
    go_enter Tryz.func90, Tryz.ntmps90
    go_wp2_with fail
    all_goals go_ret2
    all_goals exact ⟨_, _, rfl, Below.refl _ _, .inr ⟨HN.out, rfl⟩⟩
theorem bare_any (t : Turn) (v : Value) {B : Nat} {w : World} (ht : TurnOk B w v t) (hB : B ≤ w.heap.size) : Calls Tryz.prog 35 #[v] w fun e w' => ∃ v', e = .returned v' ∧ Below w.heap.size w w' ∧ TurnerOk B w' v' (bareF t) := by
  have HT := hidK ht
  have HB := hidK hB
  obtain ⟨g, lb, rfl, -, -⟩ := ht
  go_enter Tryz.func35, Tryz.ntmps35
  go_wp2
  all_goals go_ret
  all_goals (
    have hbl : Below w.heap.size w (w.alloc (.cells #[.func (.func g) #[] lb] 89)) := (Below.refl _ _).alloc (Nat.le_refl _) _
    refine ⟨_, rfl, hbl, _, _, rfl, enters_of Tryz.func90 (by kernel_rfl) rfl, fun W hW _ r _ => bare_turner t _ (HT.out.since (.of_below hbl) (Nat.le_refl _)) W _ ?_ r⟩
    exact cell_atT ((hW.block w.heap.size HB.out (by simp)).trans (heap_alloc_new w _)) 0)
theorem turn_plain {g : Nat} {t : Turn} (hg : Enters g) (h : ∀ W, NEnv W → ∀ l : List UInt8, l.length ≤ 2147483647 → Calls Tryz.prog g #[.string (str l)] W fun e w' => e = .returned (.string (str (t.of l))) ∧ Below W.heap.size W w') (B : Nat) (w : World) : TurnOk B w (.func (.func g) #[] #[]) t := ⟨g, #[], rfl, hg, fun W _ hE l hl => h W hE l hl⟩
theorem turn_base (B : Nat) (w : World) : TurnOk B w (.func (.func 36) #[] #[]) .base := turn_plain (t := .base) (enters_of Tryz.func36 (by kernel_rfl) rfl) (fun W _ l hl => base_any l hl W) B w
theorem turn_folder (B : Nat) (w : World) : TurnOk B w (.func (.func 37) #[] #[]) .folder := turn_plain (t := .folder) (enters_of Tryz.func37 (by kernel_rfl) rfl) (fun W _ l hl => folder_any l hl W) B w
theorem turn_count (B : Nat) (w : World) : TurnOk B w (.func (.func 38) #[] #[]) .count := turn_plain (t := .count) (enters_of Tryz.func38 (by kernel_rfl) rfl) (fun W hE l hl => count_any hE l hl) B w
theorem small_is (c : UInt8) (W : World) : Calls Tryz.prog 41 #[.int .u8 (c.toNat : Int)] W fun e w' => e = .returned (.bool (smallB c)) ∧ W = w' := isSmall_any c W
theorem letters_any (q : UInt8 → Bool) (t : Turn) (ht : ∀ l, t.of l = lettersT q l) (g : Nat) (hg : Enters g) (hq : ∀ (c : UInt8) W, Calls Tryz.prog g #[.int .u8 (c.toNat : Int)] W fun e w' => e = .returned (.bool (q c)) ∧ W = w') (w : World) : Calls Tryz.prog 40 #[.func (.func g) #[] #[]] w fun e w' => ∃ v, e = .returned v ∧ Below w.heap.size w w' ∧ TurnOk w.heap.size w' v t := by
  have HG := hidK hg
  have HQ := hidK hq
  have HT := hidK ht
  clear hg hq ht
  go_enter Tryz.func40, Tryz.ntmps40
  go_wp2
  all_goals go_ret
  all_goals (
    refine ⟨_, rfl, (Below.refl _ _).alloc (Nat.le_refl _) _, _, _, rfl, enters_of Tryz.func92 (by kernel_rfl) rfl, fun W hW _ l hl => ?_⟩
    rw [HT.out l]
    exact letters_turn q g HG.out HQ.out W _ (cell_atT ((hW.block w.heap.size (Nat.le_refl _) (by simp)).trans (heap_alloc_new w _)) 0) l hl)

theorem underTurns : Tryz.prog.underlying 47 = some (.map 5 83) := by kernel_rfl
/-- The turners by their letters. -/
def trL : List (UInt8 × (List UInt8 → Option Turn)) := [(61, numF .cut .last), (112, numF .behind .ahead), (98, bareF .base), (100, bareF .folder), (110, bareF .count), (117, bareF .great), (119, bareF .small), (115, exchT)]
def trOf (c : UInt8) : Option (List UInt8 → Option Turn) := (trL.find? fun p => decide (p.1 = c)).map (·.2)
def trKeys : List UInt8 := [61, 112, 98, 100, 110, 117, 119, 115]
theorem tr_none {c : UInt8} (h : trOf c = none) : c ∉ trKeys := by
  unfold trOf at h
  rw [Option.map_eq_none_iff, List.find?_eq_none] at h
  have e : trL.map (·.1) = trKeys := rfl
  rw [← e]
  intro hm
  obtain ⟨p, hp, e⟩ := List.mem_map.1 hm
  have := h p hp
  rw [decide_eq_true_eq] at this
  exact this e
theorem tr_some {c : UInt8} {f : List UInt8 → Option Turn} (h : trOf c = some f) : c ∈ trKeys := by
  unfold trOf at h
  cases hf : trL.find? (fun p => decide (p.1 = c)) with
  | none => rw [hf] at h; cases h
  | some p =>
    have h1 := List.mem_of_find?_eq_some hf
    have h2 := List.find?_some hf
    rw [decide_eq_true_eq] at h2
    have e : trL.map (·.1) = trKeys := rfl
    rw [← e, ← h2]
    exact List.mem_map_of_mem h1
theorem tr_turn (c : UInt8) (r : List UInt8) : turnF (c :: r) = some (match trOf c with | some f => f r | none => none) := by
  have hc : ∀ n : UInt8, c = n ↔ c.toNat = n.toNat := fun n => UInt8.toNat_inj.symm
  simp only [turnF, trOf, trL, List.find?_cons]
  by_cases h1 : c.toNat = 61
  · obtain rfl : c = 61 := UInt8.toNat_inj.1 h1
    rfl
  by_cases h2 : c.toNat = 112
  · obtain rfl : c = 112 := UInt8.toNat_inj.1 h2
    rfl
  by_cases h3 : c.toNat = 98
  · obtain rfl : c = 98 := UInt8.toNat_inj.1 h3
    rfl
  by_cases h4 : c.toNat = 100
  · obtain rfl : c = 100 := UInt8.toNat_inj.1 h4
    rfl
  by_cases h5 : c.toNat = 110
  · obtain rfl : c = 110 := UInt8.toNat_inj.1 h5
    rfl
  by_cases h6 : c.toNat = 117
  · obtain rfl : c = 117 := UInt8.toNat_inj.1 h6
    rfl
  by_cases h7 : c.toNat = 119
  · obtain rfl : c = 119 := UInt8.toNat_inj.1 h7
    rfl
  by_cases h8 : c.toNat = 115
  · obtain rfl : c = 115 := UInt8.toNat_inj.1 h8
    rfl
  have d : ∀ n : UInt8, ¬ c.toNat = n.toNat → decide (n = c) = false := fun n h => decide_eq_false fun e => h (by rw [e])
  rw [if_neg h1, if_neg h2, if_neg h3, if_neg h4, if_neg h5, if_neg h6, if_neg h7, if_neg h8, d 61 h1, d 112 h2, d 98 h3, d 100 h4, d 110 h5, d 117 h6, d 119 h7, d 115 h8]
  rfl
theorem mem_lookB {m : EntsB} {c : UInt8} (h : c ∈ m.map (·.1)) : ∃ v, lookB m c = some v ∧ (c, v) ∈ m := by
  unfold lookB
  cases hf : m.find? (fun p => decide (p.1 = c)) with
  | none =>
    rw [List.find?_eq_none] at hf
    obtain ⟨p, hp, e⟩ := List.mem_map.1 h
    have := hf p hp
    rw [decide_eq_true_eq] at this
    exact absurd e this
  | some p =>
    have h1 := List.mem_of_find?_eq_some hf
    have h2 := List.find?_some hf
    rw [decide_eq_true_eq] at h2
    exact ⟨p.2, rfl, by rw [← h2]; exact h1⟩
theorem not_lookB {m : EntsB} {c : UInt8} (h : c ∉ m.map (·.1)) : lookB m c = none := by
  unfold lookB
  rw [List.find?_eq_none.2]
  · rfl
  · intro p hp
    rw [decide_eq_true_eq]
    exact fun e => h (by rw [← e]; exact List.mem_map_of_mem hp)
/-- What the entries are. -/
def TrsOk (B : Nat) (w : World) (m : EntsB) : Prop := ∀ p ∈ m, ∃ f, trOf p.1 = some f ∧ TurnerOk B w p.2 f
/-- The turners' map. -/
def TurnsAt (w0 w : World) (b : Nat) : Prop := Since (b + 1) w0 w ∧ w0.heap.size ≤ w.heap.size ∧ ∃ m, MapB w b m ∧ m.map (·.1) = trKeys ∧ TrsOk (b + 1) w0 m
theorem TurnsAt.below {w0 w w' : World} {b : Nat} (h : TurnsAt w0 w b) (hb : Below w.heap.size w w') : TurnsAt w0 w' b := by
  obtain ⟨hs, hz, m, h1, h2⟩ := h
  exact ⟨hs.trans (.of_below hb), Nat.le_trans hz hb.size, m, h1.below hb, h2⟩

/-- While the map is filled. -/
structure Tu (w W : World) (b0 : Nat) (m : EntsB) : Prop where
  map : MapB W b0 m
  below : Below w.heap.size w W
  eq : b0 = w.heap.size
  ok : TrsOk (b0 + 1) W m
theorem TrsOk.since {B : Nat} {w W : World} {m : EntsB} (h : TrsOk B w m) (hs : Since B w W) : TrsOk B W m := fun p hp => by
  obtain ⟨f, h1, h2⟩ := h p hp
  exact ⟨f, h1, h2.since hs (Nat.le_refl _)⟩
theorem ins_since {B b0 : Nat} {W W' : World} (h : But [b0] W W') (hB : b0 < B) : Since B W W' := .of_but h fun k hk => by rw [List.mem_singleton.1 hk]; exact hB
theorem Tu.call {w W W' : World} {b0 : Nat} {m : EntsB} (h : Tu w W b0 m) (hb : Below W.heap.size W W') : Tu w W' b0 m := ⟨h.map.below hb, h.below.trans (hb.mono h.below.size), h.eq, h.ok.since (.of_below hb)⟩
theorem Tu.ins {w W W' : World} {b0 : Nat} {m : EntsB} {k : UInt8} {v : Value} (h : Tu w W b0 m) (hm : MapB W' b0 (m ++ [(k, v)])) (hb : But [b0] W W') {f : List UInt8 → Option Turn} (hf : trOf k = some f) (hv : TurnerOk (b0 + 1) W v f) : Tu w W' b0 (m ++ [(k, v)]) :=
  ⟨hm, hb.under h.below h.below.size (fun k hk => by rw [List.mem_singleton.1 hk, h.eq]; exact Nat.le_refl _), h.eq, TrsOk.since (w := W) (fun p hp => by
    rcases List.mem_append.1 hp with h1 | h1
    · exact h.ok p h1
    · rw [List.mem_singleton.1 h1]
      exact ⟨f, hf, hv⟩) (ins_since hb (Nat.lt_succ_self _))⟩
theorem Tu.lt {w W : World} {b0 : Nat} {m : EntsB} (h : Tu w W b0 m) : b0 + 1 ≤ W.heap.size := h.map.lt

set_option maxHeartbeats 4000000 in
theorem turners_any (w : World) : Calls Tryz.prog 14 #[] w fun e w' => ∃ b, e = .returned (.map (some b)) ∧ Below w.heap.size w w' ∧ w.heap.size ≤ b ∧ TurnsAt w' w' b := by
  have hmk := run_makeMap (P := Tryz.prog) 47 w
  have T0 : Hid (Tu w (w.alloc (.map #[] 0)) w.heap.size []) := ⟨⟨#[], 0, heap_alloc_new w _, rfl⟩, (Below.refl _ _).alloc (Nat.le_refl _) _, rfl, fun p hp => by cases hp⟩
  obtain ⟨W0, hW0⟩ : ∃ W0, w.alloc (.map #[] 0) = W0 := ⟨_, rfl⟩
  obtain ⟨b0, hb0⟩ : ∃ b0, w.heap.size = b0 := ⟨_, rfl⟩
  rw [hW0, hb0] at hmk T0
  clear hW0 hb0
  go_enter Tryz.func14, Tryz.ntmps14
  go_wp2_with fail
  refine (numbered_any 31 32 .cut .last maker_first maker_last _).mono ?_
  rintro x W1 ⟨v1, rfl, hbc, htc⟩
  have A1 : Hid (TurnerOk (b0 + 1) W1 v1 (numF .cut .last)) := htc.since ⟨Nat.le_refl _, fun _ _ _ => rfl⟩ T0.out.lt
  have T1 := hidK (T0.out.call hbc)
  clear hbc htc T0 hmk
  go_wp2_with (refine wpList_insert_byte W1 rfl _ _ _ 47 rfl underTurns Tryz.underlying5 (b := b0) (k := 61) (v := v1) (m := []) (by simp [Act.eval]) (by simp [Act.eval]) (by simp [Act.eval]) T1.out.map rfl ?i1)
  case i1 =>
    intro X1 hmi hbu
    have S1 : Hid (Tu w X1 b0 [(61, v1)]) := Tu.ins (m := []) T1.out hmi.out hbu.out rfl A1.out
    clear hmi hbu T1 A1
    go_wp2_with fail
    refine (numbered_any 33 34 .behind .ahead maker_behind maker_ahead _).mono ?_
    rintro x W2 ⟨v2, rfl, hbc, htc⟩
    have A2 : Hid (TurnerOk (b0 + 1) W2 v2 (numF .behind .ahead)) := htc.since ⟨Nat.le_refl _, fun _ _ _ => rfl⟩ S1.out.lt
    have T2 := hidK (S1.out.call hbc)
    clear hbc htc S1
    go_wp2_with (refine wpList_insert_byte W2 rfl _ _ _ 47 rfl underTurns Tryz.underlying5 (b := b0) (k := 112) (v := v2) (m := [(61, v1)]) (by simp [Act.eval]) (by simp [Act.eval]) (by simp [Act.eval]) T2.out.map rfl ?i2)
    case i2 =>
      intro X2 hmi hbu
      have S2 : Hid (Tu w X2 b0 [(61, v1), (112, v2)]) := Tu.ins (m := [(61, v1)]) T2.out hmi.out hbu.out rfl A2.out
      clear hmi hbu T2 A2
      go_wp2_with fail
      refine (bare_any .base _ (turn_base (b0 + 1) _) S2.out.lt).mono ?_
      rintro x W3 ⟨v3, rfl, hbc, htc⟩
      have A3 : Hid (TurnerOk (b0 + 1) W3 v3 (bareF .base)) := htc
      have T3 := hidK (S2.out.call hbc)
      clear hbc htc S2
      go_wp2_with (refine wpList_insert_byte W3 rfl _ _ _ 47 rfl underTurns Tryz.underlying5 (b := b0) (k := 98) (v := v3) (m := [(61, v1), (112, v2)]) (by simp [Act.eval]) (by simp [Act.eval]) (by simp [Act.eval]) T3.out.map rfl ?i3)
      case i3 =>
        intro X3 hmi hbu
        have S3 : Hid (Tu w X3 b0 [(61, v1), (112, v2), (98, v3)]) := Tu.ins (m := [(61, v1), (112, v2)]) T3.out hmi.out hbu.out rfl A3.out
        clear hmi hbu T3 A3
        go_wp2_with fail
        refine (bare_any .folder _ (turn_folder (b0 + 1) _) S3.out.lt).mono ?_
        rintro x W4 ⟨v4, rfl, hbc, htc⟩
        have A4 : Hid (TurnerOk (b0 + 1) W4 v4 (bareF .folder)) := htc
        have T4 := hidK (S3.out.call hbc)
        clear hbc htc S3
        go_wp2_with (refine wpList_insert_byte W4 rfl _ _ _ 47 rfl underTurns Tryz.underlying5 (b := b0) (k := 100) (v := v4) (m := [(61, v1), (112, v2), (98, v3)]) (by simp [Act.eval]) (by simp [Act.eval]) (by simp [Act.eval]) T4.out.map rfl ?i4)
        case i4 =>
          intro X4 hmi hbu
          have S4 : Hid (Tu w X4 b0 [(61, v1), (112, v2), (98, v3), (100, v4)]) := Tu.ins (m := [(61, v1), (112, v2), (98, v3)]) T4.out hmi.out hbu.out rfl A4.out
          clear hmi hbu T4 A4
          go_wp2_with fail
          refine (bare_any .count _ (turn_count (b0 + 1) _) S4.out.lt).mono ?_
          rintro x W5 ⟨v5, rfl, hbc, htc⟩
          have A5 : Hid (TurnerOk (b0 + 1) W5 v5 (bareF .count)) := htc
          have T5 := hidK (S4.out.call hbc)
          clear hbc htc S4
          go_wp2_with (refine wpList_insert_byte W5 rfl _ _ _ 47 rfl underTurns Tryz.underlying5 (b := b0) (k := 110) (v := v5) (m := [(61, v1), (112, v2), (98, v3), (100, v4)]) (by simp [Act.eval]) (by simp [Act.eval]) (by simp [Act.eval]) T5.out.map rfl ?i5)
          case i5 =>
            intro X5 hmi hbu
            have S5 : Hid (Tu w X5 b0 [(61, v1), (112, v2), (98, v3), (100, v4), (110, v5)]) := Tu.ins (m := [(61, v1), (112, v2), (98, v3), (100, v4)]) T5.out hmi.out hbu.out rfl A5.out
            clear hmi hbu T5 A5
            go_wp2_with fail
            refine (letters_any smallB .great (fun _ => rfl) 41 (enters_of Tryz.func41 (by kernel_rfl) rfl) (fun c W => isSmall_any c W) _).mono ?_
            rintro x U6 ⟨u6, rfl, hbc, htc⟩
            have Q6 := hidK (S5.out.call hbc)
            have L6 : Hid (TurnOk (b0 + 1) U6 u6 .great) := htc.since ⟨Nat.le_refl _, fun _ _ _ => rfl⟩ S5.out.lt
            have G6 : Hid (∃ g lb, u6 = .func (.func g) #[] lb) := by obtain ⟨g, lb, h, _⟩ := htc; exact ⟨g, lb, h⟩
            obtain ⟨g6, lb6, rfl⟩ := G6.out
            clear hbc htc S5 G6
            go_wp2_with fail
            refine (bare_any .great _ L6.out Q6.out.lt).mono ?_
            rintro x W6 ⟨v6, rfl, hbc, htc⟩
            have A6 : Hid (TurnerOk (b0 + 1) W6 v6 (bareF .great)) := htc
            have T6 := hidK (Q6.out.call hbc)
            clear hbc htc Q6
            go_wp2_with (refine wpList_insert_byte W6 rfl _ _ _ 47 rfl underTurns Tryz.underlying5 (b := b0) (k := 117) (v := v6) (m := [(61, v1), (112, v2), (98, v3), (100, v4), (110, v5)]) (by simp [Act.eval]) (by simp [Act.eval]) (by simp [Act.eval]) T6.out.map rfl ?i6)
            case i6 =>
              intro X6 hmi hbu
              have S6 : Hid (Tu w X6 b0 [(61, v1), (112, v2), (98, v3), (100, v4), (110, v5), (117, v6)]) := Tu.ins (m := [(61, v1), (112, v2), (98, v3), (100, v4), (110, v5)]) T6.out hmi.out hbu.out rfl A6.out
              clear hmi hbu T6 A6
              go_wp2_with fail
              refine (letters_any greatB .small (fun _ => rfl) 42 (enters_of Tryz.func42 (by kernel_rfl) rfl) (fun c W => isGreat_any c W) _).mono ?_
              rintro x U7 ⟨u7, rfl, hbc, htc⟩
              have Q7 := hidK (S6.out.call hbc)
              have L7 : Hid (TurnOk (b0 + 1) U7 u7 .small) := htc.since ⟨Nat.le_refl _, fun _ _ _ => rfl⟩ S6.out.lt
              have G7 : Hid (∃ g lb, u7 = .func (.func g) #[] lb) := by obtain ⟨g, lb, h, _⟩ := htc; exact ⟨g, lb, h⟩
              obtain ⟨g7, lb7, rfl⟩ := G7.out
              clear hbc htc S6 G7
              go_wp2_with fail
              refine (bare_any .small _ L7.out Q7.out.lt).mono ?_
              rintro x W7 ⟨v7, rfl, hbc, htc⟩
              have A7 : Hid (TurnerOk (b0 + 1) W7 v7 (bareF .small)) := htc
              have T7 := hidK (Q7.out.call hbc)
              clear hbc htc Q7
              go_wp2_with (refine wpList_insert_byte W7 rfl _ _ _ 47 rfl underTurns Tryz.underlying5 (b := b0) (k := 119) (v := v7) (m := [(61, v1), (112, v2), (98, v3), (100, v4), (110, v5), (117, v6)]) (by simp [Act.eval]) (by simp [Act.eval]) (by simp [Act.eval]) T7.out.map rfl ?i7)
              case i7 =>
                intro X7 hmi hbu
                have S7 : Hid (Tu w X7 b0 [(61, v1), (112, v2), (98, v3), (100, v4), (110, v5), (117, v6), (119, v7)]) := Tu.ins (m := [(61, v1), (112, v2), (98, v3), (100, v4), (110, v5), (117, v6)]) T7.out hmi.out hbu.out rfl A7.out
                clear hmi hbu T7 A7
                go_wp2_with (refine wpList_insert_byte X7 rfl _ _ _ 47 rfl underTurns Tryz.underlying5 (b := b0) (k := 115) (v := .func (.func 43) #[] #[]) (m := [(61, v1), (112, v2), (98, v3), (100, v4), (110, v5), (117, v6), (119, v7)]) (by simp [Act.eval]) (by simp [Act.eval]) (by simp [Act.eval]) S7.out.map rfl ?i8)
                case i8 =>
                  intro X8 hmi hbu
                  have S8 : Hid (Tu w X8 b0 [(61, v1), (112, v2), (98, v3), (100, v4), (110, v5), (117, v6), (119, v7), (115, .func (.func 43) #[] #[])]) := Tu.ins (m := [(61, v1), (112, v2), (98, v3), (100, v4), (110, v5), (117, v6), (119, v7)]) S7.out hmi.out hbu.out rfl (exchange_turner (b0 + 1) _)
                  clear hmi hbu S7
                  go_wp2_with fail
                  all_goals go_ret
                  all_goals exact ⟨b0, rfl, S8.out.below, by rw [S8.out.eq]; exact Nat.le_refl _, ⟨Nat.le_refl _, fun _ _ _ => rfl⟩, Nat.le_refl _, _, S8.out.map, rfl, S8.out.ok⟩

end Go.Proofs.YtlfcjcaofhcfnaaGreatDoor

namespace Go.Proofs.YtlfcjcaofhcfnaaGreatDoor
open Go.RowKit
set_option linter.unusedVariables false
set_option maxRecDepth 20000

theorem wpList_insert_text {ops : Array Oper} {rest : List Oper} {o : Oper} {a : Act} {Q : Exit → Act → World → Prop} (w : World) (hgd : o.guard = none) (mo ko xo : Operand) (t : TypeId) (ho : o.op = .insert t mo ko xo)
    {kt et : TypeId} (ht : Tryz.prog.underlying t = some (.map kt et)) (hk : Tryz.prog.underlying kt = some .string) {b : Nat} {k : List UInt8} {v : Value} {m : Ents} (e1 : a.eval mo = .map (some b)) (e2 : a.eval ko = .string (str k)) (e3 : a.eval xo = v) (hm : MapAt w b m) (hv : lookT m k = none)
    (h : ∀ w', Hid (MapAt w' b (m ++ [(k, v)])) → Hid (But [b] w w') → wpList Tryz.prog ops Q rest (a.put o.dst undef) w') : wpList Tryz.prog ops Q (o :: rest) a w := by
  obtain ⟨w', hrun, h2, h3⟩ := lay_new (v := v) hm ht hk hv
  refine wpList_plain hgd fun K hK => ?_
  unfold Oper.wp execOp
  simp only [ho, e1, e2, e3, Sem.run_bind, Sem.run_pure, Result.andThen_ok, hrun]
  exact hK _ _ (h w' h2 h3)
theorem underHeads : Tryz.prog.underlying 49 = some (.map 9 92) := by kernel_rfl
/-- A closure of two boxes, which lie from block B on: the expander's pointer, and a function. -/
def Boxed (w : World) (xb B f g : Nat) (lb : Array Value) (v : Value) : Prop := ∃ xc oc, v = .func (.func f) #[] #[.pointer (some ⟨xc, 0, none⟩), .pointer (some ⟨oc, 0, none⟩)] ∧ w.cell? ⟨xc, 0, none⟩ = some (.pointer (some ⟨xb, 0, none⟩)) ∧ w.cell? ⟨oc, 0, none⟩ = some (.func (.func g) #[] lb) ∧ B ≤ xc ∧ B ≤ oc
theorem cell_since {B : Nat} {w W : World} {b : Nat} {v : Value} (hs : Since B w W) (hb : B ≤ b) (h : w.cell? ⟨b, 0, none⟩ = some v) : W.cell? ⟨b, 0, none⟩ = some v := by
  have hl := World.block_lt_of_cell? w _ h
  unfold World.cell? at h ⊢
  rw [hs.block b hb hl]
  exact h
theorem Boxed.since {w W : World} {xb B B' f g : Nat} {lb : Array Value} {v : Value} (h : Boxed w xb B f g lb v) (hs : Since B' w W) (hB : B' ≤ B) : Boxed W xb B' f g lb v := by
  obtain ⟨xc, oc, h1, h2, h3, h4, h5⟩ := h
  exact ⟨xc, oc, h1, cell_since hs (by omega) h2, cell_since hs (by omega) h3, by omega, by omega⟩
/-- A comparison of numbers, as a head. -/
def Cmps (w : World) (xb B g : Nat) (v : Value) : Prop := ∃ ic, Boxed w xb B 102 107 #[.pointer (some ⟨ic, 0, none⟩)] v ∧ w.cell? ⟨ic, 0, none⟩ = some (.func (.func g) #[] #[]) ∧ B ≤ ic
def Texs (w : World) (xb B g : Nat) (v : Value) : Prop := Boxed w xb B 96 g #[] v
def Trus (w : World) (xb B g : Nat) (v : Value) : Prop := Boxed w xb B 99 g #[] v
def Nums (w : World) (xb B g : Nat) (v : Value) : Prop := Boxed w xb B 102 g #[] v
/-- What a head is in memory. -/
def HdAt (w : World) (xb B : Nat) (h : Hd) (v : Value) : Prop := match h with
  | .eq => Texs w xb B 45 v
  | .ne => Texs w xb B 46 v
  | .lt => Texs w xb B 47 v
  | .gt => Texs w xb B 48 v
  | .le => Texs w xb B 49 v
  | .ge => Texs w xb B 50 v
  | .mt => Texs w xb B 13 v
  | .or => Trus w xb B 52 v
  | .an => Trus w xb B 53 v
  | .sm => Nums w xb B 55 v
  | .df => Nums w xb B 56 v
  | .pr => Nums w xb B 57 v
  | .qt => Nums w xb B 58 v
  | .rm => Nums w xb B 59 v
  | .eqn => Cmps w xb B 61 v
  | .ltn => Cmps w xb B 62 v
  | .gtn => Cmps w xb B 63 v
  | .neg => v = .func (.func 64) #[.pointer (some ⟨xb, 0, none⟩)] #[]
  | .lit => v = .func (.func 65) #[] #[]
theorem Cmps.since {w W : World} {xb B B' g : Nat} {v : Value} (h : Cmps w xb B g v) (hs : Since B' w W) (hB : B' ≤ B) : Cmps W xb B' g v := by
  obtain ⟨ic, h1, h2, h3⟩ := h
  exact ⟨ic, h1.since hs hB, cell_since hs (by omega) h2, by omega⟩
theorem HdAt.since {w W : World} {xb B : Nat} {h : Hd} {v : Value} (hh : HdAt w xb B h v) (hs : Since B w W) : HdAt W xb B h v := by
  cases h <;> first | exact Boxed.since hh hs (Nat.le_refl _) | exact Cmps.since hh hs (Nat.le_refl _) | exact hh
/-- What the entries are. -/
def HdsOk (w : World) (xb B : Nat) (m : Ents) : Prop := ∀ p ∈ m, ∃ h, hdOf p.1 = some h ∧ HdAt w xb B h p.2
theorem HdsOk.since {w W : World} {xb B : Nat} {m : Ents} (h : HdsOk w xb B m) (hs : Since B w W) : HdsOk W xb B m := fun p hp => by
  obtain ⟨k, h1, h2⟩ := h p hp
  exact ⟨k, h1, h2.since hs⟩
theorem mem_lookT {m : Ents} {k : List UInt8} (h : k ∈ m.map (·.1)) : ∃ v, lookT m k = some v ∧ (k, v) ∈ m := by
  unfold lookT
  cases hf : m.find? (fun p => decide (p.1 = k)) with
  | none =>
    rw [List.find?_eq_none] at hf
    obtain ⟨p, hp, e⟩ := List.mem_map.1 h
    have := hf p hp
    rw [decide_eq_true_eq] at this
    exact absurd e this
  | some p =>
    have h1 := List.mem_of_find?_eq_some hf
    have h2 := List.find?_some hf
    rw [decide_eq_true_eq] at h2
    exact ⟨p.2, rfl, by rw [← h2]; exact h1⟩
structure Hu (w W : World) (xb b0 : Nat) (m : Ents) : Prop where
  map : MapAt W b0 m
  below : Below w.heap.size w W
  eq : b0 = w.heap.size
  ok : HdsOk W xb (b0 + 1) m
theorem Hu.call {w W W' : World} {xb b0 : Nat} {m : Ents} (h : Hu w W xb b0 m) (hb : Below W.heap.size W W') : Hu w W' xb b0 m := ⟨h.map.below hb, h.below.trans (hb.mono h.below.size), h.eq, h.ok.since (.of_below hb)⟩
theorem Hu.ins {w W W' : World} {xb b0 : Nat} {m : Ents} {k : List UInt8} {v : Value} (h : Hu w W xb b0 m) (hm : MapAt W' b0 (m ++ [(k, v)])) (hb : But [b0] W W') {hd : Hd} (hf : hdOf k = some hd) (hv : HdAt W xb (b0 + 1) hd v) : Hu w W' xb b0 (m ++ [(k, v)]) :=
  ⟨hm, hb.under h.below h.below.size (fun k hk => by rw [List.mem_singleton.1 hk, h.eq]; exact Nat.le_refl _), h.eq, HdsOk.since (w := W) (fun p hp => by
    rcases List.mem_append.1 hp with h1 | h1
    · exact h.ok p h1
    · rw [List.mem_singleton.1 h1]
      exact ⟨hd, hf, hv⟩) (ins_since hb (Nat.lt_succ_self _))⟩
theorem Hu.lt {w W : World} {xb b0 : Nat} {m : Ents} (h : Hu w W xb b0 m) : b0 + 1 ≤ W.heap.size := h.map.lt
theorem Boxed.here {w : World} {xb B B' f g : Nat} {lb : Array Value} {v : Value} (h : Boxed w xb B f g lb v) (hB : B' ≤ B) : Boxed w xb B' f g lb v := h.since ⟨Nat.le_refl _, fun _ _ _ => rfl⟩ hB
theorem ofTexts_makes (xb g : Nat) (lb : Array Value) (w : World) : Calls Tryz.prog 44 #[.pointer (some ⟨xb, 0, none⟩), .func (.func g) #[] lb] w fun e w' => ∃ v, e = .returned v ∧ Below w.heap.size w w' ∧ Boxed w' xb w.heap.size 96 g lb v := by
  go_enter Tryz.func44, Tryz.ntmps44
  go_wp2
  all_goals go_ret
  all_goals exact ⟨_, rfl, ((Below.refl _ _).alloc (Nat.le_refl _) _).alloc (by simp) _, _, _, rfl, cell_atT (heap_two w _ _).1 0, cell_atT (heap_two w _ _).2.1 0, Nat.le_refl _, Nat.le_succ _⟩
theorem ofTruths_makes (xb g : Nat) (lb : Array Value) (w : World) : Calls Tryz.prog 51 #[.pointer (some ⟨xb, 0, none⟩), .func (.func g) #[] lb] w fun e w' => ∃ v, e = .returned v ∧ Below w.heap.size w w' ∧ Boxed w' xb w.heap.size 99 g lb v := by
  go_enter Tryz.func51, Tryz.ntmps51
  go_wp2
  all_goals go_ret
  all_goals exact ⟨_, rfl, ((Below.refl _ _).alloc (Nat.le_refl _) _).alloc (by simp) _, _, _, rfl, cell_atT (heap_two w _ _).1 0, cell_atT (heap_two w _ _).2.1 0, Nat.le_refl _, Nat.le_succ _⟩
theorem ofNumbers_makes (xb g : Nat) (lb : Array Value) (w : World) : Calls Tryz.prog 54 #[.pointer (some ⟨xb, 0, none⟩), .func (.func g) #[] lb] w fun e w' => ∃ v, e = .returned v ∧ Below w.heap.size w w' ∧ Boxed w' xb w.heap.size 102 g lb v := by
  go_enter Tryz.func54, Tryz.ntmps54
  go_wp2
  all_goals go_ret
  all_goals exact ⟨_, rfl, ((Below.refl _ _).alloc (Nat.le_refl _) _).alloc (by simp) _, _, _, rfl, cell_atT (heap_two w _ _).1 0, cell_atT (heap_two w _ _).2.1 0, Nat.le_refl _, Nat.le_succ _⟩
theorem whether_makes (g : Nat) (w : World) : Calls Tryz.prog 60 #[.func (.func g) #[] #[]] w fun e w' => e = .returned (.func (.func 107) #[] #[.pointer (some ⟨w.heap.size, 0, none⟩)]) ∧ Below w.heap.size w w' ∧ w'.cell? ⟨w.heap.size, 0, none⟩ = some (.func (.func g) #[] #[]) := by
  go_enter Tryz.func60, Tryz.ntmps60
  go_wp2
  all_goals go_ret
  all_goals exact ⟨rfl, (Below.refl _ _).alloc (Nat.le_refl _) _, cell_atT (heap_alloc_new w _) 0⟩
theorem heads_keys (v0 v1 v2 v3 v4 v5 v6 v7 v8 v9 v10 v11 v12 v13 v14 v15 v16 v17 v18 : Value) : ([([61, 61], v0), ([33, 61], v1), ([60], v2), ([62], v3), ([60, 61], v4), ([62, 61], v5), ([109], v6), ([124, 124], v7), ([38, 38], v8), ([101, 124, 43, 124], v9), ([101, 124, 45, 124], v10), ([101, 124, 42, 124], v11), ([101, 124, 47, 124], v12), ([101, 124, 109, 124], v13), ([101, 124, 61, 61, 124], v14), ([101, 124, 60, 124], v15), ([101, 124, 62, 124], v16), ([33], v17), ([108], v18)] : Ents).map (·.1) = headNames := rfl
theorem look_keys {m : Ents} (h : m.map (·.1) = headNames) (k : List UInt8) (hk : k ∉ headNames) : lookT m k = none := by
  unfold lookT
  rw [List.find?_eq_none.2]
  · rfl
  · intro p hp
    simp only [decide_eq_true_eq]
    exact fun e => hk (by rw [← h, ← e]; exact List.mem_map_of_mem hp)
/-- The heads' map. -/
def HeadsAt (w : World) (xb b : Nat) : Prop := ∃ m, MapAt w b m ∧ m.map (·.1) = headNames ∧ HdsOk w xb (b + 1) m
theorem HeadsAt.below {w w' : World} {xb b : Nat} (h : HeadsAt w xb b) (hb : Below w.heap.size w w') : HeadsAt w' xb b := by
  obtain ⟨m, h1, h2, h3⟩ := h
  exact ⟨m, h1.below hb, h2, h3.since (.of_below hb)⟩

set_option maxHeartbeats 8000000 in
theorem heads_any (xb : Nat) (w : World) : Calls Tryz.prog 15 #[.pointer (some ⟨xb, 0, none⟩)] w fun e w' => ∃ b, e = .returned (.map (some b)) ∧ Below w.heap.size w w' ∧ w.heap.size ≤ b ∧ HeadsAt w' xb b := by
  have hmk := run_makeMap (P := Tryz.prog) 49 w
  have S0 : Hid (Hu w (w.alloc (.map #[] 0)) xb w.heap.size []) := ⟨⟨#[], 0, heap_alloc_new w _, rfl⟩, (Below.refl _ _).alloc (Nat.le_refl _) _, rfl, fun p hp => by cases hp⟩
  obtain ⟨W0, hW0⟩ : ∃ W0, w.alloc (.map #[] 0) = W0 := ⟨_, rfl⟩
  obtain ⟨b0, hb0⟩ : ∃ b0, w.heap.size = b0 := ⟨_, rfl⟩
  rw [hW0, hb0] at hmk S0
  clear hW0 hb0
  go_enter Tryz.func15, Tryz.ntmps15
  go_wp2_with fail
  refine (ofTexts_makes xb 45 #[] _).mono ?_
  rintro x W0a ⟨v0, rfl, hbc, hvc⟩
  have V0 : Hid (HdAt W0a xb (b0 + 1) .eq v0) := hvc.here S0.out.lt
  have T0 := hidK (S0.out.call hbc)
  clear hbc S0 hvc
  go_wp2_with (refine wpList_insert_text W0a rfl _ _ _ 49 rfl underHeads Tryz.underlying9 (b := b0) (k := [61, 61]) (v := v0) (m := []) (by simp [Act.eval]) (by first | rfl | simp [Act.eval, str]) (by simp [Act.eval]) T0.out.map rfl ?i0)
  case i0 =>
    intro X0 hm0 hbu0
    have S1 : Hid (Hu w X0 xb b0 [([61, 61], v0)]) := Hu.ins (m := []) (hd := .eq) T0.out hm0.out hbu0.out rfl V0.out
    clear hm0 hbu0 T0 V0
    go_wp2_with fail
    refine (ofTexts_makes xb 46 #[] _).mono ?_
    rintro x W1a ⟨v1, rfl, hbc, hvc⟩
    have V1 : Hid (HdAt W1a xb (b0 + 1) .ne v1) := hvc.here S1.out.lt
    have T1 := hidK (S1.out.call hbc)
    clear hbc S1 hvc
    go_wp2_with (refine wpList_insert_text W1a rfl _ _ _ 49 rfl underHeads Tryz.underlying9 (b := b0) (k := [33, 61]) (v := v1) (m := [([61, 61], v0)]) (by simp [Act.eval]) (by first | rfl | simp [Act.eval, str]) (by simp [Act.eval]) T1.out.map rfl ?i1)
    case i1 =>
      intro X1 hm1 hbu1
      have S2 : Hid (Hu w X1 xb b0 [([61, 61], v0), ([33, 61], v1)]) := Hu.ins (m := [([61, 61], v0)]) (hd := .ne) T1.out hm1.out hbu1.out rfl V1.out
      clear hm1 hbu1 T1 V1
      go_wp2_with fail
      refine (ofTexts_makes xb 47 #[] _).mono ?_
      rintro x W2a ⟨v2, rfl, hbc, hvc⟩
      have V2 : Hid (HdAt W2a xb (b0 + 1) .lt v2) := hvc.here S2.out.lt
      have T2 := hidK (S2.out.call hbc)
      clear hbc S2 hvc
      go_wp2_with (refine wpList_insert_text W2a rfl _ _ _ 49 rfl underHeads Tryz.underlying9 (b := b0) (k := [60]) (v := v2) (m := [([61, 61], v0), ([33, 61], v1)]) (by simp [Act.eval]) (by first | rfl | simp [Act.eval, str]) (by simp [Act.eval]) T2.out.map rfl ?i2)
      case i2 =>
        intro X2 hm2 hbu2
        have S3 : Hid (Hu w X2 xb b0 [([61, 61], v0), ([33, 61], v1), ([60], v2)]) := Hu.ins (m := [([61, 61], v0), ([33, 61], v1)]) (hd := .lt) T2.out hm2.out hbu2.out rfl V2.out
        clear hm2 hbu2 T2 V2
        go_wp2_with fail
        refine (ofTexts_makes xb 48 #[] _).mono ?_
        rintro x W3a ⟨v3, rfl, hbc, hvc⟩
        have V3 : Hid (HdAt W3a xb (b0 + 1) .gt v3) := hvc.here S3.out.lt
        have T3 := hidK (S3.out.call hbc)
        clear hbc S3 hvc
        go_wp2_with (refine wpList_insert_text W3a rfl _ _ _ 49 rfl underHeads Tryz.underlying9 (b := b0) (k := [62]) (v := v3) (m := [([61, 61], v0), ([33, 61], v1), ([60], v2)]) (by simp [Act.eval]) (by first | rfl | simp [Act.eval, str]) (by simp [Act.eval]) T3.out.map rfl ?i3)
        case i3 =>
          intro X3 hm3 hbu3
          have S4 : Hid (Hu w X3 xb b0 [([61, 61], v0), ([33, 61], v1), ([60], v2), ([62], v3)]) := Hu.ins (m := [([61, 61], v0), ([33, 61], v1), ([60], v2)]) (hd := .gt) T3.out hm3.out hbu3.out rfl V3.out
          clear hm3 hbu3 T3 V3
          go_wp2_with fail
          refine (ofTexts_makes xb 49 #[] _).mono ?_
          rintro x W4a ⟨v4, rfl, hbc, hvc⟩
          have V4 : Hid (HdAt W4a xb (b0 + 1) .le v4) := hvc.here S4.out.lt
          have T4 := hidK (S4.out.call hbc)
          clear hbc S4 hvc
          go_wp2_with (refine wpList_insert_text W4a rfl _ _ _ 49 rfl underHeads Tryz.underlying9 (b := b0) (k := [60, 61]) (v := v4) (m := [([61, 61], v0), ([33, 61], v1), ([60], v2), ([62], v3)]) (by simp [Act.eval]) (by first | rfl | simp [Act.eval, str]) (by simp [Act.eval]) T4.out.map rfl ?i4)
          case i4 =>
            intro X4 hm4 hbu4
            have S5 : Hid (Hu w X4 xb b0 [([61, 61], v0), ([33, 61], v1), ([60], v2), ([62], v3), ([60, 61], v4)]) := Hu.ins (m := [([61, 61], v0), ([33, 61], v1), ([60], v2), ([62], v3)]) (hd := .le) T4.out hm4.out hbu4.out rfl V4.out
            clear hm4 hbu4 T4 V4
            go_wp2_with fail
            refine (ofTexts_makes xb 50 #[] _).mono ?_
            rintro x W5a ⟨v5, rfl, hbc, hvc⟩
            have V5 : Hid (HdAt W5a xb (b0 + 1) .ge v5) := hvc.here S5.out.lt
            have T5 := hidK (S5.out.call hbc)
            clear hbc S5 hvc
            go_wp2_with (refine wpList_insert_text W5a rfl _ _ _ 49 rfl underHeads Tryz.underlying9 (b := b0) (k := [62, 61]) (v := v5) (m := [([61, 61], v0), ([33, 61], v1), ([60], v2), ([62], v3), ([60, 61], v4)]) (by simp [Act.eval]) (by first | rfl | simp [Act.eval, str]) (by simp [Act.eval]) T5.out.map rfl ?i5)
            case i5 =>
              intro X5 hm5 hbu5
              have S6 : Hid (Hu w X5 xb b0 [([61, 61], v0), ([33, 61], v1), ([60], v2), ([62], v3), ([60, 61], v4), ([62, 61], v5)]) := Hu.ins (m := [([61, 61], v0), ([33, 61], v1), ([60], v2), ([62], v3), ([60, 61], v4)]) (hd := .ge) T5.out hm5.out hbu5.out rfl V5.out
              clear hm5 hbu5 T5 V5
              go_wp2_with fail
              refine (ofTexts_makes xb 13 #[] _).mono ?_
              rintro x W6a ⟨v6, rfl, hbc, hvc⟩
              have V6 : Hid (HdAt W6a xb (b0 + 1) .mt v6) := hvc.here S6.out.lt
              have T6 := hidK (S6.out.call hbc)
              clear hbc S6 hvc
              go_wp2_with (refine wpList_insert_text W6a rfl _ _ _ 49 rfl underHeads Tryz.underlying9 (b := b0) (k := [109]) (v := v6) (m := [([61, 61], v0), ([33, 61], v1), ([60], v2), ([62], v3), ([60, 61], v4), ([62, 61], v5)]) (by simp [Act.eval]) (by first | rfl | simp [Act.eval, str]) (by simp [Act.eval]) T6.out.map rfl ?i6)
              case i6 =>
                intro X6 hm6 hbu6
                have S7 : Hid (Hu w X6 xb b0 [([61, 61], v0), ([33, 61], v1), ([60], v2), ([62], v3), ([60, 61], v4), ([62, 61], v5), ([109], v6)]) := Hu.ins (m := [([61, 61], v0), ([33, 61], v1), ([60], v2), ([62], v3), ([60, 61], v4), ([62, 61], v5)]) (hd := .mt) T6.out hm6.out hbu6.out rfl V6.out
                clear hm6 hbu6 T6 V6
                go_wp2_with fail
                refine (ofTruths_makes xb 52 #[] _).mono ?_
                rintro x W7a ⟨v7, rfl, hbc, hvc⟩
                have V7 : Hid (HdAt W7a xb (b0 + 1) .or v7) := hvc.here S7.out.lt
                have T7 := hidK (S7.out.call hbc)
                clear hbc S7 hvc
                go_wp2_with (refine wpList_insert_text W7a rfl _ _ _ 49 rfl underHeads Tryz.underlying9 (b := b0) (k := [124, 124]) (v := v7) (m := [([61, 61], v0), ([33, 61], v1), ([60], v2), ([62], v3), ([60, 61], v4), ([62, 61], v5), ([109], v6)]) (by simp [Act.eval]) (by first | rfl | simp [Act.eval, str]) (by simp [Act.eval]) T7.out.map rfl ?i7)
                case i7 =>
                  intro X7 hm7 hbu7
                  have S8 : Hid (Hu w X7 xb b0 [([61, 61], v0), ([33, 61], v1), ([60], v2), ([62], v3), ([60, 61], v4), ([62, 61], v5), ([109], v6), ([124, 124], v7)]) := Hu.ins (m := [([61, 61], v0), ([33, 61], v1), ([60], v2), ([62], v3), ([60, 61], v4), ([62, 61], v5), ([109], v6)]) (hd := .or) T7.out hm7.out hbu7.out rfl V7.out
                  clear hm7 hbu7 T7 V7
                  go_wp2_with fail
                  refine (ofTruths_makes xb 53 #[] _).mono ?_
                  rintro x W8a ⟨v8, rfl, hbc, hvc⟩
                  have V8 : Hid (HdAt W8a xb (b0 + 1) .an v8) := hvc.here S8.out.lt
                  have T8 := hidK (S8.out.call hbc)
                  clear hbc S8 hvc
                  go_wp2_with (refine wpList_insert_text W8a rfl _ _ _ 49 rfl underHeads Tryz.underlying9 (b := b0) (k := [38, 38]) (v := v8) (m := [([61, 61], v0), ([33, 61], v1), ([60], v2), ([62], v3), ([60, 61], v4), ([62, 61], v5), ([109], v6), ([124, 124], v7)]) (by simp [Act.eval]) (by first | rfl | simp [Act.eval, str]) (by simp [Act.eval]) T8.out.map rfl ?i8)
                  case i8 =>
                    intro X8 hm8 hbu8
                    have S9 : Hid (Hu w X8 xb b0 [([61, 61], v0), ([33, 61], v1), ([60], v2), ([62], v3), ([60, 61], v4), ([62, 61], v5), ([109], v6), ([124, 124], v7), ([38, 38], v8)]) := Hu.ins (m := [([61, 61], v0), ([33, 61], v1), ([60], v2), ([62], v3), ([60, 61], v4), ([62, 61], v5), ([109], v6), ([124, 124], v7)]) (hd := .an) T8.out hm8.out hbu8.out rfl V8.out
                    clear hm8 hbu8 T8 V8
                    go_wp2_with fail
                    refine (ofNumbers_makes xb 55 #[] _).mono ?_
                    rintro x W9a ⟨v9, rfl, hbc, hvc⟩
                    have V9 : Hid (HdAt W9a xb (b0 + 1) .sm v9) := hvc.here S9.out.lt
                    have T9 := hidK (S9.out.call hbc)
                    clear hbc S9 hvc
                    go_wp2_with (refine wpList_insert_text W9a rfl _ _ _ 49 rfl underHeads Tryz.underlying9 (b := b0) (k := [101, 124, 43, 124]) (v := v9) (m := [([61, 61], v0), ([33, 61], v1), ([60], v2), ([62], v3), ([60, 61], v4), ([62, 61], v5), ([109], v6), ([124, 124], v7), ([38, 38], v8)]) (by simp [Act.eval]) (by first | rfl | simp [Act.eval, str]) (by simp [Act.eval]) T9.out.map rfl ?i9)
                    case i9 =>
                      intro X9 hm9 hbu9
                      have S10 : Hid (Hu w X9 xb b0 [([61, 61], v0), ([33, 61], v1), ([60], v2), ([62], v3), ([60, 61], v4), ([62, 61], v5), ([109], v6), ([124, 124], v7), ([38, 38], v8), ([101, 124, 43, 124], v9)]) := Hu.ins (m := [([61, 61], v0), ([33, 61], v1), ([60], v2), ([62], v3), ([60, 61], v4), ([62, 61], v5), ([109], v6), ([124, 124], v7), ([38, 38], v8)]) (hd := .sm) T9.out hm9.out hbu9.out rfl V9.out
                      clear hm9 hbu9 T9 V9
                      go_wp2_with fail
                      refine (ofNumbers_makes xb 56 #[] _).mono ?_
                      rintro x W10a ⟨v10, rfl, hbc, hvc⟩
                      have V10 : Hid (HdAt W10a xb (b0 + 1) .df v10) := hvc.here S10.out.lt
                      have T10 := hidK (S10.out.call hbc)
                      clear hbc S10 hvc
                      go_wp2_with (refine wpList_insert_text W10a rfl _ _ _ 49 rfl underHeads Tryz.underlying9 (b := b0) (k := [101, 124, 45, 124]) (v := v10) (m := [([61, 61], v0), ([33, 61], v1), ([60], v2), ([62], v3), ([60, 61], v4), ([62, 61], v5), ([109], v6), ([124, 124], v7), ([38, 38], v8), ([101, 124, 43, 124], v9)]) (by simp [Act.eval]) (by first | rfl | simp [Act.eval, str]) (by simp [Act.eval]) T10.out.map rfl ?i10)
                      case i10 =>
                        intro X10 hm10 hbu10
                        have S11 : Hid (Hu w X10 xb b0 [([61, 61], v0), ([33, 61], v1), ([60], v2), ([62], v3), ([60, 61], v4), ([62, 61], v5), ([109], v6), ([124, 124], v7), ([38, 38], v8), ([101, 124, 43, 124], v9), ([101, 124, 45, 124], v10)]) := Hu.ins (m := [([61, 61], v0), ([33, 61], v1), ([60], v2), ([62], v3), ([60, 61], v4), ([62, 61], v5), ([109], v6), ([124, 124], v7), ([38, 38], v8), ([101, 124, 43, 124], v9)]) (hd := .df) T10.out hm10.out hbu10.out rfl V10.out
                        clear hm10 hbu10 T10 V10
                        go_wp2_with fail
                        refine (ofNumbers_makes xb 57 #[] _).mono ?_
                        rintro x W11a ⟨v11, rfl, hbc, hvc⟩
                        have V11 : Hid (HdAt W11a xb (b0 + 1) .pr v11) := hvc.here S11.out.lt
                        have T11 := hidK (S11.out.call hbc)
                        clear hbc S11 hvc
                        go_wp2_with (refine wpList_insert_text W11a rfl _ _ _ 49 rfl underHeads Tryz.underlying9 (b := b0) (k := [101, 124, 42, 124]) (v := v11) (m := [([61, 61], v0), ([33, 61], v1), ([60], v2), ([62], v3), ([60, 61], v4), ([62, 61], v5), ([109], v6), ([124, 124], v7), ([38, 38], v8), ([101, 124, 43, 124], v9), ([101, 124, 45, 124], v10)]) (by simp [Act.eval]) (by first | rfl | simp [Act.eval, str]) (by simp [Act.eval]) T11.out.map rfl ?i11)
                        case i11 =>
                          intro X11 hm11 hbu11
                          have S12 : Hid (Hu w X11 xb b0 [([61, 61], v0), ([33, 61], v1), ([60], v2), ([62], v3), ([60, 61], v4), ([62, 61], v5), ([109], v6), ([124, 124], v7), ([38, 38], v8), ([101, 124, 43, 124], v9), ([101, 124, 45, 124], v10), ([101, 124, 42, 124], v11)]) := Hu.ins (m := [([61, 61], v0), ([33, 61], v1), ([60], v2), ([62], v3), ([60, 61], v4), ([62, 61], v5), ([109], v6), ([124, 124], v7), ([38, 38], v8), ([101, 124, 43, 124], v9), ([101, 124, 45, 124], v10)]) (hd := .pr) T11.out hm11.out hbu11.out rfl V11.out
                          clear hm11 hbu11 T11 V11
                          go_wp2_with fail
                          refine (ofNumbers_makes xb 58 #[] _).mono ?_
                          rintro x W12a ⟨v12, rfl, hbc, hvc⟩
                          have V12 : Hid (HdAt W12a xb (b0 + 1) .qt v12) := hvc.here S12.out.lt
                          have T12 := hidK (S12.out.call hbc)
                          clear hbc S12 hvc
                          go_wp2_with (refine wpList_insert_text W12a rfl _ _ _ 49 rfl underHeads Tryz.underlying9 (b := b0) (k := [101, 124, 47, 124]) (v := v12) (m := [([61, 61], v0), ([33, 61], v1), ([60], v2), ([62], v3), ([60, 61], v4), ([62, 61], v5), ([109], v6), ([124, 124], v7), ([38, 38], v8), ([101, 124, 43, 124], v9), ([101, 124, 45, 124], v10), ([101, 124, 42, 124], v11)]) (by simp [Act.eval]) (by first | rfl | simp [Act.eval, str]) (by simp [Act.eval]) T12.out.map rfl ?i12)
                          case i12 =>
                            intro X12 hm12 hbu12
                            have S13 : Hid (Hu w X12 xb b0 [([61, 61], v0), ([33, 61], v1), ([60], v2), ([62], v3), ([60, 61], v4), ([62, 61], v5), ([109], v6), ([124, 124], v7), ([38, 38], v8), ([101, 124, 43, 124], v9), ([101, 124, 45, 124], v10), ([101, 124, 42, 124], v11), ([101, 124, 47, 124], v12)]) := Hu.ins (m := [([61, 61], v0), ([33, 61], v1), ([60], v2), ([62], v3), ([60, 61], v4), ([62, 61], v5), ([109], v6), ([124, 124], v7), ([38, 38], v8), ([101, 124, 43, 124], v9), ([101, 124, 45, 124], v10), ([101, 124, 42, 124], v11)]) (hd := .qt) T12.out hm12.out hbu12.out rfl V12.out
                            clear hm12 hbu12 T12 V12
                            go_wp2_with fail
                            refine (ofNumbers_makes xb 59 #[] _).mono ?_
                            rintro x W13a ⟨v13, rfl, hbc, hvc⟩
                            have V13 : Hid (HdAt W13a xb (b0 + 1) .rm v13) := hvc.here S13.out.lt
                            have T13 := hidK (S13.out.call hbc)
                            clear hbc S13 hvc
                            go_wp2_with (refine wpList_insert_text W13a rfl _ _ _ 49 rfl underHeads Tryz.underlying9 (b := b0) (k := [101, 124, 109, 124]) (v := v13) (m := [([61, 61], v0), ([33, 61], v1), ([60], v2), ([62], v3), ([60, 61], v4), ([62, 61], v5), ([109], v6), ([124, 124], v7), ([38, 38], v8), ([101, 124, 43, 124], v9), ([101, 124, 45, 124], v10), ([101, 124, 42, 124], v11), ([101, 124, 47, 124], v12)]) (by simp [Act.eval]) (by first | rfl | simp [Act.eval, str]) (by simp [Act.eval]) T13.out.map rfl ?i13)
                            case i13 =>
                              intro X13 hm13 hbu13
                              have S14 : Hid (Hu w X13 xb b0 [([61, 61], v0), ([33, 61], v1), ([60], v2), ([62], v3), ([60, 61], v4), ([62, 61], v5), ([109], v6), ([124, 124], v7), ([38, 38], v8), ([101, 124, 43, 124], v9), ([101, 124, 45, 124], v10), ([101, 124, 42, 124], v11), ([101, 124, 47, 124], v12), ([101, 124, 109, 124], v13)]) := Hu.ins (m := [([61, 61], v0), ([33, 61], v1), ([60], v2), ([62], v3), ([60, 61], v4), ([62, 61], v5), ([109], v6), ([124, 124], v7), ([38, 38], v8), ([101, 124, 43, 124], v9), ([101, 124, 45, 124], v10), ([101, 124, 42, 124], v11), ([101, 124, 47, 124], v12)]) (hd := .rm) T13.out hm13.out hbu13.out rfl V13.out
                              clear hm13 hbu13 T13 V13
                              go_wp2_with fail
                              refine (whether_makes 61 _).mono ?_
                              rintro x W14b ⟨rfl, hbc, hcc⟩
                              have C14 := hidK hcc
                              have D14 := hidK S14.out.lt
                              obtain ⟨ic14, hic⟩ : ∃ k, X13.heap.size = k := ⟨_, rfl⟩
                              rw [hic] at C14 D14 ⊢
                              have R14 := hidK (S14.out.call hbc)
                              clear hcc hic
                              clear hbc S14
                              go_wp2_with fail
                              refine (ofNumbers_makes xb 107 #[.pointer (some ⟨ic14, 0, none⟩)] _).mono ?_
                              rintro x W14a ⟨v14, rfl, hbc, hvc⟩
                              have V14 : Hid (HdAt W14a xb (b0 + 1) .eqn v14) := ⟨_, hvc.here R14.out.lt, cell_later hbc C14.out, D14.out⟩
                              have T14 := hidK (R14.out.call hbc)
                              clear hbc R14 hvc C14 D14
                              go_wp2_with (refine wpList_insert_text W14a rfl _ _ _ 49 rfl underHeads Tryz.underlying9 (b := b0) (k := [101, 124, 61, 61, 124]) (v := v14) (m := [([61, 61], v0), ([33, 61], v1), ([60], v2), ([62], v3), ([60, 61], v4), ([62, 61], v5), ([109], v6), ([124, 124], v7), ([38, 38], v8), ([101, 124, 43, 124], v9), ([101, 124, 45, 124], v10), ([101, 124, 42, 124], v11), ([101, 124, 47, 124], v12), ([101, 124, 109, 124], v13)]) (by simp [Act.eval]) (by first | rfl | simp [Act.eval, str]) (by simp [Act.eval]) T14.out.map rfl ?i14)
                              case i14 =>
                                intro X14 hm14 hbu14
                                have S15 : Hid (Hu w X14 xb b0 [([61, 61], v0), ([33, 61], v1), ([60], v2), ([62], v3), ([60, 61], v4), ([62, 61], v5), ([109], v6), ([124, 124], v7), ([38, 38], v8), ([101, 124, 43, 124], v9), ([101, 124, 45, 124], v10), ([101, 124, 42, 124], v11), ([101, 124, 47, 124], v12), ([101, 124, 109, 124], v13), ([101, 124, 61, 61, 124], v14)]) := Hu.ins (m := [([61, 61], v0), ([33, 61], v1), ([60], v2), ([62], v3), ([60, 61], v4), ([62, 61], v5), ([109], v6), ([124, 124], v7), ([38, 38], v8), ([101, 124, 43, 124], v9), ([101, 124, 45, 124], v10), ([101, 124, 42, 124], v11), ([101, 124, 47, 124], v12), ([101, 124, 109, 124], v13)]) (hd := .eqn) T14.out hm14.out hbu14.out rfl V14.out
                                clear hm14 hbu14 T14 V14
                                go_wp2_with fail
                                refine (whether_makes 62 _).mono ?_
                                rintro x W15b ⟨rfl, hbc, hcc⟩
                                have C15 := hidK hcc
                                have D15 := hidK S15.out.lt
                                obtain ⟨ic15, hic⟩ : ∃ k, X14.heap.size = k := ⟨_, rfl⟩
                                rw [hic] at C15 D15 ⊢
                                have R15 := hidK (S15.out.call hbc)
                                clear hcc hic
                                clear hbc S15
                                go_wp2_with fail
                                refine (ofNumbers_makes xb 107 #[.pointer (some ⟨ic15, 0, none⟩)] _).mono ?_
                                rintro x W15a ⟨v15, rfl, hbc, hvc⟩
                                have V15 : Hid (HdAt W15a xb (b0 + 1) .ltn v15) := ⟨_, hvc.here R15.out.lt, cell_later hbc C15.out, D15.out⟩
                                have T15 := hidK (R15.out.call hbc)
                                clear hbc R15 hvc C15 D15
                                go_wp2_with (refine wpList_insert_text W15a rfl _ _ _ 49 rfl underHeads Tryz.underlying9 (b := b0) (k := [101, 124, 60, 124]) (v := v15) (m := [([61, 61], v0), ([33, 61], v1), ([60], v2), ([62], v3), ([60, 61], v4), ([62, 61], v5), ([109], v6), ([124, 124], v7), ([38, 38], v8), ([101, 124, 43, 124], v9), ([101, 124, 45, 124], v10), ([101, 124, 42, 124], v11), ([101, 124, 47, 124], v12), ([101, 124, 109, 124], v13), ([101, 124, 61, 61, 124], v14)]) (by simp [Act.eval]) (by first | rfl | simp [Act.eval, str]) (by simp [Act.eval]) T15.out.map rfl ?i15)
                                case i15 =>
                                  intro X15 hm15 hbu15
                                  have S16 : Hid (Hu w X15 xb b0 [([61, 61], v0), ([33, 61], v1), ([60], v2), ([62], v3), ([60, 61], v4), ([62, 61], v5), ([109], v6), ([124, 124], v7), ([38, 38], v8), ([101, 124, 43, 124], v9), ([101, 124, 45, 124], v10), ([101, 124, 42, 124], v11), ([101, 124, 47, 124], v12), ([101, 124, 109, 124], v13), ([101, 124, 61, 61, 124], v14), ([101, 124, 60, 124], v15)]) := Hu.ins (m := [([61, 61], v0), ([33, 61], v1), ([60], v2), ([62], v3), ([60, 61], v4), ([62, 61], v5), ([109], v6), ([124, 124], v7), ([38, 38], v8), ([101, 124, 43, 124], v9), ([101, 124, 45, 124], v10), ([101, 124, 42, 124], v11), ([101, 124, 47, 124], v12), ([101, 124, 109, 124], v13), ([101, 124, 61, 61, 124], v14)]) (hd := .ltn) T15.out hm15.out hbu15.out rfl V15.out
                                  clear hm15 hbu15 T15 V15
                                  go_wp2_with fail
                                  refine (whether_makes 63 _).mono ?_
                                  rintro x W16b ⟨rfl, hbc, hcc⟩
                                  have C16 := hidK hcc
                                  have D16 := hidK S16.out.lt
                                  obtain ⟨ic16, hic⟩ : ∃ k, X15.heap.size = k := ⟨_, rfl⟩
                                  rw [hic] at C16 D16 ⊢
                                  have R16 := hidK (S16.out.call hbc)
                                  clear hcc hic
                                  clear hbc S16
                                  go_wp2_with fail
                                  refine (ofNumbers_makes xb 107 #[.pointer (some ⟨ic16, 0, none⟩)] _).mono ?_
                                  rintro x W16a ⟨v16, rfl, hbc, hvc⟩
                                  have V16 : Hid (HdAt W16a xb (b0 + 1) .gtn v16) := ⟨_, hvc.here R16.out.lt, cell_later hbc C16.out, D16.out⟩
                                  have T16 := hidK (R16.out.call hbc)
                                  clear hbc R16 hvc C16 D16
                                  go_wp2_with (refine wpList_insert_text W16a rfl _ _ _ 49 rfl underHeads Tryz.underlying9 (b := b0) (k := [101, 124, 62, 124]) (v := v16) (m := [([61, 61], v0), ([33, 61], v1), ([60], v2), ([62], v3), ([60, 61], v4), ([62, 61], v5), ([109], v6), ([124, 124], v7), ([38, 38], v8), ([101, 124, 43, 124], v9), ([101, 124, 45, 124], v10), ([101, 124, 42, 124], v11), ([101, 124, 47, 124], v12), ([101, 124, 109, 124], v13), ([101, 124, 61, 61, 124], v14), ([101, 124, 60, 124], v15)]) (by simp [Act.eval]) (by first | rfl | simp [Act.eval, str]) (by simp [Act.eval]) T16.out.map rfl ?i16)
                                  case i16 =>
                                    intro X16 hm16 hbu16
                                    have S17 : Hid (Hu w X16 xb b0 [([61, 61], v0), ([33, 61], v1), ([60], v2), ([62], v3), ([60, 61], v4), ([62, 61], v5), ([109], v6), ([124, 124], v7), ([38, 38], v8), ([101, 124, 43, 124], v9), ([101, 124, 45, 124], v10), ([101, 124, 42, 124], v11), ([101, 124, 47, 124], v12), ([101, 124, 109, 124], v13), ([101, 124, 61, 61, 124], v14), ([101, 124, 60, 124], v15), ([101, 124, 62, 124], v16)]) := Hu.ins (m := [([61, 61], v0), ([33, 61], v1), ([60], v2), ([62], v3), ([60, 61], v4), ([62, 61], v5), ([109], v6), ([124, 124], v7), ([38, 38], v8), ([101, 124, 43, 124], v9), ([101, 124, 45, 124], v10), ([101, 124, 42, 124], v11), ([101, 124, 47, 124], v12), ([101, 124, 109, 124], v13), ([101, 124, 61, 61, 124], v14), ([101, 124, 60, 124], v15)]) (hd := .gtn) T16.out hm16.out hbu16.out rfl V16.out
                                    clear hm16 hbu16 T16 V16
                                    go_wp2_with (refine wpList_insert_text _ rfl _ _ _ 49 rfl underHeads Tryz.underlying9 (b := b0) (k := [33]) (v := .func (.func 64) #[.pointer (some ⟨xb, 0, none⟩)] #[]) (m := [([61, 61], v0), ([33, 61], v1), ([60], v2), ([62], v3), ([60, 61], v4), ([62, 61], v5), ([109], v6), ([124, 124], v7), ([38, 38], v8), ([101, 124, 43, 124], v9), ([101, 124, 45, 124], v10), ([101, 124, 42, 124], v11), ([101, 124, 47, 124], v12), ([101, 124, 109, 124], v13), ([101, 124, 61, 61, 124], v14), ([101, 124, 60, 124], v15), ([101, 124, 62, 124], v16)]) (by simp [Act.eval]) (by first | rfl | simp [Act.eval, str]) (by simp [Act.eval]) S17.out.map rfl ?i17)
                                    case i17 =>
                                      intro X17 hm17 hbu17
                                      have S18 : Hid (Hu w X17 xb b0 [([61, 61], v0), ([33, 61], v1), ([60], v2), ([62], v3), ([60, 61], v4), ([62, 61], v5), ([109], v6), ([124, 124], v7), ([38, 38], v8), ([101, 124, 43, 124], v9), ([101, 124, 45, 124], v10), ([101, 124, 42, 124], v11), ([101, 124, 47, 124], v12), ([101, 124, 109, 124], v13), ([101, 124, 61, 61, 124], v14), ([101, 124, 60, 124], v15), ([101, 124, 62, 124], v16), ([33], .func (.func 64) #[.pointer (some ⟨xb, 0, none⟩)] #[])]) := Hu.ins (m := [([61, 61], v0), ([33, 61], v1), ([60], v2), ([62], v3), ([60, 61], v4), ([62, 61], v5), ([109], v6), ([124, 124], v7), ([38, 38], v8), ([101, 124, 43, 124], v9), ([101, 124, 45, 124], v10), ([101, 124, 42, 124], v11), ([101, 124, 47, 124], v12), ([101, 124, 109, 124], v13), ([101, 124, 61, 61, 124], v14), ([101, 124, 60, 124], v15), ([101, 124, 62, 124], v16)]) (hd := .neg) S17.out hm17.out hbu17.out rfl rfl
                                      clear hm17 hbu17 S17
                                      go_wp2_with (refine wpList_insert_text _ rfl _ _ _ 49 rfl underHeads Tryz.underlying9 (b := b0) (k := [108]) (v := .func (.func 65) #[] #[]) (m := [([61, 61], v0), ([33, 61], v1), ([60], v2), ([62], v3), ([60, 61], v4), ([62, 61], v5), ([109], v6), ([124, 124], v7), ([38, 38], v8), ([101, 124, 43, 124], v9), ([101, 124, 45, 124], v10), ([101, 124, 42, 124], v11), ([101, 124, 47, 124], v12), ([101, 124, 109, 124], v13), ([101, 124, 61, 61, 124], v14), ([101, 124, 60, 124], v15), ([101, 124, 62, 124], v16), ([33], .func (.func 64) #[.pointer (some ⟨xb, 0, none⟩)] #[])]) (by simp [Act.eval]) (by first | rfl | simp [Act.eval, str]) (by simp [Act.eval]) S18.out.map rfl ?i18)
                                      case i18 =>
                                        intro X18 hm18 hbu18
                                        have S19 : Hid (Hu w X18 xb b0 [([61, 61], v0), ([33, 61], v1), ([60], v2), ([62], v3), ([60, 61], v4), ([62, 61], v5), ([109], v6), ([124, 124], v7), ([38, 38], v8), ([101, 124, 43, 124], v9), ([101, 124, 45, 124], v10), ([101, 124, 42, 124], v11), ([101, 124, 47, 124], v12), ([101, 124, 109, 124], v13), ([101, 124, 61, 61, 124], v14), ([101, 124, 60, 124], v15), ([101, 124, 62, 124], v16), ([33], .func (.func 64) #[.pointer (some ⟨xb, 0, none⟩)] #[]), ([108], .func (.func 65) #[] #[])]) := Hu.ins (m := [([61, 61], v0), ([33, 61], v1), ([60], v2), ([62], v3), ([60, 61], v4), ([62, 61], v5), ([109], v6), ([124, 124], v7), ([38, 38], v8), ([101, 124, 43, 124], v9), ([101, 124, 45, 124], v10), ([101, 124, 42, 124], v11), ([101, 124, 47, 124], v12), ([101, 124, 109, 124], v13), ([101, 124, 61, 61, 124], v14), ([101, 124, 60, 124], v15), ([101, 124, 62, 124], v16), ([33], .func (.func 64) #[.pointer (some ⟨xb, 0, none⟩)] #[])]) (hd := .lit) S18.out hm18.out hbu18.out rfl rfl
                                        clear hm18 hbu18 S18
                                        go_wp2_with fail
                                        all_goals go_ret
                                        all_goals exact ⟨b0, rfl, S19.out.below, by rw [S19.out.eq]; exact Nat.le_refl _, _, S19.out.map, rfl, S19.out.ok⟩

end Go.Proofs.YtlfcjcaofhcfnaaGreatDoor
