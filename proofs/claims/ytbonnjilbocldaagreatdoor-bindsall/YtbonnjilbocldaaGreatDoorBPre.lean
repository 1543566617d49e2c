/-
  Binds: Press.
-/
import Derived.Test.YtbonnjilbocldaaGreatDoorBPin
namespace Go.Proofs.YtbonnjilbocldaaGreatDoor
open Go.RowKit
set_option linter.unusedVariables false
set_option maxRecDepth 100000

/-- What stands at a key. -/
def getS (D : DataW Unit) (k : Lit) : ByteArray × Bool :=
  match D.atKey k zeroD with
  | .agg [.lit (.string l), .lit (.bool r)] => (⟨l.toArray⟩, r)
  | _ => (⟨#[]⟩, false)
theorem getS_of {D : DataW Unit} {k : Lit} {s : ByteArray} {r : Bool} (h : D.atKey k zeroD = meanD s r) : getS D k = (s, r) := by
  unfold getS
  rw [h]
  rfl
def resV (D : DataW Unit) (p q c m : Int) : Array Value :=
  if c = p ∧ m = q then #[walkV prefixS 0, .string ⟨#[]⟩, .bool false] else if Maps.has D (slotK rootS.data.toList c m) then #[restV, .string (getS D (slotK rootS.data.toList c m)).1, .bool false] else #[restV, .string ⟨#[]⟩, .bool true]
def insV (D : DataW Unit) (t : ByteArray) (p q c m tick rep : Int) : Array Value := inV (Maps.has D (slotK t.data.toList c m)) t p q c m tick rep (getS D (slotK t.data.toList c m)).1 (getS D (slotK t.data.toList c m)).2
theorem res_any {w : World} {d b n : Nat} {D : DataW Unit} (h : Tb w d b n D) (p q c m : Int) (hc : (Lit.int .i64 c).wf = true) (hm : (Lit.int .i64 m).wf = true) :
    Calls Tryz.prog 44 #[.pointer (some ⟨d, 0, none⟩), .agg #[.int .i64 p, .int .i64 q], .agg #[.int .i64 c, .int .i64 m]] w fun e w' => e = .returned (.tuple (resV D p q c m)) ∧ Below w.heap.size w w' :=
  (pressAtRest_any h p q c m hc hm).mono fun e w' ⟨h1, s, r, h2, h3⟩ => ⟨by rw [h3]; unfold resV; rw [getS_of h2], h1⟩
theorem ins_any {w : World} {d b n : Nat} {D : DataW Unit} (h : Tb w d b n D) (t : ByteArray) (p q c m tick rep : Int) (ht : t.size ≤ 140737488355328) (hc : (Lit.int .i64 c).wf = true) (hm : (Lit.int .i64 m).wf = true) (hti : (Lit.int .i64 tick).wf = true) (hre : (Lit.int .i64 rep).wf = true) :
    Calls Tryz.prog 43 #[.pointer (some ⟨d, 0, none⟩), .string t, .agg #[.int .i64 p, .int .i64 q], .agg #[.int .i64 c, .int .i64 m], .int .i64 tick, .int .i64 rep] w fun e w' => e = .returned (.tuple (insV D t p q c m tick rep)) ∧ Below w.heap.size w w' :=
  (pressIn_any h t p q c m tick rep ht hc hm hti hre).mono fun e w' ⟨h1, s, r, h2, h3⟩ => ⟨by rw [h3]; unfold insV; rw [getS_of h2], h1⟩
theorem on_any {w : World} {d b n : Nat} {D : DataW Unit} (h : Tb w d b n D) (upto tick c m : Int) (hc : (Lit.int .i64 c).wf = true) (hm : (Lit.int .i64 m).wf = true) :
    Calls Tryz.prog 42 #[.pointer (some ⟨d, 0, none⟩), .int .i64 upto, .agg #[.int .i64 c, .int .i64 m], .int .i64 tick] w fun e w' => e = .returned (.bool (decide (tick ≤ upto) && (getS D (slotK prefixS.data.toList c m)).2)) ∧ Below w.heap.size w w' :=
  (goesOn_any h upto tick c m hc hm).mono fun e w' ⟨h1, s, r, h2, h3⟩ => ⟨by rw [h3, getS_of h2], h1⟩
theorem res_three (D : DataW Unit) (p q c m : Int) : ∃ a u l x, resV D p q c m = #[.agg #[.string a, .int .i64 u], .string l, .bool x] := by
  unfold resV
  split
  · exact ⟨_, _, _, _, rfl⟩
  · split
    · exact ⟨_, _, _, _, rfl⟩
    · exact ⟨_, _, _, _, rfl⟩
theorem ins_two (D : DataW Unit) (t : ByteArray) (p q c m tick rep : Int) : ∃ a u l, insV D t p q c m tick rep = #[.agg #[.string a, .int .i64 u], .string l] := by
  unfold insV inV
  obtain ⟨a, u, e⟩ := open_two tick rep
  split
  · split
    · exact ⟨a, u, _, by rw [e]⟩
    · exact ⟨_, _, _, rfl⟩
  · split
    · exact ⟨_, _, _, rfl⟩
    · exact ⟨_, _, _, rfl⟩
/-- Does it fall back to rest? -/
def fellB (D : DataW Unit) (t : ByteArray) (u c m tick : Int) : Bool := decide (t = prefixS ∧ 0 < u) && !(decide (tick ≤ u) && (getS D (slotK prefixS.data.toList c m)).2)
/-- What a key does. -/
def pressV (D : DataW Unit) (t : ByteArray) (u p q c m tick rep : Int) : Array Value :=
  if fellB D t u c m tick = true ∨ t = ⟨#[]⟩ then resV D p q c m else (insV D t p q c m tick rep).push (.bool false)
/-- The blocks that Press lays. -/
structure Pb (w Y : World) (B0 K1 K2 Z : Nat) (t : ByteArray) (u p q c m : Int) : Prop where
  below : Below w.heap.size w Y
  b0 : Y.heap[B0]? = some (.cells #[.string t, .int .i64 u] 36 (0, 0))
  k1 : Y.heap[K1]? = some (.cells #[.int .i64 p, .int .i64 q] 23 (0, 0))
  k2 : Y.heap[K2]? = some (.cells #[.int .i64 c, .int .i64 m] 23 (0, 0))
  z : Y.heap[Z]? = some (.cells #[.string ⟨#[]⟩, .int .i64 0] 36 (0, 0))
  lo : w.heap.size ≤ B0 ∧ w.heap.size ≤ Z
  ne : B0 < Z
theorem Pb.more {w Y Y' : World} {B0 K1 K2 Z : Nat} {t : ByteArray} {u p q c m : Int} (h : Pb w Y B0 K1 K2 Z t u p q c m) (hb : Below Y.heap.size Y Y') : Pb w Y' B0 K1 K2 Z t u p q c m :=
  ⟨below_step h.below hb, (hb.block _ (lt_block h.b0)).trans h.b0, (hb.block _ (lt_block h.k1)).trans h.k1, (hb.block _ (lt_block h.k2)).trans h.k2, (hb.block _ (lt_block h.z)).trans h.z, h.lo, h.ne⟩
/-- The Walk put to rest. -/
theorem Pb.fall {w Y : World} {B0 K1 K2 Z : Nat} {t : ByteArray} {u p q c m : Int} (h : Pb w Y B0 K1 K2 Z t u p q c m) : Pb w ((Y.setCell ⟨B0, 0, none⟩ (.string ⟨#[]⟩)).setCell ⟨B0, 1, none⟩ (.int .i64 0)) B0 K1 K2 Z ⟨#[]⟩ 0 p q c m :=
  ⟨(h.below.setCell h.lo.1 _).setCell h.lo.1 _, put_at (put_at h.b0 0 _) 1 _, put_other (put_other h.k1 (fun e => by have h1 := h.k1; rw [e, h.b0] at h1; cases h1) _ _) (fun e => by have h1 := h.k1; rw [e, h.b0] at h1; cases h1) _ _,
    put_other (put_other h.k2 (fun e => by have h1 := h.k2; rw [e, h.b0] at h1; cases h1) _ _) (fun e => by have h1 := h.k2; rw [e, h.b0] at h1; cases h1) _ _, put_other (put_other h.z (by have := h.ne; omega) _ _) (by have := h.ne; omega) _ _, h.lo, h.ne⟩
theorem nil_no {t : ByteArray} (h : ¬ t = ⟨#[]⟩) : ¬ t.toList = [] ∧ t.toList.isEmpty = false ∧ (t.toList == []) = false := by
  have h2 := str_toList t.data.toList
  have h3 : str t.data.toList = t := by first | rfl | (apply ByteArray.ext; simp [str])
  rw [h3] at h2
  have h4 : ¬ t.toList = [] := fun e => h (by
    rw [h2] at e
    apply ByteArray.ext
    exact Array.ext' e)
  refine ⟨h4, ?_, ?_⟩
  · cases e : t.toList with
    | nil => exact absurd e h4
    | cons _ _ => rfl
  · cases e : t.toList with
    | nil => exact absurd e h4
    | cons _ _ => rfl
set_option maxHeartbeats 8000000 in
theorem press_any {w : World} {d b n : Nat} {D : DataW Unit} (h : Tb w d b n D) (t : ByteArray) (u p q c m tick rep : Int) (ht : t.size ≤ 140737488355328) (hc : (Lit.int .i64 c).wf = true) (hm : (Lit.int .i64 m).wf = true) (hti : (Lit.int .i64 tick).wf = true) (hre : (Lit.int .i64 rep).wf = true) :
    Calls Tryz.prog 22 #[.pointer (some ⟨d, 0, none⟩), .agg #[.string t, .int .i64 u], .agg #[.int .i64 p, .int .i64 q], .agg #[.int .i64 c, .int .i64 m], .int .i64 tick, .int .i64 rep] w fun e w' => e = .returned (.tuple (pressV D t u p q c m tick rep)) ∧ Below w.heap.size w w' := by
  obtain ⟨P, hP⟩ : ∃ P, pressV D t u p q c m tick rep = P := ⟨_, rfl⟩
  rw [hP]
  have HPv := hidK hP
  obtain ⟨ra, ru, rl, rx, hrv⟩ := res_three D p q c m
  obtain ⟨ia, iu, il, hiv⟩ := ins_two D t p q c m tick rep
  have HRe : Hid (∀ Y, Below w.heap.size w Y → Calls Tryz.prog 44 #[.pointer (some ⟨d, 0, none⟩), .agg #[.int .i64 p, .int .i64 q], .agg #[.int .i64 c, .int .i64 m]] Y fun e w' => e = .returned (.tuple #[.agg #[.string ra, .int .i64 ru], .string rl, .bool rx]) ∧ Below Y.heap.size Y w') := fun Y hY => by rw [← hrv]; exact res_any (h.more hY) p q c m hc hm
  have HIn : Hid (∀ Y, Below w.heap.size w Y → Calls Tryz.prog 43 #[.pointer (some ⟨d, 0, none⟩), .string t, .agg #[.int .i64 p, .int .i64 q], .agg #[.int .i64 c, .int .i64 m], .int .i64 tick, .int .i64 rep] Y fun e w' => e = .returned (.tuple #[.agg #[.string ia, .int .i64 iu], .string il]) ∧ Below Y.heap.size Y w') := fun Y hY => by rw [← hiv]; exact ins_any (h.more hY) t p q c m tick rep ht hc hm hti hre
  obtain ⟨gb, hgb⟩ : ∃ gb, (decide (tick ≤ u) && (getS D (slotK prefixS.data.toList c m)).2) = gb := ⟨_, rfl⟩
  have HOn : Hid (∀ Y, Below w.heap.size w Y → Calls Tryz.prog 42 #[.pointer (some ⟨d, 0, none⟩), .int .i64 u, .agg #[.int .i64 c, .int .i64 m], .int .i64 tick] Y fun e w' => e = .returned (.bool gb) ∧ Below Y.heap.size Y w') := fun Y hY => by rw [← hgb]; exact on_any (h.more hY) u tick c m hc hm
  have HFe : Hid (fellB D t u c m tick = (decide (t = prefixS ∧ 0 < u) && !gb)) := by show _ = _; unfold fellB; rw [hgb]
  have HRr : Hid (fellB D t u c m tick = true ∨ t = ⟨#[]⟩ → P = #[.agg #[.string ra, .int .i64 ru], .string rl, .bool rx]) := fun q => by rw [← HPv.out, ← hrv]; unfold pressV; rw [if_pos q]
  have HIi : Hid (¬ (fellB D t u c m tick = true ∨ t = ⟨#[]⟩) → P = #[.agg #[.string ia, .int .i64 iu], .string il, .bool false]) := fun q => by rw [← HPv.out]; unfold pressV; rw [if_neg q, hiv]; rfl
  obtain ⟨W1, hW1⟩ : ∃ W, w.alloc (.cells #[.string t, .int .i64 u] 36) = W := ⟨_, rfl⟩
  obtain ⟨W2, hW2⟩ : ∃ W, W1.alloc (.cells #[.int .i64 p, .int .i64 q] 23) = W := ⟨_, rfl⟩
  obtain ⟨W3, hW3⟩ : ∃ W, W2.alloc (.cells #[.int .i64 c, .int .i64 m] 23) = W := ⟨_, rfl⟩
  obtain ⟨W4, hW4⟩ : ∃ W, W3.alloc (.cells #[.string ⟨#[]⟩, .int .i64 0] 36) = W := ⟨_, rfl⟩
  obtain ⟨B0, hB0⟩ : ∃ Q, w.heap.size = Q := ⟨_, rfl⟩
  obtain ⟨K1, hK1⟩ : ∃ Q, W1.heap.size = Q := ⟨_, rfl⟩
  obtain ⟨K2, hK2⟩ : ∃ Q, W2.heap.size = Q := ⟨_, rfl⟩
  obtain ⟨Z, hZ⟩ : ∃ Q, W3.heap.size = Q := ⟨_, rfl⟩
  have b1 : Below w.heap.size w W1 := by rw [← hW1]; exact (Below.refl _ _).alloc (Nat.le_refl _) _
  have b2 : Below W1.heap.size W1 W2 := by rw [← hW2]; exact (Below.refl _ _).alloc (Nat.le_refl _) _
  have b3 : Below W2.heap.size W2 W3 := by rw [← hW3]; exact (Below.refl _ _).alloc (Nat.le_refl _) _
  have b4 : Below W3.heap.size W3 W4 := by rw [← hW4]; exact (Below.refl _ _).alloc (Nat.le_refl _) _
  have a1 : W1.heap[B0]? = some (.cells #[.string t, .int .i64 u] 36 (0, 0)) := by rw [← hW1, ← hB0]; exact heap_alloc_new w _
  have a2 : W2.heap[K1]? = some (.cells #[.int .i64 p, .int .i64 q] 23 (0, 0)) := by rw [← hW2, ← hK1]; exact heap_alloc_new W1 _
  have a3 : W3.heap[K2]? = some (.cells #[.int .i64 c, .int .i64 m] 23 (0, 0)) := by rw [← hW3, ← hK2]; exact heap_alloc_new W2 _
  have a4 : W4.heap[Z]? = some (.cells #[.string ⟨#[]⟩, .int .i64 0] 36 (0, 0)) := by rw [← hW4, ← hZ]; exact heap_alloc_new W3 _
  have b24 := below_step (below_step b2 b3) b4
  have b34 := below_step b3 b4
  have hs1 := b1.size
  have hs2 := b2.size
  have hs3 := b3.size
  have ha1 := lt_block a1
  have HP0 : Hid (Pb w W4 B0 K1 K2 Z t u p q c m) := ⟨below_step b1 b24, (b24.block B0 (lt_block a1)).trans a1, (b34.block K1 (lt_block a2)).trans a2, (b4.block K2 (lt_block a3)).trans a3, a4, by omega, by omega⟩
  clear h ht hc hm hti hre hP hrv hiv hgb b1 b2 b3 b4 a1 a2 a3 a4 b24 b34 hs1 hs2 hs3 ha1
  have k0 := cell_at HP0.out.k1 0
  have k1 := cell_at HP0.out.k1 1
  have k2 := cell_at HP0.out.k2 0
  have k3 := cell_at HP0.out.k2 1
  have k4 := cell_at HP0.out.b0 0
  have k5 := cell_at HP0.out.b0 1
  by_cases htp : t = prefixS
  · subst htp
    unfold prefixS at *
    by_cases hu : 0 < u
    · cases gb with
      | true =>
        have HFa : Hid (fellB D { data := #[112, 114, 101, 102, 105, 120] } u c m tick = false) := by show _ = _; rw [HFe.out, Bool.not_true, Bool.and_false]
        go_enter Tryz.func22, Tryz.ntmps22
        go_wp2_with fail
        refine (HOn.out _ HP0.out.below).mono ?_
        rintro e V0 ⟨rfl, hb⟩
        have HP1 := hidK (HP0.out.more hb)
        clear hb k0 k1 k2 k3 k4 k5
        have k0 := cell_at HP1.out.k1 0
        have k1 := cell_at HP1.out.k1 1
        have k2 := cell_at HP1.out.k2 0
        have k3 := cell_at HP1.out.k2 1
        have k4 := cell_at HP1.out.b0 0
        have k5 := cell_at HP1.out.b0 1
        go_wp2_with fail
        refine (HIn.out _ HP1.out.below).mono ?_
        rintro e V ⟨rfl, hb⟩
        obtain ⟨V2, hV2⟩ : ∃ V2, V.alloc (.cells #[.string ia, .int .i64 iu] 36) = V2 := ⟨_, rfl⟩
        obtain ⟨N2, hN2⟩ : ∃ N2, V.heap.size = N2 := ⟨_, rfl⟩
        have hbV : Below V.heap.size V V2 := by rw [← hV2]; exact (Below.refl _ _).alloc (Nat.le_refl _) _
        have HV := hidK ((HP1.out.more hb).more hbV)
        have hn2 : V2.heap[N2]? = some (.cells #[.string ia, .int .i64 iu] 36 (0, 0)) := by rw [← hV2, ← hN2]; exact heap_alloc_new V _
        have n0 := cell_at hn2 0
        have n1 := cell_at hn2 1
        clear hb hbV hn2
        have x0 := cell_at HV.out.z 0
        have x1 := cell_at HV.out.z 1
        have g0 := free_at HV.out.z 0
        have g1 := free_at HV.out.z 1
        go_wp2_with fail
        refine ret_cell3 rfl rfl (two_set HV.out.z _ _) Tryz.underlying36 rfl infoWalk rfl ⟨?_, (HV.out.below.setCell HV.out.lo.2 _).setCell HV.out.lo.2 _⟩
        rw [HIi.out (fun q => by rcases q with q | q; rw [HFa.out] at q; cases q; exact absurd q (by decide))]
        rfl
      | false =>
        have HFa : Hid (fellB D { data := #[112, 114, 101, 102, 105, 120] } u c m tick = true) := by show _ = _; rw [HFe.out, decide_eq_true ⟨rfl, hu⟩]; rfl
        go_enter Tryz.func22, Tryz.ntmps22
        go_wp2_with fail
        refine (HOn.out _ HP0.out.below).mono ?_
        rintro e V0 ⟨rfl, hb⟩
        have HP1 := hidK (HP0.out.more hb)
        clear hb k0 k1 k2 k3 k4 k5
        have k4 := cell_at HP1.out.b0 0
        have k5 := cell_at HP1.out.b0 1
        have y4 := free_at HP1.out.b0 0
        have y5 := free_at HP1.out.b0 1
        obtain ⟨V1, hV1⟩ : ∃ V1, (V0.setCell ⟨B0, 0, none⟩ (.string ⟨#[]⟩)).setCell ⟨B0, 1, none⟩ (.int .i64 0) = V1 := ⟨_, rfl⟩
        have HP2 := hidK HP1.out.fall
        rw [hV1] at HP2
        have l0 := cell_at HP2.out.k1 0
        have l1 := cell_at HP2.out.k1 1
        have l2 := cell_at HP2.out.k2 0
        have l3 := cell_at HP2.out.k2 1
        have l4 := cell_at HP2.out.b0 0
        have l5 := cell_at HP2.out.b0 1
        go_wp2_with fail
        refine (HRe.out _ HP2.out.below).mono ?_
        rintro e V ⟨rfl, hb⟩
        have HV := hidK (HP2.out.more hb)
        clear hb
        have x0 := cell_at HV.out.z 0
        have x1 := cell_at HV.out.z 1
        have g0 := free_at HV.out.z 0
        have g1 := free_at HV.out.z 1
        go_wp2_with fail
        refine ret_cell3 rfl rfl (two_set HV.out.z _ _) Tryz.underlying36 rfl infoWalk rfl ⟨?_, (HV.out.below.setCell HV.out.lo.2 _).setCell HV.out.lo.2 _⟩
        rw [HRr.out (.inl HFa.out)]
        rfl
    · have HFa : Hid (fellB D { data := #[112, 114, 101, 102, 105, 120] } u c m tick = false) := by show _ = _; rw [HFe.out, decide_eq_false (fun q => hu q.2)]; rfl
      go_enter Tryz.func22, Tryz.ntmps22
      go_wp2_with fail
      refine (HIn.out _ HP0.out.below).mono ?_
      rintro e V ⟨rfl, hb⟩
      obtain ⟨V2, hV2⟩ : ∃ V2, V.alloc (.cells #[.string ia, .int .i64 iu] 36) = V2 := ⟨_, rfl⟩
      obtain ⟨N2, hN2⟩ : ∃ N2, V.heap.size = N2 := ⟨_, rfl⟩
      have hbV : Below V.heap.size V V2 := by rw [← hV2]; exact (Below.refl _ _).alloc (Nat.le_refl _) _
      have HV := hidK ((HP0.out.more hb).more hbV)
      have hn2 : V2.heap[N2]? = some (.cells #[.string ia, .int .i64 iu] 36 (0, 0)) := by rw [← hV2, ← hN2]; exact heap_alloc_new V _
      have n0 := cell_at hn2 0
      have n1 := cell_at hn2 1
      clear hb hbV hn2
      have x0 := cell_at HV.out.z 0
      have x1 := cell_at HV.out.z 1
      have g0 := free_at HV.out.z 0
      have g1 := free_at HV.out.z 1
      go_wp2_with fail
      refine ret_cell3 rfl rfl (two_set HV.out.z _ _) Tryz.underlying36 rfl infoWalk rfl ⟨?_, (HV.out.below.setCell HV.out.lo.2 _).setCell HV.out.lo.2 _⟩
      rw [HIi.out (fun q => by rcases q with q | q; rw [HFa.out] at q; cases q; exact absurd q (by decide))]
      rfl
  · have tb := pre_no htp
    have HFa : Hid (fellB D t u c m tick = false) := by show _ = _; rw [HFe.out, decide_eq_false (fun q => htp q.1)]; rfl
    by_cases ht0 : t = ⟨#[]⟩
    · subst ht0
      clear tb htp
      go_enter Tryz.func22, Tryz.ntmps22
      go_wp2_with fail
      refine (HRe.out _ HP0.out.below).mono ?_
      rintro e V ⟨rfl, hb⟩
      have HV := hidK (HP0.out.more hb)
      clear hb
      have x0 := cell_at HV.out.z 0
      have x1 := cell_at HV.out.z 1
      have g0 := free_at HV.out.z 0
      have g1 := free_at HV.out.z 1
      go_wp2_with fail
      refine ret_cell3 rfl rfl (two_set HV.out.z _ _) Tryz.underlying36 rfl infoWalk rfl ⟨?_, (HV.out.below.setCell HV.out.lo.2 _).setCell HV.out.lo.2 _⟩
      rw [HRr.out (by simp)]
      rfl
    · have HT0 := hidK ht0
      have t0 := nil_no ht0
      have t1 := t0.1
      have t2 := t0.2.1
      have t3 := t0.2.2
      clear t0 htp ht0
      go_enter Tryz.func22, Tryz.ntmps22
      go_wp2_with fail
      refine (HIn.out _ HP0.out.below).mono ?_
      rintro e V ⟨rfl, hb⟩
      obtain ⟨V2, hV2⟩ : ∃ V2, V.alloc (.cells #[.string ia, .int .i64 iu] 36) = V2 := ⟨_, rfl⟩
      obtain ⟨N2, hN2⟩ : ∃ N2, V.heap.size = N2 := ⟨_, rfl⟩
      have hbV : Below V.heap.size V V2 := by rw [← hV2]; exact (Below.refl _ _).alloc (Nat.le_refl _) _
      have HV := hidK ((HP0.out.more hb).more hbV)
      have hn2 : V2.heap[N2]? = some (.cells #[.string ia, .int .i64 iu] 36 (0, 0)) := by rw [← hV2, ← hN2]; exact heap_alloc_new V _
      have n0 := cell_at hn2 0
      have n1 := cell_at hn2 1
      clear hb hbV hn2
      have x0 := cell_at HV.out.z 0
      have x1 := cell_at HV.out.z 1
      have g0 := free_at HV.out.z 0
      have g1 := free_at HV.out.z 1
      go_wp2_with fail
      refine ret_cell3 rfl rfl (two_set HV.out.z _ _) Tryz.underlying36 rfl infoWalk rfl ⟨?_, (HV.out.below.setCell HV.out.lo.2 _).setCell HV.out.lo.2 _⟩
      rw [HIi.out (fun q => by rcases q with q | q; rw [HFa.out] at q; cases q; exact HT0.out q)]
      rfl
end Go.Proofs.YtbonnjilbocldaaGreatDoor
