/-
  Formats: errors.as, through what a fault was found in.
  Formats: errors.As at every error that a format answers; Expand.
  Formats: Expand.
-/
import Derived.Test.YtlfcjcaofhcfnaaGreatDoorGS
import Derived.Test.YtlfcjcaofhcfnaaGreatDoorGR
namespace Go.Proofs.YtlfcjcaofhcfnaaGreatDoor
open Go.RowKit Go.Extern.Stop Go.Stop Go.Extern
set_option linter.unusedVariables false
set_option maxRecDepth 100000

theorem noAsW (v : Value) (xT : TypeId) (w : World) : (Instr.typeAssert (.iface 141 v) xT 108 true).run Tryz.prog w = .ok (.tuple #[.nilIface, .bool false]) w :=
  run_typeAssert_lacksB Tryz.underlying108 (by kernel_rfl) (by kernel_rfl) v xT w
theorem hasUnW (v : Value) (xT : TypeId) (w : World) : (Instr.typeAssert (.iface 141 v) xT 111 true).run Tryz.prog w = .ok (.tuple #[.iface 141 v, .bool true]) w :=
  run_typeAssert_hasB Tryz.underlying111 (by kernel_rfl) v xT w
theorem methodUnwrap (v : Value) (w : World) : (Go.method 352 141 v "Unwrap").run Tryz.prog w = .ok (228, v) w := by kernel_rfl
theorem unwrap_any (s c : Value) (w : World) : Calls Tryz.prog 228 #[.agg #[s, c]] w fun e w' => e = .returned c ∧ w' = w.alloc (.cells #[s, c] 141) := by
  go_enter Tryz.func228, Tryz.ntmps228
  go_wp2
  go_ret
  exact ⟨rfl, rfl⟩
theorem cause_less (s v : Value) (t : TypeId) : SizeOf.sizeOf v < SizeOf.sizeOf (Value.iface t (.agg #[s, v])) := by
  simp
  omega
set_option maxHeartbeats 4000000 in
theorem asIn_any (k : Int) {v : Value} (hv : ErrV v k) (a t : Addr) (old : Value) (w : World) (ha : w.cell? a = some (.pointer (some t))) (ht0 : w.cell? t = some old) (hf0 : w.frozen? t = false) :
    Calls Tryz.prog 23 #[v, .iface 41 (.pointer (some t)), ptrV a, rtv 39] w fun ev w' => ev = .returned (.bool true) ∧ ∃ W, Below w.heap.size w W ∧ w' = (W.alloc (.cells #[.int .i64 k] 39)).setCell t (.int .i64 k) := by
  have h6 := @run_callFunc_extern Tryz.prog 20 _ (fun args => ReflectliteValue.unpack (args.getD 0 (.tuple #[]))) Tryz.func20 (by kernel_rfl) (by kernel_rfl) (by kernel_rfl) (by kernel_rfl)
  have h10 := @run_callFunc_extern Tryz.prog 71 _ ReflectliteType.typeOf Tryz.func71 (by kernel_rfl) (by kernel_rfl) (by kernel_rfl) (by kernel_rfl)
  have h35 := @run_callFunc_extern Tryz.prog 217 _ (ReflectliteType.relation "AssignableTo" ReflectliteType.assignableTo) Tryz.func217 (by kernel_rfl) (by kernel_rfl) (by kernel_rfl) (by kernel_rfl)
  have h11 := @run_callFunc_extern Tryz.prog 72 _ (ReflectliteValue.method (ReflectliteValue.valueError "reflectlite.Value.Elem" 0) ReflectliteValue.elem) Tryz.func72 (by kernel_rfl) (by kernel_rfl) (by kernel_rfl) (by kernel_rfl)
  have h12 := @run_callFunc_extern Tryz.prog 73 _ ReflectliteValue.set Tryz.func73 (by kernel_rfl) (by kernel_rfl) (by kernel_rfl) (by kernel_rfl)
  have tO := typeOfF
  have tW := typeOfW
  have mA := methodAssignableTo
  have mU := methodUnwrap
  have aF := assignableF
  have aW := assignableW
  have vF := valueOfF
  have nA := noAsW
  have hU := hasUnW
  have hal : a.block < w.heap.size := World.block_lt_of_cell? w _ ha
  have htl : t.block < w.heap.size := World.block_lt_of_cell? w _ ht0
  have Hel : Hid (∀ W, Below w.heap.size w W → _) := fun W (hW : Below w.heap.size w W) => elemVP a t W ((hW.cell hal).trans ha)
  have Hst : Hid (∀ W, Below w.heap.size w W → _) := fun W (hW : Below w.heap.size w W) => setF t ⟨W.heap.size, 0, none⟩ k old (W.alloc (.cells #[.int .i64 k] 39))
    (by rw [World.cell?_alloc_at _ _ _ _ rfl]; rfl)
    (by rw [World.cell?_alloc_lt _ _ t (Nat.lt_of_lt_of_le htl hW.size)]; exact (hW.cell htl).trans ht0)
    (by rw [World.frozen?_alloc_old _ _ t (Nat.ne_of_lt (Nat.lt_of_lt_of_le htl hW.size))]; exact (hW.frozen htl).trans hf0)
  simp only [fltV, ptrV, rtv, hdl] at vF tO tW aF aW ⊢
  have HV := hidK hv
  clear hv ha ht0 hf0
  go_enter Tryz.func23, Tryz.ntmps23
  go_wp2_with fail
  go_loopw [0] (fun s0 wx => Hid (Below (w.heap.size + 1) (w.alloc (.cells #[.pointer (some ⟨9, 41, none⟩), .pointer (some a), .int .u64 150] 67)) wx) ∧ Hid (ErrV s0 k)) (fun s0 _ => SizeOf.sizeOf s0)
  case atStart => exact ⟨Below.refl _ _, HV.out⟩
  case round =>
    obtain ⟨HB, HE⟩ := hrel
    cases HE.out with
    | fault =>
      have hB : Below w.heap.size w wr := ((Below.refl _ _).alloc (Nat.le_refl _) _).trans (HB.out.mono (Nat.le_succ _))
      have el := Hel.out wr hB
      have st := Hst.out wr hB
      have c0 : wr.cell? ⟨w.heap.size, 0, none⟩ = some (.pointer (some ⟨9, 41, none⟩)) := (HB.out.cell (p := ⟨w.heap.size, 0, none⟩) (Nat.lt_succ_self _)).trans (by rw [World.cell?_alloc_at _ _ _ _ rfl]; rfl)
      have c1 : wr.cell? ⟨w.heap.size, 1, none⟩ = some (.pointer (some a)) := (HB.out.cell (p := ⟨w.heap.size, 1, none⟩) (Nat.lt_succ_self _)).trans (by rw [World.cell?_alloc_at _ _ _ _ rfl]; rfl)
      have c2 : wr.cell? ⟨w.heap.size, 2, none⟩ = some (.int .u64 150) := (HB.out.cell (p := ⟨w.heap.size, 2, none⟩) (Nat.lt_succ_self _)).trans (by rw [World.cell?_alloc_at _ _ _ _ rfl]; rfl)
      have hB := hidK hB
      simp only [fltA, fltV, ptrV, hdl] at el st
      go_wp2
      go_ret
      exact ⟨rfl, _, hB.out, rfl⟩
    | within s c _ hc =>
      obtain ⟨tt, y, rfl⟩ := hc.iface
      have HC := hidK hc
      clear hc HE
      go_wp2
      go_roundw
      case rel => exact ⟨HB.out.alloc (by have := HB.out.size; simpa using this) _, HC.out⟩
      case measure => exact cause_less _ _ _
end Go.Proofs.YtlfcjcaofhcfnaaGreatDoor

namespace Go.Proofs.YtlfcjcaofhcfnaaGreatDoor
open Go.RowKit Go.Extern.Stop Go.Stop Go.Extern
set_option linter.unusedVariables false
set_option maxRecDepth 100000

set_option maxHeartbeats 4000000 in
theorem as_any (k : Int) {v : Value} (hv : ErrV v k) (t : Addr) (old : Value) (w : World) (hg : w.cell? ⟨0, 0, none⟩ = some (rtv 33)) (ht0 : w.cell? t = some old) (hf0 : w.frozen? t = false) :
    Calls Tryz.prog 11 #[v, .iface 41 (.pointer (some t))] w fun ev w' => ev = .returned (.bool true) ∧ ∃ W, Below w.heap.size w W ∧ w' = (W.alloc (.cells #[.int .i64 k] 39)).setCell t (.int .i64 k) := by
  have h6 := @run_callFunc_extern Tryz.prog 20 _ (fun args => ReflectliteValue.unpack (args.getD 0 (.tuple #[]))) Tryz.func20 (by kernel_rfl) (by kernel_rfl) (by kernel_rfl) (by kernel_rfl)
  have h7 := @run_callFunc_extern Tryz.prog 21 _ (ReflectliteValue.methodAny (ReflectliteValue.valueError "reflectlite.Value.Type" 0) (fun t _ _ _ => ReflectliteType.toType t)) Tryz.func21 (by kernel_rfl) (by kernel_rfl) (by kernel_rfl) (by kernel_rfl)
  have h8 := @run_callFunc_extern Tryz.prog 22 _ (ReflectliteValue.method (ReflectliteValue.valueError "reflectlite.Value.IsNil" 0) ReflectliteValue.isNil) Tryz.func22 (by kernel_rfl) (by kernel_rfl) (by kernel_rfl) (by kernel_rfl)
  have h27 := @run_callFunc_extern Tryz.prog 208 _ (ReflectliteType.abiMethod fun t => do pure (.int .u8 (← Rtype.kind t))) Tryz.func208 (by kernel_rfl) (by kernel_rfl) (by kernel_rfl) (by kernel_rfl)
  have h37 := @run_callFunc_extern Tryz.prog 219 _ (ReflectliteType.method ReflectliteType.elem) Tryz.func219 (by kernel_rfl) (by kernel_rfl) (by kernel_rfl) (by kernel_rfl)
  have h38 := @run_callFunc_extern Tryz.prog 220 _ (ReflectliteType.relation "Implements" ReflectliteType.implements_) Tryz.func220 (by kernel_rfl) (by kernel_rfl) (by kernel_rfl) (by kernel_rfl)
  have f6 := valueOfP
  have f7 := typeP
  have mK := methodKind
  have mE := methodElem
  have mI := methodImplements
  have k27 := kindP
  have k25 := kindF
  have e27 := elemP
  have i25 := implementsF
  have n8 := isNilP ⟨w.heap.size, 0, none⟩ t ((w.alloc (.cells #[.pointer (some t)] 41)).alloc (.cells #[hdl 41, .pointer (some ⟨w.heap.size, 0, none⟩), .int .u64 150] 67)) (by simp)
  have hlt : 0 < w.heap.size := World.block_lt_of_cell? w _ hg
  have hg2 : ((w.alloc (.cells #[.pointer (some t)] 41)).alloc (.cells #[hdl 41, .pointer (some ⟨w.heap.size, 0, none⟩), .int .u64 150] 67)).cell? ⟨0, 0, none⟩ = some (rtv 33) := by
    rw [World.cell?_alloc_lt _ _ ⟨0, 0, none⟩ (by simp), World.cell?_alloc_lt _ _ ⟨0, 0, none⟩ hlt]; exact hg
  have htl : t.block < w.heap.size := World.block_lt_of_cell? w _ ht0
  have Has := hidK (asIn_any k hv ⟨w.heap.size, 0, none⟩ t old ((w.alloc (.cells #[.pointer (some t)] 41)).alloc (.cells #[hdl 41, .pointer (some ⟨w.heap.size, 0, none⟩), .int .u64 150] 67))
    (by simp)
    (by rw [World.cell?_alloc_lt _ _ t (by simp; omega), World.cell?_alloc_lt _ _ t htl]; exact ht0)
    (by rw [World.frozen?_alloc_old _ _ t (by simp; omega), World.frozen?_alloc_old _ _ t (Nat.ne_of_lt htl)]; exact hf0))
  simp only [ptrV, rtv, hdl] at hg2 f7 e27 i25 f6 n8 k27 k25 Has
  obtain ⟨tt, y, rfl⟩ := hv.iface
  clear hv ht0 hf0 hg
  go_enter Tryz.func11, Tryz.ntmps11
  go_wp2_with fail
  refine Has.out.mono ?_
  rintro e w2 ⟨rfl, W, hW, rfl⟩
  have HW := hidK hW
  clear hW
  go_wp2_with fail
  go_ret
  exact ⟨rfl, W, (((Below.refl w.heap.size w).alloc (Nat.le_refl _) _).alloc (by simp) _).trans (HW.out.mono (by simp; omega)), rfl⟩
end Go.Proofs.YtlfcjcaofhcfnaaGreatDoor

namespace Go.Proofs.YtlfcjcaofhcfnaaGreatDoor
open Go.RowKit
set_option linter.unusedVariables false
set_option maxRecDepth 100000

/-- What Expand answers. -/
def ansF (r : Except Int (List UInt8)) : Ending := match r with
  | .ok s => .returned (.tuple #[.string (str s), .int .i64 0])
  | .error k => .returned (.tuple #[.string (str []), .int .i64 k])
set_option maxHeartbeats 4000000 in
theorem exp_any {w : World} {sv : Value} {vs : Vars} (hv : VarsIn w sv vs) (hm : NEnv w) (hs : ∀ p ∈ vs, p.2.length ≤ 2147483647) (hg : w.cell? ⟨0, 0, none⟩ = some (rtv 33))
    (l : List UInt8) (hl : l.length ≤ 2147483647) (res : Except Int (List UInt8)) (h : sayF vs 16 l = some res) :
    Calls Tryz.prog 5 #[.string (str l), sv] w fun e w' => e = ansF res ∧ Below w.heap.size w w' := by
  have HN := hidK (new_any hv)
  have HX : Hid (∀ (w1 : World) (xb : Nat), Below w.heap.size w w1 → XAll w1 xb vs → Calls Tryz.prog 10 #[.pointer (some ⟨xb, 0, none⟩), .string (str l), .int .i64 0] w1 fun e w' => Out res e ∧ Below w1.heap.size w1 w') := by
    intro w1 xb h1 h2
    exact say_any 16 (Nat.le_refl _) w1 xb vs ⟨h2, hm.below h1, hs⟩ l hl res h
  have HG := hidK hg
  obtain ⟨z, hz⟩ : ∃ z, str l = z := ⟨_, rfl⟩
  rw [hz] at HX ⊢
  clear hv hm hs hg h hl hz
  go_enter Tryz.func5, Tryz.ntmps5
  go_wp2_with fail
  refine HN.out.mono ?_
  rintro e w1 ⟨xb, rfl, hb1, hx1⟩
  have HE := hidK (HX.out w1 xb hb1 hx1)
  have HB1 := hidK hb1
  clear hb1 hx1 HN
  go_wp2_with fail
  refine HE.out.mono ?_
  cases res with
  | ok s =>
    rintro e w2 ⟨ho, hb2⟩
    have ho' : e = .returned (.tuple #[.string (str s), .nilIface]) := ho
    subst ho'
    have HB2 := hidK (HB1.out.trans (hb2.mono HB1.out.size))
    clear ho hb2
    have HA := hidK fun t w => as_nil t w
    obtain ⟨zs, hzs⟩ : ∃ zs, str s = zs := ⟨_, rfl⟩
    have HZ := hidK hzs
    rw [hzs]
    clear hzs
    go_wp2_with fail
    refine (HA.out _ _).mono ?_
    rintro e w3 ⟨rfl, rfl⟩
    go_wp2_with fail
    all_goals go_ret2
    all_goals exact ⟨by rw [← HZ.out]; rfl, HB2.out.alloc HB2.out.size _⟩
  | error k =>
    rintro e w2 ⟨⟨v, rfl, hv⟩, hb2⟩
    have hB2 := HB1.out.trans (hb2.mono HB1.out.size)
    have HA := hidK (as_any k hv ⟨w2.heap.size, 0, none⟩ (.int .i64 0) (w2.alloc (.cells #[.int .i64 0] 39))
      (by rw [World.cell?_alloc_lt _ _ ⟨0, 0, none⟩ (Nat.lt_of_lt_of_le (World.block_lt_of_cell? w _ HG.out) hB2.size)]; exact (hB2.cell (p := ⟨0, 0, none⟩) (World.block_lt_of_cell? w _ HG.out)).trans HG.out)
      (by rw [World.cell?_alloc_at _ _ _ _ rfl]; rfl) (by simp))
    have HB2 := hidK hB2
    clear hb2 hv hB2
    go_wp2_with fail
    refine HA.out.mono ?_
    rintro e w3 ⟨rfl, W, hW, rfl⟩
    have hk : ((W.alloc (.cells #[.int .i64 k] 39)).setCell ⟨w2.heap.size, 0, none⟩ (.int .i64 k)).cell? ⟨w2.heap.size, 0, none⟩ = some (.int .i64 k) := by
      have hlt : w2.heap.size < W.heap.size := by have := hW.size; simp at this; omega
      refine World.cell?_setCell_same (u := .int .i64 0) _ _ _ ?_
      rw [World.cell?_alloc_lt _ _ ⟨w2.heap.size, 0, none⟩ hlt, hW.cell (p := ⟨w2.heap.size, 0, none⟩) (by simp), World.cell?_alloc_at _ _ _ _ rfl]
      rfl
    have HW : Hid (Below w.heap.size w ((W.alloc (.cells #[.int .i64 k] 39)).setCell ⟨w2.heap.size, 0, none⟩ (.int .i64 k))) := by
      have h1 := HB2.out.alloc HB2.out.size (.cells #[.int .i64 0] 39)
      have h2 := h1.trans (hW.mono h1.size)
      exact (h2.alloc h2.size _).setCell HB2.out.size _
    obtain ⟨w4, hw4⟩ : ∃ w4, (W.alloc (.cells #[.int .i64 k] 39)).setCell ⟨w2.heap.size, 0, none⟩ (.int .i64 k) = w4 := ⟨_, rfl⟩
    rw [hw4] at hk HW ⊢
    clear hw4 hW HA
    go_wp2_with fail
    have hk2 : w4.drew.cell? ⟨w2.heap.size, 0, none⟩ = some (.int .i64 k) := hk
    go_region
    all_goals go_wp2
    all_goals go_ret2
    all_goals exact ⟨rfl, by first | exact HW.out | exact HW.out.drew⟩
end Go.Proofs.YtlfcjcaofhcfnaaGreatDoor
