/-
  Formats: errors.as, through what a fault was found in.
-/
import Derived.Test.YtgoofifbifdgoaaGreatDoorFAs
namespace Go.Proofs.YtgoofifbifdgoaaGreatDoor
open Go.RowKit Go.Extern.Stop Go.Stop Go.Extern
set_option linter.unusedVariables false
set_option maxRecDepth 100000

theorem noAsW (v : Value) (xT : TypeId) (w : World) : (Instr.typeAssert (.iface 141 v) xT 113 true).run Tryz.prog w = .ok (.tuple #[.nilIface, .bool false]) w :=
  run_typeAssert_lacksB Tryz.underlying113 (by kernel_rfl) (by kernel_rfl) v xT w
theorem hasUnW (v : Value) (xT : TypeId) (w : World) : (Instr.typeAssert (.iface 141 v) xT 116 true).run Tryz.prog w = .ok (.tuple #[.iface 141 v, .bool true]) w :=
  run_typeAssert_hasB Tryz.underlying116 (by kernel_rfl) v xT w
theorem methodUnwrap (v : Value) (w : World) : (Go.method 324 141 v "Unwrap").run Tryz.prog w = .ok (201, v) w := by kernel_rfl
theorem unwrap_any (s c : Value) (w : World) : Calls Tryz.prog 201 #[.agg #[s, c]] w fun e w' => e = .returned c ∧ w' = w.alloc (.cells #[s, c] 141) := by
  go_enter Tryz.func201, Tryz.ntmps201
  go_wp2
  go_ret
  exact ⟨rfl, rfl⟩
theorem cause_less (s v : Value) (t : TypeId) : SizeOf.sizeOf v < SizeOf.sizeOf (Value.iface t (.agg #[s, v])) := by
  simp
  omega
set_option maxHeartbeats 4000000 in
theorem asIn_any (k : Int) {v : Value} (hv : ErrV v k) (a t : Addr) (old : Value) (w : World) (ha : w.cell? a = some (.pointer (some t))) (ht0 : w.cell? t = some old) (hf0 : w.frozen? t = false) :
    Calls Tryz.prog 35 #[v, .iface 49 (.pointer (some t)), ptrV a, rtv 47] w fun ev w' => ev = .returned (.bool true) ∧ ∃ W, Below w.heap.size w W ∧ w' = (W.alloc (.cells #[.int .i64 k] 47)).setCell t (.int .i64 k) := by
  have h6 := @run_callFunc_extern Tryz.prog 32 _ (fun args => ReflectliteValue.unpack (args.getD 0 (.tuple #[]))) Tryz.func32 (by kernel_rfl) (by kernel_rfl) (by kernel_rfl) (by kernel_rfl)
  have h10 := @run_callFunc_extern Tryz.prog 80 _ ReflectliteType.typeOf Tryz.func80 (by kernel_rfl) (by kernel_rfl) (by kernel_rfl) (by kernel_rfl)
  have h35 := @run_callFunc_extern Tryz.prog 190 _ (ReflectliteType.relation "AssignableTo" ReflectliteType.assignableTo) Tryz.func190 (by kernel_rfl) (by kernel_rfl) (by kernel_rfl) (by kernel_rfl)
  have h11 := @run_callFunc_extern Tryz.prog 81 _ (ReflectliteValue.method (ReflectliteValue.valueError "reflectlite.Value.Elem" 0) ReflectliteValue.elem) Tryz.func81 (by kernel_rfl) (by kernel_rfl) (by kernel_rfl) (by kernel_rfl)
  have h12 := @run_callFunc_extern Tryz.prog 82 _ ReflectliteValue.set Tryz.func82 (by kernel_rfl) (by kernel_rfl) (by kernel_rfl) (by kernel_rfl)
  have tO := typeOfF
  have tW := typeOfW
  have mA := methodAssignableTo
  have mU := methodUnwrap
  have aF := assignableF
  have aW := assignableW
  have vF := valueOfF
  have nA := noAsW
  have hU := hasUnW
  have hal : a.block < w.heap.size := World.block_lt_of_cell? w _ ha
  have htl : t.block < w.heap.size := World.block_lt_of_cell? w _ ht0
  have Hel : Hid (∀ W, Below w.heap.size w W → _) := fun W (hW : Below w.heap.size w W) => elemVP a t W ((hW.cell hal).trans ha)
  have Hst : Hid (∀ W, Below w.heap.size w W → _) := fun W (hW : Below w.heap.size w W) => setF t ⟨W.heap.size, 0, none⟩ k old (W.alloc (.cells #[.int .i64 k] 47))
    (by rw [World.cell?_alloc_at _ _ _ _ rfl]; rfl)
    (by rw [World.cell?_alloc_lt _ _ t (Nat.lt_of_lt_of_le htl hW.size)]; exact (hW.cell htl).trans ht0)
    (by rw [World.frozen?_alloc_old _ _ t (Nat.ne_of_lt (Nat.lt_of_lt_of_le htl hW.size))]; exact (hW.frozen htl).trans hf0)
  simp only [fltV, ptrV, rtv, hdl] at vF tO tW aF aW ⊢
  have HV := hidK hv
  clear hv ha ht0 hf0
  go_enter Tryz.func35, Tryz.ntmps35
  go_wp2_with fail
  go_loopw [0] (fun s0 wx => Hid (Below (w.heap.size + 1) (w.alloc (.cells #[.pointer (some ⟨9, 49, none⟩), .pointer (some a), .int .u64 150] 77)) wx) ∧ Hid (ErrV s0 k)) (fun s0 _ => SizeOf.sizeOf s0)
  case atStart => exact ⟨Below.refl _ _, HV.out⟩
  case round =>
    obtain ⟨HB, HE⟩ := hrel
    cases HE.out with
    | fault =>
      have hB : Below w.heap.size w wr := ((Below.refl _ _).alloc (Nat.le_refl _) _).trans (HB.out.mono (Nat.le_succ _))
      have el := Hel.out wr hB
      have st := Hst.out wr hB
      have c0 : wr.cell? ⟨w.heap.size, 0, none⟩ = some (.pointer (some ⟨9, 49, none⟩)) := (HB.out.cell (p := ⟨w.heap.size, 0, none⟩) (Nat.lt_succ_self _)).trans (by rw [World.cell?_alloc_at _ _ _ _ rfl]; rfl)
      have c1 : wr.cell? ⟨w.heap.size, 1, none⟩ = some (.pointer (some a)) := (HB.out.cell (p := ⟨w.heap.size, 1, none⟩) (Nat.lt_succ_self _)).trans (by rw [World.cell?_alloc_at _ _ _ _ rfl]; rfl)
      have c2 : wr.cell? ⟨w.heap.size, 2, none⟩ = some (.int .u64 150) := (HB.out.cell (p := ⟨w.heap.size, 2, none⟩) (Nat.lt_succ_self _)).trans (by rw [World.cell?_alloc_at _ _ _ _ rfl]; rfl)
      have hB := hidK hB
      simp only [fltA, fltV, ptrV, hdl] at el st
      go_wp2
      go_ret
      exact ⟨rfl, _, hB.out, rfl⟩
    | within s c _ hc =>
      obtain ⟨tt, y, rfl⟩ := hc.iface
      have HC := hidK hc
      clear hc HE
      go_wp2
      go_roundw
      case rel => exact ⟨HB.out.alloc (by have := HB.out.size; simpa using this) _, HC.out⟩
      case measure => exact cause_less _ _ _
end Go.Proofs.YtgoofifbifdgoaaGreatDoor
