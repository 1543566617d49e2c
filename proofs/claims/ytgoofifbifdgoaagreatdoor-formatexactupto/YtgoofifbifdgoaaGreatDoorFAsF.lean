/-
  Formats: closed facts for errors.As at a fault.
-/
import Derived.Test.YtgoofifbifdgoaaGreatDoorFTrd
import Derived.LaidEql
import Derived.Stop.Asserts
import Derived.RowKitTokens
namespace Go.Proofs.YtgoofifbifdgoaaGreatDoor
open Go.RowKit Go.Extern.Stop Go.Stop Go.Extern
set_option linter.unusedVariables false
set_option maxRecDepth 100000

def hdl (t : Nat) : Value := .pointer (some ⟨9, t, none⟩)
def rtv (t : Nat) : Value := .iface 108 (.agg #[hdl t])
def ptrV (a : Addr) : Value := .agg #[hdl 49, .pointer (some a), .int .u64 150]
theorem valueOfP (t : Addr) (w : World) : (ReflectliteValue.unpack (.iface 49 (.pointer (some t)))).run Tryz.prog w
    = .ok (ptrV ⟨w.heap.size, 0, none⟩) (w.alloc (.cells #[.pointer (some t)] 49)) := by kernel_rfl
theorem typeP (a : Addr) (w : World) : (ReflectliteValue.methodAny (ReflectliteValue.valueError "reflectlite.Value.Type" 0) (fun t _ _ _ => ReflectliteType.toType t) #[ptrV a]).run Tryz.prog w
    = .ok (rtv 49) w := by kernel_rfl
theorem methodKind (h : Value) (w : World) : (Go.method 324 108 (.agg #[h]) "Kind").run Tryz.prog w = .ok (181, h) w := by kernel_rfl
theorem methodElem (h : Value) (w : World) : (Go.method 324 108 (.agg #[h]) "Elem").run Tryz.prog w = .ok (192, .agg #[h]) w := by kernel_rfl
theorem methodImplements (h : Value) (w : World) : (Go.method 324 108 (.agg #[h]) "Implements").run Tryz.prog w = .ok (193, .agg #[h]) w := by kernel_rfl
theorem methodAssignableTo (h : Value) (w : World) : (Go.method 324 108 (.agg #[h]) "AssignableTo").run Tryz.prog w = .ok (190, .agg #[h]) w := by kernel_rfl
theorem kindP (w : World) : ((ReflectliteType.abiMethod fun t => (fun a : Nat => Value.int IntKind.u8 (a : Int)) <$> Rtype.kind t) #[hdl 49]).run Tryz.prog w = .ok (.int .u8 22) w := by kernel_rfl
theorem kindF (w : World) : ((ReflectliteType.abiMethod fun t => (fun a : Nat => Value.int IntKind.u8 (a : Int)) <$> Rtype.kind t) #[hdl 47]).run Tryz.prog w = .ok (.int .u8 25) w := by kernel_rfl
theorem elemP (w : World) : (ReflectliteType.method ReflectliteType.elem #[.agg #[hdl 49]]).run Tryz.prog w = .ok (rtv 47) w := by kernel_rfl
theorem implementsF (w : World) : (ReflectliteType.relation "Implements" ReflectliteType.implements_ #[.agg #[hdl 47], rtv 41]).run Tryz.prog w = .ok (.bool true) w := by kernel_rfl
theorem typeOfF (v : Value) (w : World) : (ReflectliteType.typeOf #[.iface 47 v]).run Tryz.prog w = .ok (rtv 47) w := by kernel_rfl
theorem typeOfW (v : Value) (w : World) : (ReflectliteType.typeOf #[.iface 141 v]).run Tryz.prog w = .ok (rtv 141) w := by kernel_rfl
theorem assignableF (w : World) : (ReflectliteType.relation "AssignableTo" ReflectliteType.assignableTo #[.agg #[hdl 47], rtv 47]).run Tryz.prog w = .ok (.bool true) w := by kernel_rfl
theorem assignableW (w : World) : (ReflectliteType.relation "AssignableTo" ReflectliteType.assignableTo #[.agg #[hdl 141], rtv 47]).run Tryz.prog w = .ok (.bool false) w := by kernel_rfl
def fltV (a : Addr) : Value := .agg #[hdl 47, .pointer (some a), .int .u64 153]
def fltA (a : Addr) : Value := .agg #[hdl 47, .pointer (some a), .int .u64 409]
theorem valueOfF (k : Int) (w : World) : (ReflectliteValue.unpack (.iface 47 (.agg #[.int .i64 k]))).run Tryz.prog w
    = .ok (fltV ⟨w.heap.size, 0, none⟩) (w.alloc (.cells #[.int .i64 k] 47)) := by kernel_rfl
theorem partsP (a : Addr) (w : World) : (ReflectliteValue.parts (ptrV a)).run Tryz.prog w = .ok (some (49, a, 150)) w := by kernel_rfl
theorem partsFV (a : Addr) (w : World) : (ReflectliteValue.parts (fltV a)).run Tryz.prog w = .ok (some (47, a, 153)) w := by kernel_rfl
theorem partsFA (a : Addr) (w : World) : (ReflectliteValue.parts (fltA a)).run Tryz.prog w = .ok (some (47, a, 409)) w := by kernel_rfl
theorem elemOfP (w : World) : (Rtype.elem? 49).run Tryz.prog w = .ok (some 47) w := by kernel_rfl
theorem mkF (p : Addr) (w : World) : (ReflectliteValue.mk 47 p ReflectliteValue.flagAddr).run Tryz.prog w = .ok (fltA p) w := by kernel_rfl
theorem directF (w : World) : (Rtype.directlyAssignable 47 47).run Tryz.prog w = .ok true w := by kernel_rfl
end Go.Proofs.YtgoofifbifdgoaaGreatDoor
