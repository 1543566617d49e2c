/-
  Keys: characters in bytes: whole or not, and which.
-/
import Derived.Test.YtnehkokppobncaaDoorGE
import Derived.Shelf.Spec.DecodeRune
namespace Go.Proofs.YtnehkokppobncaaDoor
open Go.RowKit
set_option linter.unusedVariables false
set_option maxRecDepth 100000

def ren7 : Go.Shelf.Ren := ⟨fun | 32 => 40 | 49 => 51 | n => n, fun | 0 => 0 | 3 => 3 | 4 => 4 | 5 => 5 | 21 => 21 | 25 => 86 | 30 => 39 | 33 => 71 | 66 => 82 | 68 => 84 | 69 => 85 | n => n, fun | 2 => 3 | 3 => 4 | n => n⟩
theorem lays7 : Go.Proofs.Lays7.n32 Tryd.prog ren7 := {
  mixed := by kernel_rfl
  f32 := Tryd.func40.trans (congrArg some (by kernel_rfl))
  f49 := Tryd.func51.trans (congrArg some (by kernel_rfl))
  t0 := Tryd.underlying0
  a0 := Tryd.isAgg0
  z0 := Tryd.sizeOf0
  v0 := Tryd.zeroValue0
  i0 := by kernel_rfl
  t3 := Tryd.underlying3
  a3 := Tryd.isAgg3
  z3 := Tryd.sizeOf3
  v3 := Tryd.zeroValue3
  i3 := by kernel_rfl
  t4 := Tryd.underlying4
  a4 := Tryd.isAgg4
  z4 := Tryd.sizeOf4
  v4 := Tryd.zeroValue4
  i4 := by kernel_rfl
  t5 := Tryd.underlying5
  a5 := Tryd.isAgg5
  z5 := Tryd.sizeOf5
  v5 := Tryd.zeroValue5
  i5 := by kernel_rfl
  t21 := Tryd.underlying21
  a21 := Tryd.isAgg21
  z21 := Tryd.sizeOf21
  v21 := Tryd.zeroValue21
  i21 := by kernel_rfl
  t25 := Tryd.underlying86
  a25 := Tryd.isAgg86
  z25 := Tryd.sizeOf86
  v25 := Tryd.zeroValue86
  i25 := by kernel_rfl
  t30 := Tryd.underlying39
  a30 := Tryd.isAgg39
  z30 := Tryd.sizeOf39
  v30 := Tryd.zeroValue39
  i30 := by kernel_rfl
  t33 := Tryd.underlying71
  a33 := Tryd.isAgg71
  z33 := Tryd.sizeOf71
  v33 := Tryd.zeroValue71
  i33 := by kernel_rfl
  t66 := Tryd.underlying82
  a66 := Tryd.isAgg82
  z66 := Tryd.sizeOf82
  t68 := Tryd.underlying84
  a68 := Tryd.isAgg84
  z68 := Tryd.sizeOf84
  v68 := Tryd.zeroValue84
  i68 := by kernel_rfl
  t69 := Tryd.underlying85
  a69 := Tryd.isAgg85
  z69 := Tryd.sizeOf85
  v69 := Tryd.zeroValue85
  i69 := by kernel_rfl
  g2 := by kernel_rfl
  g3 := by kernel_rfl }
theorem decodeRune_any (l : List UInt8) (g o cap : Nat) {w : World} (hT : Tabs w) (hc : ∀ j (hj : j < l.length), w.cell? ⟨g, o + j, none⟩ = some (bv l[j])) :
    Calls Tryd.prog 40 #[.slice (some ⟨g, o, none⟩) l.length cap] w fun e w' => e = .returned (.tuple #[.int .i32 ((dec l).1 : Int), .int .i64 ((dec l).2 : Int)]) ∧ Below w.heap.size w w' := by
  refine Any7.utf8_DecodeRune lays7 (str l) g o cap w hT.u8 (fun j hj => ?_)
  have h1 : j < l.length := hj
  rw [hc j h1]
  have : (str l).get! j = l[j] := by
    show (l.toArray)[j]! = l[j]
    simp [h1]
  rw [this]
  rfl
end Go.Proofs.YtnehkokppobncaaDoor
