/-
  The walks of octal.codeOf, octal.appendCode, octal.mustEscape, mullionref01.must.
-/
import Derived.Test.YtmgljpiacpimcaaDoorRows
import Derived.Test.YtmgljpiacpimcaaDoorPlain
import Derived.WalkKit
import Derived.RegionTactic
import Derived.Deep.DrawnRows
namespace Go.Proofs.YtmgljpiacpimcaaDoor
open Go.RowKit
set_option linter.unusedVariables false
attribute [local go_sem ↓] Go.wp_at_zero Go.wp_at_succ

theorem and7 : ∀ n : Fin 256, bits BinOp.and IntKind.u8 ((n.val : Nat) : Int) 7 = ((n.val : Nat) : Int) % 8 := by decide +kernel
theorem and7' (n : Nat) (h : n < 256) : bits BinOp.and IntKind.u8 (n : Int) 7 = (n : Int) % 8 := and7 ⟨n, h⟩

theorem info5 : (Tryd.prog.info? 5).map (fun i => (i.zero, i.size, i.bytes)) = some (some (.int .u8 0), 1, 1) := by kernel_rfl

theorem code_cells (w : World) (b : UInt8) (t : TypeId) : ∀ j (hj : j < (code b).length), (w.alloc (.cells #[.int .u8 92, .int .u8 (d1 b).toNat, .int .u8 (d2 b).toNat, .int .u8 (d3 b).toNat] t)).cell? ((⟨w.heap.size, 0, none⟩ : Addr).add j) = some (bv (code b)[j]) := by
  intro j hj
  rw [show (⟨w.heap.size, 0, none⟩ : Addr).add j = ⟨w.heap.size, j, none⟩ by unfold Addr.add; split <;> simp_all, World.cell?_alloc_mark]
  match j, hj with
  | 0, _ => rfl
  | 1, _ => rfl
  | 2, _ => rfl
  | 3, _ => rfl

end Go.Proofs.YtmgljpiacpimcaaDoor
