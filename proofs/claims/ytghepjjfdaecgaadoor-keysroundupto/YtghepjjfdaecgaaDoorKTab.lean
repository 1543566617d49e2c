/-
  Keys: the tables in memory.
-/
import Derived.Test.YtghepjjfdaecgaaDoorKPure
import Derived.Test.YtghepjjfdaecgaaDoorProg
import Derived.WalkKit
import Derived.Deep.MidRow
import Derived.Deep.LoopGhost
namespace Go.Proofs.YtghepjjfdaecgaaDoor
open Go.RowKit
set_option linter.unusedVariables false
set_option maxRecDepth 20000

theorem below_step {w a b : World} (h : Below w.heap.size w a) (k : Below a.heap.size a b) : Below w.heap.size w b := h.trans (k.mono h.size)
def Sp.vals (s : Sp) : List Value := [.string (str s.name), .string (str s.head), .string (str s.letter), .string (str s.number)]
def spCs : List Value := spT.flatMap Sp.vals
def prC (p : Int × List UInt8) : List Value := [.int .i64 p.1, .string (str p.2)]
def nmCs : List Value := nmT.flatMap prC
def mdCs : List Value := mdT.flatMap prC
def SpV (w : World) : Prop := w.rangeAt 0 0 spCs
def NmV (w : World) : Prop := w.rangeAt 2 0 nmCs
def MdV (w : World) : Prop := w.rangeAt 1 0 mdCs
theorem range_below {w w' : World} {g : Nat} {cs : List Value} (h : w.rangeAt g 0 cs) (hb : Below w.heap.size w w') : w'.rangeAt g 0 cs := fun j v hv => (hb.cell (p := ⟨g, 0 + j, none⟩) (World.block_lt_of_cell? w _ (h j v hv))).trans (h j v hv)
theorem sp_info : (Tryd.prog.info? 59).map (·.size) = some spCs.length := by kernel_rfl
theorem nm_info : (Tryd.prog.info? 84).map (·.size) = some nmCs.length := by kernel_rfl
theorem md_info : (Tryd.prog.info? 70).map (·.size) = some mdCs.length := by kernel_rfl
theorem sp_at : ∀ k : Fin 22, ∃ s, spT[k.val]? = some s ∧ ∀ W : World, (Instr.index 59 (.agg spCs.toArray) (.int .i64 (k.val : Int))).run Tryd.prog W = .ok (.agg #[.string (str s.name), .string (str s.head), .string (str s.letter), .string (str s.number)]) W := by
  intro k
  match k with
  | ⟨0, _⟩ => exact ⟨_, rfl, fun W => by kernel_rfl⟩
  | ⟨1, _⟩ => exact ⟨_, rfl, fun W => by kernel_rfl⟩
  | ⟨2, _⟩ => exact ⟨_, rfl, fun W => by kernel_rfl⟩
  | ⟨3, _⟩ => exact ⟨_, rfl, fun W => by kernel_rfl⟩
  | ⟨4, _⟩ => exact ⟨_, rfl, fun W => by kernel_rfl⟩
  | ⟨5, _⟩ => exact ⟨_, rfl, fun W => by kernel_rfl⟩
  | ⟨6, _⟩ => exact ⟨_, rfl, fun W => by kernel_rfl⟩
  | ⟨7, _⟩ => exact ⟨_, rfl, fun W => by kernel_rfl⟩
  | ⟨8, _⟩ => exact ⟨_, rfl, fun W => by kernel_rfl⟩
  | ⟨9, _⟩ => exact ⟨_, rfl, fun W => by kernel_rfl⟩
  | ⟨10, _⟩ => exact ⟨_, rfl, fun W => by kernel_rfl⟩
  | ⟨11, _⟩ => exact ⟨_, rfl, fun W => by kernel_rfl⟩
  | ⟨12, _⟩ => exact ⟨_, rfl, fun W => by kernel_rfl⟩
  | ⟨13, _⟩ => exact ⟨_, rfl, fun W => by kernel_rfl⟩
  | ⟨14, _⟩ => exact ⟨_, rfl, fun W => by kernel_rfl⟩
  | ⟨15, _⟩ => exact ⟨_, rfl, fun W => by kernel_rfl⟩
  | ⟨16, _⟩ => exact ⟨_, rfl, fun W => by kernel_rfl⟩
  | ⟨17, _⟩ => exact ⟨_, rfl, fun W => by kernel_rfl⟩
  | ⟨18, _⟩ => exact ⟨_, rfl, fun W => by kernel_rfl⟩
  | ⟨19, _⟩ => exact ⟨_, rfl, fun W => by kernel_rfl⟩
  | ⟨20, _⟩ => exact ⟨_, rfl, fun W => by kernel_rfl⟩
  | ⟨21, _⟩ => exact ⟨_, rfl, fun W => by kernel_rfl⟩
  | ⟨k + 22, h⟩ => exact absurd h (by omega)
theorem nm_at : ∀ k : Fin 6, ∃ a b, nmT[k.val]? = some (a, b) ∧ ∀ W : World, (Instr.index 84 (.agg nmCs.toArray) (.int .i64 (k.val : Int))).run Tryd.prog W = .ok (.agg #[.int .i64 a, .string (str b)]) W := by
  intro k
  match k with
  | ⟨0, _⟩ => exact ⟨_, _, rfl, fun W => by kernel_rfl⟩
  | ⟨1, _⟩ => exact ⟨_, _, rfl, fun W => by kernel_rfl⟩
  | ⟨2, _⟩ => exact ⟨_, _, rfl, fun W => by kernel_rfl⟩
  | ⟨3, _⟩ => exact ⟨_, _, rfl, fun W => by kernel_rfl⟩
  | ⟨4, _⟩ => exact ⟨_, _, rfl, fun W => by kernel_rfl⟩
  | ⟨5, _⟩ => exact ⟨_, _, rfl, fun W => by kernel_rfl⟩
  | ⟨k + 6, h⟩ => exact absurd h (by omega)
/-- The tables of utf8. -/
def Utf8Tab (w : World) : Prop :=
  (∀ c, c < 256 → w.cell? ⟨3, c, none⟩ = some (.int .u8 (Lib.firstT c))) ∧
  (∀ i, i < 16 → w.cell? ⟨4, 2 * i, none⟩ = some (.int .u8 (Lib.accLo i)) ∧ w.cell? ⟨4, 2 * i + 1, none⟩ = some (.int .u8 (Lib.accHi i)))
theorem Utf8Tab.below {w w' : World} (h : Utf8Tab w) (hb : Below w.heap.size w w') : Utf8Tab w' :=
  ⟨fun c hc => (hb.cell (World.block_lt_of_cell? w _ (h.1 c hc))).trans (h.1 c hc), fun i hi => ⟨(hb.cell (World.block_lt_of_cell? w _ (h.2 i hi).1)).trans (h.2 i hi).1, (hb.cell (World.block_lt_of_cell? w _ (h.2 i hi).2)).trans (h.2 i hi).2⟩⟩
/-- The tables. -/
structure Tabs (w : World) : Prop where
  sp : SpV w
  nm : NmV w
  md : MdV w
  u8 : Utf8Tab w
theorem Tabs.below {w w' : World} (h : Tabs w) (hb : Below w.heap.size w w') : Tabs w' := ⟨range_below h.sp hb, range_below h.nm hb, range_below h.md hb, h.u8.below hb⟩
end Go.Proofs.YtghepjjfdaecgaaDoor
