/-
  Keys: the tables in memory.
  Keys: the name of a code.
-/
import Derived.Test.YtgdkpmfdpfjdjaaGreatDoorKPure
import Derived.Test.YtgdkpmfdpfjdjaaGreatDoorProg
import Derived.Test.YtgdkpmfdpfjdjaaGreatDoorHB
import Derived.WalkKit
import Derived.Deep.MidRow
import Derived.Deep.LoopGhost
import Derived.Laws.Cover4
import Derived.Laws.IdiomStrings
namespace Go.Proofs.YtgdkpmfdpfjdjaaGreatDoor
open Go.RowKit
set_option linter.unusedVariables false
set_option maxRecDepth 20000

theorem below_step {w a b : World} (h : Below w.heap.size w a) (k : Below a.heap.size a b) : Below w.heap.size w b := h.trans (k.mono h.size)
def Sp.vals (s : Sp) : List Value := [.string (str s.name), .string (str s.head), .string (str s.letter), .string (str s.number)]
def spCs : List Value := spT.flatMap Sp.vals
def prC (p : Int × List UInt8) : List Value := [.int .i64 p.1, .string (str p.2)]
def nmCs : List Value := nmT.flatMap prC
def mdCs : List Value := mdT.flatMap prC
def SpV (w : World) : Prop := w.rangeAt 1 0 spCs
def NmV (w : World) : Prop := w.rangeAt 2 0 nmCs
def MdV (w : World) : Prop := w.rangeAt 0 0 mdCs
theorem range_below {w w' : World} {g : Nat} {cs : List Value} (h : w.rangeAt g 0 cs) (hb : Below w.heap.size w w') : w'.rangeAt g 0 cs := fun j v hv => (hb.cell (p := ⟨g, 0 + j, none⟩) (World.block_lt_of_cell? w _ (h j v hv))).trans (h j v hv)
theorem sp_info : (Tryz.prog.info? 166).map (·.size) = some spCs.length := by kernel_rfl
theorem nm_info : (Tryz.prog.info? 168).map (·.size) = some nmCs.length := by kernel_rfl
theorem md_info : (Tryz.prog.info? 144).map (·.size) = some mdCs.length := by kernel_rfl
theorem sp_at : ∀ k : Fin 22, ∃ s, spT[k.val]? = some s ∧ ∀ W : World, (Instr.index 166 (.agg spCs.toArray) (.int .i64 (k.val : Int))).run Tryz.prog W = .ok (.agg #[.string (str s.name), .string (str s.head), .string (str s.letter), .string (str s.number)]) W := by
  intro k
  match k with
  | ⟨0, _⟩ => exact ⟨_, rfl, fun W => by kernel_rfl⟩
  | ⟨1, _⟩ => exact ⟨_, rfl, fun W => by kernel_rfl⟩
  | ⟨2, _⟩ => exact ⟨_, rfl, fun W => by kernel_rfl⟩
  | ⟨3, _⟩ => exact ⟨_, rfl, fun W => by kernel_rfl⟩
  | ⟨4, _⟩ => exact ⟨_, rfl, fun W => by kernel_rfl⟩
  | ⟨5, _⟩ => exact ⟨_, rfl, fun W => by kernel_rfl⟩
  | ⟨6, _⟩ => exact ⟨_, rfl, fun W => by kernel_rfl⟩
  | ⟨7, _⟩ => exact ⟨_, rfl, fun W => by kernel_rfl⟩
  | ⟨8, _⟩ => exact ⟨_, rfl, fun W => by kernel_rfl⟩
  | ⟨9, _⟩ => exact ⟨_, rfl, fun W => by kernel_rfl⟩
  | ⟨10, _⟩ => exact ⟨_, rfl, fun W => by kernel_rfl⟩
  | ⟨11, _⟩ => exact ⟨_, rfl, fun W => by kernel_rfl⟩
  | ⟨12, _⟩ => exact ⟨_, rfl, fun W => by kernel_rfl⟩
  | ⟨13, _⟩ => exact ⟨_, rfl, fun W => by kernel_rfl⟩
  | ⟨14, _⟩ => exact ⟨_, rfl, fun W => by kernel_rfl⟩
  | ⟨15, _⟩ => exact ⟨_, rfl, fun W => by kernel_rfl⟩
  | ⟨16, _⟩ => exact ⟨_, rfl, fun W => by kernel_rfl⟩
  | ⟨17, _⟩ => exact ⟨_, rfl, fun W => by kernel_rfl⟩
  | ⟨18, _⟩ => exact ⟨_, rfl, fun W => by kernel_rfl⟩
  | ⟨19, _⟩ => exact ⟨_, rfl, fun W => by kernel_rfl⟩
  | ⟨20, _⟩ => exact ⟨_, rfl, fun W => by kernel_rfl⟩
  | ⟨21, _⟩ => exact ⟨_, rfl, fun W => by kernel_rfl⟩
  | ⟨k + 22, h⟩ => exact absurd h (by omega)
theorem nm_at : ∀ k : Fin 6, ∃ a b, nmT[k.val]? = some (a, b) ∧ ∀ W : World, (Instr.index 168 (.agg nmCs.toArray) (.int .i64 (k.val : Int))).run Tryz.prog W = .ok (.agg #[.int .i64 a, .string (str b)]) W := by
  intro k
  match k with
  | ⟨0, _⟩ => exact ⟨_, _, rfl, fun W => by kernel_rfl⟩
  | ⟨1, _⟩ => exact ⟨_, _, rfl, fun W => by kernel_rfl⟩
  | ⟨2, _⟩ => exact ⟨_, _, rfl, fun W => by kernel_rfl⟩
  | ⟨3, _⟩ => exact ⟨_, _, rfl, fun W => by kernel_rfl⟩
  | ⟨4, _⟩ => exact ⟨_, _, rfl, fun W => by kernel_rfl⟩
  | ⟨5, _⟩ => exact ⟨_, _, rfl, fun W => by kernel_rfl⟩
  | ⟨k + 6, h⟩ => exact absurd h (by omega)
/-- The tables of utf8. -/
def Utf8Tab (w : World) : Prop :=
  (∀ c, c < 256 → w.cell? ⟨5, c, none⟩ = some (.int .u8 (Lib.firstT c))) ∧
  (∀ i, i < 16 → w.cell? ⟨6, 2 * i, none⟩ = some (.int .u8 (Lib.accLo i)) ∧ w.cell? ⟨6, 2 * i + 1, none⟩ = some (.int .u8 (Lib.accHi i)))
theorem Utf8Tab.below {w w' : World} (h : Utf8Tab w) (hb : Below w.heap.size w w') : Utf8Tab w' :=
  ⟨fun c hc => (hb.cell (World.block_lt_of_cell? w _ (h.1 c hc))).trans (h.1 c hc), fun i hi => ⟨(hb.cell (World.block_lt_of_cell? w _ (h.2 i hi).1)).trans (h.2 i hi).1, (hb.cell (World.block_lt_of_cell? w _ (h.2 i hi).2)).trans (h.2 i hi).2⟩⟩
/-- The tables. -/
structure Tabs (w : World) : Prop where
  sp : SpV w
  nm : NmV w
  md : MdV w
  u8 : Utf8Tab w
theorem Tabs.below {w w' : World} (h : Tabs w) (hb : Below w.heap.size w w') : Tabs w' := ⟨range_below h.sp hb, range_below h.nm hb, range_below h.md hb, h.u8.below hb⟩
end Go.Proofs.YtgdkpmfdpfjdjaaGreatDoor

namespace Go.Proofs.YtgdkpmfdpfjdjaaGreatDoor
open Go.RowKit
set_option linter.unusedVariables false
set_option maxRecDepth 100000

theorem SpV.at {w : World} (h : SpV w) {k : Nat} {s : Sp} (hk : spT[k]? = some s) :
    w.cell? ⟨1, k * 4, none⟩ = some (.string (str s.name)) ∧ w.cell? ⟨1, k * 4 + 1, none⟩ = some (.string (str s.head)) ∧
    w.cell? ⟨1, k * 4 + 2, none⟩ = some (.string (str s.letter)) ∧ w.cell? ⟨1, k * 4 + 3, none⟩ = some (.string (str s.number)) := by
  have hlt : k < 22 := by have := (List.getElem?_eq_some_iff.1 hk).1; rw [spT_len] at this; exact this
  have e : ∀ j v, j < 4 → s.vals[j]? = some v → spCs[k * 4 + j]? = some v := by
    intro j v hj hv
    have hall : ∀ k : Fin 22, ∀ j : Fin 4, spCs[k.val * 4 + j.val]? = (spT[k.val]?).bind (fun s => s.vals[j.val]?) := by
      intro k j
      obtain ⟨k, hk⟩ := k
      obtain ⟨j, hj⟩ := j
      rcases (by omega : j = 0 ∨ j = 1 ∨ j = 2 ∨ j = 3) with h | h | h | h <;> subst h <;>
        (rcases (by omega : k = 0 ∨ k = 1 ∨ k = 2 ∨ k = 3 ∨ k = 4 ∨ k = 5 ∨ k = 6 ∨ k = 7 ∨ k = 8 ∨ k = 9 ∨ k = 10 ∨ k = 11 ∨ k = 12 ∨ k = 13 ∨ k = 14 ∨ k = 15 ∨ k = 16 ∨ k = 17 ∨ k = 18 ∨ k = 19 ∨ k = 20 ∨ k = 21) with h | h | h | h | h | h | h | h | h | h | h | h | h | h | h | h | h | h | h | h | h | h <;> subst h <;> rfl)
    have := hall ⟨k, hlt⟩ ⟨j, hj⟩
    rw [this, hk]
    exact hv
  have g : ∀ j v, spCs[k * 4 + j]? = some v → w.cell? ⟨1, k * 4 + j, none⟩ = some v := fun j v hv => by have := h (k * 4 + j) v hv; rwa [Nat.zero_add] at this
  exact ⟨g 0 _ (e 0 _ (by omega) rfl), g 1 _ (e 1 _ (by omega) rfl), g 2 _ (e 2 _ (by omega) rfl), g 3 _ (e 3 _ (by omega) rfl)⟩
theorem byte_of (z : Int) (n : Nat) (h : z.toNat = n) : UInt8.ofNat n = z.toNat.toUInt8 := by rw [h]
theorem encode_eq (r : Nat) : Utf8.encode (r : Int) = ⟨(Lib.encodeRune (r : Int)).toArray⟩ := by
  unfold Utf8.encode Lib.encodeRune Lib.encodeRuneZ Utf8.valid Utf8.runeError
  by_cases hv : ((decide (0 ≤ (r : Int)) && decide ((r : Int) < 55296)) || (decide (57344 ≤ (r : Int)) && decide ((r : Int) ≤ 1114111))) = true
  · have hv2 : (r : Int) < 55296 ∨ (57344 ≤ (r : Int) ∧ (r : Int) ≤ 1114111) := by simp at hv; omega
    simp only [hv, if_true, Int.toNat_natCast]
    by_cases h1 : (r : Int) ≤ 127
    · rw [if_pos (by omega), if_pos (by omega)]
      simp
    · by_cases h2 : (r : Int) ≤ 2047
      · rw [if_neg (by omega), if_pos (by omega), if_neg (by omega), if_pos (by omega)]
        simp only [List.map_cons, List.map_nil]
        rw [byte_of (192 + (r : Int) / 64) (192 + r / 64) (by omega), byte_of (128 + (r : Int) % 64) (128 + r % 64) (by omega)]
      · by_cases h3 : (r : Int) ≤ 65535
        · rw [if_neg (by omega), if_neg (by omega), if_pos (by omega), if_neg (by omega), if_neg (by omega), if_pos (by omega)]
          simp only [List.map_cons, List.map_nil]
          rw [byte_of (224 + (r : Int) / 4096) (224 + r / 4096) (by omega), byte_of (128 + (r : Int) / 64 % 64) (128 + r / 64 % 64) (by omega), byte_of (128 + (r : Int) % 64) (128 + r % 64) (by omega)]
        · rw [if_neg (by omega), if_neg (by omega), if_neg (by omega), if_neg (by omega), if_neg (by omega), if_neg (by omega), if_pos (by omega)]
          simp only [List.map_cons, List.map_nil]
          rw [byte_of (240 + (r : Int) / 262144) (240 + r / 262144) (by omega), byte_of (128 + (r : Int) / 4096 % 64) (128 + r / 4096 % 64) (by omega), byte_of (128 + (r : Int) / 64 % 64) (128 + r / 64 % 64) (by omega), byte_of (128 + (r : Int) % 64) (128 + r % 64) (by omega)]
  · have hv2 : ¬ ((r : Int) < 55296 ∨ (57344 ≤ (r : Int) ∧ (r : Int) ≤ 1114111)) := by simp at hv; omega
    simp only [hv, Bool.false_eq_true, if_false]
    rw [if_neg (by omega : ¬ 65533 < 128), if_neg (by omega : ¬ 65533 < 2048), if_pos (by omega : 65533 < 65536)]
    rw [if_neg (by omega), if_neg (by omega), if_neg (by omega), if_neg (by omega)]
    rfl
theorem enc_eq {c : Int} (h0 : 0 ≤ c) : Utf8.encode c = str (Lib.encodeRune c) := by
  obtain ⟨n, rfl⟩ := Int.eq_ofNat_of_zero_le h0
  exact encode_eq n
theorem spc_at {c : Int} (h : spcB c = true) : ∃ (k : Nat) (s : Sp), c = 16777217 + (k : Int) ∧ k < 22 ∧ spT[k]? = some s ∧ spT.getD (c - 16777217).toNat ⟨[], [], [], []⟩ = s := by
  have hb : 16777217 ≤ c ∧ c ≤ 16777238 := by simpa [spcB] using h
  refine ⟨(c - 16777217).toNat, _, by omega, by omega, List.getElem?_eq_getElem (by rw [spT_len]; omega), ?_⟩
  rw [List.getD_eq_getElem?_getD, List.getElem?_eq_getElem (by rw [spT_len]; omega)]
  rfl
def nmF (c : Int) : Option (List UInt8) := (nmT.find? fun p => decide (p.1 = c)).map (·.2)
theorem nm_yes {e : Int} {k : Nat} {t : List UInt8} (h : nmT[k]? = some (e, t)) (hno : ∀ (j : Nat) p, j < k → nmT[j]? = some p → p.1 ≠ e) : nmF e = some t := by
  unfold nmF
  have hk := (List.getElem?_eq_some_iff.1 h).1
  have h2 := (List.getElem?_eq_some_iff.1 h).2
  have : nmT.find? (fun p => decide (p.1 = e)) = some (e, t) := by
    rw [List.find?_eq_some_iff_getElem]
    refine ⟨by simp, k, hk, h2, fun j hj => ?_⟩
    have := hno j _ hj (List.getElem?_eq_getElem (by omega))
    simpa using this
  rw [this]
  rfl
theorem nm_no {e : Int} (hno : ∀ (j : Nat) p, nmT[j]? = some p → p.1 ≠ e) : nmF e = none := by
  unfold nmF
  have : nmT.find? (fun p => decide (p.1 = e)) = none := by
    rw [List.find?_eq_none]
    intro p hp
    obtain ⟨j, hj, e2⟩ := List.getElem_of_mem hp
    have := hno j p (by rw [List.getElem?_eq_getElem hj, e2])
    simpa using this
  rw [this]
  rfl
theorem nm_len : nmT.length = 6 := rfl
theorem bare_of {c : Int} (hc : spcB c = false) : bareF c = (nmF c).getD (Lib.encodeRune c) := by
  unfold bareF nmF
  rw [if_neg (by simp [hc])]
  cases nmT.find? (fun p => decide (p.1 = c)) <;> rfl
end Go.Proofs.YtgdkpmfdpfjdjaaGreatDoor
