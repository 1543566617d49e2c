/-
  The walk of WireOne.
-/
import Derived.Test.YtlgkdnmhoboinaaGreatDoorWLf
import Derived.Deep.RegionHeld3
import Derived.Deep.RegionWith
import Derived.RegionTactic
namespace Go.Proofs.YtlgkdnmhoboinaaGreatDoor
open Go.RowKit
set_option linter.unusedVariables false

set_option maxRecDepth 20000 in
set_option maxHeartbeats 1000000 in
theorem text_empty (ad : Option Addr) (c : Nat) (w : World) (hE : Env w) :
    Calls Tryz.prog 9 #[.slice ad 0 c] w fun e w' => e = .returned (textOut (some [])) ∧ Below w.heap.size w w' := by
  have HD : Hid (Lib.IsBuilderF 44 5 w.heap.size w.heap.size (Lib.byteCells []) (w.alloc (.cells #[.pointer none, .slice none 0 0] 44))) := Lib.IsBuilderF.of (Lib.fresh_isBuilder _ _ w)
  have HB : Hid (Below w.heap.size w (w.alloc (.cells #[.pointer none, .slice none 0 0] 44))) := below1 _ _
  clear hE
  obtain ⟨W0, hW0⟩ : ∃ x, w.alloc (.cells #[.pointer none, .slice none 0 0] 44) = x := ⟨_, rfl⟩
  go_enter Tryz.func9, Tryz.ntmps9
  go_wp2
  rw [hW0] at HD HB
  go_loopw [11] (fun v wr => v = .int .i64 0 ∧ W0 = wr) (fun _ _ => 0)
  case atStart => exact ⟨rfl, rfl⟩
  case round =>
    obtain ⟨rfl, rfl⟩ := hrel
    go_wp2_with fail
    refine (Tryz.Builder_String_any_k _ _ [] _ HD.out HB.out.size).mono ?_
    rintro e w1 ⟨rfl, _, hb1, _⟩
    have HB1 : Hid (Below w.heap.size w w1) := HB.out.trans hb1
    clear hb1
    go_wp2
    go_ret2
    exact ⟨rfl, HB1.out⟩

/-- Text, of any list that is handed in. -/
theorem text_all (l : List Ev) (hfit : ∀ e ∈ l, e.Fits) (hm : l.length ≤ 1048576) (v : Value) (w : World) (hE : Env w) (h : EvArg w v l) :
    Calls Tryz.prog 9 #[v] w fun e w' => e = .returned (textOut (textS l)) ∧ Below w.heap.size w w' := by
  by_cases h0 : l.length = 0
  · obtain ⟨ad, c, rfl⟩ := h.len
    rw [h0, List.eq_nil_of_length_eq_zero h0]
    exact text_empty ad c w hE
  · rcases h with ⟨_, rfl⟩ | ⟨b, o, c, rfl, hb, hr⟩
    · exact absurd rfl h0
    · exact text_row l hfit hm b o c w hE hb hr (by omega)

/-- The last line of all. -/
theorem exit_enc : encS (Ev.zero 24) = some [37, 101, 120, 105, 116] := by
  have hw : writeS 24 (Ev.zero 24) = [37, 101, 120, 105, 116] := by
    unfold writeS
    rw [show fieldsOf 24 = [fReason] from rfl, List.map_cons, List.map_nil, show joinW [fReason.put (Ev.zero 24)] = fReason.put (Ev.zero 24) by simp [joinW, List.intercalate]]
    rfl
  have hr : readS 24 [37, 101, 120, 105, 116] = some (Ev.zero 24) := by
    unfold readS
    rw [if_pos ⟨[], rfl⟩]
    rfl
  unfold encS
  rw [show (Ev.zero 24).kind.toNat = 24 from rfl, hw, if_pos ⟨by decide, by decide, hr⟩]
theorem exit_text : textS [Ev.zero 24] = some [37, 101, 120, 105, 116, 10] := by
  simp only [textS, exit_enc, Option.map_some]
  rfl

theorem exit_row (W : World) : EvRow (W.alloc (.cells (Ev.zero 24).vals 28)) W.heap.size 0 [Ev.zero 24] := fun j u hu => by
  rw [cell_at (heap_alloc_new W _), Nat.zero_add, ← Array.getElem?_toList]
  have h : evCells [Ev.zero 24] = (Ev.zero 24).vals.toList := by unfold evCells; simp
  rw [h] at hu
  exact hu
theorem exit_fits : ∀ e ∈ [Ev.zero 24], e.Fits := fun e he => by
  rw [List.mem_singleton.1 he]
  exact fits_zero 24
theorem exit_call (W : World) (hE : Env W) : Calls Tryz.prog 9 #[.slice (some ⟨W.heap.size, 0, none⟩) 1 1] (W.alloc (.cells #[.int .i64 24, .int .i64 0, .int .i64 0, .int .i64 0, .int .i64 0, .int .i64 0, .int .i64 0, .int .i64 0, .int .i64 0, .string ⟨#[]⟩, .string ⟨#[]⟩, .string ⟨#[]⟩, .string ⟨#[]⟩, .bool false] 28)) fun e w' => e = .returned (.tuple #[.string ⟨#[37, 101, 120, 105, 116, 10]⟩, .int .i64 0]) ∧ Below W.heap.size W w' := by
  have hB : Below W.heap.size W (W.alloc (.cells (Ev.zero 24).vals 28)) := below1 _ _
  have h := text_all [Ev.zero 24] exit_fits (by decide) (.slice (some ⟨W.heap.size, 0, none⟩) 1 1) _ (hE.below hB) (.inr ⟨W.heap.size, 0, 1, rfl, by rw [size1]; omega, exit_row W⟩)
  rw [exit_text] at h
  exact h.mono fun e w' ⟨h1, h2⟩ => ⟨h1, below_step hB h2⟩

end Go.Proofs.YtlgkdnmhoboinaaGreatDoor
