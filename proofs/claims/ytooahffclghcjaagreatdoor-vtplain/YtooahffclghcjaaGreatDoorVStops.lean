/-
  Tab stops.
-/
import Derived.Test.YtooahffclghcjaaGreatDoorMA
namespace Go.Proofs.YtooahffclghcjaaGreatDoor
open Go.RowKit
set_option linter.unusedVariables false
set_option maxRecDepth 100000

theorem infoBool : (Tryz.prog.info? 4).map (fun i => (i.zero, i.size, i.bytes)) = some (some (.bool false), 1, 1) := by kernel_rfl
theorem underBools : Tryz.prog.underlying 60 = some (.slice 4) := by kernel_rfl
def madeB (W : World) (n : Nat) : World := W.alloc (.cells (List.replicate n (.bool false)).toArray 4)
theorem madeB_run (W : World) (n : Nat) (hn : n ≤ 1000) : (Instr.makeSlice 60 (.int .i64 (n : Int)) (.int .i64 (n : Int))).run Tryz.prog W = .ok (.slice (some ⟨W.heap.size, 0, none⟩) n n) (madeB W n) := by
  obtain ⟨i, hi, hz, hs, hb⟩ := info_parts infoBool
  have h := run_make (P := Tryz.prog) W 60 4 i _ underBools hi hz .i64 .i64 (n : Int) (n : Int) (by omega) (Int.le_refl _) (by rw [hb]; omega) (by omega)
  rw [h, hs]
  rw [show ((n : Int)).toNat = n by omega, Nat.mul_one]
  unfold madeB
  rw [← made_rep]
  rfl

set_option maxHeartbeats 1000000 in
theorem eighthStops_any {w : World} {b : Nat} {s : Sc} (h : ScAt w b s) (n : Nat) (hn : n ≤ 1000) (hw : s.w = (n : Int)) : Calls Tryz.prog 27 #[.pointer (some ⟨b, 0, none⟩)] w fun x w' => x = .returned (.tuple #[]) ∧ ∃ T, w.heap.size ≤ T ∧ ScAt w' b { s with stops := .slice (some ⟨T, 0, none⟩) n n } ∧ But [b] w w' := by
  have H := hidK h
  have c0 := h.c0
  rw [hw] at c0
  have HW := hidK hw
  have hmk := madeB_run w n hn
  have h2 : (madeB w n).heap[b]? = some (.cells s.cells 62 (0, 0)) := alloc_at h _
  have HM2 : Hid (ScAt (madeB w n) b s) := h2
  have HT : Hid ((madeB w n).heap[w.heap.size]? = some (.cells (List.replicate n (.bool false)).toArray 4 (0, 0))) := heap_alloc_new w _
  have HBM : Hid (But [b] w (madeB w n)) := (But.refl _ _).alloc _
  have Hbl : Hid (b < w.heap.size) := h.lt
  obtain ⟨M, hM⟩ : ∃ M, madeB w n = M := ⟨_, rfl⟩
  rw [hM] at hmk HM2 HT HBM
  obtain ⟨T, hT⟩ : ∃ T, w.heap.size = T := ⟨_, rfl⟩
  rw [hT] at hmk HT Hbl
  have HTe := hidK hT
  have d42 := HM2.out.c42
  have e42 := HM2.out.free 42
  clear h h2 hw hM hT
  go_enter Tryz.func27, Tryz.ntmps27
  go_wp2_with fail
  go_loopw [2] (fun i wr => ∃ k : Nat, i = .int .i64 (k : Int) ∧ k ≤ n + 8 ∧ ScAt wr b { s with stops := .slice (some ⟨T, 0, none⟩) n n } ∧ But [b] w wr ∧ ∃ cs : Array Value, wr.heap[T]? = some (.cells cs 4 (0, 0)) ∧ cs.size = n) (fun i _ => n + 8 - (intOf i).toNat)
  case atStart =>
    refine ⟨8, rfl, by omega, .fin (put_at HM2.out 42 _) (by rfl), HBM.out.next _ _, _, put_other HT.out ?_ _ _, by simp⟩
    have := Hbl.out
    omega
  case round =>
    obtain ⟨k, rfl, hk, hs, hb, cs, hc, hz⟩ := hrel
    have HS := hidK hs
    have HBk := hidK hb
    have HC := hidK hc
    have d0 := hs.c0
    simp only [HW.out] at d0
    have d42 := hs.c42
    simp only at d42
    clear c0 hmk e42
    by_cases hlt : k < n
    · have hd := cell_atT hc k
      rw [Array.getElem?_eq_getElem (by omega)] at hd
      have he := free_atT hc k
      clear hs hb hc
      go_wp2_with fail
      go_roundw
      case rel =>
        refine ⟨k + 8, by go_num, by omega, put_other HS.out ?_ _ _, HBk.out.setCell (p := ⟨T, k, none⟩) (.inr ?_) _, _, put_at HC.out _ _, by simpa using hz⟩
        · have := Hbl.out
          omega
        · rw [HTe.out]; exact Nat.le_refl _
      case measure => simp [intOf]; omega
    · clear hs hb hc
      go_wp2_with fail
      go_end0
      exact ⟨rfl, T, by rw [HTe.out]; exact Nat.le_refl _, HS.out, HBk.out⟩
end Go.Proofs.YtooahffclghcjaaGreatDoor
