/-
  Options: the document's scope of a name.
-/
import Derived.Test.YtgdkpmfdpfjdjaaGreatDoorOR1
namespace Go.Proofs.YtgdkpmfdpfjdjaaGreatDoor
open Go.RowKit
set_option linter.unusedVariables false
set_option maxRecDepth 100000

theorem docA_is (p : Nat) (r : Orow) : ∃ (kb lo hi : Int) (ad : Option Addr) (m : Nat), docA p r = .agg #[.string r.name, .int .i64 r.scope, .int .u8 kb, .int .i64 lo, .int .i64 hi, .slice ad m m, .string r.first] := by
  obtain ⟨kb, lo, hi, ad, m, h⟩ := docV_is p r
  exact ⟨kb, lo, hi, ad, m, by unfold docA; rw [h]⟩
set_option maxHeartbeats 1000000 in
theorem rScope_any (k : ByteArray) (w : World) : Calls Tryz.prog 15 #[.string k] w fun e w' => (∃ sc : Int, e = .returned (.int .i64 sc) ∧ ((∃ r ∈ rowsO, r.name = k ∧ sc = r.scope) ∨ (∀ r ∈ rowsO, r.name ≠ k) ∧ sc = 0)) ∧ Below w.heap.size w w' := by
  have HR := hidK (fun W => row1_any k W)
  go_enter Tryz.func15, Tryz.ntmps15
  go_wp2_with fail
  refine (HR.out _).mono ?_
  rintro e w1 ⟨(⟨i, hi, hn, b, hb, rfl, hd⟩ | ⟨hno, rfl⟩), hbw⟩
  · obtain ⟨kb, lo, hi', ad, m, hu⟩ := docA_is (wpO b i) rowsO[i]
    rw [hu]
    have HX : Hid (∃ r ∈ rowsO, r.name = k ∧ (rowsO[i]'hi).scope = r.scope) := ⟨_, List.getElem_mem hi, hn, rfl⟩
    have HB := hidK hbw
    obtain ⟨sc, hsc⟩ : ∃ x, (rowsO[i]'hi).scope = x := ⟨_, rfl⟩
    obtain ⟨nm, hnm⟩ : ∃ x, (rowsO[i]'hi).name = x := ⟨_, rfl⟩
    obtain ⟨fi, hfi⟩ : ∃ x, (rowsO[i]'hi).first = x := ⟨_, rfl⟩
    rw [hsc] at HX
    rw [hsc, hnm, hfi]
    obtain ⟨W2, hW2⟩ : ∃ W, w1.alloc (.cells #[.string nm, .int .i64 sc, .int .u8 kb, .int .i64 lo, .int .i64 hi', .slice ad m m, .string fi] 56) = W := ⟨_, rfl⟩
    have ha : W2.heap[w1.heap.size]? = some (.cells #[.string nm, .int .i64 sc, .int .u8 kb, .int .i64 lo, .int .i64 hi', .slice ad m m, .string fi] 56 (0, 0)) := by rw [← hW2]; exact heap_alloc_new w1 _
    have hb2 : Below w1.heap.size w1 W2 := by rw [← hW2]; exact (Below.refl _ _).alloc (Nat.le_refl _) _
    have c1 := cell_at ha 1
    have HB2 := hidK (hbw.trans (hb2.mono hbw.size))
    clear hu hn hb hd hbw hsc hnm hfi ha hb2
    go_wp2_with fail
    go_ret
    exact ⟨⟨sc, rfl, .inl HX.out⟩, HB2.out⟩
  · have HX := hidK hno
    have HB := hidK hbw
    clear hno hbw
    go_wp2_with fail
    go_ret
    exact ⟨⟨0, rfl, .inr ⟨HX.out, rfl⟩⟩, HB.out.alloc HB.out.size _⟩
end Go.Proofs.YtgdkpmfdpfjdjaaGreatDoor
