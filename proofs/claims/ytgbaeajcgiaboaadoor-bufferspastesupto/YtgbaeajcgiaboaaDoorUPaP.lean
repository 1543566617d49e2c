/-
  Buffers: Paste, the program's; the law of every Paste.
-/
import Derived.Test.YtgbaeajcgiaboaaDoorUPst
import Derived.Test.YtgbaeajcgiaboaaDoorUFre
import Derived.Test.YtgbaeajcgiaboaaDoorUSam
namespace Go.Proofs.YtgbaeajcgiaboaaDoor
open Go.RowKit
set_option linter.unusedVariables false
set_option maxRecDepth 100000

/-- The cell that the search for a longer text asks. -/
def MaxC (w : World) : Prop := ∃ m, w.cell? ⟨0, 0, none⟩ = some (.int .i64 m)
theorem MaxC.below {w w' : World} (h : MaxC w) (hb : Below w.heap.size w w') : MaxC w' := by
  obtain ⟨m, hm⟩ := h
  exact ⟨m, (hb.cell (World.block_lt_of_cell? w _ hm)).trans hm⟩
theorem dataL (s : ByteArray) : s.data.toList.length = s.size := by rw [Array.length_toList]; rfl
theorem join_len (x l : List UInt8) (hx : x.length ≤ 1048576) (hl : l.length ≤ 1048576) : (joinL x l).length ≤ 1099512676352 := by
  have h1 := one_len x l
  have h2 := nls_le l
  have h3 := Nat.mul_le_mul (Nat.le_trans h2 hl) hx
  have h4 : 1048576 * 1048576 = 1099511627776 := by decide
  unfold joinL
  omega
theorem joined_any (t x : ByteArray) (w : World) (hm : MaxC w) (ht : t.size ≤ 1048576) (hx : x.size ≤ 1048576) :
    Calls Tryd.prog 27 #[.string t, .string x] w fun e w' => e = .returned (.string (str (joinL x.data.toList t.data.toList))) ∧ Below w.heap.size w w' := by
  obtain ⟨m, hm⟩ := hm
  have hc : t.size + Lib.countB t ⟨#[10]⟩ * x.size ≤ 140737488355328 := by
    have h1 := Lib.countB_le ⟨#[10]⟩ (by decide) t.size t (Nat.le_refl _)
    have h3 := Nat.mul_le_mul (Nat.le_trans h1 ht) hx
    have h4 : 1048576 * 1048576 = 1099511627776 := by decide
    omega
  have HR := hidK (Tryd.strings_ReplaceAll t ⟨#[10]⟩ x m w (by omega) hm (by decide) hc)
  have HE : Hid ((⟨(Lib.replaceAll t.data.toList (⟨#[10]⟩ : ByteArray).data.toList x.data.toList).toArray⟩ : ByteArray) = str (joinL x.data.toList t.data.toList)) := congrArg str (all_one 10 x.data.toList t.data.toList)
  clear hm hc
  go_enter Tryd.func27, Tryd.ntmps27
  go_wp2_with fail
  refine HR.out.mono ?_
  rintro e w1 ⟨rfl, hb1⟩
  have HB1 := hidK hb1
  clear hb1
  go_wp2_with fail
  go_ret
  exact ⟨ret_str HE.out, HB1.out⟩
theorem paste_any (t x : ByteArray) (br : Bool) (w : World) (hm : MaxC w) (ht : t.size ≤ 1048576) (hx : x.size ≤ 1048576) :
    Calls Tryd.prog 15 #[.string t, .string x, .bool br] w fun e w' => e = .returned (.string (str (pasteL t.data.toList x.data.toList br))) ∧ Below w.heap.size w w' := by
  cases br with
  | false =>
    have HJ := hidK (joined_any t x w hm ht hx)
    have hl : (str (joinL x.data.toList t.data.toList)).size ≤ 140737488355328 := by
      rw [str_size]
      have := join_len x.data.toList t.data.toList (by rw [dataL]; exact hx) (by rw [dataL]; exact ht)
      omega
    have HC : Hid (∀ Y, Calls Tryd.prog 26 #[.string (str (joinL x.data.toList t.data.toList))] Y fun r w' => r = .returned (.string (str (joinL x.data.toList t.data.toList))) ∧ Below Y.heap.size Y w') := fun Y => clone_any _ Y hl
    have HE : Hid (str (joinL x.data.toList t.data.toList) = str (pasteL t.data.toList x.data.toList false)) := rfl
    clear hm ht hx hl
    go_enter Tryd.func15, Tryd.ntmps15
    go_wp2_with fail
    refine HJ.out.mono ?_
    rintro e w1 ⟨rfl, hb1⟩
    have HB1 := hidK hb1
    clear hb1
    go_wp2_with fail
    refine (HC.out _).mono ?_
    rintro e w2 ⟨rfl, hb2⟩
    have HB2 := hidK (HB1.out.trans (hb2.mono HB1.out.size))
    clear hb2
    go_wp2_with fail
    go_ret
    exact ⟨ret_str HE.out, HB2.out⟩
  | true =>
    obtain ⟨m, hmc⟩ := hm
    have HR := hidK (Tryd.strings_ReplaceAll t ⟨#[27, 91, 50, 48, 49, 126]⟩ ⟨#[]⟩ m w (by omega) hmc (by decide) (by show t.size + _ * 0 ≤ _; omega))
    have HE : Hid ((⟨(Lib.replaceAll t.data.toList (⟨#[27, 91, 50, 48, 49, 126]⟩ : ByteArray).data.toList (⟨#[]⟩ : ByteArray).data.toList).toArray⟩ : ByteArray) = str (remL t.data.toList)) := congrArg str (all_repS (old := markL) (new := []) (by decide) (by decide) t.data.toList)
    have HM := hidK (show MaxC w from ⟨m, hmc⟩)
    have hsz : (str (remL t.data.toList)).size ≤ 1048576 := by
      rw [str_size]
      have := rem_len t.data.toList
      rw [dataL] at this
      omega
    have HJ : Hid (∀ Y, MaxC Y → Calls Tryd.prog 27 #[.string (str (remL t.data.toList)), .string x] Y fun e w' => e = .returned (.string (str (joinL x.data.toList (remL t.data.toList)))) ∧ Below Y.heap.size Y w') := fun Y hY => joined_any _ x Y hY hsz hx
    have hl : (str (joinL x.data.toList (remL t.data.toList))).size ≤ 1099512676352 := by
      rw [str_size]
      exact join_len x.data.toList (remL t.data.toList) (by rw [dataL]; exact hx) (by rw [← str_size]; exact hsz)
    obtain ⟨R, hR⟩ : ∃ R, (⟨(Lib.replaceAll t.data.toList (⟨#[27, 91, 50, 48, 49, 126]⟩ : ByteArray).data.toList (⟨#[]⟩ : ByteArray).data.toList).toArray⟩ : ByteArray) = R := ⟨_, rfl⟩
    rw [hR] at HR HE
    rw [← HE.out] at HJ
    obtain ⟨J, hJ⟩ : ∃ J, str (joinL x.data.toList (remL t.data.toList)) = J := ⟨_, rfl⟩
    rw [hJ] at HJ hl
    have HF : Hid (((⟨#[27, 91, 50, 48, 48, 126]⟩ : ByteArray) ++ J) ++ (⟨#[27, 91, 50, 48, 49, 126]⟩ : ByteArray) = str (pasteL t.data.toList x.data.toList true)) := by
      show _ = _
      rw [← hJ]
      exact cat_str (cat_str (l := begL) rfl (str_data _) rfl) (m := markL) rfl rfl
    clear hmc hsz hR hJ HE ht hx
    go_enter Tryd.func15, Tryd.ntmps15
    go_wp2_with fail
    refine HR.out.mono ?_
    rintro e w1 ⟨rfl, hb1⟩
    have HM1 := hidK (HM.out.below hb1)
    have HB1 := hidK hb1
    clear hb1
    go_wp2_with fail
    refine (HJ.out _ HM1.out).mono ?_
    rintro e w2 ⟨rfl, hb2⟩
    have HB2 := hidK (HB1.out.trans (hb2.mono HB1.out.size))
    clear hb2
    go_wp2_with fail
    go_ret
    exact ⟨ret_str HF.out, HB2.out⟩
theorem buffersPastes_walk {w : World} (hT : Tens w) (hM : MaxC w) (t x : ByteArray) (br : Bool) (ht : t.size ≤ 1048576) (hx : x.size ≤ 1048576) :
    Calls Tryd.prog 5 #[.string t, .string x, .bool br] w fun r w' => r = .returned (.bool true) ∧ Below w.heap.size w w' := by
  have HP := hidK (paste_any t x br w hM ht hx)
  have HD : Hid (∀ Y, Calls Tryd.prog 16 #[.string t, .string x, .bool br] Y fun e w' => e = .returned (.string (str (pasteL t.data.toList x.data.toList br))) ∧ Below Y.heap.size Y w') := fun Y => rPaste_any t x br Y ht hx
  have HSu : Hid (∀ Y, Below w.heap.size w Y → Calls Tryd.prog 10 #[] Y fun r w' => r = .returned (.bool true) ∧ Below Y.heap.size Y w') := fun Y hY => sure_any (hT.below hY)
  obtain ⟨R, hR⟩ : ∃ R, str (pasteL t.data.toList x.data.toList br) = R := ⟨_, rfl⟩
  rw [hR] at HP HD
  have he : (R.toList == R.toList) = true := by simp
  clear hT hM hR ht hx
  go_enter Tryd.func5, Tryd.ntmps5
  go_wp2_with fail
  refine HP.out.mono ?_
  rintro e w1 ⟨rfl, hb1⟩
  have HB1 := hidK hb1
  clear hb1
  go_wp2_with fail
  refine (HD.out _).mono ?_
  rintro e w2 ⟨rfl, hb2⟩
  have HB2 := hidK (HB1.out.trans (hb2.mono HB1.out.size))
  clear hb2
  go_wp2_with fail
  refine (HSu.out _ HB2.out).mono ?_
  rintro e w3 ⟨rfl, hb3⟩
  have HB3 := hidK (HB2.out.trans (hb3.mono HB2.out.size))
  clear hb3
  go_wp2_with fail
  go_ret
  exact ⟨rfl, HB3.out⟩
end Go.Proofs.YtgbaeajcgiaboaaDoor
