/-
  TailBytes: what its reads answer.
-/
import Derived.Test.YteeakldeimhjjaaTLaid
import Derived.Test.YteeakldeimhjjaaTMade
namespace Go.Proofs.Yteeakldeimhjjaa
open Go.RowKit Go.Lib
set_option linter.unusedVariables false

/-- The texts that are yet to come. -/
def bulkT : List OpD → Nat
  | [] => 0
  | o :: l => o.t.size + bulkT l
theorem bulkT_le {H : Type} : ∀ l : List OpD, bulkT l + l.length ≤ Rows.uptoBulkAll (l.map (opData (H := H)))
  | [] => Nat.zero_le _
  | o :: l => by
    have h := bulkT_le (H := H) l
    have e1 : o.t.data.toList.length = o.t.size := by rw [Array.length_toList]; rfl
    rw [List.map_cons, Rows.uptoBulkAll, List.length_cons]
    have h2 : Rows.uptoBulk (opData (H := H) o) = o.t.size + 5 := by
      simp only [opData, Rows.uptoBulkAll, Rows.uptoBulk]
      omega
    show o.t.size + bulkT l + (l.length + 1) ≤ _
    omega
theorem bulkT_drop (l : List OpD) (k : Nat) (hk : k < l.length) : bulkT (l.drop k) = l[k].t.size + bulkT (l.drop (k + 1)) := by
  rw [List.drop_eq_getElem_cons hk]
  rfl

/-- A Log that keeps the last of all bytes that came. -/
structure Whole (w0 w : World) (b : Nat) (v : Value) (lim : Nat) (A : ByteArray) : Prop where
  log : LogAt w b v lim A.size (lastN lim A.data.toList)
  below : Below w0.heap.size w0 w
  young : ∀ k ∈ foot b v, w0.heap.size ≤ k
theorem Whole.more {w0 w w' : World} {b : Nat} {v : Value} {lim : Nat} {A : ByteArray} (h : Whole w0 w b v lim A) (hb : Below w.heap.size w w') : Whole w0 w' b v lim A := ⟨h.log.below hb, h.below.trans (hb.mono h.below.size), h.young⟩
theorem Whole.told {w0 w w' : World} {b : Nat} {v : Value} {lim : Nat} {A t : ByteArray} (h : Whole w0 w b v lim A) (hg : Grew w w' b v lim (A.size + t.size) (lastN lim (lastN lim A.data.toList ++ t.data.toList))) : ∃ v', Whole w0 w' b v' lim (A ++ t) := by
  obtain ⟨v', h1, h2, h3⟩ := hg
  refine ⟨v', ⟨?_, h2.under h.below h.below.size h.young, foot_new h.young h3 h.below.size⟩⟩
  rw [lastN_lastN, ← cat_data, ← cat_size] at h1
  exact h1

/-- Where what is kept begins. -/
theorem Whole.sum {w0 w : World} {b : Nat} {v : Value} {lim : Nat} {A : ByteArray} (h : Whole w0 w b v lim A) {F : Nat} (hF : F = A.size - lim) : F + (lastN lim A.data.toList).length = A.size := by
  rw [lastN_length, ← Lib.size_eq]
  omega
theorem kept_all (lim : Nat) (A : ByteArray) {F : Nat} (hF : F = A.size - lim) : str (lastN lim A.data.toList) = A.extract F A.size := by
  apply ByteArray.ext
  apply Array.toList_inj.1
  rw [ext_drop]
  show lastN lim A.data.toList = _
  unfold lastN
  rw [← Lib.size_eq, hF]
/-- The first read: all that is kept. -/
theorem read_all (lim : Nat) (A : ByteArray) {F : Nat} (hF : F = A.size - lim) (hl : 1 ≤ lim) : readV F (lastN lim A.data.toList) (F : Int) (lim : Int) = .tuple #[.string (A.extract F A.size), .int .i64 (A.size : Int), .int .i64 0] := by
  have hk : (lastN lim A.data.toList).length = A.size - F := by rw [lastN_length, ← Lib.size_eq]; omega
  have h := readV_ok (s := F) (l := lastN lim A.data.toList) (a := 0) (m := lim) (Nat.zero_le _) (k := A.size - F) (by omega)
  rw [Nat.add_zero, show F + (A.size - F) = A.size by omega, List.drop_zero, List.take_of_length_le (by omega), kept_all lim A hF] at h
  exact h
/-- .. and any other one that is answered. -/
theorem read_some (lim : Nat) (A : ByteArray) {F a m k : Nat} (hF : F = A.size - lim) (ha : F ≤ a) (ha2 : a ≤ A.size) (hk : k = min m (A.size - a)) : readV F (lastN lim A.data.toList) (a : Int) (m : Int) = .tuple #[.string (A.extract a (a + k)), .int .i64 ((a + k : Nat) : Int), .int .i64 0] := by
  have hll : (lastN lim A.data.toList).length = A.size - F := by rw [lastN_length, ← Lib.size_eq]; omega
  obtain ⟨j, rfl⟩ : ∃ j, a = F + j := ⟨a - F, by omega⟩
  have h := readV_ok (s := F) (l := lastN lim A.data.toList) (a := j) (m := m) (by omega) (k := k) (by omega)
  have e : str (((lastN lim A.data.toList).drop j).take k) = A.extract (F + j) (F + j + k) := by
    apply ByteArray.ext
    apply Array.toList_inj.1
    show ((lastN lim A.data.toList).drop j).take k = _
    rw [ByteArray.data_extract, Array.toList_extract, List.extract_eq_take_drop]
    unfold lastN
    rw [← Lib.size_eq, ← hF, List.drop_drop, show F + j + k - (F + j) = k by omega]
  rw [e] at h
  exact h

theorem slice_two (A : ByteArray) (a K : Nat) (h : a + K ≤ A.size) (W : World) : (Instr.slice 9 (.string A) (some (.int .i64 (a : Int))) (some (.int .i64 ((a : Int) + (K : Int)))) none).run Try.prog W = .ok (.string (A.extract a (a + K))) W := by
  have h1 := run_slice_string (P := Try.prog) (w := W) 9 A .i64 .i64 (a : Int) ((a : Int) + (K : Int)) (by kernel_rfl) (by omega) (by omega) (by omega)
  rw [h1]
  rw [show ((a : Int) + (K : Int)).toNat = a + K by omega, show ((a : Int)).toNat = a by omega]
theorem cat_all (A t : ByteArray) : (A ++ t).extract 0 (A.size + t.size) = A ++ t := by
  rw [← cat_size]
  apply ByteArray.ext
  apply Array.toList_inj.1
  rw [ext_drop]
  rfl

end Go.Proofs.Yteeakldeimhjjaa
