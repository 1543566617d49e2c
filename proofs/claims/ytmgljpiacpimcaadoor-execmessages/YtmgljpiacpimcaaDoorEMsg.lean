/-
  Messages: the table, and what is said of an error.
-/
import Derived.Test.YtmgljpiacpimcaaDoorRows
import Derived.Test.YtmgljpiacpimcaaDoorNumE
import Derived.Deep.MidRow
import Derived.Deep.LoopGhost
namespace Go.Proofs.YtmgljpiacpimcaaDoor
open Go.RowKit
set_option linter.unusedVariables false
set_option maxRecDepth 20000

theorem hidden {p : Prop} (h : p) : Hid p := h
theorem below_step {w a b : World} (h : Below w.heap.size w a) (k : Below a.heap.size a b) : Below w.heap.size w b := h.trans (k.mono h.size)
/-- The errors that have a text. -/
def sayT : List (Int × List UInt8) := [
  (1, [98, 97, 100, 32, 97, 114, 103, 117, 109, 101, 110, 116]),
  (2, [116, 111, 111, 32, 108, 111, 110, 103]),
  (3, [110, 111, 32, 114, 111, 111, 109]),
  (40, [110, 111, 116, 32, 97, 32, 108, 97, 121, 111, 117, 116]),
  (41, [98, 97, 100, 32, 115, 105, 122, 101]),
  (42, [110, 111, 32, 115, 117, 99, 104, 32, 112, 97, 110, 101]),
  (44, [110, 111, 32, 115, 112, 97, 99, 101]),
  (45, [116, 111, 111, 32, 109, 97, 110, 121, 32, 112, 97, 110, 101, 115]),
  (46, [111, 110, 108, 121, 32, 112, 97, 110, 101]),
  (47, [110, 111, 32, 98, 111, 114, 100, 101, 114]),
  (50, [98, 97, 100, 32, 108, 97, 121, 111, 117, 116]),
  (51, [98, 97, 100, 32, 115, 117, 109]),
  (70, [110, 111, 32, 115, 117, 99, 104, 32, 115, 101, 115, 115, 105, 111, 110]),
  (71, [110, 111, 32, 115, 117, 99, 104, 32, 119, 105, 110, 100, 111, 119]),
  (72, [110, 111, 32, 115, 117, 99, 104, 32, 105, 110, 100, 101, 120]),
  (73, [98, 97, 100, 32, 110, 97, 109, 101]),
  (74, [105, 110, 32, 117, 115, 101]),
  (75, [111, 110, 108, 121, 32, 111, 110, 101]),
  (90, [111, 112, 101, 110, 32, 113, 117, 111, 116, 101]),
  (91, [116, 111, 111, 32, 109, 97, 110, 121, 32, 119, 111, 114, 100, 115]),
  (100, [98, 97, 100, 32, 102, 111, 114, 109, 97, 116]),
  (101, [116, 111, 111, 32, 100, 101, 101, 112]),
  (110, [110, 111, 116, 32, 102, 111, 117, 110, 100]),
  (111, [97, 109, 98, 105, 103, 117, 111, 117, 115]),
  (112, [110, 111, 32, 99, 117, 114, 114, 101, 110, 116, 32, 115, 101, 115, 115, 105, 111, 110]),
  (120, [117, 110, 107, 110, 111, 119, 110, 32, 99, 111, 109, 109, 97, 110, 100]),
  (121, [97, 109, 98, 105, 103, 117, 111, 117, 115, 32, 99, 111, 109, 109, 97, 110, 100]),
  (122, [117, 110, 107, 110, 111, 119, 110, 32, 102, 108, 97, 103]),
  (123, [118, 97, 108, 117, 101, 32, 110, 101, 101, 100, 101, 100]),
  (124, [119, 114, 111, 110, 103, 32, 110, 117, 109, 98, 101, 114, 32, 111, 102, 32, 119, 111, 114, 100, 115]),
  (125, [98, 97, 100, 32, 118, 97, 108, 117, 101])]
def sayC (p : Int × List UInt8) : List Value := [.int .i64 p.1, .string (str p.2)]
def sayCs : List Value := sayT.flatMap sayC
def sayF (e : Int) : Option (List UInt8) := (sayT.find? fun p => decide (p.1 = e)).map (·.2)
/-- What is said of an error; of an error about something. -/
def phraseF (e : Int) : List UInt8 := match sayF e with
  | some t => t
  | none => if putL e = [] then [101, 114, 114, 111, 114] else [101, 114, 114, 111, 114, 32] ++ putL e
def msgF (e : Int) (a : List UInt8) : List UInt8 := if a = [] then phraseF e else phraseF e ++ ([58, 32] ++ a)
theorem say_len : sayT.length = 31 := rfl
theorem say_at : ∀ k : Fin 31, ∃ a b, sayT[k.val]? = some (a, b) ∧ ∀ W : World, (Instr.index 30 (.agg sayCs.toArray) (.int .i64 (k.val : Int))).run Tryd.prog W = .ok (.agg #[.int .i64 a, .string (str b)]) W := by
  intro k
  match k with
  | ⟨0, _⟩ => exact ⟨_, _, rfl, fun W => by kernel_rfl⟩
  | ⟨1, _⟩ => exact ⟨_, _, rfl, fun W => by kernel_rfl⟩
  | ⟨2, _⟩ => exact ⟨_, _, rfl, fun W => by kernel_rfl⟩
  | ⟨3, _⟩ => exact ⟨_, _, rfl, fun W => by kernel_rfl⟩
  | ⟨4, _⟩ => exact ⟨_, _, rfl, fun W => by kernel_rfl⟩
  | ⟨5, _⟩ => exact ⟨_, _, rfl, fun W => by kernel_rfl⟩
  | ⟨6, _⟩ => exact ⟨_, _, rfl, fun W => by kernel_rfl⟩
  | ⟨7, _⟩ => exact ⟨_, _, rfl, fun W => by kernel_rfl⟩
  | ⟨8, _⟩ => exact ⟨_, _, rfl, fun W => by kernel_rfl⟩
  | ⟨9, _⟩ => exact ⟨_, _, rfl, fun W => by kernel_rfl⟩
  | ⟨10, _⟩ => exact ⟨_, _, rfl, fun W => by kernel_rfl⟩
  | ⟨11, _⟩ => exact ⟨_, _, rfl, fun W => by kernel_rfl⟩
  | ⟨12, _⟩ => exact ⟨_, _, rfl, fun W => by kernel_rfl⟩
  | ⟨13, _⟩ => exact ⟨_, _, rfl, fun W => by kernel_rfl⟩
  | ⟨14, _⟩ => exact ⟨_, _, rfl, fun W => by kernel_rfl⟩
  | ⟨15, _⟩ => exact ⟨_, _, rfl, fun W => by kernel_rfl⟩
  | ⟨16, _⟩ => exact ⟨_, _, rfl, fun W => by kernel_rfl⟩
  | ⟨17, _⟩ => exact ⟨_, _, rfl, fun W => by kernel_rfl⟩
  | ⟨18, _⟩ => exact ⟨_, _, rfl, fun W => by kernel_rfl⟩
  | ⟨19, _⟩ => exact ⟨_, _, rfl, fun W => by kernel_rfl⟩
  | ⟨20, _⟩ => exact ⟨_, _, rfl, fun W => by kernel_rfl⟩
  | ⟨21, _⟩ => exact ⟨_, _, rfl, fun W => by kernel_rfl⟩
  | ⟨22, _⟩ => exact ⟨_, _, rfl, fun W => by kernel_rfl⟩
  | ⟨23, _⟩ => exact ⟨_, _, rfl, fun W => by kernel_rfl⟩
  | ⟨24, _⟩ => exact ⟨_, _, rfl, fun W => by kernel_rfl⟩
  | ⟨25, _⟩ => exact ⟨_, _, rfl, fun W => by kernel_rfl⟩
  | ⟨26, _⟩ => exact ⟨_, _, rfl, fun W => by kernel_rfl⟩
  | ⟨27, _⟩ => exact ⟨_, _, rfl, fun W => by kernel_rfl⟩
  | ⟨28, _⟩ => exact ⟨_, _, rfl, fun W => by kernel_rfl⟩
  | ⟨29, _⟩ => exact ⟨_, _, rfl, fun W => by kernel_rfl⟩
  | ⟨30, _⟩ => exact ⟨_, _, rfl, fun W => by kernel_rfl⟩
  | ⟨k + 31, h⟩ => exact absurd h (by omega)
theorem find_yes {e : Int} {k : Nat} {t : List UInt8} (h : sayT[k]? = some (e, t)) (hno : ∀ (j : Nat) p, j < k → sayT[j]? = some p → p.1 ≠ e) : sayF e = some t := by
  unfold sayF
  have hk := (List.getElem?_eq_some_iff.1 h).1
  have h2 := (List.getElem?_eq_some_iff.1 h).2
  have : sayT.find? (fun p => decide (p.1 = e)) = some (e, t) := by
    rw [List.find?_eq_some_iff_getElem]
    refine ⟨by simp, k, hk, h2, fun j hj => ?_⟩
    have := hno j _ hj (List.getElem?_eq_getElem (by omega))
    simpa using this
  rw [this]
  rfl
theorem find_no {e : Int} (hno : ∀ (j : Nat) p, sayT[j]? = some p → p.1 ≠ e) : sayF e = none := by
  unfold sayF
  have : sayT.find? (fun p => decide (p.1 = e)) = none := by
    rw [List.find?_eq_none]
    intro p hp
    obtain ⟨j, hj, e2⟩ := List.getElem_of_mem hp
    have := hno j p (by rw [List.getElem?_eq_getElem hj, e2])
    simpa using this
  rw [this]
  rfl
def SayV (w : World) : Prop := w.rangeAt 0 0 sayCs
theorem SayV.below {w w' : World} (h : SayV w) (hb : Below w.heap.size w w') : SayV w' := fun j v hv => (hb.cell (p := ⟨0, 0 + j, none⟩) (World.block_lt_of_cell? w _ (h j v hv))).trans (h j v hv)
theorem say_info : (Tryd.prog.info? 30).map (·.size) = some sayCs.length := by kernel_rfl

theorem ne_str {l : List UInt8} (h : l ≠ []) : ¬ (str l).toList = [] ∧ (str l).toList.isEmpty = false := by
  rw [str_toList]
  cases l with
  | nil => exact absurd rfl h
  | cons a b => exact ⟨by simp, rfl⟩
set_option maxHeartbeats 2000000 in
theorem textOf_any (e : Int) (w : World) (hN : NumV w) (hS : SayV w) (h0 : -9223372036854775808 ≤ e) (h1 : e ≤ 9223372036854775807) : Calls Tryd.prog 6 #[.int .i64 e] w fun x w' => x = .returned (.string (str (phraseF e))) ∧ Below w.heap.size w w' := by
  obtain ⟨cs, hcs⟩ : ∃ cs, sayCs = cs := ⟨_, rfl⟩
  have HC : Hid (w.rangeAt 0 0 cs) := by rw [← hcs]; exact hS
  have HHi : Hid ((Tryd.prog.info? 30).map (·.size) = some cs.length) := by rw [← hcs]; exact say_info
  have HAt : Hid (∀ k : Nat, k < 31 → ∃ a b, sayT[k]? = some (a, b) ∧ ∀ W : World, (Instr.index 30 (.agg cs.toArray) (.int .i64 (k : Int))).run Tryd.prog W = .ok (.agg #[.int .i64 a, .string (str b)]) W) := fun k hk => by rw [← hcs]; exact say_at ⟨k, hk⟩
  have HPn : Hid (∀ X, Below w.heap.size w X → Calls Tryd.prog 9 #[.int .i64 e] X fun x w' => x = .returned (.string (str (putL e))) ∧ Below X.heap.size X w') := fun X hX => putNumber_any e X (hN.below hX) h0 h1
  obtain ⟨R, hR⟩ : ∃ R, str (phraseF e) = R := ⟨_, rfl⟩
  have HR := hidden hR
  rw [hR]
  clear hS hcs hN hR
  go_enter Tryd.func6, Tryd.ntmps6
  go_wp2_with (refine wpList_load_mid rfl 30 (.global 0) rfl 0 0 rfl cs _ HC.out Tryd.underlying30 rfl HHi.out ?_)
  go_loopw [7] (fun v wr => ∃ i : Nat, i ≤ 31 ∧ v = .int .i64 i ∧ Hid (∀ (j : Nat) p, j < i → sayT[j]? = some p → p.1 ≠ e) ∧ Hid (Below w.heap.size w wr)) (fun v _ => 31 - (intOf v).toNat)
  case atStart => exact ⟨0, Nat.zero_le _, rfl, fun j p hj => by omega, Below.refl _ _⟩
  case round =>
    obtain ⟨i, hi, rfl, HNo, HB⟩ := hrel
    by_cases hlt : i < 31
    · obtain ⟨a, b, t1, t2⟩ := HAt.out i hlt
      have HT1 := hidden t1
      have hz : (i : Int) < 31 := by omega
      have HBa : Hid (∀ o, Below w.heap.size w (wr.alloc o)) := fun o => below_step HB.out ((Below.refl _ _).alloc (Nat.le_refl _) o)
      clear t1
      by_cases hae : a = e
      · subst hae
        have HF : Hid (str b = R) := by
          show _ = _
          rw [← HR.out]
          unfold phraseF
          rw [find_yes HT1.out HNo.out]
        go_wp2
        go_ret
        exact ⟨by rw [← HF.out]; rfl, HBa.out _⟩
      · have hab : (a == e) = false := by simpa using hae
        have HN2 : Hid (∀ (j : Nat) p, j < i + 1 → sayT[j]? = some p → p.1 ≠ e) := fun j p hj hp => by
          by_cases hji : j < i
          · exact HNo.out j p hji hp
          · have : j = i := by omega
            subst this
            rw [HT1.out] at hp
            rw [← Option.some.inj hp]
            exact hae
        go_wp2
        first
          | (go_roundw
             case rel => exact ⟨i + 1, by omega, by first | rfl | go_num, HN2, HBa.out _⟩
             case measure => simp [intOf]; omega)
          | exact ⟨⟨i + 1, by omega, by first | rfl | go_num, HN2, HBa.out _⟩, by simp [intOf]; omega⟩
    · have hi31 : i = 31 := by omega
      subst hi31
      have hno : sayF e = none := find_no fun j p hp => HNo.out j p (by have := (List.getElem?_eq_some_iff.1 hp).1; rw [say_len] at this; exact this) hp
      by_cases hp : putL e = []
      · have HF : Hid (str [101, 114, 114, 111, 114] = R) := by
          show _ = _
          rw [← HR.out]
          unfold phraseF
          rw [hno]
          simp only []
          rw [if_pos hp]
        have HPx : Hid (∀ X, Below w.heap.size w X → Calls Tryd.prog 9 #[.int .i64 e] X fun x w' => x = .returned (.string ⟨#[]⟩) ∧ Below X.heap.size X w') := fun X hX => by
          have h := HPn.out X hX
          rw [hp] at h
          exact h
        clear hno hp
        go_wp2_with (go_at_call 9; refine (HPx.out _ HB.out).mono ?_; rintro x w1 ⟨rfl, hb1⟩)
        go_ret
        exact ⟨by rw [← HF.out]; rfl, below_step HB.out hb1⟩
      · have HF : Hid (str ([101, 114, 114, 111, 114, 32] ++ putL e) = R) := by
          show _ = _
          rw [← HR.out]
          unfold phraseF
          rw [hno]
          simp only []
          rw [if_neg hp]
        obtain ⟨P, hP⟩ : ∃ P, str (putL e) = P := ⟨_, rfl⟩
        have hPs : P.size ≤ 19 := by rw [← hP, str_size]; exact putL_length e
        obtain ⟨n1, n2⟩ := ne_str hp
        rw [hP] at HPn n1 n2
        have HF2 : Hid ((⟨#[101, 114, 114, 111, 114, 32]⟩ : ByteArray) ++ P = R) := by
          show _ = _
          rw [← HF.out, ← str_cat, ← hP]
          rfl
        clear hno hp hP
        go_wp2_with (go_at_call 9; refine (HPn.out _ HB.out).mono ?_; rintro x w1 ⟨rfl, hb1⟩)
        go_ret
        exact ⟨by first | (rw [← HF2.out]; done) | (rw [← HF2.out]; rfl), below_step HB.out hb1⟩
end Go.Proofs.YtmgljpiacpimcaaDoor
