/-
  The walks of PutId and Id, the program's and the document's.
-/
import Derived.Test.YtplolaondmeccaaGreatDoorOctB
import Derived.WalkKit
import Derived.RegionTactic
import Derived.Deep.RegionWith
import Derived.Deep.DrawnRows
import Derived.Lib.AppendStr
namespace Go.Proofs.YtplolaondmeccaaGreatDoor
open Go.RowKit
set_option linter.unusedVariables false
attribute [local go_sem ↓] Go.wp_at_zero Go.wp_at_succ

/-- A text appended to what is owned. -/
theorem wpList_append_text {P : Program} (w : World) {ops : Array Oper} {rest : List Oper} {o : Oper} {a : Act} {Q : Exit → Act → World → Prop} (hgd : o.guard = none) (sl x : Operand) (t u : TypeId)
    (ho : o.op = .call { callee := .builtin .append, args := #[sl, x], argTypes := #[t, u] }) (ht : P.underlying t = some (.slice 5)) (hu : P.underlying u = some .string)
    (hinfo : (P.info? 5).map (fun i => (i.zero, i.size, i.bytes)) = some (some (.int .u8 0), 1, 1))
    (B : Nat) (v : Value) (l : List UInt8) (hs : a.eval sl = v) (hown : Owns w B v l) (s : ByteArray) (hx : a.eval x = .string s)
    (hlen : l.length + s.size ≤ 140737488355328) (hbase : B ≤ w.heap.size)
    (h : ∀ v' w', Owns w' B v' (l ++ s.data.toList) → Below B w w' → wpList P ops Q rest (a.put o.dst v') w') : wpList P ops Q (o :: rest) a w := by
  obtain ⟨i0, hi, hz0, hz1, hz2⟩ := info_parts hinfo
  refine Lib.wpList_append_own_string w hgd sl x t u ho B 5 i0 ht hu hi hz0 hz1 hz2 v l.length (l.map bv) hs hown s hx (by unfold maxLen; omega) hlen hbase ?_
  intro v' w' h2 h3 _
  refine h v' w' (Owns.mk h2 (by simp) ?_) ((Below.refl B w).grown h3 hbase (fun k hk => hown.base k hk))
  rw [List.map_append]
  rfl

/-- An id's text. -/
def putI (c : UInt8) (n : Int) : List UInt8 := if 1 ≤ n ∧ n ≤ 4611686018427387904 then c :: putL n else []
theorem putI_in {c : UInt8} {n : Int} (h : 1 ≤ n ∧ n ≤ 4611686018427387904) : putI c n = c :: putL n := if_pos h
theorem putI_out {c : UInt8} {n : Int} (h : ¬ (1 ≤ n ∧ n ≤ 4611686018427387904)) : putI c n = [] := if_neg h

theorem str_ne {l : List UInt8} (h : l ≠ []) : ¬ (str l).toList = [] ∧ (str l).toList.isEmpty = false := by
  rw [str_toList]
  exact ⟨h, by simpa using h⟩
theorem str_nil : (str []).toList = [] ∧ (str []).toList.isEmpty = true := by
  rw [str_toList]
  exact ⟨rfl, rfl⟩

set_option maxHeartbeats 1000000 in
theorem putId_any (c : UInt8) (n : Int) (w : World) (hN : NumV w) (h0 : -9223372036854775808 ≤ n) (h1 : n ≤ 9223372036854775807) :
    Calls Tryz.prog 133 #[.int .u8 c.toNat, .int .i64 n] w fun e w' => e = .returned (.string (str (putI c n))) ∧ Below w.heap.size w w' := by
  by_cases hin : 1 ≤ n ∧ n ≤ 4611686018427387904
  · have HE : Hid (putI c n = c :: putL n) := putI_in hin
    rw [HE.out]
    obtain ⟨i0, i1⟩ := hin
    have hne : putL n ≠ [] := by rw [putL_in ⟨by omega, i1⟩]; exact dec_ne _
    obtain ⟨e1, e2⟩ := str_ne hne
    have hn0 : (n == 0) = false := by rw [beq_eq_false_iff_ne]; omega
    have hz : [c].length + (str (putL n)).size ≤ 140737488355328 := by have := putL_length n; rw [str_size]; simp; omega
    clear hne
    go_enter Tryz.func133, Tryz.ntmps133
    go_wp2_with (first
      | (go_at_call 124; refine (putNumber_any n _ hN h0 h1).mono ?_; rintro e w1 ⟨rfl, hb1⟩)
      | (at_builtin; refine wpList_append_text _ rfl (.tmp 15) (.tmp 16) 79 9 rfl Tryz.underlying79 Tryz.underlying9 info5 w.heap.size _ [c] rfl (Owns.made w1 _ [c] hb1.size (show 1 ≤ maxLen by decide)) _ rfl hz ?_ ?_; (have := hb1.size; simp; omega); (intro v' w2 hown2 hb2; have hc := (hown2.as (show [c] ++ (str (putL n)).data.toList = c :: putL n from rfl)).text (P := Tryz.prog) 79 9 5 Tryz.underlying79 Tryz.underlying5 Tryz.underlying9)))
    go_ret
    exact ⟨rfl, (hb1.alloc hb1.size _).trans hb2⟩
  · have HE : Hid (putI c n = []) := putI_out hin
    rw [HE.out]
    by_cases hz : n = 0
    · have hn0 : (n == 0) = true := by rw [hz]; rfl
      clear hin
      go_enter Tryz.func133, Tryz.ntmps133
      go_wp2_with (go_at_call 124; refine (putNumber_any _ _ hN (by omega) (by omega)).mono ?_; rintro e w1 ⟨rfl, hb1⟩)
      all_goals go_ret
      exact ⟨rfl, hb1⟩
    · have HP : Hid (putL n = []) := putL_out (by omega)
      have hn0 : (n == 0) = false := by rw [beq_eq_false_iff_ne]; exact hz
      have A1 : Hid (Calls Tryz.prog 124 #[.int .i64 n] w fun e w' => e = .returned (.string (str [])) ∧ Below w.heap.size w w') := by
        have := putNumber_any n w hN h0 h1
        rw [HP.out] at this
        exact this
      obtain ⟨e1, e2⟩ := str_nil
      clear hin hz
      go_enter Tryz.func133, Tryz.ntmps133
      go_wp2_with (go_at_call 124; refine A1.out.mono ?_; rintro e w1 ⟨rfl, hb1⟩)
      all_goals go_ret
      exact ⟨rfl, hb1⟩

theorem kept_text {c : UInt8} {w w2 : World} (hb : Below (w.alloc (.cells #[.int .u8 (c.toNat : Int)] 5)).drew.heap.size (w.alloc (.cells #[.int .u8 (c.toNat : Int)] 5)).drew w2) :
    (convert 79 9 (.slice (some ⟨w.heap.size, 0, none⟩) 1 1)).run Tryz.prog w2 = .ok (.string (str [c])) w2 :=
  Owns.text (P := Tryz.prog) (w := w2) (B := w.heap.size) (Owns.below (w := (w.alloc (.cells #[.int .u8 (c.toNat : Int)] 5)).drew) (Owns.made w w.heap.size [c] (Nat.le_refl _) (show 1 ≤ maxLen by decide)) hb) 79 9 5 Tryz.underlying79 Tryz.underlying5 Tryz.underlying9

end Go.Proofs.YtplolaondmeccaaGreatDoor
