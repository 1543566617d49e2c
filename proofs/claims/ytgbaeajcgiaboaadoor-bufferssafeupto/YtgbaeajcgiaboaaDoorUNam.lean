/-
  Buffers: the program's numerals; the name of a new automatic buffer.
-/
import Derived.Test.YtgbaeajcgiaboaaDoorUTrm
import Derived.Lib.ItoaMem
import Derived.Lib.LaidTab
import Derived.Lib.AppendIntMem
import Derived.Deep.LoopGhost
namespace Go.Proofs.YtgbaeajcgiaboaaDoor
open Go.RowKit
open Go.Lib (decDigits)
set_option linter.unusedVariables false
set_option maxRecDepth 100000

theorem var_below {n : String} {W W' : World} {cs : Array Value} (h : Below W.heap.size W W') (hv : W.var? Tryd.prog n = some cs) : W'.var? Tryd.prog n = some cs := by
  unfold World.var? at hv ⊢
  cases hg : Tryd.prog.globalNamed n with
  | none => rw [hg] at hv; cases hv
  | some g =>
    rw [hg] at hv
    simp only [Option.bind_some] at hv ⊢
    have hlt : g < W.heap.size := by
      rcases Nat.lt_or_ge g W.heap.size with h1 | h1
      · exact h1
      · rw [Array.getElem?_eq_none h1] at hv; cases hv
    rw [h.block g hlt]
    exact hv
/-- The table of the tens. -/
def Tens (w : World) : Prop := Lib.TabIs Tryd.prog w "internal/strconv.uint64pow10" .u64 Lib.pow10Tab
theorem Tens.below {w w' : World} (h : Tens w) (hb : Below w.heap.size w w') : Tens w' := var_below hb h
theorem below_of_grow {w w1 : World} {k : Nat} {os : Array Obj} (h : w1 = Sort.grow (w.drewN k) os) : Below w.heap.size w w1 := by
  rw [h]; exact Lib.below_grow _ _ (Nat.le_refl _) _ _
theorem putNumber_any (n : Nat) (w : World) (hT : Tens w) (h1 : n ≤ 4000000000) :
    Calls Tryd.prog 59 #[.int .i64 (n : Int)] w fun e w' => e = .returned (.string (str (decDigits n))) ∧ Below w.heap.size w w' := by
  have HE : Hid (Lib.itoa (n : Int) = decDigits n) := by
    show _ = _
    unfold Lib.itoa
    rw [if_neg (by omega)]
    rfl
  have i0 : ¬ (n : Int) < 0 := by omega
  have i1 : ¬ (4611686018427387904 : Int) < (n : Int) := by omega
  have HC := hidK (Tryd.strconv_Itoa (n : Int) (by omega) (by omega) w hT)
  clear hT
  go_enter Tryd.func59, Tryd.ntmps59
  go_wp2_with (go_at_call 71; refine HC.out.mono ?_; rintro e w1 ⟨rfl, k, os, hw⟩; have hb1 := below_of_grow hw; clear hw)
  go_ret
  exact ⟨ret_str (by rw [← HE.out]; rfl), hb1⟩
/-- Where all stands that the buffers need. -/
structure Env (w0 w : World) (b : Nat) (v : Value) : Prop where
  tab : Tens w0
  old : Below w0.heap.size w0 w
  hb : w0.heap.size ≤ b
  hv : ∀ g, v.ownBlock = some g → w0.heap.size ≤ g
theorem Env.tens {w0 w : World} {b : Nat} {v : Value} (h : Env w0 w b v) : Tens w := h.tab.below h.old
theorem Env.stp {w0 w w' : World} {b : Nat} {v v' : Value} (h : Env w0 w b v) (k : Stp w w' b v v') : Env w0 w' b v' :=
  ⟨h.tab, k.but.under h.old h.old.size (fun q hq => by
    rcases List.mem_cons.1 hq with e | e
    · rw [e]; exact h.hb
    · exact h.hv q (by simpa using e)), h.hb, fun g hg => (k.own g hg).elim (h.hv g) fun z => Nat.le_trans h.old.size z⟩
theorem Env.below {w0 w w' : World} {b : Nat} {v : Value} (h : Env w0 w b v) (k : Below w.heap.size w w') : Env w0 w' b v :=
  ⟨h.tab, h.old.trans (k.mono h.old.size), h.hb, h.hv⟩
/-- The counter is turned. -/
theorem Bf.count {w : World} {b : Nat} {v : Value} {l : List Kp} {lim c : Int} (h : Bf w b v l lim c) (c' : Int) : Bf (w.setCell ⟨b, 2, none⟩ (.int .i64 c')) b v l lim c' :=
  ⟨put_at h.hd 2 _, Row.keep h.row fun g hg => put_other rfl (fun e => h.ne g hg e.symm) 2 _⟩
theorem Bf.limit {w : World} {b : Nat} {v : Value} {l : List Kp} {lim c : Int} (h : Bf w b v l lim c) (m : Int) : Bf (w.setCell ⟨b, 1, none⟩ (.int .i64 m)) b v l m c :=
  ⟨put_at h.hd 1 _, Row.keep h.row fun g hg => put_other rfl (fun e => h.ne g hg e.symm) 1 _⟩
theorem lit_stem (l : List UInt8) : (⟨#[98, 117, 102, 102, 101, 114]⟩ : ByteArray) ++ str l = str (stemL ++ l) := by
  apply Go.WideShapes.bytes_inj
  rw [ByteArray.data_append, Array.toList_append]
  rfl
theorem stem_nm (m : Nat) : (⟨#[98, 117, 102, 102, 101, 114]⟩ : ByteArray) ++ str (decDigits m) = nm m := lit_stem _
set_option maxHeartbeats 8000000 in
theorem nextName_any {w0 w : World} {b : Nat} {v : Value} {l : List Kp} {lim : Int} {c : Nat} (E : Env w0 w b v) (h : Bf w b v l lim (c : Int)) (hc : c ≤ 1000000000) (hlen : l.length ≤ 1000000) :
    Calls Tryd.prog 41 #[.pointer (some ⟨b, 0, none⟩)] w fun e w' => e = .returned (.string (nm (nx l c))) ∧ Bf w' b v l lim ((nx l c + 1 : Nat) : Int) ∧ Stp w w' b v v := by
  have hnx := nx_le l c
  obtain ⟨N, hN⟩ : ∃ N, nx l c = N := ⟨_, rfl⟩
  have HN := hidK hN
  have HT := hidK (nx_taken l c)
  have HF := hidK (nx_free l c)
  have hge := nx_ge l c
  rw [hN] at hnx hge ⊢
  have HE := hidK E
  have HH := hidK h
  have hN2 : N ≤ 2000000000 := by omega
  clear hN hnx E h hlen
  go_enter Tryd.func41, Tryd.ntmps41
  go_wp2_with fail
  go_loopg [4] (N - c) (fun gg _ wr => ∃ m : Nat, gg = N - m ∧ c ≤ m ∧ m ≤ N ∧ Hid (Bf wr b v l lim (m : Int)) ∧ Hid (Stp w wr b v v))
  case atStart => exact ⟨c, rfl, Nat.le_refl _, hge, HH, Stp.refl _ _ _⟩
  case round =>
    obtain ⟨m, rfl, hcm, hmN, HB, HS⟩ := hrel
    have HP := hidK (putNumber_any m wr (HE.out.stp HS.out).tens (by omega))
    have q2 : wr.cell? ⟨b, 2, none⟩ = some (.int .i64 (m : Int)) := cell_at HB.out.hd 2
    have hw1 : IntKind.i64.wrap ((m : Int) + 1) = (m : Int) + 1 := by rw [IntKind.wrap_i64]; omega
    obtain ⟨D, hD⟩ : ∃ D, str (decDigits m) = D := ⟨_, rfl⟩
    obtain ⟨M, hM⟩ : ∃ M, nm m = M := ⟨_, rfl⟩
    have hcat : (⟨#[98, 117, 102, 102, 101, 114]⟩ : ByteArray) ++ D = M := by rw [← hD, ← hM]; exact stem_nm m
    have hDs : D.size ≤ 19 := by rw [← hD, str_size]; exact dec_length m (by omega)
    have HM := hidK hM
    rw [hD] at HP
    clear hD hM
    go_wp2_with fail
    refine HP.out.mono ?_
    rintro e w1 ⟨rfl, hb1⟩
    have hB1 := HB.out.below hb1
    have HB1 := hidK hB1
    have HS1 := hidK (HS.out.behind hb1)
    have r2 : w1.cell? ⟨b, 2, none⟩ = some (.int .i64 (m : Int)) := cell_at hB1.hd 2
    have r3 : w1.frozen? ⟨b, 2, none⟩ = false := free_at hB1.hd 2
    obtain ⟨w2, hw2⟩ : ∃ w2, w1.setCell ⟨b, 2, none⟩ (.int .i64 ((m : Int) + 1)) = w2 := ⟨_, rfl⟩
    have hB2 : Bf w2 b v l lim ((m : Int) + 1) := by rw [← hw2]; exact hB1.count _
    have HB2 := hidK hB2
    have HS2 : Hid (Stp w w2 b v v) := by rw [← hw2]; exact HS1.out.cell _ 2
    have HC := hidK (place_any hB2 M)
    have hgt := fidx_cases (nmd M) l
    clear hb1 hB1 hB2 HP q2
    go_wp2_with fail
    refine HC.out.mono ?_
    rintro e w3 ⟨rfl, hb3⟩
    have HB3 := hidK (HB2.out.below hb3)
    have HS3 := hidK (HS2.out.behind hb3)
    clear hb3
    rcases hgt with ⟨hx, _⟩ | ⟨k, hk, hx, _⟩
    · have HX : Hid (m = N ∧ M = nm N) := by
        have hm : ¬ m < N := fun hlt => by
          have := HT.out m hcm (by rw [HN.out]; exact hlt)
          unfold tkn at this
          rw [HM.out, hx] at this
          omega
        have e : m = N := by omega
        exact ⟨e, by rw [← HM.out, e]⟩
      rw [hx]
      go_wp2_with fail
      go_ret
      refine ⟨by rw [HX.out.2]; rfl, ?_, HS3.out⟩
      have := HB3.out
      rw [HX.out.1] at this
      simpa using this
    · have HX : Hid (m < N) := by
        rcases Nat.lt_or_ge m N with z | z
        · exact z
        · exfalso
          have e : m = N := by omega
          have := HF.out
          unfold tkn at this
          rw [HN.out, ← e, HM.out, hx] at this
          omega
      have hneg : ¬ (k : Int) < 0 := by omega
      rw [hx]
      go_wp2_with fail
      go_roundg (N - (m + 1))
      case measure => have := HX.out; omega
      case rel => exact ⟨m + 1, rfl, by omega, by have := HX.out; omega, by simpa using HB3, HS3⟩
end Go.Proofs.YtgbaeajcgiaboaaDoor
