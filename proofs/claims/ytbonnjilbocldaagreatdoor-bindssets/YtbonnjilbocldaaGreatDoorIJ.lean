/-
  Binds, the document's with.
  Keys: letters and numbers of sequences, by the document.
-/
import Derived.Test.YtbonnjilbocldaaGreatDoorID
import Derived.Test.YtbonnjilbocldaaGreatDoorRNw
import Derived.Test.YtbonnjilbocldaaGreatDoorKRdS
import Derived.Test.YtbonnjilbocldaaGreatDoorKRefU
namespace Go.Proofs.YtbonnjilbocldaaGreatDoor
open Go.RowKit
set_option linter.unusedVariables false
set_option maxRecDepth 100000

theorem SeeE.set1 {w : World} {v : Value} {l : List Ent} (h : SeeE w v l) {q n c : Nat} {a : Option Addr} {T : TypeId} (hq : w.heap[q]? = some (.cells #[.slice a n c] T (0, 0))) (u : Value) : SeeE (w.setCell ⟨q, 0, none⟩ u) v l := by
  obtain ⟨ad, cp, rfl, hc⟩ := h
  refine ⟨ad, cp, rfl, fun hne => ?_⟩
  obtain ⟨g, o, rfl, hcell⟩ := hc hne
  refine ⟨g, o, rfl, fun j hj k u' hu => ?_⟩
  have h1 := hcell j hj k u' hu
  have hgq : g ≠ q := fun e => by
    rw [e, cell_at hq] at h1
    have h2 : u' = .slice a n c := by
      generalize o + j * 5 + k = x at h1
      cases x with
      | zero => simpa using h1.symm
      | succ x => simp at h1
    have h3 := List.mem_of_getElem? hu
    rw [h2] at h3
    simp [encE] at h3
  have hh : (w.setCell ⟨q, 0, none⟩ u).heap[g]? = w.heap[g]? := put_other rfl hgq 0 u
  unfold World.cell? at h1 ⊢
  rw [hh]
  exact h1
structure WthR (w : World) (D : DataW Unit) (L : List Ent) (x : Ent) (v' : Value) (e : Ending) (w' : World) : Prop where
  told : e = .returned (.agg #[v'])
  see : SeeE w' v' (bndL D L x)
  below : Below w.heap.size w w'
set_option maxHeartbeats 8000000 in
theorem rwith_any {w : World} {v : Value} {L : List Ent} {D : DataW Unit} (hv : SeeE w v L) (hD : Dc D L) (st nm sl : ByteArray) (sr : Bool) (sc sm : Int) (hr : readF nm.data.toList = some (sc, sm)) (hn : nm.size ≤ 1000) (hw : Ent.wf ⟨st, sc, sm, sr, sl⟩) (hl : sl.size ≤ 8192) :
    Calls Tryz.prog 29 #[.agg #[v], .string st, .string nm, .string sl, .bool sr] w fun e w' => ∃ v', WthR w D L ⟨st, sc, sm, sr, sl⟩ v' e w' := by
  obtain ⟨ad, cp, rfl⟩ := hv.shape'
  obtain ⟨N, hN⟩ : ∃ N, L.length = N := ⟨_, rfl⟩
  rw [hN] at hv ⊢
  obtain ⟨W1, hW1⟩ : ∃ W, w.alloc (.cells #[.slice ad N cp] 33) = W := ⟨_, rfl⟩
  obtain ⟨W3, hW3⟩ : ∃ W, W1.alloc (.cells #[.slice none 0 0] 33) = W := ⟨_, rfl⟩
  obtain ⟨Q1, hQ1⟩ : ∃ Q, w.heap.size = Q := ⟨_, rfl⟩
  obtain ⟨Q3, hQ3⟩ : ∃ Q, W1.heap.size = Q := ⟨_, rfl⟩
  have b1 : Below w.heap.size w W1 := by rw [← hW1]; exact (Below.refl _ _).alloc (Nat.le_refl _) _
  have b3 : Below W1.heap.size W1 W3 := by rw [← hW3]; exact (Below.refl _ _).alloc (Nat.le_refl _) _
  have a1 : W1.heap[Q1]? = some (.cells #[.slice ad N cp] 33 (0, 0)) := by rw [← hW1, ← hQ1]; exact heap_alloc_new w _
  have a3 : W3.heap[Q3]? = some (.cells #[.slice none 0 0] 33 (0, 0)) := by rw [← hW3, ← hQ3]; exact heap_alloc_new W1 _
  have A1 := hidK (kp b3 a1)
  have A3 := hidK a3
  have HB := hidK (below_step b1 b3)
  have HS0 := hidK hv
  have HQl : Hid (w.heap.size ≤ Q1 ∧ w.heap.size ≤ Q3 ∧ Q1 ≠ Q3 ∧ Q3 < W3.heap.size) := ⟨by omega, by have := b1.size; omega, by have := lt_block a1; omega, lt_block a3⟩
  have hrd := rread_any nm.data.toList (by have h : nm.data.toList.length = nm.size := by rw [Array.length_toList]; rfl
                                           omega) W3
  have hrv : rdV nm.data.toList = .tuple #[.agg #[.int .i64 sc, .int .i64 sm], .int .i64 0] := by unfold rdV; rw [hr]
  rw [str_self, hrv] at hrd
  have HBi : Hid (∀ Y, Below w.heap.size w Y → Calls Tryz.prog 9 #[.agg #[.slice ad N cp], .agg #[.string st, .int .i64 sc, .int .i64 sm, .bool sr, .string sl]] Y fun e w' => ∃ v', BndR Y D L ⟨st, sc, sm, sr, sl⟩ v' e w') := fun Y hY => rbind_any (hv.below hY) hD st sc sm sr sl hw (by omega)
  clear b1 b3 a1 a3 hv hN hD hw hr hrv
  go_enter Tryz.func29, Tryz.ntmps29
  go_wp2_with fail
  refine hrd.mono ?_
  rintro e Y ⟨rfl, hb⟩
  obtain ⟨K, hK⟩ : ∃ B, Y.heap.size = B := ⟨_, rfl⟩
  obtain ⟨Y1, hY1⟩ : ∃ W, Y.alloc (.cells #[.int .i64 sc, .int .i64 sm] 23) = W := ⟨_, rfl⟩
  have hby : Below Y.heap.size Y Y1 := by rw [← hY1]; exact (Below.refl _ _).alloc (Nat.le_refl _) _
  have hm1 : Y1.heap[K]? = some (.cells #[.int .i64 sc, .int .i64 sm] 23 (0, 0)) := by rw [← hY1, ← hK]; exact heap_alloc_new Y _
  have hbb := below_step hb hby
  have HBy := hidK (below_step HB.out hbb)
  have A1y := hidK (kp hbb A1.out)
  have A3y := hidK (kp hbb A3.out)
  have HQy : Hid (W3.heap.size ≤ Y1.heap.size) := hbb.size
  have c10 : Y1.cell? ⟨Q1, 0, none⟩ = some (.slice ad N cp) := cell_at A1y.out 0
  have c20 := cell_at hm1 0
  have c21 := cell_at hm1 1
  clear hb hby hm1 hbb hrd hW1 hW3 hQ1 hQ3
  go_wp2_with fail
  refine (HBi.out _ HBy.out).mono ?_
  rintro e Z ⟨v', rfl, hse, hbz⟩
  obtain ⟨xa, xc, rfl⟩ := hse.shape'
  obtain ⟨xn, hxn⟩ : ∃ n, (bndL D L ⟨st, sc, sm, sr, sl⟩).length = n := ⟨_, rfl⟩
  rw [hxn] at hse ⊢
  have A1z := hidK (kp hbz A1y.out)
  have A3z := hidK (kp hbz A3y.out)
  have HBz := hidK (below_step HBy.out hbz)
  have HSe := hidK hse
  have n13 : ¬ Q1 = Q3 := HQl.out.2.2.1
  have n31 : ¬ Q3 = Q1 := fun e => n13 e.symm
  have HQz : Hid (Q3 < Z.heap.size) := lt_block A3z.out
  clear hse hbz hxn c10 c20 c21 hY1 hK
  have c10 : Z.cell? ⟨Q1, 0, none⟩ = some (.slice ad N cp) := cell_at A1z.out 0
  have g10 := free_at A1z.out 0
  have c30 := cell_at A3z.out 0
  have g30 := free_at A3z.out 0
  go_wp2_with fail
  refine ret_cell1 rfl rfl (two_at (put_other A3z.out n31 _ _) _) Tryz.underlying33 rfl infoTabs rfl ⟨.slice xa xn xc, rfl, ?_, (HBz.out.setCell HQl.out.1 _).setCell HQl.out.2.1 _⟩
  exact (HSe.out.set1 A1z.out _).set1 (put_other A3z.out n31 _ _) _
end Go.Proofs.YtbonnjilbocldaaGreatDoor

namespace Go.Proofs.YtbonnjilbocldaaGreatDoor
open Go.RowKit
set_option linter.unusedVariables false
set_option maxRecDepth 100000

def lettT : List (Int × UInt8) := [(16777217, 65), (16777218, 66), (16777219, 67), (16777220, 68), (16777221, 72), (16777222, 70), (16777227, 80), (16777228, 81), (16777229, 82), (16777230, 83)]
def numbT : List (Int × Int) := [(16777223, 2), (16777224, 3), (16777225, 5), (16777226, 6), (16777231, 15), (16777232, 17), (16777233, 18), (16777234, 19), (16777235, 20), (16777236, 21), (16777237, 23), (16777238, 24)]
def lettF (c : Int) : List UInt8 := match lettT.find? (fun p => decide (p.1 = c)) with
  | some p => [p.2]
  | none => []
def numbF (c : Int) : Int := match numbT.find? (fun p => decide (p.1 = c)) with
  | some p => p.2
  | none => 0
theorem find_hit {α : Type} {l : List (Int × α)} {e : Int} {k : Nat} {t : α} (h : l[k]? = some (e, t)) (hno : ∀ (j : Nat) p, j < k → l[j]? = some p → p.1 ≠ e) : l.find? (fun p => decide (p.1 = e)) = some (e, t) := by
  have hk := (List.getElem?_eq_some_iff.1 h).1
  have h2 := (List.getElem?_eq_some_iff.1 h).2
  rw [List.find?_eq_some_iff_getElem]
  refine ⟨by simp, k, hk, h2, fun j hj => ?_⟩
  have := hno j _ hj (List.getElem?_eq_getElem (by omega))
  simpa using this
theorem find_miss {α : Type} {l : List (Int × α)} {e : Int} (hno : ∀ (j : Nat) p, l[j]? = some p → p.1 ≠ e) : l.find? (fun p => decide (p.1 = e)) = none := by
  rw [List.find?_eq_none]
  intro p hp
  obtain ⟨j, hj, e2⟩ := List.getElem_of_mem hp
  have := hno j p (by rw [List.getElem?_eq_getElem hj, e2])
  simpa using this
def lettS : ByteArray := ⟨#[65, 66, 67, 68, 72, 70, 80, 81, 82, 83]⟩
theorem lett_at : ∀ k : Fin 10, ∃ a b, lettT[k.val]? = some (a, b) ∧ (lettT.map fun p => Value.int .i64 p.1)[k.val]? = some (.int .i64 a) ∧ lettS.extract k.val (k.val + 1) = str [b] := by
  intro k
  match k with
  | ⟨0, _⟩ => exact ⟨_, _, rfl, rfl, rfl⟩
  | ⟨1, _⟩ => exact ⟨_, _, rfl, rfl, rfl⟩
  | ⟨2, _⟩ => exact ⟨_, _, rfl, rfl, rfl⟩
  | ⟨3, _⟩ => exact ⟨_, _, rfl, rfl, rfl⟩
  | ⟨4, _⟩ => exact ⟨_, _, rfl, rfl, rfl⟩
  | ⟨5, _⟩ => exact ⟨_, _, rfl, rfl, rfl⟩
  | ⟨6, _⟩ => exact ⟨_, _, rfl, rfl, rfl⟩
  | ⟨7, _⟩ => exact ⟨_, _, rfl, rfl, rfl⟩
  | ⟨8, _⟩ => exact ⟨_, _, rfl, rfl, rfl⟩
  | ⟨9, _⟩ => exact ⟨_, _, rfl, rfl, rfl⟩
  | ⟨k + 10, h⟩ => exact absurd h (by omega)
theorem numb_at : ∀ k : Fin 12, ∃ a b, numbT[k.val]? = some (a, b) ∧ (numbT.map fun p => Value.int .i64 p.1)[k.val]? = some (.int .i64 a) ∧ (numbT.map fun p => Value.int .i64 p.2)[k.val]? = some (.int .i64 b) := by
  intro k
  match k with
  | ⟨0, _⟩ => exact ⟨_, _, rfl, rfl, rfl⟩
  | ⟨1, _⟩ => exact ⟨_, _, rfl, rfl, rfl⟩
  | ⟨2, _⟩ => exact ⟨_, _, rfl, rfl, rfl⟩
  | ⟨3, _⟩ => exact ⟨_, _, rfl, rfl, rfl⟩
  | ⟨4, _⟩ => exact ⟨_, _, rfl, rfl, rfl⟩
  | ⟨5, _⟩ => exact ⟨_, _, rfl, rfl, rfl⟩
  | ⟨6, _⟩ => exact ⟨_, _, rfl, rfl, rfl⟩
  | ⟨7, _⟩ => exact ⟨_, _, rfl, rfl, rfl⟩
  | ⟨8, _⟩ => exact ⟨_, _, rfl, rfl, rfl⟩
  | ⟨9, _⟩ => exact ⟨_, _, rfl, rfl, rfl⟩
  | ⟨10, _⟩ => exact ⟨_, _, rfl, rfl, rfl⟩
  | ⟨11, _⟩ => exact ⟨_, _, rfl, rfl, rfl⟩
  | ⟨k + 12, h⟩ => exact absurd h (by omega)
theorem slice_two (A : ByteArray) (a : Nat) (h : a + 1 ≤ A.size) (W : World) : (Instr.slice 9 (.string A) (some (.int .i64 (a : Int))) (some (.int .i64 ((a : Int) + 1))) none).run Tryz.prog W = .ok (.string (A.extract a (a + 1))) W := by
  have h1 := run_slice_string (P := Tryz.prog) (w := W) 9 A .i64 .i64 (a : Int) ((a : Int) + 1) (by kernel_rfl) (by omega) (by omega) (by omega)
  rw [h1]
  rw [show ((a : Int) + 1).toNat = a + 1 by omega, show ((a : Int)).toNat = a by omega]
/-- A number in digits, below a hundred. -/
def digF (n : Int) : List UInt8 := if n < 10 then [(48 + n).toNat.toUInt8] else [(48 + n / 10).toNat.toUInt8, (48 + n % 10).toNat.toUInt8]
set_option maxHeartbeats 2000000 in
theorem rput_one (n : Int) (h0 : 0 ≤ n) (h1 : n < 10) (w : World) : Calls Tryz.prog 30 #[.int .i64 n] w fun r w' => r = .returned (.string (str [(48 + n).toNat.toUInt8])) ∧ Below w.heap.size w w' := by
  have HFin : Hid (∀ o, Below w.heap.size w (w.alloc o)) := fun o => (Below.refl _ _).alloc (Nat.le_refl _) o
  obtain ⟨y0, hy0⟩ : ∃ y, 48 + n = y := ⟨_, rfl⟩
  have r0 : 0 ≤ y0 ∧ y0 < 256 := by omega
  obtain ⟨b0, e0, f0⟩ := byte_ex y0 r0.1 r0.2
  have w0 := u8_in y0 r0
  have hcv := conv_made [b0] (by simp) w
  obtain ⟨R, hR⟩ : ∃ R, str [b0] = R := ⟨_, rfl⟩
  rw [hy0, ← f0, hR]
  rw [hR] at hcv
  have hcw : (convert 97 9 (.slice (some ⟨w.heap.size, 0, none⟩) 1 1)).run Tryz.prog (w.alloc (.cells #[.int .u8 y0] 5)) = .ok (.string R) (w.alloc (.cells #[.int .u8 y0] 5)) := by rw [e0]; exact hcv
  clear hcv hR e0 f0 r0
  go_enter Tryz.func30, Tryz.ntmps30
  go_wp2_with fail
  go_ret
  exact ⟨rfl, HFin.out _⟩
set_option maxHeartbeats 2000000 in
theorem rput_two (n : Int) (h0 : 10 ≤ n) (h1 : n < 100) (w : World) : Calls Tryz.prog 30 #[.int .i64 n] w fun r w' => r = .returned (.string (str [(48 + n / 10).toNat.toUInt8, (48 + n % 10).toNat.toUInt8])) ∧ Below w.heap.size w w' := by
  have A1 := hidK (rput_one (n / 10) (by omega) (by omega))
  have A2 := hidK (rput_one (n % 10) (by omega) (by omega))
  obtain ⟨q, hq⟩ : ∃ q, n / 10 = q := ⟨_, rfl⟩
  obtain ⟨r, hr⟩ : ∃ r, n % 10 = r := ⟨_, rfl⟩
  rw [hq] at A1
  rw [hr] at A2
  rw [hq, hr]
  obtain ⟨X, hX⟩ : ∃ X, str [(48 + q).toNat.toUInt8] = X := ⟨_, rfl⟩
  obtain ⟨Y, hY⟩ : ∃ Y, str [(48 + r).toNat.toUInt8] = Y := ⟨_, rfl⟩
  have HXY : Hid (str [(48 + q).toNat.toUInt8, (48 + r).toNat.toUInt8] = X ++ Y) := by show _ = _; rw [← hX, ← hY, str_catK]; rfl
  have zX : X.size = 1 := by rw [← hX]; rfl
  have zY : Y.size = 1 := by rw [← hY]; rfl
  rw [hX] at A1
  rw [hY] at A2
  rw [HXY.out]
  clear hX hY
  go_enter Tryz.func30, Tryz.ntmps30
  go_wp2_with fail
  refine (A1.out _).mono ?_
  rintro e w1 ⟨rfl, hb1⟩
  go_wp2_with fail
  refine (A2.out _).mono ?_
  rintro e w2 ⟨rfl, hb2⟩
  go_wp2_with fail
  go_ret
  exact ⟨rfl, below_step hb1 hb2⟩
theorem rput_any (n : Int) (h0 : 0 ≤ n) (h1 : n < 100) (w : World) : Calls Tryz.prog 30 #[.int .i64 n] w fun r w' => r = .returned (.string (str (digF n))) ∧ Below w.heap.size w w' := by
  unfold digF
  by_cases h : n < 10
  · rw [if_pos h]; exact rput_one n h0 h w
  · rw [if_neg h]; exact rput_two n (by omega) h1 w
end Go.Proofs.YtbonnjilbocldaaGreatDoor
