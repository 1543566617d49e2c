/-
  Plans: the document's Text of every list; the statement on texts, walked.
-/
import Derived.Test.YtglncninkocgaaaGreatDoorDH
import Derived.Test.YtglncninkocgaaaGreatDoorCZB
import Derived.Test.YtglncninkocgaaaGreatDoorDE
namespace Go.Proofs.YtglncninkocgaaaGreatDoor
open Go.RowKit
set_option linter.unusedVariables false
set_option maxRecDepth 100000

set_option maxHeartbeats 2000000 in
theorem refText_any (v : Value) (l : List CellV) (w : World) (hv : CellsIn w v l) : Calls Tryz.prog 17 #[v] w fun e w' => e = .returned (.tuple #[.string (str (textF l)), .int .i64 (checkE l)]) ∧ Below w.heap.size w w' := by
  have HC : Hid (Calls Tryz.prog 16 #[v] w fun e w' => e = .returned (.int .i64 (checkE l)) ∧ Below w.heap.size w w') := check_ref v l w hv
  cases hr : readF l with
  | none =>
    have hE : checkE l = 40 := by unfold checkE; rw [hr]; rfl
    have hT : textF l = [] := by unfold textF; rw [hr]
    rw [hE] at HC ⊢
    rw [hT]
    unfold str
    clear hr hE hT hv
    go_enter Tryz.func17, Tryz.ntmps17
    go_wp2_with (go_at_call 16; refine HC.out.mono ?_; rintro e w1 ⟨rfl, hb1⟩)
    all_goals go_ret2
    exact ⟨rfl, hb1⟩
  | some t =>
    have hE : checkE l = 0 := by unfold checkE; rw [hr]; rfl
    have hT : textF l = planT t := by unfold textF; rw [hr]
    have hf := lay_fit hr
    have hl := hf.lay
    have hn : t.nums := nums_of t 0 hl.sound hl.kinds (by rw [hl.tell]; exact hf.fit)
    have hne : l ≠ [] := by rintro rfl; have := hf.pos; simp at this
    obtain ⟨b, o, cp, rfl, _, hs⟩ := hv.seen hne
    have hsz : t.size = l.length := by have := t.tell_length 0; rw [hl.tell] at this; exact this.symm
    obtain ⟨n, hnl⟩ : ∃ n, l.length = n := ⟨_, rfl⟩
    have hn63 : n ≤ 63 := by rw [← hnl]; exact hf.len
    rw [hE] at HC ⊢
    rw [hT]
    rw [hnl] at HC ⊢
    obtain ⟨B, hB⟩ : ∃ B, str t.text = B := ⟨_, rfl⟩
    have hBs : B.size ≤ 1961 := by rw [← hB, str_size]; exact hf.txt
    have HBd : Hid (∀ X, Below w.heap.size w X → Calls Tryz.prog 29 #[.slice (some ⟨b, o, none⟩) n cp, .int .i64 0] X fun e w' => e = .returned (.string B) ∧ Below X.heap.size X w') := fun X hX => by
      rw [← hB]
      exact body_all b o cp n l w hs hnl (by omega) t hn hl.sound hl.kinds (by omega) 0 0 X hX ⟨[], [], by rw [hl.tell]; simp, rfl, fun c r e => by cases e⟩
    obtain ⟨S, hS⟩ : ∃ S, sumS t.text = S := ⟨_, rfl⟩
    have hS2 : S < 65536 := by rw [← hS]; exact sumS_lt _
    have HSm : Hid (∀ X, Calls Tryz.prog 31 #[.string B] X fun e w' => e = .returned (.int .i64 (S : Int)) ∧ X = w') := fun X => by
      have h := refSum_any B X (by omega)
      rw [← hB, str_data, hS] at h
      rw [← hB]
      exact h
    obtain ⟨K, hK⟩ : ∃ K, str [hexB (S / 4096 % 16), hexB (S / 256 % 16), hexB (S / 16 % 16), hexB (S % 16)] = K := ⟨_, rfl⟩
    have hKs : K.size = 4 := by rw [← hK]; rfl
    have HFo : Hid (∀ X, Calls Tryz.prog 30 #[.int .i64 (S : Int)] X fun e w' => e = .returned (.string K) ∧ Below X.heap.size X w') := fun X => by rw [← hK]; exact four_any S hS2 X
    have HEnd : Hid (K ++ (⟨#[44]⟩ : ByteArray) ++ B = str (planT t)) := by
      show _ = _
      rw [← hK, ← hB]
      show str _ ++ str [44] ++ str _ = _
      rw [str_cat, str_cat]
      unfold planT headL
      rw [hS]
      rfl
    have g1 : ¬ 9223372036854775807 < K.size + 1 := by omega
    have g2 : ¬ 9223372036854775807 < K.size + 1 + B.size := by omega
    clear hr hE hT hv hf hl hn hne hs hsz hB hS hK hnl
    go_enter Tryz.func17, Tryz.ntmps17
    go_wp2_with (first | (go_at_call 16; refine HC.out.mono ?_; rintro e w1 ⟨rfl, hb1⟩; have H1 := hidden hb1; clear hb1) | (go_at_call 29; refine (HBd.out _ H1.out).mono ?_; rintro e w2 ⟨rfl, hb2⟩; have H2 := hidden (below_step H1.out hb2); clear hb2) | (go_at_call 31; refine (HSm.out _).mono ?_; rintro e w3 ⟨rfl, rfl⟩) | (go_at_call 30; refine (HFo.out _).mono ?_; rintro e w4 ⟨rfl, hb4⟩; have H4 := hidden (below_step H2.out hb4); clear hb4))
    all_goals go_ret2
    exact ⟨by first | (rw [← HEnd.out]; done) | (rw [← HEnd.out]; rfl), H4.out⟩

set_option maxHeartbeats 4000000 in
theorem planTexts_walk (v : Value) (l : List CellV) (w : World) (hv : CellsIn w v l) (hz : v = .slice none 0 0 ∨ ∃ a n c, v = .slice (some a) n c) (hlen : l.length * 56 ≤ 140737488351232) (hN : NumV w) : Calls Tryz.prog 6 #[v] w fun e w' => e = .returned (.bool true) ∧ Below w.heap.size w w' := by
  have HV : Hid (CellsIn (w.alloc (.cells #[] 39)) v l) := hv.below ((Below.refl _ _).alloc (Nat.le_refl _) _)
  have HO0 : Hid (CeOwns (w.alloc (.cells #[] 39)) w.heap.size (.slice (some ⟨w.heap.size, 0, none⟩) 0 0) []) := World.ownsRow_lit w #[] 0 (Nat.le_refl _) (by decide) (by simp)
  have HB0 : Hid (w.heap.size ≤ (w.alloc (.cells #[] 39)).heap.size) := by show _ ≤ _; simp
  have HZ := hidden hz
  obtain ⟨s, hs⟩ : ∃ s, str (textF l) = s := ⟨_, rfl⟩
  obtain ⟨E, hE⟩ : ∃ E, checkE l = E := ⟨_, rfl⟩
  have HT : Hid (∀ X, Below w.heap.size w X → Calls Tryz.prog 11 #[v] X fun e w' => e = .returned (.tuple #[.string s, .int .i64 E]) ∧ Below X.heap.size X w') := fun X hX => by rw [← hs, ← hE]; exact text_any v l X (hv.below hX) (hN.below hX)
  have HR : Hid (∀ u X, CellsIn X u l → Calls Tryz.prog 17 #[u] X fun e w' => e = .returned (.tuple #[.string s, .int .i64 E]) ∧ Below X.heap.size X w') := fun u X hX => by rw [← hs, ← hE]; exact refText_any u l X hX
  have HSa : Hid (∀ u X, Below w.heap.size w X → CellsIn X u l → Calls Tryz.prog 13 #[v, u] X fun e w' => e = .returned (.bool true) ∧ Below X.heap.size X w') := fun u X hX hu => by
    have h := same_any5 v u l l X (hv.below hX) hu (by omega)
    simpa using h
  have HS : Hid (∀ X, Below w.heap.size w X → Calls Tryz.prog 10 #[] X fun e w' => e = .returned (.bool true) ∧ Below X.heap.size X w') := fun X hX => sure_true X (hN.below hX)
  have HL := hidden hlen
  clear hv hN hs hE hlen
  obtain ⟨va, vn, vc, hvs⟩ : ∃ a n c, v = .slice a n c := by rcases hz with h | ⟨a, n, c, h⟩; exact ⟨_, _, _, h⟩; exact ⟨_, _, _, h⟩
  subst hvs
  clear hz
  go_enter Tryz.func6, Tryz.ntmps6
  go_wp2_with (first
    | (at_builtin; refine wpList_append_cells _ rfl _ _ rfl w.heap.size (.slice (some ⟨w.heap.size, 0, none⟩) 0 0) [] ?y1 HO0.out HB0.out (.slice va vn vc) l ?y2 HV.out HZ.out ?y3 ?_; (case y1 => simp [Act.eval]); (case y2 => simp [Act.eval]); (case y3 => have := HL.out; simp; omega); intro v' w' k2 k3; obtain ⟨sa, sn, sc, rfl⟩ := ce_slice k2; have HO1 := hidden k2; have H1 : Hid (Below w.heap.size w w') := below_grown ((Below.refl _ _).alloc (Nat.le_refl _) _) k3 (Nat.le_refl _); clear k2 k3)
    | (go_at_call 11; refine (HT.out _ H1.out).mono ?_; rintro e w2 ⟨rfl, hb2⟩; have H2 := hidden (below_step H1.out hb2); have HO2 := hidden (HO1.out.below hb2); clear hb2)
    | (go_at_call 17; refine (HR.out _ _ HO2.out.cellsIn).mono ?_; rintro e w3 ⟨rfl, hb3⟩; have H3 := hidden (below_step H2.out hb3); have HO3 := hidden (HO2.out.below hb3); clear hb3)
    | (go_at_call 13; refine (HSa.out _ _ H3.out HO3.out.cellsIn).mono ?_; rintro e w4 ⟨rfl, hb4⟩; have H4 := hidden (below_step H3.out hb4); clear hb4)
    | (go_at_call 10; refine (HS.out _ H4.out).mono ?_; rintro e w5 ⟨rfl, hb5⟩))
  all_goals go_ret
  exact ⟨rfl, below_step H4.out hb5⟩
end Go.Proofs.YtglncninkocgaaaGreatDoor
