/-
  Plans: the document's Text of every list; the statement on texts, walked.
-/
import Derived.Test.YtglncninkocgaabGreatDoorDH
import Derived.Test.YtglncninkocgaabGreatDoorCZB
import Derived.Test.YtglncninkocgaabGreatDoorDE
namespace Go.Proofs.YtglncninkocgaabGreatDoor
open Go.RowKit
set_option linter.unusedVariables false
set_option maxRecDepth 100000

set_option maxHeartbeats 2000000 in
theorem refText_any (v : Value) (l : List CellV) (w : World) (hv : CellsIn w v l) : Calls Tryz.prog 4 #[v] w fun e w' => e = .returned (.tuple #[.string (str (textF l)), .int .i64 (checkE l)]) ∧ Below w.heap.size w w' := by
  have HC : Hid (Calls Tryz.prog 11 #[v] w fun e w' => e = .returned (.int .i64 (checkE l)) ∧ Below w.heap.size w w') := check_ref v l w hv
  cases hr : readF l with
  | none =>
    have hE : checkE l = 40 := by unfold checkE; rw [hr]; rfl
    have hT : textF l = [] := by unfold textF; rw [hr]
    rw [hE] at HC ⊢
    rw [hT]
    unfold str
    clear hr hE hT hv
    go_enter Tryz.func4, Tryz.ntmps4
    go_wp2_with (go_at_call 11; refine HC.out.mono ?_; rintro e w1 ⟨rfl, hb1⟩)
    all_goals go_ret2
    exact ⟨rfl, hb1⟩
  | some t =>
    have hE : checkE l = 0 := by unfold checkE; rw [hr]; rfl
    have hT : textF l = planT t := by unfold textF; rw [hr]
    have hf := lay_fit hr
    have hl := hf.lay
    have hn : t.nums := nums_of t 0 hl.sound hl.kinds (by rw [hl.tell]; exact hf.fit)
    have hne : l ≠ [] := by rintro rfl; have := hf.pos; simp at this
    obtain ⟨b, o, cp, rfl, _, hs⟩ := hv.seen hne
    have hsz : t.size = l.length := by have := t.tell_length 0; rw [hl.tell] at this; exact this.symm
    obtain ⟨n, hnl⟩ : ∃ n, l.length = n := ⟨_, rfl⟩
    have hn63 : n ≤ 63 := by rw [← hnl]; exact hf.len
    rw [hE] at HC ⊢
    rw [hT]
    rw [hnl] at HC ⊢
    obtain ⟨B, hB⟩ : ∃ B, str t.text = B := ⟨_, rfl⟩
    have hBs : B.size ≤ 1961 := by rw [← hB, str_size]; exact hf.txt
    have HBd : Hid (∀ X, Below w.heap.size w X → Calls Tryz.prog 12 #[.slice (some ⟨b, o, none⟩) n cp, .int .i64 0] X fun e w' => e = .returned (.string B) ∧ Below X.heap.size X w') := fun X hX => by
      rw [← hB]
      exact body_all b o cp n l w hs hnl (by omega) t hn hl.sound hl.kinds (by omega) 0 0 X hX ⟨[], [], by rw [hl.tell]; simp, rfl, fun c r e => by cases e⟩
    obtain ⟨S, hS⟩ : ∃ S, sumS t.text = S := ⟨_, rfl⟩
    have hS2 : S < 65536 := by rw [← hS]; exact sumS_lt _
    have HSm : Hid (∀ X, Calls Tryz.prog 14 #[.string B] X fun e w' => e = .returned (.int .i64 (S : Int)) ∧ X = w') := fun X => by
      have h := refSum_any B X (by omega)
      rw [← hB, str_data, hS] at h
      rw [← hB]
      exact h
    obtain ⟨K, hK⟩ : ∃ K, str [hexB (S / 4096 % 16), hexB (S / 256 % 16), hexB (S / 16 % 16), hexB (S % 16)] = K := ⟨_, rfl⟩
    have hKs : K.size = 4 := by rw [← hK]; rfl
    have HFo : Hid (∀ X, Calls Tryz.prog 13 #[.int .i64 (S : Int)] X fun e w' => e = .returned (.string K) ∧ Below X.heap.size X w') := fun X => by rw [← hK]; exact four_any S hS2 X
    have HEnd : Hid (K ++ (⟨#[44]⟩ : ByteArray) ++ B = str (planT t)) := by
      show _ = _
      rw [← hK, ← hB]
      show str _ ++ str [44] ++ str _ = _
      rw [str_cat, str_cat]
      unfold planT headL
      rw [hS]
      rfl
    have g1 : ¬ 9223372036854775807 < K.size + 1 := by omega
    have g2 : ¬ 9223372036854775807 < K.size + 1 + B.size := by omega
    clear hr hE hT hv hf hl hn hne hs hsz hB hS hK hnl
    go_enter Tryz.func4, Tryz.ntmps4
    go_wp2_with (first | (go_at_call 11; refine HC.out.mono ?_; rintro e w1 ⟨rfl, hb1⟩; have H1 := hidden hb1; clear hb1) | (go_at_call 12; refine (HBd.out _ H1.out).mono ?_; rintro e w2 ⟨rfl, hb2⟩; have H2 := hidden (below_step H1.out hb2); clear hb2) | (go_at_call 14; refine (HSm.out _).mono ?_; rintro e w3 ⟨rfl, rfl⟩) | (go_at_call 13; refine (HFo.out _).mono ?_; rintro e w4 ⟨rfl, hb4⟩; have H4 := hidden (below_step H2.out hb4); clear hb4))
    all_goals go_ret2
    exact ⟨by first | (rw [← HEnd.out]; done) | (rw [← HEnd.out]; rfl), H4.out⟩

end Go.Proofs.YtglncninkocgaabGreatDoor
