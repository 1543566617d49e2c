/-
  FormatChosen: the walk.
-/
import Derived.Test.YtgoofifbifdgoaaGreatDoorGN
import Derived.Test.YtgoofifbifdgoaaGreatDoorGQ
namespace Go.Proofs.YtgoofifbifdgoaaGreatDoor
open Go.RowKit
set_option linter.unusedVariables false
set_option maxRecDepth 100000

theorem three_count (c : UInt8) : ([35, 44, 125] : List UInt8).count c = if threeB c then 1 else 0 := by
  have key : ∀ n : Fin 256, ([35, 44, 125] : List UInt8).count (UInt8.ofNat n.val) = if threeB (UInt8.ofNat n.val) then 1 else 0 := by decide +kernel
  have h := key ⟨c.toNat, c.toNat_lt⟩
  rwa [show UInt8.ofNat c.toNat = c from UInt8.ofNat_toNat] at h
/-- Expand of what is told, from any later world. -/
theorem exp_env {w : World} (hE : FEnv w) (l : List UInt8) (hl : l.length ≤ 2147483647) (res : Except Int (List UInt8)) (h : sayF [] 16 l = some res) (W : World) (hb : Below w.heap.size w W) :
    Calls Tryz.prog 11 #[.string (str l), .slice none 0 0] W fun e w' => e = ansF res ∧ Below W.heap.size W w' :=
  exp_any (vars0_in W) (hE.below hb).max (fun p hp => by simp at hp) (hE.below hb).err l hl res h
theorem esc_no : escQ threeB [110, 111] = [110, 111] := by decide
set_option maxHeartbeats 8000000 in
theorem formatChosen_walk (text : List UInt8) (first : Bool) (w : World) (hE : FEnv w) (hl : text.length ≤ 1048576) :
    Calls Tryz.prog 7 #[.string (str text), .bool first] w fun e w' => e = .returned (.bool true) ∧ Below w.heap.size w w' := by
  have HW : Hid (∀ W, Below w.heap.size w W → Calls Tryz.prog 9 #[] W fun e w' => e = .returned (.bool true) ∧ Below W.heap.size W w') := fun W h => works_true (hE.below h).max (hE.below h).err
  have HEs := hidK fun W => escaped_any text [35, 44, 125] threeB (by omega) (by decide) three_count W
  have hpl := (esc_len threeB text).2
  have hno : choT [49] (escQ threeB text) [110, 111] = [35, 123, 63, 49, 44] ++ escQ threeB text ++ [44, 110, 111, 125] := by simp [choT, placed]
  have hn0 : choT [48] (escQ threeB text) [110, 111] = [35, 123, 63, 48, 44] ++ escQ threeB text ++ [44, 110, 111, 125] := by simp [choT, placed]
  have hne : choT [] [110, 111] (escQ threeB text) = [35, 123, 63, 44, 110, 111, 44] ++ escQ threeB text ++ [125] := by simp [choT, placed]
  have hnx : choT [120, 32, 121] [110, 111] (escQ threeB text) = [35, 123, 63, 120, 32, 121, 44, 110, 111, 44] ++ escQ threeB text ++ [125] := by simp [choT, placed]
  have f1 := cho_say [] 15 [49] text [110, 111] rfl (by decide) rfl
  have f0 := cho_say [] 15 [48] text [110, 111] rfl (by decide) rfl
  have fe := cho_say [] 15 [] [110, 111] text rfl (by decide) rfl
  have fx := cho_say [] 15 [120, 32, 121] [110, 111] text rfl (by decide) rfl
  rw [esc_no] at f1 f0 fe fx
  rw [hno] at f1
  rw [hn0] at f0
  rw [hne] at fe
  rw [hnx] at fx
  have g1 : truthF [49] = true := rfl
  have g0 : truthF [48] = false := rfl
  have ge : truthF [] = false := rfl
  have gx : truthF [120, 32, 121] = true := rfl
  rw [g1, if_pos rfl] at f1
  rw [g0, if_neg (by simp)] at f0
  rw [ge, if_neg (by simp)] at fe
  rw [gx, if_pos rfl] at fx
  have b2 : boundF [110, 111] = .ok [110, 111] := rfl
  rw [b2] at f0 fx
  have H1 := hidK fun W hb => exp_env hE _ (by simp; omega) _ f1 W hb
  have H0 := hidK fun W hb => exp_env hE _ (by simp; omega) _ f0 W hb
  have Hee := hidK fun W hb => exp_env hE _ (by simp; omega) _ fe W hb
  have Hxx := hidK fun W hb => exp_env hE _ (by simp; omega) _ fx W hb
  rw [← str_cat, ← str_cat] at H1 H0 Hee Hxx
  rw [ans_bound] at H1 Hee
  obtain ⟨p, hp⟩ : ∃ p, str (escQ threeB text) = p := ⟨_, rfl⟩
  have hps : p.size ≤ 2 * text.length := by rw [← hp, str_size]; exact hpl
  rw [hp] at HEs H1 H0 Hee Hxx
  have hts : (str text).size = text.length := rfl
  obtain ⟨z, hz⟩ : ∃ z, str text = z := ⟨_, rfl⟩
  rw [hz] at HEs hts H1 Hee ⊢
  obtain ⟨n, hn⟩ : ∃ n, text.length = n := ⟨_, rfl⟩
  rw [hn] at hl hps hts H1 Hee
  clear f1 f0 fe fx hno hn0 hne hnx g1 g0 ge gx b2 hp hz hn hpl hE
  have s1 : (str [110, 111]).toList = [110, 111] := str_toList _
  have s2 : (str []).toList = [] := str_toList _
  cases first with
  | true =>
    by_cases h1 : 1024 < n
    · rw [if_pos h1] at H1
      go_enter Tryz.func7, Tryz.ntmps7
      go_wp2_with fail
      refine (HEs.out _).mono ?_
      rintro e w1 ⟨rfl, hb1⟩
      have HB1 := hidK hb1
      clear hb1
      go_wp2_with fail
      refine (H1.out _ HB1.out).mono ?_
      rintro e w2 ⟨rfl, hb2⟩
      have HB2 := hidK (HB1.out.trans (hb2.mono HB1.out.size))
      clear hb2
      go_wp2_with fail
      refine (H0.out _ HB2.out).mono ?_
      rintro e w3 ⟨rfl, hb3⟩
      have HB3 := hidK (HB2.out.trans (hb3.mono HB2.out.size))
      clear hb3
      simp only [ansF]
      go_wp2_with fail
      refine (HW.out _ HB3.out).mono ?_
      rintro e w4 ⟨rfl, hb4⟩
      have HB4 := hidK (HB3.out.trans (hb4.mono HB3.out.size))
      clear hb4
      go_wp2_with fail
      all_goals go_ret
      all_goals exact ⟨rfl, HB4.out⟩
    · rw [if_neg h1] at H1
      go_enter Tryz.func7, Tryz.ntmps7
      go_wp2_with fail
      refine (HEs.out _).mono ?_
      rintro e w1 ⟨rfl, hb1⟩
      have HB1 := hidK hb1
      clear hb1
      go_wp2_with fail
      refine (H1.out _ HB1.out).mono ?_
      rintro e w2 ⟨rfl, hb2⟩
      have HB2 := hidK (HB1.out.trans (hb2.mono HB1.out.size))
      clear hb2
      go_wp2_with fail
      refine (H0.out _ HB2.out).mono ?_
      rintro e w3 ⟨rfl, hb3⟩
      have HB3 := hidK (HB2.out.trans (hb3.mono HB2.out.size))
      clear hb3
      simp only [ansF]
      go_wp2_with fail
      refine (HW.out _ HB3.out).mono ?_
      rintro e w4 ⟨rfl, hb4⟩
      have HB4 := hidK (HB3.out.trans (hb4.mono HB3.out.size))
      clear hb4
      go_wp2_with fail
      all_goals go_ret
      all_goals exact ⟨rfl, HB4.out⟩
  | false =>
    by_cases h1 : 1024 < n
    · rw [if_pos h1] at Hee
      go_enter Tryz.func7, Tryz.ntmps7
      go_wp2_with fail
      refine (HEs.out _).mono ?_
      rintro e w1 ⟨rfl, hb1⟩
      have HB1 := hidK hb1
      clear hb1
      go_wp2_with fail
      refine (Hee.out _ HB1.out).mono ?_
      rintro e w2 ⟨rfl, hb2⟩
      have HB2 := hidK (HB1.out.trans (hb2.mono HB1.out.size))
      clear hb2
      go_wp2_with fail
      refine (Hxx.out _ HB2.out).mono ?_
      rintro e w3 ⟨rfl, hb3⟩
      have HB3 := hidK (HB2.out.trans (hb3.mono HB2.out.size))
      clear hb3
      simp only [ansF]
      go_wp2_with fail
      refine (HW.out _ HB3.out).mono ?_
      rintro e w4 ⟨rfl, hb4⟩
      have HB4 := hidK (HB3.out.trans (hb4.mono HB3.out.size))
      clear hb4
      go_wp2_with fail
      all_goals go_ret
      all_goals exact ⟨rfl, HB4.out⟩
    · rw [if_neg h1] at Hee
      go_enter Tryz.func7, Tryz.ntmps7
      go_wp2_with fail
      refine (HEs.out _).mono ?_
      rintro e w1 ⟨rfl, hb1⟩
      have HB1 := hidK hb1
      clear hb1
      go_wp2_with fail
      refine (Hee.out _ HB1.out).mono ?_
      rintro e w2 ⟨rfl, hb2⟩
      have HB2 := hidK (HB1.out.trans (hb2.mono HB1.out.size))
      clear hb2
      go_wp2_with fail
      refine (Hxx.out _ HB2.out).mono ?_
      rintro e w3 ⟨rfl, hb3⟩
      have HB3 := hidK (HB2.out.trans (hb3.mono HB2.out.size))
      clear hb3
      simp only [ansF]
      go_wp2_with fail
      refine (HW.out _ HB3.out).mono ?_
      rintro e w4 ⟨rfl, hb4⟩
      have HB4 := hidK (HB3.out.trans (hb4.mono HB3.out.size))
      clear hb4
      go_wp2_with fail
      all_goals go_ret
      all_goals exact ⟨rfl, HB4.out⟩
end Go.Proofs.YtgoofifbifdgoaaGreatDoor
