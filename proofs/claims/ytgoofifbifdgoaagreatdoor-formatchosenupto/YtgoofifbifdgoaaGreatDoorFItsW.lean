/-
  FormatItself: the walk.
-/
import Derived.Test.YtgoofifbifdgoaaGreatDoorFTruW
import Derived.Test.YtgoofifbifdgoaaGreatDoorFEscW
namespace Go.Proofs.YtgoofifbifdgoaaGreatDoor
open Go.RowKit
set_option linter.unusedVariables false
set_option maxRecDepth 100000

theorem sharp_count (c : UInt8) : ([35] : List UInt8).count c = if sharpB c then 1 else 0 := by
  have key : ∀ n : Fin 256, ([35] : List UInt8).count (UInt8.ofNat n.val) = if sharpB (UInt8.ofNat n.val) then 1 else 0 := by decide +kernel
  have h := key ⟨c.toNat, c.toNat_lt⟩
  rwa [show UInt8.ofNat c.toNat = c from UInt8.ofNat_toNat] at h
theorem ans_bound (text : List UInt8) : ansF (boundF text) = if 1024 < text.length then .returned (.tuple #[.string (str []), .int .i64 2]) else .returned (.tuple #[.string (str text), .int .i64 0]) := by
  unfold boundF
  split <;> rfl
theorem say_sharp (vs : Vars) (r : Nat) (text : List UInt8) : sayF vs r (escQ sharpB text) = some (boundF text) := by
  rw [say_itself sharpB sharp_ok]
  unfold boundF
  split <;> rfl
set_option maxHeartbeats 8000000 in
theorem formatItself_walk (text : List UInt8) (sv : Value) (vs : Vars) (w : World) (hE : FEnv w) (hv : VarsIn w sv vs) (hvs : ∀ p ∈ vs, p.2.length ≤ 2147483647) (hl : text.length ≤ 1048576) :
    Calls Tryz.prog 6 #[.string (str text), sv] w fun e w' => e = .returned (.bool true) ∧ Below w.heap.size w w' := by
  have HW : Hid (∀ W, Below w.heap.size w W → Calls Tryz.prog 9 #[] W fun e w' => e = .returned (.bool true) ∧ Below W.heap.size W w') := fun W h => works_true (hE.below h).max (hE.below h).err
  have HEs := hidK fun W => escaped_any text [35] sharpB (by omega) (by decide) sharp_count W
  have hpl := (esc_len sharpB text).2
  have HX : Hid (∀ W, Below w.heap.size w W → Calls Tryz.prog 11 #[.string (str (escQ sharpB text)), sv] W fun e w' => e = ansF (boundF text) ∧ Below W.heap.size W w') := fun W hb =>
    exp_any (hv.below hb) (hE.below hb).max hvs (hE.below hb).err _ (by omega) _ (say_sharp vs 16 text)
  rw [ans_bound] at HX
  obtain ⟨p, hp⟩ : ∃ p, str (escQ sharpB text) = p := ⟨_, rfl⟩
  rw [hp] at HEs HX
  have hts : (str text).size = text.length := rfl
  obtain ⟨z, hz⟩ : ∃ z, str text = z := ⟨_, rfl⟩
  rw [hz] at HEs hts HX ⊢
  obtain ⟨n, hn⟩ : ∃ n, text.length = n := ⟨_, rfl⟩
  rw [hn] at hl hts HX
  clear hp hz hn hpl hE hv hvs
  have s2 : (str []).toList = [] := str_toList _
  obtain ⟨z0, hz0⟩ : ∃ z0, str [] = z0 := ⟨_, rfl⟩
  rw [hz0] at s2 HX
  by_cases h1 : 1024 < n
  · rw [if_pos h1] at HX
    clear hz0
    go_enter Tryz.func6, Tryz.ntmps6
    go_wp2_with fail
    refine (HEs.out _).mono ?_
    rintro e w1 ⟨rfl, hb1⟩
    have HB1 := hidK hb1
    clear hb1
    go_wp2_with fail
    refine (HX.out _ HB1.out).mono ?_
    rintro e w2 ⟨rfl, hb2⟩
    have HB2 := hidK (HB1.out.trans (hb2.mono HB1.out.size))
    clear hb2
    go_wp2_with fail
    refine (HW.out _ HB2.out).mono ?_
    rintro e w3 ⟨rfl, hb3⟩
    have HB3 := hidK (HB2.out.trans (hb3.mono HB2.out.size))
    clear hb3
    go_wp2_with fail
    all_goals go_ret
    all_goals exact ⟨rfl, HB3.out⟩
  · rw [if_neg h1] at HX
    clear hz0 s2
    go_enter Tryz.func6, Tryz.ntmps6
    go_wp2_with fail
    refine (HEs.out _).mono ?_
    rintro e w1 ⟨rfl, hb1⟩
    have HB1 := hidK hb1
    clear hb1
    go_wp2_with fail
    refine (HX.out _ HB1.out).mono ?_
    rintro e w2 ⟨rfl, hb2⟩
    have HB2 := hidK (HB1.out.trans (hb2.mono HB1.out.size))
    clear hb2
    go_wp2_with fail
    refine (HW.out _ HB2.out).mono ?_
    rintro e w3 ⟨rfl, hb3⟩
    have HB3 := hidK (HB2.out.trans (hb3.mono HB2.out.size))
    clear hb3
    go_wp2_with fail
    all_goals go_ret
    all_goals exact ⟨rfl, HB3.out⟩
end Go.Proofs.YtgoofifbifdgoaaGreatDoor
