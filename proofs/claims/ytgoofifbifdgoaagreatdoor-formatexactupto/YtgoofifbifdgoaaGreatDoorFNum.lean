/-
  Formats: what makes a turn with a number.
-/
import Derived.Test.YtgoofifbifdgoaaGreatDoorFTurnB
namespace Go.Proofs.YtgoofifbifdgoaaGreatDoor
open Go.RowKit
set_option linter.unusedVariables false
set_option maxRecDepth 20000

/-- What makes a turn of a number. -/
def MakerOk (g : Nat) (c : Nat → Turn) : Prop := Enters g ∧ ∀ n : Nat, n < 10000 → ∀ w, Calls Tryz.prog g #[.int .i64 (n : Int)] w fun e w' => ∃ v, e = .returned v ∧ Below w.heap.size w w' ∧ TurnOk w.heap.size w' v (c n)
theorem maker_first : MakerOk 41 .cut := ⟨enters_of Tryz.func41 (by kernel_rfl) rfl, first_any⟩
theorem maker_last : MakerOk 42 .last := ⟨enters_of Tryz.func42 (by kernel_rfl) rfl, last_any⟩
theorem maker_behind : MakerOk 43 .behind := ⟨enters_of Tryz.func43 (by kernel_rfl) rfl, padBehind_any⟩
theorem maker_ahead : MakerOk 44 .ahead := ⟨enters_of Tryz.func44 (by kernel_rfl) rfl, padAhead_any⟩
/-- A turner, as a function value. -/
def TurnerOk (B : Nat) (w : World) (v : Value) (f : List UInt8 → Option Turn) : Prop := ∃ g lb, v = .func (.func g) #[] lb ∧ Enters g ∧ ∀ W, Since B w W → ∀ r : List UInt8, r.length ≤ 2147483647 → Calls Tryz.prog g (#[.string (str r)] ++ lb) W fun e w' => ∃ tv ok, e = .returned (.tuple #[tv, .bool ok]) ∧ Below W.heap.size W w' ∧ ((∃ t, f r = some t ∧ ok = true ∧ TurnOk W.heap.size w' tv t) ∨ (f r = none ∧ ok = false))
theorem TurnerOk.since {B B' : Nat} {w w' : World} {v : Value} {f : List UInt8 → Option Turn} (h : TurnerOk B w v f) (hb : Since B w w') (hB : B' ≤ B) : TurnerOk B' w' v f := by
  obtain ⟨g, lb, h1, h2, h3⟩ := h
  exact ⟨g, lb, h1, h2, fun W hW => h3 W (hb.trans (hW.mono hB))⟩
theorem head_len (c : UInt8) (l : List UInt8) : (headF c l).1.length ≤ l.length := by
  cases l with
  | nil => exact Nat.le_refl _
  | cons d r =>
    simp only [headF]
    split
    · exact Nat.le_succ _
    · exact Nat.le_refl _
theorem head_no {c : UInt8} {l : List UInt8} (h : (headF c l).2 = false) : (headF c l).1 = l := by
  cases l with
  | nil => rfl
  | cons d r =>
    simp only [headF] at h ⊢
    split at h
    · cases h
    · rename_i hd
      rw [if_neg hd]

set_option maxHeartbeats 2000000 in
theorem numbered_turner (gp gm : Nat) (cp cm : Nat → Turn) (hp : MakerOk gp cp) (hm : MakerOk gm cm) (W : World) (bp bm : Nat) (h1 : W.cell? ⟨bp, 0, none⟩ = some (.func (.func gp) #[] #[])) (h2 : W.cell? ⟨bm, 0, none⟩ = some (.func (.func gm) #[] #[])) (r : List UInt8) (hr : r.length ≤ 2147483647) :
    Calls Tryz.prog 89 #[.string (str r), .pointer (some ⟨bp, 0, none⟩), .pointer (some ⟨bm, 0, none⟩)] W fun e w' => ∃ tv ok, e = .returned (.tuple #[tv, .bool ok]) ∧ Below W.heap.size W w' ∧ ((∃ t, numF cp cm r = some t ∧ ok = true ∧ TurnOk W.heap.size w' tv t) ∨ (numF cp cm r = none ∧ ok = false)) := by
  obtain ⟨ep, hp⟩ := hp
  obtain ⟨em, hm⟩ := hm
  unfold Enters at ep em
  have HP := hidK hp
  have HM := hidK hm
  have HC := hidK (fun X => cutPrefix_any r 45 hr X)
  have e45 : str [45] = (⟨#[45]⟩ : ByteArray) := rfl
  rw [e45] at HC
  obtain ⟨F, hF⟩ : ∃ F, numF cp cm r = F := ⟨_, rfl⟩
  have HF := hidK hF
  unfold numF at HF
  rw [hF]
  obtain ⟨⟨d, b⟩, hd⟩ : ∃ p, headF 45 r = p := ⟨_, rfl⟩
  have hlen := head_len 45 r
  have hno : (headF 45 r).2 = false → (headF 45 r).1 = r := head_no
  rw [hd] at HC HF hlen hno
  simp only at HC HF hlen hno
  obtain ⟨z, hz⟩ : ∃ z, str r = z := ⟨_, rfl⟩
  rw [hz] at HC ⊢
  cases b with
  | true =>
    rw [if_pos rfl] at HF
    have HFo := hidK (fun X => four_any d (by omega) X)
    obtain ⟨y, hy⟩ : ∃ y, str d = y := ⟨_, rfl⟩
    rw [hy] at HC HFo
    clear hp hm hz hy hd hF e45 hno hlen hr HP
    go_enter Tryz.func89, Tryz.ntmps89
    go_wp2_with (go_at_call 90; refine (HC.out _).mono ?_; rintro x w1 ⟨rfl, rfl⟩)
    refine (HFo.out _).mono ?_
    rintro x w1 (⟨n, hn, hf, rfl, rfl⟩ | ⟨hf, ⟨n, rfl⟩, rfl⟩)
    · have HMk := hidK (fun X => HM.out n hn X)
      have HF1 := hidK hf
      clear hf
      go_wp2_with (go_at_fn gm; refine (HMk.out _).mono ?_; rintro x w2 ⟨v, rfl, hb2, ht2⟩)
      all_goals go_ret2
      all_goals exact ⟨_, _, rfl, by assumption, .inl ⟨cm n, by rw [← HF.out, HF1.out]; rfl, rfl, by assumption⟩⟩
    · have HF1 := hidK hf
      clear hf
      go_wp2_with fail
      all_goals go_ret2
      all_goals exact ⟨_, _, rfl, Below.refl _ _, .inr ⟨by rw [← HF.out, HF1.out]; rfl, rfl⟩⟩
  | false =>
    have hdr : d = r := hno rfl
    subst hdr
    rw [if_neg (by decide)] at HF
    have HFo := hidK (fun X => four_any d hr X)
    rw [hz] at HC HFo
    clear hp hm hz hd hF e45 hno hlen hr HM
    go_enter Tryz.func89, Tryz.ntmps89
    go_wp2_with (go_at_call 90; refine (HC.out _).mono ?_; rintro x w1 ⟨rfl, rfl⟩)
    refine (HFo.out _).mono ?_
    rintro x w1 (⟨n, hn, hf, rfl, rfl⟩ | ⟨hf, ⟨n, rfl⟩, rfl⟩)
    · have HMk := hidK (fun X => HP.out n hn X)
      have HF1 := hidK hf
      clear hf
      go_wp2_with (go_at_fn gp; refine (HMk.out _).mono ?_; rintro x w2 ⟨v, rfl, hb2, ht2⟩)
      all_goals go_ret2
      all_goals exact ⟨_, _, rfl, by assumption, .inl ⟨cp n, by rw [← HF.out, HF1.out]; rfl, rfl, by assumption⟩⟩
    · have HF1 := hidK hf
      clear hf
      go_wp2_with fail
      all_goals go_ret2
      all_goals exact ⟨_, _, rfl, Below.refl _ _, .inr ⟨by rw [← HF.out, HF1.out]; rfl, rfl⟩⟩

theorem numbered_any (gp gm : Nat) (cp cm : Nat → Turn) (hp : MakerOk gp cp) (hm : MakerOk gm cm) (w : World) : Calls Tryz.prog 40 #[.func (.func gp) #[] #[], .func (.func gm) #[] #[]] w fun e w' => ∃ v, e = .returned v ∧ Below w.heap.size w w' ∧ TurnerOk w.heap.size w' v (numF cp cm) := by
  go_enter Tryz.func40, Tryz.ntmps40
  go_wp2
  all_goals go_ret
  refine ⟨_, rfl, ?_, _, _, rfl, enters_of Tryz.func89 (by kernel_rfl) rfl, fun W hW r hr => numbered_turner gp gm cp cm hp hm W _ _ ?_ ?_ r hr⟩
  · exact ((Below.refl _ _).alloc (Nat.le_refl _) _).alloc (by simp) _
  · exact cell_atT ((hW.block _ (Nat.le_refl _) (by simp; omega)).trans (heap_two w _ _).1) 0
  · exact cell_atT ((hW.block _ (by simp) (by simp)).trans (heap_two w _ _).2.1) 0

end Go.Proofs.YtgoofifbifdgoaaGreatDoor
