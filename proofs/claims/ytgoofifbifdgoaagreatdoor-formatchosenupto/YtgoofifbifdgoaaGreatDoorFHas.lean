/-
  Formats: what the members of a set stand for.
-/
import Derived.Test.YtgoofifbifdgoaaGreatDoorFPass
namespace Go.Proofs.YtgoofifbifdgoaaGreatDoor
open Go.RowKit
set_option linter.unusedVariables false
set_option maxRecDepth 20000

/-- How far the first member goes, and how long it is. -/
def spanF : List UInt8 → UInt8 × Nat
  | c :: d :: e :: _ => if d.toNat = 45 then (e, 3) else (c, 1)
  | c :: _ => (c, 1)
  | [] => (0, 1)
def hasG : Nat → List UInt8 → UInt8 → Bool
  | 0, _, _ => false
  | _ + 1, [], _ => false
  | n + 1, c :: r, b => (decide (c.toNat ≤ b.toNat) && decide (b.toNat ≤ (spanF (c :: r)).1.toNat)) || hasG n ((c :: r).drop (spanF (c :: r)).2) b
def hasF (l : List UInt8) (b : UInt8) : Bool := hasG l.length l b
theorem span_pos (l : List UInt8) : 1 ≤ (spanF l).2 := by
  match l with
  | [] => exact Nat.le_refl _
  | [c] => exact Nat.le_refl _
  | [c, d] => exact Nat.le_refl _
  | c :: d :: e :: r => simp only [spanF]; split <;> simp
theorem span_le {l : List UInt8} (h : l ≠ []) : (spanF l).2 ≤ l.length := by
  match l with
  | [] => exact absurd rfl h
  | [c] => simp [spanF]
  | [c, d] => simp [spanF]
  | c :: d :: e :: r => simp only [spanF, List.length_cons]; split <;> simp

theorem span_cs {x : List UInt8} {c t : UInt8} {n : Nat} (hc : x[0]? = some c) (hsp : spanF x = (t, n)) : (t = c ∧ n = 1 ∧ (x.length < 3 ∨ 3 ≤ x.length ∧ ∃ d, x[1]? = some d ∧ ¬ d.toNat = 45)) ∨ (n = 3 ∧ 3 ≤ x.length ∧ x[2]? = some t ∧ ∃ d, x[1]? = some d ∧ d.toNat = 45) := by
  match x with
  | [] => cases hc
  | [c'] => cases hc; cases hsp; exact .inl ⟨rfl, rfl, .inl (by simp)⟩
  | [c', d] => cases hc; cases hsp; exact .inl ⟨rfl, rfl, .inl (by simp)⟩
  | c' :: d :: e :: r =>
    cases hc
    simp only [spanF] at hsp
    split at hsp
    · cases hsp; exact .inr ⟨rfl, by simp, rfl, d, rfl, by assumption⟩
    · cases hsp; exact .inl ⟨rfl, rfl, .inr ⟨by simp, d, rfl, by assumption⟩⟩

set_option maxHeartbeats 4000000 in
theorem has_any (l : List UInt8) (hl : l.length ≤ 4611686018427387904) (b : UInt8) (w : World) : Calls Tryz.prog 37 #[.string (str l), .int .u8 (b.toNat : Int)] w fun e w' => e = .returned (.bool (hasF l b)) ∧ Below w.heap.size w w' := by
  have HF0 : Hid (hasG l.length l b = hasF l b) := rfl
  go_enter Tryz.func37, Tryz.ntmps37
  go_wp2_with fail
  go_loopw [0] (fun s0 wx => ∃ (x : List UInt8) (f : Nat), Hid (Below w.heap.size w wx) ∧ x.length ≤ 4611686018427387904 ∧ s0 = .string (str x) ∧ Hid (x.length ≤ f ∧ hasG f x b = hasF l b)) (fun s0 _ => match s0 with | .string z => z.size | _ => 0)
  case atStart => exact ⟨l, l.length, Below.refl _ _, hl, rfl, ⟨Nat.le_refl _, HF0.out⟩⟩
  case round =>
    obtain ⟨x, f, HB, hxl, rfl, HF⟩ := hrel
    by_cases hx : x = []
    · have HR : Hid (hasF l b = false) := by
        have h := HF.out.2
        rw [hx] at h
        cases f with
        | zero => exact h.symm
        | succ f => exact h.symm
      have h0 : (str x).toList = [] := by rw [str_toList]; exact hx
      have h1 : (str x).toList.isEmpty = true := by rw [h0]; rfl
      obtain ⟨z, hz⟩ : ∃ z, str x = z := ⟨_, rfl⟩
      rw [hz] at h0 h1 ⊢
      clear HF hz hx hxl
      go_wp2_with fail
      all_goals go_ret
      all_goals exact ⟨ret_bool (by rw [HR.out]), HB.out⟩
    · have h0 : ¬ (str x).toList = [] := by rw [str_toList]; exact hx
      have h1 : (str x).toList.isEmpty = false := by rw [str_toList]; cases x with | nil => exact absurd rfl hx | cons _ _ => rfl
      have hxp : 0 < x.length := List.length_pos_iff.2 hx
      obtain ⟨hf1, hf2⟩ := HF.out
      obtain ⟨f', rfl⟩ : ∃ f', f = f' + 1 := ⟨f - 1, by omega⟩
      obtain ⟨c, hc⟩ : ∃ c, x[0]? = some c := ⟨_, List.getElem?_eq_getElem hxp⟩
      obtain ⟨t, n, hsp⟩ : ∃ t n, spanF x = (t, n) := ⟨_, _, rfl⟩
      have hn1 : 1 ≤ n := by have := span_pos x; rw [hsp] at this; exact this
      have hn2 : n ≤ x.length := by have := span_le hx; rw [hsp] at this; exact this
      have hf3 : ((decide (c.toNat ≤ b.toNat) && decide (b.toNat ≤ t.toNat)) || hasG f' (x.drop n) b) = hasF l b := by
        cases x with
        | nil => exact absurd rfl hx
        | cons c' r =>
          cases hc
          have h := hf2
          simp only [hasG, hsp] at h
          exact h
      have hdn := str_dropF x n
      have hzs : (str x).size = x.length := rfl
      have g0 : ∀ h : 0 < (str x).size, (str x)[0] = c := fun h => str_getF _ 0 c hc h
      obtain ⟨y, hy⟩ : ∃ y, str (x.drop n) = y := ⟨_, rfl⟩
      have HXd : Hid ((x.drop n).length + n = x.length) := by show _ = _; rw [List.length_drop]; omega
      have hcs := span_cs hc hsp
      have g1 : ∀ d, x[1]? = some d → ∀ h : 1 < (str x).size, (str x)[1] = d := fun d hd h => str_getF _ 1 d hd h
      have g2 : ∀ d, x[2]? = some d → ∀ h : 2 < (str x).size, (str x)[2] = d := fun d hd h => str_getF _ 2 d hd h
      obtain ⟨z, hz⟩ : ∃ z, str x = z := ⟨_, rfl⟩
      rw [hz] at h0 h1 hdn hzs g0 g1 g2 ⊢
      rw [hy, hzs] at hdn
      have HY := hidK hy
      have HZ := hidK hz
      have g0' := g0 (by omega)
      have HF2 : Hid ((x.drop n).length ≤ f') := by have := HXd.out; show _ ≤ _; omega
      have HF3 := hidK hf3
      clear HF hf2 hf3 g0 hy hz hsp
      rcases hcs with ⟨rfl, rfl, hlt | ⟨h3, d, hd, hd45⟩⟩ | ⟨rfl, h3, ht, d, hd, hd45⟩
      · clear g1 g2
        clear hx hf1
        go_wp2_with fail
        go_region
        all_goals go_wp2
        all_goals first
          | (go_ret
             refine ⟨ret_bool ?_, HB.out.drew⟩
             rw [← HF3.out]
             simp only [Bool.or_eq_true, Bool.and_eq_true, decide_eq_true_eq, eq_comm (a := true)]
             exact .inl (by omega))
          | (go_roundw
             case rel =>
               refine ⟨x.drop 1, f', HB.out.drew, by have := HXd.out; omega, by rw [HY.out], HF2.out, ?_⟩
               have h := HF3.out
               rw [Bool.or_eq_right_iff_imp.2] at h
               · exact h
               · intro h9
                 simp only [Bool.and_eq_true, decide_eq_true_eq] at h9
                 omega
             case measure =>
               show ByteArray.size y < z.size
               rw [← HY.out]
               show (x.drop 1).length < z.size
               have := HXd.out
               omega)
      · have g1' := g1 d hd (by omega)
        clear g1 g2
        clear hx hf1
        go_wp2_with fail
        go_region
        all_goals go_wp2
        all_goals first
          | (go_ret
             refine ⟨ret_bool ?_, HB.out.drew⟩
             rw [← HF3.out]
             simp only [Bool.or_eq_true, Bool.and_eq_true, decide_eq_true_eq, eq_comm (a := true)]
             exact .inl (by omega))
          | (go_roundw
             case rel =>
               refine ⟨x.drop 1, f', HB.out.drew, by have := HXd.out; omega, by rw [HY.out], HF2.out, ?_⟩
               have h := HF3.out
               rw [Bool.or_eq_right_iff_imp.2] at h
               · exact h
               · intro h9
                 simp only [Bool.and_eq_true, decide_eq_true_eq] at h9
                 omega
             case measure =>
               show ByteArray.size y < z.size
               rw [← HY.out]
               show (x.drop 1).length < z.size
               have := HXd.out
               omega)
      · have g1' := g1 d hd (by omega)
        have g2' := g2 _ ht (by omega)
        clear g1 g2
        clear hx hf1
        go_wp2_with fail
        go_region
        all_goals go_wp2
        all_goals first
          | (go_ret
             refine ⟨ret_bool ?_, HB.out.drew⟩
             rw [← HF3.out]
             simp only [Bool.or_eq_true, Bool.and_eq_true, decide_eq_true_eq, eq_comm (a := true)]
             exact .inl (by omega))
          | (go_roundw
             case rel =>
               refine ⟨x.drop 3, f', HB.out.drew, by have := HXd.out; omega, by rw [HY.out], HF2.out, ?_⟩
               have h := HF3.out
               rw [Bool.or_eq_right_iff_imp.2] at h
               · exact h
               · intro h9
                 simp only [Bool.and_eq_true, decide_eq_true_eq] at h9
                 omega
             case measure =>
               show ByteArray.size y < z.size
               rw [← HY.out]
               show (x.drop 3).length < z.size
               have := HXd.out
               omega)
end Go.Proofs.YtgoofifbifdgoaaGreatDoor
