/-
  Keys: what the document reads is what the program reads (pure).
-/
import Derived.Test.YtghepjjfdaecgaaDoorKRdR
import Derived.Test.YtghepjjfdaecgaaDoorKAll
namespace Go.Proofs.YtghepjjfdaecgaaDoor
open Go.RowKit
set_option linter.unusedVariables false
set_option maxRecDepth 100000

theorem mem_run {a m c : Int} (h0 : a ≤ c) : ∀ n : Nat, c < a + n → (c, m) ∈ runF a m n
  | 0, h => absurd h (by omega)
  | n + 1, h => by
    unfold runF
    by_cases e : c = a + n
    · rw [e]; exact List.mem_append_right _ List.mem_cons_self
    · exact List.mem_append_left _ (mem_run h0 n (by omega))
theorem mem_row {m c : Int} (h : 0 ≤ c ∧ c < 128 ∨ 16777217 ≤ c ∧ c ≤ 16777239) : (c, m) ∈ rowF m := by
  unfold rowF
  rcases h with h | h
  · exact List.mem_append_left _ (mem_run h.1 128 (by omega))
  · exact List.mem_append_right _ (mem_run h.1 23 (by omega))
theorem mem_all {c : Int} {m : Nat} (h : (c, (m : Int)) ∈ rowF m) : ∀ n : Nat, m < n → (c, (m : Int)) ∈ allF n
  | 0, h => absurd h (by omega)
  | n + 1, hm => by
    unfold allF
    by_cases e : m = n
    · rw [← e]; exact List.mem_append_right _ h
    · exact List.mem_append_left _ (mem_all h n (by omega))
theorem valid_where {c m : Int} (h : validB c m = true) : (0 ≤ m ∧ m ≤ 7 ∧ (0 ≤ c ∧ c < 128 ∨ 16777217 ≤ c ∧ c ≤ 16777239)) ∨ ((m = 0 ∨ m = 2) ∧ 128 ≤ c ∧ chrB c = true) := by
  unfold validB plainM ctrlM at h
  by_cases a : c = 32
  · rw [if_pos a] at h
    simp only [Bool.or_eq_true, decide_eq_true_eq] at h
    left; omega
  · rw [if_neg a] at h
    by_cases b : oneB c = true
    · rw [if_pos b] at h
      simp only [Bool.or_eq_true, decide_eq_true_eq, oneB] at h b
      left; omega
    · rw [if_neg b] at h
      by_cases d : c = 16777239
      · rw [if_pos d] at h
        simp only [decide_eq_true_eq] at h
        left; omega
      · rw [if_neg d] at h
        by_cases e : spcB c = true
        · rw [if_pos e] at h
          simp only [decide_eq_true_eq, spcB] at h e
          left; omega
        · rw [if_neg e] at h
          simp only [Bool.or_eq_true, Bool.and_eq_true, decide_eq_true_eq] at h
          rcases h with ⟨hm, hc⟩ | ⟨hm, hc⟩
          · by_cases q : c < 128
            · have hc2 := hc
              simp only [chrB, decide_eq_true_eq] at hc2
              left; omega
            · exact .inr ⟨hm, by omega, hc⟩
          · simp only [ctlB, decide_eq_true_eq] at hc
            left; omega
/-- A name without M-, and whether it has one. -/
def restF (l : List UInt8) : List UInt8 × Int := if 2 < l.length ∧ l.take 2 = [77, 45] then (l.drop 2, 2) else (l, 0)
def hitB (l : List UInt8) (k : Int × Int) : Bool := validB k.1 k.2 && decide (nameF k.1 k.2 = l)
def lastF (l : List UInt8) : Option (Int × Int) :=
  match firstF (restF l).1 with
  | some (c, n) => if n = (restF l).1.length ∧ hitB l (c, (restF l).2) = true then some (c, (restF l).2) else none
  | none => none
def readR (l : List UInt8) : Option (Int × Int) :=
  match (allF 8).find? (hitB l) with
  | some k => some k
  | none => lastF l
theorem hit_read {l : List UInt8} {k : Int × Int} (h : hitB l k = true) : readF l = some k := by
  unfold hitB at h
  simp only [Bool.and_eq_true, decide_eq_true_eq] at h
  rw [← h.2]
  exact read_name h.1
theorem rest_enc {c m : Int} (hm : m = 0 ∨ m = 2) (h0 : 128 ≤ c) (hc : chrB c = true) (l : List UInt8) (hl : modF m ++ r8F c = l) : restF l = (r8F c, m) := by
  obtain ⟨k0, k1, k2, k3, k4⟩ := chr_of hc
  obtain ⟨b, r, e, hb, hr⟩ := enc_high h0 k1 k2
  rw [← r8_enc (by omega) k1 k2] at e
  rw [e] at hl ⊢
  subst hl
  unfold restF
  rcases hm with rfl | rfl
  · have z : modF 0 = [] := rfl
    rw [z, List.nil_append, if_neg]
    rintro ⟨_, h⟩
    cases r with
    | nil => exact absurd rfl hr
    | cons d r =>
      have h2 : b = 77 := by injection h
      rw [h2] at hb
      exact absurd hb (by decide)
  · have z : modF 2 = [77, 45] := rfl
    rw [z, if_pos ⟨by simp, rfl⟩]
    rfl
theorem read_same (l : List UInt8) : readR l = readF l := by
  unfold readR
  cases hf : (allF 8).find? (hitB l) with
  | some k => exact (hit_read (List.find?_some hf)).symm
  | none =>
    show lastF l = _
    by_cases hn : readF l = none
    · rw [hn]
      unfold lastF
      cases hq : firstF (restF l).1 with
      | none => rfl
      | some p =>
        obtain ⟨c, n⟩ := p
        show (if _ then _ else _) = _
        rw [if_neg]
        rintro ⟨_, h⟩
        rw [hit_read h] at hn
        cases hn
    · obtain ⟨k, hk⟩ := Option.ne_none_iff_exists'.1 hn
      obtain ⟨hv, hname⟩ := name_read hk
      obtain ⟨c, m⟩ := k
      have hit : hitB l (c, m) = true := by unfold hitB; simp only [Bool.and_eq_true, decide_eq_true_eq]; exact ⟨hv, hname⟩
      rcases valid_where hv with ⟨m0, m7, hc⟩ | ⟨hm, h128, hc⟩
      · obtain ⟨M, rfl⟩ : ∃ M : Nat, m = (M : Int) := ⟨m.toNat, by omega⟩
        have := List.find?_eq_none.1 hf _ (mem_all (m := M) (mem_row hc) 8 (by omega))
        exact absurd hit this
      · obtain ⟨k0, k1, k2, k3, k4⟩ := chr_of hc
        have hl : modF m ++ r8F c = l := by
          rw [← hname]
          unfold nameF
          rw [if_pos hv]
          show _ = modF m ++ bareF c
          rw [bare_chr hc, r8_enc (by omega) k1 k2]
        have hr := rest_enc hm h128 hc l hl
        rw [hk]
        unfold lastF
        rw [hr, first_enc h128 k1 k2]
        show (if _ then _ else _) = _
        rw [if_pos ⟨rfl, hit⟩]
end Go.Proofs.YtghepjjfdaecgaaDoor
