/-
  Formats: lists of variables of one's own; a copy of one.
-/
import Derived.Test.YtlfcjcaofhcfnaaGreatDoorGD
namespace Go.Proofs.YtlfcjcaofhcfnaaGreatDoor
open Go.RowKit
set_option linter.unusedVariables false
set_option maxRecDepth 100000

def varsV (vs : Vars) : List Value := vs.flatMap fun p => [.string (str p.1), .string (str p.2)]
theorem varsV_len (vs : Vars) : (varsV vs).length = vs.length * 2 := by
  induction vs with
  | nil => rfl
  | cons p vs ih =>
    have e : varsV (p :: vs) = [.string (str p.1), .string (str p.2)] ++ varsV vs := rfl
    rw [e, List.length_append, ih]
    simp
    omega
theorem varsV_app (a b : Vars) : varsV (a ++ b) = varsV a ++ varsV b := List.flatMap_append
theorem varsV_one (vs : Vars) : ∀ u ∈ varsV vs, u.oneCell' = true := fun u hu => by
  obtain ⟨p, _, h⟩ := List.mem_flatMap.1 hu
  simp at h
  rcases h with rfl | rfl <;> rfl
theorem varsV_at : ∀ {vs : Vars} {i : Nat} {p : List UInt8 × List UInt8}, vs[i]? = some p → (varsV vs)[i * 2]? = some (.string (str p.1)) ∧ (varsV vs)[i * 2 + 1]? = some (.string (str p.2))
  | [], i, p, h => by simp at h
  | q :: vs, 0, p, h => by
    simp at h
    subst h
    exact ⟨rfl, rfl⟩
  | q :: vs, i + 1, p, h => by
    simp only [List.getElem?_cons_succ] at h
    have e : varsV (q :: vs) = .string (str q.1) :: .string (str q.2) :: varsV vs := rfl
    have h2 := varsV_at h
    rw [e, show (i + 1) * 2 = i * 2 + 1 + 1 by omega]
    simp only [List.getElem?_cons_succ]
    exact h2
theorem varsV_of : ∀ {vs : Vars} {j : Nat} {u : Value}, (varsV vs)[j]? = some u → ∃ p, vs[j / 2]? = some p ∧ u = if j % 2 = 0 then .string (str p.1) else .string (str p.2)
  | [], j, u, h => by simp [varsV] at h
  | q :: vs, 0, u, h => ⟨q, rfl, by
      have e : varsV (q :: vs) = .string (str q.1) :: .string (str q.2) :: varsV vs := rfl
      rw [e] at h
      simpa using h.symm⟩
  | q :: vs, 1, u, h => ⟨q, rfl, by
      have e : varsV (q :: vs) = .string (str q.1) :: .string (str q.2) :: varsV vs := rfl
      rw [e] at h
      simpa using h.symm⟩
  | q :: vs, j + 2, u, h => by
    have e : varsV (q :: vs) = .string (str q.1) :: .string (str q.2) :: varsV vs := rfl
    rw [e] at h
    simp only [List.getElem?_cons_succ] at h
    obtain ⟨p, h1, h2⟩ := varsV_of h
    refine ⟨p, ?_, ?_⟩
    · rw [show (j + 2) / 2 = j / 2 + 1 by omega]
      simpa using h1
    · rw [show (j + 2) % 2 = j % 2 by omega]
      exact h2
theorem infoVar : (Tryz.prog.info? 44).map (fun i => (i.zero, i.size, i.bytes)) = some (some (.agg #[.string ⟨#[]⟩, .string ⟨#[]⟩]), 2, 32) := by kernel_rfl
theorem underVarL : Tryz.prog.underlying 22 = some (.slice 44) := by kernel_rfl
/-- A list of variables of one's own. -/
abbrev Vl (w W : World) (sv : Value) (vs : Vars) : Prop := Mine w W 44 2 sv vs.length (varsV vs)
theorem vl_in {w W : World} {sv : Value} {vs : Vars} (h : Vl w W sv vs) (hl : vs.length ≤ 8796093022208) : VarsIn W sv vs := by
  obtain ⟨ad, cap, e, k1, k2, k3, k4⟩ := h.row.shape
  refine ⟨ad, cap, e, hl, fun i p hp => ?_⟩
  cases ad with
  | none =>
    have := (k3 rfl).1
    have h2 := (List.getElem?_eq_some_iff.1 hp).1
    omega
  | some a =>
    obtain ⟨g, o, rfl, _, k6, k7⟩ := k4 a rfl
    obtain ⟨h1, h2⟩ := varsV_at hp
    exact ⟨g, o, rfl, k6, (k7 W rfl).1 _ _ h1, (k7 W rfl).1 _ _ h2⟩
theorem vl_src {W : World} {sv : Value} {vs : Vars} (h : VarsIn W sv vs) : Src Tryz.prog 2 22 sv vs.length (varsV vs) W := by
  obtain ⟨ad, cap, rfl, _, h2⟩ := h
  cases ad with
  | none =>
    cases vs with
    | nil => exact Src.ofNil W underVarL cap
    | cons p vs =>
      obtain ⟨g, o, e, _⟩ := h2 0 p rfl
      cases e
  | some a =>
    refine Src.ofSlice W underVarL a _ cap _ (varsV_len vs) (fun j u hu => ?_) (varsV_one vs)
    obtain ⟨p, h3, h4⟩ := varsV_of hu
    obtain ⟨g, o, e, _, k1, k2⟩ := h2 _ p h3
    cases e
    have e2 : (⟨g, o, none⟩ : Addr).add j = ⟨g, o + j, none⟩ := by unfold Addr.add; split <;> simp_all
    rw [e2, h4]
    split
    · rw [show o + j = o + j / 2 * 2 by omega]
      exact k1
    · rw [show o + j = o + j / 2 * 2 + 1 by omega]
      exact k2
set_option maxHeartbeats 1000000 in
theorem twin_any {w : World} {sv : Value} {vs : Vars} (hv : VarsIn w sv vs) (hl : vs.length ≤ 1073741824) : Calls Tryz.prog 4 #[sv] w fun e w' => ∃ v', e = .returned v' ∧ Vl w w' v' vs := by
  have HS := hidK (vl_src hv)
  have HM := hidK (Mine.nil (T := 44) (k := 2) (Below.refl w.heap.size w))
  obtain ⟨ad, cap, rfl, -, -⟩ := hv
  go_enter Tryz.func4, Tryz.ntmps4
  go_wp2_with (refine wpList_append_row w rfl _ _ 22 22 rfl underVarL infoVar rfl (v := .slice none 0 0) (by simp [Act.eval]) (u := .slice ad vs.length cap) (by simp [Act.eval]) HM.out.row HS.out ?x1 ?x2 ?x3)
  case x1 => omega
  case x2 => unfold maxLen; omega
  case x3 =>
    intro v7 w7 hr7 hg7
    have HT7 : Hid (Vl w w7 v7 vs) := (HM.out.grown (Below.refl _ _) hr7.out hg7.out).cast (by omega) (List.nil_append _)
    clear hr7 hg7
    go_wp2_with fail
    all_goals go_ret
    all_goals exact ⟨_, rfl, HT7.out⟩

end Go.Proofs.YtlfcjcaofhcfnaaGreatDoor
