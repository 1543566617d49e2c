/-
  Binds: what a press tells (pure).
-/
import Derived.Test.YtbonnjilbocldaaDoorHN
namespace Go.Proofs.YtbonnjilbocldaaDoor
open Go.RowKit
set_option linter.unusedVariables false
set_option maxRecDepth 100000

/-- The line that Find tells. -/
def fndL (D : DataW Unit) (t : ByteArray) (c m : Int) : ByteArray := if Maps.has D (slotK t.data.toList c m) then (getS D (slotK t.data.toList c m)).1 else ⟨#[]⟩
/-- What a press tells: where it stands then, a line, is it the pane's. -/
structure Prs (D : DataW Unit) (t : ByteArray) (u p q c m tick rep : Int) (xt : ByteArray) (xu : Int) (ln : ByteArray) (pn : Bool) : Prop where
  eq : pressV D t u p q c m tick rep = #[.agg #[.string xt, .int .i64 xu], .string ln, .bool pn]
  small : xt.size ≤ 6
  pane : pn = true → (t = ⟨#[]⟩ ∨ 0 < u) ∧ ¬ (c = p ∧ m = q) ∧ Maps.has D (slotK rootS.data.toList c m) = false ∧ ln = ⟨#[]⟩ ∧ xt = ⟨#[]⟩ ∧ xu = 0
  line : ln = ⟨#[]⟩ ∨ ln = fndL D rootS c m ∨ ln = fndL D t c m ∨ ln = sendS ∧ c = p ∧ m = q
theorem open_of (tick rep : Int) : ∃ a u, openV tick rep = .agg #[.string a, .int .i64 u] ∧ a.size ≤ 6 := by
  unfold openV restV walkV
  split
  · exact ⟨_, _, rfl, by decide⟩
  · split
    · exact ⟨_, _, rfl, by decide⟩
    · exact ⟨_, _, rfl, by decide⟩
theorem press_is (D : DataW Unit) (t : ByteArray) (u p q c m tick rep : Int) : ∃ xt xu ln pn, Prs D t u p q c m tick rep xt xu ln pn := by
  by_cases h0 : fellB D t u c m tick = true ∨ t = ⟨#[]⟩
  · have hp : t = ⟨#[]⟩ ∨ 0 < u := by
      rcases h0 with h | h
      · unfold fellB at h
        simp only [Bool.and_eq_true, decide_eq_true_eq] at h
        exact .inr h.1.2
      · exact .inl h
    have hE : pressV D t u p q c m tick rep = resV D p q c m := by unfold pressV; rw [if_pos h0]
    by_cases h1 : c = p ∧ m = q
    · exact ⟨prefixS, 0, ⟨#[]⟩, false, by rw [hE]; unfold resV; rw [if_pos h1]; rfl, by decide, (fun h => by cases h), .inl rfl⟩
    · by_cases h2 : Maps.has D (slotK rootS.data.toList c m) = true
      · exact ⟨⟨#[]⟩, 0, (getS D (slotK rootS.data.toList c m)).1, false, by rw [hE]; unfold resV; rw [if_neg h1, if_pos h2]; rfl, by decide, (fun h => by cases h), .inr (.inl (by unfold fndL; rw [if_pos h2]))⟩
      · exact ⟨⟨#[]⟩, 0, ⟨#[]⟩, true, by rw [hE]; unfold resV; rw [if_neg h1, if_neg h2]; rfl, by decide, fun _ => ⟨hp, h1, by simpa using h2, rfl, rfl, rfl⟩, .inl rfl⟩
  · have hE : pressV D t u p q c m tick rep = (insV D t p q c m tick rep).push (.bool false) := by unfold pressV; rw [if_neg h0]
    by_cases h1 : Maps.has D (slotK t.data.toList c m) = true
    · by_cases h2 : (getS D (slotK t.data.toList c m)).2 = true ∧ t = prefixS
      · obtain ⟨a, v, e, ha⟩ := open_of tick rep
        exact ⟨a, v, (getS D (slotK t.data.toList c m)).1, false, by rw [hE]; unfold insV inV; rw [if_pos h1, if_pos h2, e]; rfl, ha, (fun h => by cases h), .inr (.inr (.inl (by unfold fndL; rw [if_pos h1])))⟩
      · exact ⟨⟨#[]⟩, 0, (getS D (slotK t.data.toList c m)).1, false, by rw [hE]; unfold insV inV; rw [if_pos h1, if_neg h2]; rfl, by decide, (fun h => by cases h), .inr (.inr (.inl (by unfold fndL; rw [if_pos h1])))⟩
    · by_cases h2 : t = prefixS ∧ c = p ∧ m = q
      · exact ⟨⟨#[]⟩, 0, sendS, false, by rw [hE]; unfold insV inV; rw [if_neg h1, if_pos h2]; rfl, by decide, (fun h => by cases h), .inr (.inr (.inr ⟨rfl, h2.2⟩))⟩
      · exact ⟨⟨#[]⟩, 0, ⟨#[]⟩, false, by rw [hE]; unfold insV inV; rw [if_neg h1, if_neg h2]; rfl, by decide, (fun h => by cases h), .inl rfl⟩
/-- Find, by what stands there. -/
theorem find_is {w : World} {d b n : Nat} {D : DataW Unit} (h : Tb w d b n D) (t : ByteArray) (c m : Int) (ht : t.size ≤ 140737488355328) (hc : (Lit.int .i64 c).wf = true) (hm : (Lit.int .i64 m).wf = true) :
    Calls Tryd.prog 10 #[.pointer (some ⟨d, 0, none⟩), .string t, .agg #[.int .i64 c, .int .i64 m]] w fun e w' => (∃ ft fc fm fr, e = .returned (.tuple #[.agg #[.string ft, .int .i64 fc, .int .i64 fm, .bool fr, .string (fndL D t c m)], .bool (Maps.has D (slotK t.data.toList c m))]) ∧ (Maps.has D (slotK t.data.toList c m) = true → ft = t ∧ fc = c ∧ fm = m ∧ D.atKey (slotK t.data.toList c m) zeroD = meanD (fndL D t c m) fr)) ∧ Below w.heap.size w w' := by
  refine (find_any h t c m ht hc hm).mono fun e w' hp => ⟨?_, hp.2⟩
  obtain ⟨s, r, hat, rfl⟩ := hp.1
  unfold foundV fndL bindV
  rw [getS_of hat]
  cases hh : Maps.has D (slotK t.data.toList c m)
  · exact ⟨_, _, _, _, rfl, fun q => by cases q⟩
  · exact ⟨_, _, _, _, rfl, fun _ => ⟨rfl, rfl, rfl, hat⟩⟩
end Go.Proofs.YtbonnjilbocldaaDoor
