/-
  The tail: Load, New.
-/
import Derived.Test.YteeakldeimhjjabTApp
import Derived.WalkKit
namespace Go.Proofs.Yteeakldeimhjjab
open Go.RowKit Go.Lib
set_option linter.unusedVariables false
set_option maxRecDepth 100000

/-- What Load says: 0, 1 or 2. -/
def loadE (lim st : Int) (n : Nat) : Int := if lim < 1 ∨ lim > 65536 ∨ st < 0 ∨ (n : Int) > lim then 1 else if st + n > 4611686018427387904 then 2 else 0
/-- A new Log, or none. -/
def Made (w w' : World) (lim st : Int) (l : List UInt8) (x : Ending) : Prop :=
  Below w.heap.size w w' ∧
  (loadE lim st l.length ≠ 0 ∧ x = .returned (.tuple #[.pointer none, .int .i64 (loadE lim st l.length)]) ∨
   loadE lim st l.length = 0 ∧ ∃ b v, x = .returned (.tuple #[.pointer (some ⟨b, 0, none⟩), .int .i64 0]) ∧ LogAt w' b v lim.toNat (st.toNat + l.length) l ∧ ∀ k ∈ foot b v, w.heap.size ≤ k)

theorem foot_new {w : World} {B b : Nat} {v v' : Value} (hf : ∀ k ∈ foot b v, B ≤ k) (ho : v'.ownBlock = v.ownBlock ∨ ∀ k, v'.ownBlock = some k → w.heap.size ≤ k) (hB : B ≤ w.heap.size) : ∀ k ∈ foot b v', B ≤ k := by
  intro k hk
  rcases List.mem_cons.1 hk with rfl | hk
  · exact hf _ (by simp [foot])
  · have hk2 : v'.ownBlock = some k := by simpa using hk
    rcases ho with ho | ho
    · exact hf k (by simp [foot, ← ho, hk2])
    · exact Nat.le_trans hB (ho k hk2)

set_option maxHeartbeats 2000000 in
theorem load_any (lim st : Int) (s : ByteArray) (w : World) (hs : s.size ≤ 9223372036854775807) (h1 : -9223372036854775808 ≤ lim) (h2 : lim ≤ 9223372036854775807) (h3 : -9223372036854775808 ≤ st) (h4 : st ≤ 9223372036854775807) :
    Calls Try.prog 7 #[.int .i64 lim, .int .i64 st, .string s] w fun x w' => Made w w' lim st s.data.toList x := by
  have hsz : s.data.toList.length = s.size := (Lib.size_eq s).symm
  by_cases c1 : lim < 1 ∨ lim > 65536 ∨ st < 0 ∨ (s.size : Int) > lim
  · have e1 : loadE lim st s.data.toList.length = 1 := by unfold loadE; rw [hsz, if_pos c1]
    have HE : Hid (loadE lim st s.data.toList.length = 1) := e1
    clear e1 hsz
    by_cases c2 : lim < 1
    · clear c1
      go_enter Try.func7, Try.ntmps7
      go_wp2
      all_goals go_ret2
      all_goals exact ⟨Below.refl _ _, .inl ⟨by rw [HE.out]; decide, by rw [HE.out]; rfl⟩⟩
    by_cases c3 : lim > 65536
    · clear c1
      go_enter Try.func7, Try.ntmps7
      go_wp2
      all_goals go_ret2
      all_goals exact ⟨Below.refl _ _, .inl ⟨by rw [HE.out]; decide, by rw [HE.out]; rfl⟩⟩
    by_cases c4 : st < 0
    · clear c1
      go_enter Try.func7, Try.ntmps7
      go_wp2
      all_goals go_ret2
      all_goals exact ⟨Below.refl _ _, .inl ⟨by rw [HE.out]; decide, by rw [HE.out]; rfl⟩⟩
    · have c5 : (s.size : Int) > lim := by omega
      clear c1
      go_enter Try.func7, Try.ntmps7
      go_wp2
      all_goals go_ret2
      all_goals exact ⟨Below.refl _ _, .inl ⟨by rw [HE.out]; decide, by rw [HE.out]; rfl⟩⟩
  · obtain ⟨m, rfl⟩ : ∃ m : Nat, lim = (m : Int) := ⟨lim.toNat, by omega⟩
    obtain ⟨t, rfl⟩ : ∃ t : Nat, st = (t : Int) := ⟨st.toNat, by omega⟩
    have c2 : ¬ (m : Int) < 1 := by omega
    have c3 : ¬ (m : Int) > 65536 := by omega
    have c4 : ¬ (t : Int) < 0 := by omega
    have c5 : ¬ (s.size : Int) > (m : Int) := by omega
    have HN : Hid (LogAt (w.alloc (.cells #[.int .i64 m, .int .i64 t, .slice none 0 0] 57)) w.heap.size (.slice none 0 0) m t []) :=
      ⟨heap_alloc_new w _, .inl ⟨rfl, rfl⟩, by omega, by omega, by simp, by omega⟩
    have hb : Below w.heap.size w (w.alloc (.cells #[.int .i64 m, .int .i64 t, .slice none 0 0] 57)) := (Below.refl _ w).alloc (Nat.le_refl _) _
    have HA := append_any (s := s) HN.out hs
    have HA2 : Hid (Calls Try.prog 17 #[.pointer (some ⟨w.heap.size, 0, none⟩), .string s] (w.alloc (.cells #[.int .i64 m, .int .i64 t, .slice none 0 0] 57)) fun x w' => ∃ r : Int, x = .returned (.int .i64 r) ∧ Hid (r = loadE m t s.data.toList.length) ∧ (r = 2 ∨ r = 0) ∧ Below w.heap.size w w' ∧ Hid (r = 0 → ∃ v, LogAt w' w.heap.size v m (t + s.data.toList.length) s.data.toList ∧ ∀ k ∈ foot w.heap.size v, w.heap.size ≤ k)) := by
      refine HA.mono ?_
      intro x w' hx
      have hE : loadE m t s.data.toList.length = if t + s.size > 4611686018427387904 then 2 else 0 := by
        unfold loadE
        rw [hsz, if_neg c1]
        by_cases hh : t + s.size > 4611686018427387904
        · rw [if_pos hh, if_pos (by omega)]
        · rw [if_neg hh, if_neg (by omega)]
      by_cases hh : t + s.size > 4611686018427387904
      · rw [if_pos hh] at hx hE
        obtain ⟨rfl, rfl⟩ := hx
        exact ⟨2, rfl, hE.symm, .inl rfl, hb, fun h => by cases h⟩
      · rw [if_neg hh] at hx hE
        obtain ⟨rfl, v', hl, hbut, ho⟩ := hx
        refine ⟨0, rfl, hE.symm, .inr rfl, hbut.under hb (by simp) (by simp [foot, Value.ownBlock]), fun _ => ⟨v', ?_, ?_⟩⟩
        · rw [hsz]
          have e1 : lastN m ([] ++ s.data.toList) = s.data.toList := by rw [List.nil_append]; exact lastN_all (by rw [hsz]; omega)
          rw [e1] at hl
          exact hl
        · exact foot_new (B := w.heap.size) (v := .slice none 0 0) (by simp [foot, Value.ownBlock]) ho (by simp)
    clear HA HN c1 hsz hb
    go_enter Try.func7, Try.ntmps7
    go_wp2_with fail
    refine HA2.out.mono ?_
    rintro x w1 ⟨r, rfl, HR, hr, hbel, hnew⟩
    rcases hr with rfl | rfl
    · go_wp2
      all_goals go_ret2
      all_goals exact ⟨hbel, .inl ⟨by rw [← HR.out]; decide, by rw [← HR.out]; rfl⟩⟩
    · obtain ⟨v, hl, hf⟩ := hnew.out rfl
      have HX : Hid (LogAt w1 w.heap.size v m (t + s.data.toList.length) s.data.toList) := hl
      have HF : Hid (∀ k ∈ foot w.heap.size v, w.heap.size ≤ k) := hf
      clear hnew hl hf
      go_wp2
      all_goals go_ret2
      all_goals exact ⟨hbel, .inr ⟨HR.out.symm, _, v, rfl, HX.out, HF.out⟩⟩

theorem new_any (lim : Int) (w : World) (h1 : -9223372036854775808 ≤ lim) (h2 : lim ≤ 9223372036854775807) :
    Calls Try.prog 14 #[.int .i64 lim] w fun x w' => Made w w' lim 0 [] x := by
  have HL : Hid (Calls Try.prog 7 #[.int .i64 lim, .int .i64 0, .string ⟨#[]⟩] w fun x w' => Made w w' lim 0 [] x) := load_any lim 0 ⟨#[]⟩ w (by decide) h1 h2 (by decide) (by decide)
  go_enter Try.func14, Try.ntmps14
  go_wp2_with fail
  refine HL.out.mono ?_
  rintro x w1 ⟨hbel, ⟨hE, rfl⟩ | ⟨hE, b, v, rfl, hl, hf⟩⟩
  · have HE : Hid (loadE lim 0 ([] : List UInt8).length ≠ 0) := hE
    obtain ⟨r, hr⟩ : ∃ r, loadE lim 0 ([] : List UInt8).length = r := ⟨_, rfl⟩
    rw [hr]
    have HR : Hid (loadE lim 0 ([] : List UInt8).length = r) := hr
    clear hE hr
    go_wp2
    all_goals go_ret2
    all_goals exact ⟨hbel, .inl ⟨HE.out, by rw [HR.out]; rfl⟩⟩
  · have HE : Hid (loadE lim 0 ([] : List UInt8).length = 0) := hE
    have HX : Hid (LogAt w1 b v lim.toNat ((0 : Int).toNat + ([] : List UInt8).length) []) := hl
    have HF : Hid (∀ k ∈ foot b v, w.heap.size ≤ k) := hf
    clear hE hl hf
    go_wp2
    all_goals go_ret2
    all_goals exact ⟨hbel, .inr ⟨HE.out, b, v, rfl, HX.out, HF.out⟩⟩

end Go.Proofs.Yteeakldeimhjjab
