/-
  The queue: Size, Limit, Closed, New, isOutput.
-/
import Derived.Test.YtkpnolkbheoocaaQMem
import Derived.WalkKit
namespace Go.Proofs.Ytkpnolkbheoocaa
open Go.RowKit
set_option linter.unusedVariables false
set_option maxRecDepth 100000

theorem size_raw {w : World} {b : Nat} {vb vp : Value} {lim : Nat} {cl : Bool} {bs : List UInt8} {ps : List Pc} (h : QRaw w b vb vp lim cl bs ps) (n : Nat) (hn : bs.length = n) (hn1 : n ≤ 1000000) :
    Calls Try.prog 7 #[.pointer (some ⟨b, 0, none⟩)] w fun x w' => x = .returned (.int .i64 (n : Int)) ∧ w = w' := by
  have h2 := h.c2
  obtain ⟨ad, cap, rfl, _⟩ := h.bytes.shape
  rw [hn] at h2
  clear h hn
  go_enter Try.func7, Try.ntmps7
  go_wp2
  go_ret
  exact ⟨rfl, rfl⟩
theorem limit_raw {w : World} {b : Nat} {vb vp : Value} {lim : Nat} {cl : Bool} {bs : List UInt8} {ps : List Pc} (h : QRaw w b vb vp lim cl bs ps) :
    Calls Try.prog 31 #[.pointer (some ⟨b, 0, none⟩)] w fun x w' => x = .returned (.int .i64 (lim : Int)) ∧ w = w' := by
  have h2 := h.c0
  clear h
  go_enter Try.func31, Try.ntmps31
  go_wp2
  go_ret
  exact ⟨rfl, rfl⟩
theorem closed_raw {w : World} {b : Nat} {vb vp : Value} {lim : Nat} {cl : Bool} {bs : List UInt8} {ps : List Pc} (h : QRaw w b vb vp lim cl bs ps) :
    Calls Try.prog 10 #[.pointer (some ⟨b, 0, none⟩)] w fun x w' => x = .returned (.bool cl) ∧ w = w' := by
  have h2 := h.c1
  clear h
  go_enter Try.func10, Try.ntmps10
  go_wp2
  go_ret
  exact ⟨rfl, rfl⟩
theorem size_any {w : World} {F : List Nat} {b : Nat} {q : Qs} (h : QAt w F b q) : Calls Try.prog 7 #[.pointer (some ⟨b, 0, none⟩)] w fun x w' => x = .returned (.int .i64 (q.bs.length : Int)) ∧ w = w' := by
  obtain ⟨vb, vp, ps, h1, _, _, h2, _⟩ := h
  exact size_raw h1 _ rfl (by have := h2.few; omega)
theorem limit_any {w : World} {F : List Nat} {b : Nat} {q : Qs} (h : QAt w F b q) : Calls Try.prog 31 #[.pointer (some ⟨b, 0, none⟩)] w fun x w' => x = .returned (.int .i64 (q.lim : Int)) ∧ w = w' := by
  obtain ⟨vb, vp, ps, h1, _⟩ := h
  exact limit_raw h1
theorem closed_any {w : World} {F : List Nat} {b : Nat} {q : Qs} (h : QAt w F b q) : Calls Try.prog 10 #[.pointer (some ⟨b, 0, none⟩)] w fun x w' => x = .returned (.bool q.cl) ∧ w = w' := by
  obtain ⟨vb, vp, ps, h1, _⟩ := h
  exact closed_raw h1

/-- A queue at first. -/
def newQ (lim : Nat) : Qs := ⟨lim, false, [], []⟩
theorem newQ_ok {lim : Nat} (h : lim ≤ 65536) : (newQ lim).Ok := ⟨h, rfl, by simp [newQ], (fun o ho => by cases ho)⟩
/-- What New leaves. -/
def Made (w w' : World) (lim : Int) (x : Ending) : Prop :=
  Below w.heap.size w w' ∧ ((lim < 0 ∨ lim > 65536) ∧ x = .returned (.tuple #[.pointer none, .int .i64 1]) ∨ ∃ n : Nat, lim = (n : Int) ∧ n ≤ 65536 ∧ ∃ b F, x = .returned (.tuple #[.pointer (some ⟨b, 0, none⟩), .int .i64 0]) ∧ QAt w' F b (newQ n) ∧ ∀ k ∈ F, w.heap.size ≤ k)
theorem new_any (lim : Int) (w : World) : Calls Try.prog 17 #[.int .i64 lim] w fun x w' => Made w w' lim x := by
  by_cases h1 : lim < 0
  · go_enter Try.func17, Try.ntmps17
    go_wp2
    all_goals go_ret2
    all_goals exact ⟨Below.refl _ _, .inl ⟨.inl h1, rfl⟩⟩
  · by_cases h2 : lim > 65536
    · go_enter Try.func17, Try.ntmps17
      go_wp2
      all_goals go_ret2
      all_goals exact ⟨Below.refl _ _, .inl ⟨.inr h2, rfl⟩⟩
    · obtain ⟨n, hn⟩ : ∃ n : Nat, lim = (n : Int) := ⟨lim.toNat, by omega⟩
      have HN : Hid (lim = (n : Int)) := hn
      clear hn
      have HE : Hid (n ≤ 65536) := by show _ ≤ _; have := HN.out; omega
      have HQ : Hid (∀ o, o = Obj.cells #[.int .i64 lim, .bool false, .slice none 0 0, .slice none 0 0] 53 → QAt (w.alloc o) [w.heap.size] w.heap.size (newQ n)) := by
        rintro o rfl
        have h3 := heap_alloc_new w (.cells #[.int .i64 lim, .bool false, .slice none 0 0, .slice none 0 0] 53)
        refine ⟨.slice none 0 0, .slice none 0 0, [], ⟨?_, Row.nil _ _ _, Row.nil _ _ _⟩, (fun p hp => by cases hp), rfl, newQ_ok HE.out, rfl⟩
        rw [HN.out] at h3 ⊢
        exact h3
      go_enter Try.func17, Try.ntmps17
      go_wp2
      all_goals go_ret2
      all_goals exact ⟨(Below.refl _ w).alloc (Nat.le_refl _) _, .inr ⟨n, HN.out, HE.out, _, [w.heap.size], rfl, HQ.out _ rfl, fun k hk => by simp at hk; omega⟩⟩

theorem isOutput_any (p t : Int) (w : World) : Calls Try.prog 27 #[.agg #[.int .i64 p, .int .i64 t]] w fun x w' => x = .returned (.bool (!(decide (p = 0) && decide (t = 0)))) ∧ Below w.heap.size w w' := by
  by_cases hp : p = 0 <;> by_cases ht : t = 0
  all_goals
    go_enter Try.func27, Try.ntmps27
    go_wp2
    all_goals go_ret
    all_goals exact ⟨by simp [hp, ht], by repeat (first | exact Below.refl _ _ | apply Below.drew | refine Below.alloc ?_ (by first | omega | simp) _)⟩

end Go.Proofs.Ytkpnolkbheoocaa
