/-
  The tail: Start, End, Limit, piece, whole, All.
-/
import Derived.Test.YteeakldeimhjjabTBase
import Derived.WalkKit
import Derived.BigQuiet
import Derived.Deep.QuietTactic
namespace Go.Proofs.Yteeakldeimhjjab
open Go.RowKit
set_option linter.unusedVariables false
set_option maxRecDepth 20000

theorem ende_any {b : Nat} {v : Value} {lim e : Nat} {l : List UInt8} {w : World} (h : LogAt w b v lim e l) :
    Calls Try.prog 12 #[.pointer (some ⟨b, 0, none⟩)] w fun x w' => x = .returned (.int .i64 e) ∧ w' = w := by
  have h1 := h.ende
  clear h
  go_enter Try.func12, Try.ntmps12
  go_wp2
  go_ret
  exact ⟨rfl, rfl⟩
theorem limit_any {b : Nat} {v : Value} {lim e : Nat} {l : List UInt8} {w : World} (h : LogAt w b v lim e l) :
    Calls Try.prog 8 #[.pointer (some ⟨b, 0, none⟩)] w fun x w' => x = .returned (.int .i64 lim) ∧ w' = w := by
  have h1 := h.limit
  clear h
  go_enter Try.func8, Try.ntmps8
  go_wp2
  go_ret
  exact ⟨rfl, rfl⟩
/-- The shape of what is kept. -/
theorem Bytes.shape {w : World} {v : Value} {l : List UInt8} (h : Bytes w v l) : ∃ a c, v = .slice a l.length c := by
  rcases h with ⟨rfl, rfl⟩ | ⟨g, o, cap, cur, rfl, _⟩
  · exact ⟨none, 0, rfl⟩
  · exact ⟨_, _, rfl⟩
theorem start_any {b : Nat} {v : Value} {lim e s : Nat} {l : List UInt8} {w : World} (h : LogAt w b v lim e l) (hs : s + l.length = e) :
    Calls Try.prog 9 #[.pointer (some ⟨b, 0, none⟩)] w fun x w' => x = .returned (.int .i64 s) ∧ ∃ m, w' = w.drewN m := by
  have h1 := h.ende
  have h2 := h.kept
  have h3 := h.most
  obtain ⟨a, c, hv⟩ := h.bytes.shape
  subst hv
  obtain ⟨n, hn⟩ : ∃ n, l.length = n := ⟨_, rfl⟩
  rw [hn] at h2 hs
  clear h hn
  obtain ⟨e2, he⟩ : ∃ e2 : Int, e2 = (e : Int) := ⟨_, rfl⟩
  rw [← he] at h1
  have H : Hid (e2 = (e : Int)) := he
  have H2 : Hid (s + n = e) := hs
  have b1 : (0 : Int) ≤ e2 - n := by omega
  have b2 : e2 ≤ 9223372036854775807 := by omega
  clear he hs
  go_enter Try.func9, Try.ntmps9
  go_wp2
  go_quiet (fail)
  go_wp2
  go_ret
  have e1 : e2 - (n : Int) = (s : Int) := by have := H.out; have := H2.out; omega
  rw [e1]
  exact ⟨rfl, _, rfl⟩

end Go.Proofs.Yteeakldeimhjjab
